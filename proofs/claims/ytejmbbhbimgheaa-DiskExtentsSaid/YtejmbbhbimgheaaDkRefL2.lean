/- The document's Room and Sectors. The document's with. The document's with, of no extents. -/
import Derived.Test.YtejmbbhbimgheaaDkRefF
import Derived.Deep.RegionLaw
namespace Go.Proofs.Ytejmbbhbimgheaa.Dk
open Go.RowKit Go.Op Rw

set_option maxHeartbeats 8000000 in
set_option maxRecDepth 100000 in
theorem rRoom_any (D : Dsk) (v : DVal) (w : World) (h : VarAt w D v) (hc : v.nE ≤ v.cE) :
    Calls Try.prog 13 #[.agg #[.int .i64 D.size, .slice v.pE v.nE v.cE, .slice v.pW v.nW v.cW, .int .i64 D.fuse, .bool D.down]] w fun e w' => e = .returned (.tuple #[.int .i64 (rmA D), .int .i64 (rdy D)]) ∧ Below w.heap.size w w' := by
  obtain ⟨W2, hW2⟩ : ∃ W2, W2 = (w.alloc (.cells #[.int .i64 D.size, .slice v.pE v.nE v.cE, .slice v.pW v.nW v.cW, .int .i64 D.fuse, .bool D.down] 25)) := ⟨_, rfl⟩
  have hb : Below w.heap.size w W2 := by rw [hW2]; exact (Below.refl _ _).alloc (Nat.le_refl _) _
  have xb : Boxed W2 w.heap.size [.int .i64 D.size, .slice v.pE v.nE v.cE, .slice v.pW v.nW v.cW, .int .i64 D.fuse, .bool D.down] := by rw [hW2]; exact Boxed.new w #[.int .i64 D.size, .slice v.pE v.nE v.cE, .slice v.pW v.nW v.cW, .int .i64 D.fuse, .bool D.down] 25
  have HV := Lib.hid (h.below hb); have HB := Lib.hid hb; have XB := Lib.hid xb; have HW2 := Lib.hid hW2
  obtain ⟨r, hr⟩ : ∃ r, r = rdy D := ⟨_, rfl⟩
  have HPw : Hid (∀ W, Below W2.heap.size W2 W → Calls Try.prog 31 #[.agg #[.int .i64 D.size, .slice v.pE v.nE v.cE, .slice v.pW v.nW v.cW, .int .i64 D.fuse, .bool D.down]] W fun e w' => e = .returned (.int .i64 r) ∧ Below W.heap.size W w') := Lib.hid (fun W hb => by rw [hr]; exact rpower_any D v W (HV.out.below hb) hc)
  obtain ⟨q0, q1, q2, q3, q4⟩ := xb.five
  have HR := Lib.hid hr
  clear h hc hb xb hW2 hr
  by_cases h0 : r = 0
  case neg =>
    have t0 : (r != 0) = true := by rw [bne_iff_ne]; exact h0
    have F : Hid ((0 : Int) = rmA D ∧ r = rdy D) := Lib.hid ⟨by
      show 0 = if rdy D = 0 then D.size - sumN D.E else 0
      rw [← HR.out, if_neg h0], HR.out⟩
    clear h0
    go_enter Try.func13, Try.ntmps13
    go_wp2_with fail
    rw [← HW2.out]
    refine (HPw.out _ (Below.refl _ _)).mono ?_
    rintro e w1 ⟨rfl, b1⟩
    have B := Lib.hid (HB.out.trans (b1.mono HB.out.size))
    clear b1
    go_wp2_with fail
    go_ret2
    exact ⟨ret_ii F.out.1 F.out.2, B.out⟩
  subst h0
  have hy : rdy D = 0 := HR.out.symm
  have hg := chk_good (ready_good hy).1
  have hs := exR_sum hg.1 hg.2.2.2.1
  have hz0 := hg.1
  have hz1 := hg.2.1
  have F : Hid (D.size - ((sumN D.E : Nat) : Int) = rmA D ∧ (0 : Int) = rdy D) := Lib.hid ⟨by
    show _ = if rdy D = 0 then D.size - sumN D.E else 0
    rw [hy, if_pos rfl], hy.symm⟩
  obtain ⟨sm, hsm⟩ : ∃ sm, sm = sumN D.E := ⟨_, rfl⟩
  have HUs : Hid (∀ W, Below W2.heap.size W2 W → Calls Try.prog 35 #[.slice v.pE v.nE v.cE] W fun e w' => e = .returned (.int .i64 (sm : Int)) ∧ Below W.heap.size W w') := Lib.hid (fun W hb => by
    rw [hsm]
    exact rUsed_any D.E v.pE v.nE v.cE W HV.out.hE (HV.out.below hb).E HV.out.l1 (by omega))
  rw [← hsm] at F hs
  have w1 : IntKind.i64.wrap (D.size - (sm : Int)) = D.size - (sm : Int) := IntWalk.i64_in _ (by omega)
  clear hsm hy hg hs hz0 hz1
  go_enter Try.func13, Try.ntmps13
  go_wp2_with fail
  rw [← HW2.out]
  refine (HPw.out _ (Below.refl _ _)).mono ?_
  rintro e w1 ⟨rfl, b1⟩
  have HB1 := Lib.hid b1
  clear b1 q0 q1 q2 q3 q4
  go_wp2_with fail
  obtain ⟨BBp, hBBp⟩ : ∃ BBp : World → Prop, BBp = fun W => Below W2.heap.size W2 W := ⟨_, rfl⟩
  have hK : ∀ W, BBp W → BBp W ∧ W.cell? ⟨w.heap.size, 0, none⟩ = some (.int .i64 D.size) ∧ W.cell? ⟨w.heap.size, 1, none⟩ = some (.slice v.pE v.nE v.cE) := fun W hh => by
    refine ⟨hh, ?_⟩
    rw [hBBp] at hh
    have h1 := (XB.out.below hh).five
    exact ⟨h1.1, h1.2.1⟩
  have hL : ∀ W W' : World, BBp W → Below W.heap.size W W' → BBp W' := by
    intro W W' hh hb
    rw [hBBp] at hh ⊢
    exact hh.trans (hb.mono hh.size)
  have hD : ∀ W, BBp W → BBp W.drew := fun W hh => hL W _ hh (Below.drew (Below.refl _ W))
  have hEx : ∀ W, BBp W → Below W2.heap.size W2 W := fun W hh => by rw [hBBp] at hh; exact hh
  have h0 : BBp w1 := by rw [hBBp]; exact HB1.out
  have HK := Lib.hid hK; have HL := Lib.hid hL; have HDd := Lib.hid hD; have HEx := Lib.hid hEx; have H0 := Lib.hid h0
  clear hBBp hK hL hD hEx h0
  go_region_held3 (fun W => BBp W ∧ W.cell? ⟨w.heap.size, 0, none⟩ = some (.int .i64 D.size) ∧ W.cell? ⟨w.heap.size, 1, none⟩ = some (.slice v.pE v.nE v.cE)) ((refine HK.out _ ?_; repeat (first | exact H0.out | assumption | apply HDd.out))) ((go_at_call 35; ((with_reducible refine (HUs.out _ (HEx.out _ (by repeat (first | exact H0.out | assumption | apply HDd.out)))).mono ?_)); rintro e w' ⟨rfl, hb⟩; have hw := HL.out _ _ (by repeat (first | exact H0.out | assumption | apply HDd.out)) hb; clear hb))
  have HBW := Lib.hid (HEx.out _ hw)
  clear hw
  go_wp2_with fail
  go_ret2
  exact ⟨ret_ii F.out.1 F.out.2, HB.out.trans (HBW.out.mono HB.out.size)⟩

set_option maxHeartbeats 8000000 in
set_option maxRecDepth 100000 in
theorem rSectors_any (D : Dsk) (v : DVal) (nm : ByteArray) (w : World) (h : VarAt w D v) (hc : v.nE ≤ v.cE) :
    Calls Try.prog 15 #[.agg #[.int .i64 D.size, .slice v.pE v.nE v.cE, .slice v.pW v.nW v.cW, .int .i64 D.fuse, .bool D.down], .string nm] w fun e w' => e = .returned (.tuple #[.int .i64 (scA D nm), .int .i64 (scE D nm)]) ∧ Below w.heap.size w w' := by
  obtain ⟨W2, hW2⟩ : ∃ W2, W2 = (w.alloc (.cells #[.int .i64 D.size, .slice v.pE v.nE v.cE, .slice v.pW v.nW v.cW, .int .i64 D.fuse, .bool D.down] 25)) := ⟨_, rfl⟩
  have hb : Below w.heap.size w W2 := by rw [hW2]; exact (Below.refl _ _).alloc (Nat.le_refl _) _
  have xb : Boxed W2 w.heap.size [.int .i64 D.size, .slice v.pE v.nE v.cE, .slice v.pW v.nW v.cW, .int .i64 D.fuse, .bool D.down] := by rw [hW2]; exact Boxed.new w #[.int .i64 D.size, .slice v.pE v.nE v.cE, .slice v.pW v.nW v.cW, .int .i64 D.fuse, .bool D.down] 25
  have HV := Lib.hid (h.below hb); have HB := Lib.hid hb; have XB := Lib.hid xb; have HW2 := Lib.hid hW2
  obtain ⟨r, hr⟩ : ∃ r, r = rdy D := ⟨_, rfl⟩
  have HPw : Hid (∀ W, Below W2.heap.size W2 W → Calls Try.prog 31 #[.agg #[.int .i64 D.size, .slice v.pE v.nE v.cE, .slice v.pW v.nW v.cW, .int .i64 D.fuse, .bool D.down]] W fun e w' => e = .returned (.int .i64 r) ∧ Below W.heap.size W w') := Lib.hid (fun W hb => by rw [hr]; exact rpower_any D v W (HV.out.below hb) hc)
  obtain ⟨q0, q1, q2, q3, q4⟩ := xb.five
  have HR := Lib.hid hr
  clear h hc hb xb hW2 hr
  by_cases h0 : r = 0
  case neg =>
    have t0 : (r != 0) = true := by rw [bne_iff_ne]; exact h0
    have F : Hid ((0 : Int) = scA D nm ∧ r = scE D nm) := Lib.hid ⟨by
      show 0 = if rdy D = 0 then ((lookN D.E nm : Nat) : Int) else 0
      rw [← HR.out, if_neg h0], by
      show r = if rdy D = 0 then (if isAt D.E nm = true then 0 else 3) else rdy D
      rw [← HR.out, if_neg h0]⟩
    clear h0
    go_enter Try.func15, Try.ntmps15
    go_wp2_with fail
    rw [← HW2.out]
    refine (HPw.out _ (Below.refl _ _)).mono ?_
    rintro e w1 ⟨rfl, b1⟩
    have B := Lib.hid (HB.out.trans (b1.mono HB.out.size))
    clear b1
    go_wp2_with fail
    go_ret2
    exact ⟨ret_ii F.out.1 F.out.2, B.out⟩
  subst h0
  have hy : rdy D = 0 := HR.out.symm
  have hso := (lim_rdy hy).1
  have hfp := fnd_pos hso nm
  have hA : scA D nm = (lookN D.E nm : Nat) := by
    show (if rdy D = 0 then ((lookN D.E nm : Nat) : Int) else 0) = _
    rw [if_pos hy]
  have hB : scE D nm = if isAt D.E nm = true then 0 else 3 := by
    show (if rdy D = 0 then _ else rdy D) = _
    rw [if_pos hy]
  obtain ⟨p, hp⟩ : ∃ p, p = fnd D.E nm := ⟨_, rfl⟩
  have HFi : Hid (∀ W, Below W2.heap.size W2 W → Calls Try.prog 34 #[.slice v.pE v.nE v.cE, .string nm] W fun e w' => e = .returned (.int .i64 p) ∧ Below W.heap.size W w') := Lib.hid (fun W hb => by rw [hp]; exact rFind_any D.E v.pE v.nE v.cE nm W HV.out.hE (HV.out.below hb).E HV.out.l1)
  rw [← hp] at hfp
  clear hp hso hy
  by_cases hi : isAt D.E nm = true
  case neg =>
    have hpe : p = -1 := by rw [hfp, if_neg hi]
    have F : Hid ((0 : Int) = scA D nm ∧ (3 : Int) = scE D nm) := Lib.hid ⟨by rw [hA]; unfold lookN; rw [if_neg hi]; rfl, by rw [hB, if_neg hi]⟩
    subst hpe
    clear hi hfp hA hB
    go_enter Try.func15, Try.ntmps15
    go_wp2_with fail
    rw [← HW2.out]
    refine (HPw.out _ (Below.refl _ _)).mono ?_
    rintro e w1 ⟨rfl, b1⟩
    have B := Lib.hid (HB.out.trans (b1.mono HB.out.size))
    have B1 := Lib.hid b1
    obtain ⟨q0, q1, q2, q3, q4⟩ := (XB.out.below b1).five
    clear b1
    go_wp2_with fail
    refine (HFi.out _ B1.out).mono ?_
    rintro e w2 ⟨rfl, b2⟩
    have C := Lib.hid (B.out.trans (b2.mono B.out.size))
    clear b2
    go_wp2_with fail
    go_ret2
    exact ⟨ret_ii F.out.1 F.out.2, C.out⟩
  obtain ⟨q, hq⟩ : ∃ q, q = pos D.E nm := ⟨_, rfl⟩
  have hpe : p = (q : Int) := by rw [hfp, if_pos hi, hq]
  have hqE : q < D.E.length := by rw [hq]; exact isAt_lt hi
  have hlk : lookN D.E nm = many (D.E.getD q default).2 := by unfold lookN; rw [if_pos hi, hq]
  subst hpe
  have HAT : Hid (∀ W, Below W2.heap.size W2 W → ∃ g o, v.pE = some ⟨g, o, none⟩ ∧ W.cell? ⟨g, o + q * 2 + 1, none⟩ = some (.string (D.E.getD q default).2) ∧ (D.E.getD q default).2.size ≤ 140737488355328) := Lib.hid (fun W hb => by
    obtain ⟨g, o, e, _, _, f1, _, s4⟩ := (HV.out.below hb).E q hqE
    exact ⟨g, o, e, f1, s4⟩)
  obtain ⟨yy, hyy⟩ : ∃ yy, yy = (D.E.getD q default).2 := ⟨_, rfl⟩
  rw [← hyy] at HAT hlk
  obtain ⟨M, hM⟩ : ∃ M, M = many yy := ⟨_, rfl⟩
  rw [hlk, ← hM] at hA
  have F : Hid ((M : Int) = scA D nm ∧ (0 : Int) = scE D nm) := Lib.hid ⟨hA.symm, by rw [hB, if_pos hi]⟩
  have e1 : (yy.size : Int) / 64 = (M : Int) := by rw [hM]; unfold many; omega
  have e2 : (yy.size : Int).tdiv 64 = (M : Int) := by rw [Int.tdiv_eq_ediv_of_nonneg (by omega)]; exact e1
  have hm : M ≤ yy.size := by rw [hM]; exact Nat.div_le_self _ _
  have m3 : (0 : Int) ≤ (q : Int) := by omega
  have m4 : (q : Int) < (v.nE : Int) := by have := HV.out.hE; omega
  have g0 : decide ((q : Int) < 0) = false := decide_eq_false (by omega)
  have HM : Hid (∀ k : Nat, k ≤ 140737488355328 → IntKind.i64.wrap (k : Int) = (k : Int)) := Lib.hid (fun k hk => IntWalk.i64_in _ (by omega))
  clear hi hq hqE hlk hyy hM hA hB hfp
  go_enter Try.func15, Try.ntmps15
  go_wp2_with fail
  rw [← HW2.out]
  refine (HPw.out _ (Below.refl _ _)).mono ?_
  rintro e w1 ⟨rfl, b1⟩
  have B := Lib.hid (HB.out.trans (b1.mono HB.out.size))
  have B1 := Lib.hid b1
  have XB1 := Lib.hid (XB.out.below b1)
  obtain ⟨q0, q1, q2, q3, q4⟩ := XB1.out.five
  clear b1
  go_wp2_with fail
  refine (HFi.out _ B1.out).mono ?_
  rintro e w2 ⟨rfl, b2⟩
  have C := Lib.hid (B.out.trans (b2.mono B.out.size))
  obtain ⟨q0, q1, q2, q3, q4⟩ := (XB1.out.below b2).five
  obtain ⟨g, o, hpE, f1, s4⟩ := HAT.out w2 (B1.out.trans (b2.mono B1.out.size))
  have e3 := HM.out M (by omega)
  rw [hpE] at q1
  clear b2 hpE
  go_wp2_with fail
  go_ret2
  exact ⟨ret_ii F.out.1 F.out.2, C.out⟩
end Go.Proofs.Ytejmbbhbimgheaa.Dk
namespace Go.Proofs.Ytejmbbhbimgheaa.Dk
open Go.RowKit Go.Op Rw

theorem ExtAt.belowB {w w' : World} {p : Option Addr} {E : List Ext} {B : Nat} (h : ExtAt w p E) (hb : Below B w w') (hp : ∀ a, p = some a → a.block < B) : ExtAt w' p E := by
  have hbar : Bar w w' (fun k => B ≤ k) := ⟨hb.os, hb.tape, hb.output, hb.size, fun k _ hk => hb.block k (by omega)⟩
  exact h.bar hbar (fun a e hk => by have := hp a e; omega)
theorem rd_grown {w w' : World} {g : Nat} {o : Option Nat} {xs : List Value} (h : Rd w (some ⟨g, 0, none⟩) xs) (hg : w.grownBy w' o) (hne : ∀ k, o = some k → g ≠ k) : Rd w' (some ⟨g, 0, none⟩) xs := fun i hi => by
  obtain ⟨a, e, hl, hc⟩ := h i hi
  cases e
  refine ⟨_, rfl, Nat.lt_of_lt_of_le hl hg.size, ?_⟩
  rw [← hc]
  exact World.cell?_of_block (hg.block _ (by rw [add_block]; exact hl) (by rw [add_block]; exact fun e => hne _ e.symm rfl))
theorem eRow_take (E : List Ext) (k : Nat) : (eRow E).take (k * 2) = eRow (E.take k) := (eRow_split E k).1
theorem eRow_drop (E : List Ext) (k : Nat) : (eRow E).drop (k * 2) = eRow (E.drop k) := (eRow_split E k).2
/-- append whatever slice to a row that is new, at a step of a region that draws its order -/
theorem step_appendRd {P : Program} {W : World} {ops : Array Oper} {o : Oper} {a : Act} {K : Act → World → Prop} {Q : Exit → Act → World → Prop} {E : Prop} (hgd : o.guard = none) (s x : Operand) (t : TypeId)
    (ho : o.op = .call { callee := .builtin .append, args := #[s, x], argTypes := #[t, t] })
    (base : Nat) (e : TypeId) (i : TypeInfo) (z : Value) (size bytes : Nat) (ht : P.underlying t = some (.slice e)) (hi : P.info? e = some i) (hz : i.zero = some z)
    (hsize : i.size = size) (hby : i.bytes = bytes) (hzs : z.cells.size = size) (hsz : 0 < size)
    (g0 n cap0 : Nat) (xs : List Value) (hs : a.eval s = .slice (some ⟨g0, 0, none⟩) n cap0) (A : Option Addr) (m c : Nat) (news : List Value) (hx : a.eval x = .slice A m c) (hl : news.length = m * size) (h1 : ∀ u ∈ news, u.oneCell' = true)
    (h63 : n + m ≤ maxLen) (hbytes : (n + m) * bytes ≤ 140737488355328)
    (hown : W.ownsRow base e size (.slice (some ⟨g0, 0, none⟩) n cap0) n xs) (hr : Rd W A news) (hbase : base ≤ W.heap.size)
    (h : ∀ g cap w', w'.ownsRow base e size (.slice (some ⟨g, 0, none⟩) (n + m) cap) (n + m) (xs ++ news) → W.grownBy w' (some g0) → Below base W w' → K (a.put o.dst (.slice (some ⟨g, 0, none⟩) (n + m) cap)) w') :
    if Region.wanted o (yielded ops a.tmps) = true then Oper.wp P o a W K Q else E := by
  have hg0 := hown.lt g0 rfl
  by_cases hm : m = 0
  · subst hm
    have hne : news = [] := List.eq_nil_of_length_eq_zero (by rw [hl, Nat.zero_mul])
    subst hne
    have hw : Region.wanted o (yielded ops a.tmps) = true := by simp [Region.wanted, hgd]
    rw [if_pos hw]
    have hrun := run_append_zero (P := P) (w := W) base t o.type e i size ht hi _ n xs hown A c
    unfold Oper.wp
    simp [execOp, ho, resolve, invoke, builtin, hs, hx, hrun, Result.andThen]
    have := h g0 cap0 W (by simpa using hown) (World.grownBy.refl W _) (Below.refl _ _)
    rw [Nat.add_zero] at this
    exact this
  · have hpos : 0 < news.length := by rw [hl]; exact Nat.mul_pos (by omega) hsz
    obtain ⟨ad, rfl, hlt⟩ := hr.form hpos
    refine step_append_lies _ hgd s x t ho base e i z size bytes ht hi hz hsize hby hzs hsz _ n xs hs hown ad m c news hx hl ?_ h1 (by omega) h63 hbytes hbase W.heap.size rfl ?_
    · intro j u hj
      have hj2 : j < news.length := by
        rcases Nat.lt_or_ge j news.length with h | h
        · exact h
        · rw [List.getElem?_eq_none h] at hj; cases hj
      rw [hr.at hj2, List.getD_eq_getElem?_getD, hj]; rfl
    · intro g cap w' h2 h3 h4 h5
      have hob : (Value.slice (some ⟨g0, 0, none⟩) n cap0).ownBlock = some g0 := rfl
      rw [hob] at h3
      exact h g cap w' h2 h3 ((Below.refl _ W).grown h3 hbase (fun k e => by cases e; exact hg0.1))

def WtP (w : World) (E : List Ext) (nm y : ByteArray) (e : Ending) (w' : World) : Prop := ∃ g cap, e = .returned (.slice (some ⟨g, 0, none⟩) (E.length + 1) cap) ∧ w'.ownsRow (w.heap.size + 1) 58 2 (.slice (some ⟨g, 0, none⟩) (E.length + 1) cap) (E.length + 1) (eRow (insE E (pos E nm) nm y)) ∧ Below w.heap.size w w'

set_option maxHeartbeats 16000000 in
set_option maxRecDepth 100000 in
theorem rwithS_any (E : List Ext) (g n c : Nat) (nm y : ByteArray) (w : World) (hn : n = E.length) (h : ExtAt w (some ⟨g, 0, none⟩) E) (hgl : g < w.heap.size) (hc : n ≤ c) (hE : n ≤ 1000000) :
    Calls Try.prog 36 #[.slice (some ⟨g, 0, none⟩) n c, .agg #[.string nm, .string y]] w (WtP w E nm y) := by
  obtain ⟨i0, hi0, hz0, hz1, hz2⟩ := info_parts info_ext
  obtain ⟨W2, hW2⟩ : ∃ W2, W2 = w.alloc (.cells #[.string nm, .string y] 58) := ⟨_, rfl⟩
  have hb : Below w.heap.size w W2 := by rw [hW2]; exact (Below.refl _ _).alloc (Nat.le_refl _) _
  have xb : Boxed W2 w.heap.size [.string nm, .string y] := by rw [hW2]; exact Boxed.new w #[.string nm, .string y] 58
  have HN := Lib.hid hn; have HB := Lib.hid hb; have XB := Lib.hid xb; have HW2 := Lib.hid hW2
  have HE := Lib.hid (h.below hb)
  have q0 : W2.cell? ⟨w.heap.size, 0, none⟩ = some (.string nm) := xb.cell 0 (by simp)
  have HS2 : Hid (W2.heap.size = w.heap.size + 1) := Lib.hid (by rw [hW2]; simp)
  clear hn h hb xb hW2
  go_enter Try.func36, Try.ntmps36
  go_wp2_with fail
  rw [← HW2.out]
  go_loopw [5] (fun i wr => ∃ k : Nat, k ≤ n ∧ i = .int .i64 k ∧ (∀ j, j < k → nlt (E.getD j default).1 nm = true) ∧ Below W2.heap.size W2 wr) (fun i _ => n - (intOf i).toNat)
  case atStart => exact ⟨0, by omega, rfl, fun j hj => by omega, Below.refl _ _⟩
  case round =>
    obtain ⟨k, hk, rfl, hlo, hb⟩ := hrel
    have x1 := XB.out.below hb
    have v0 : wr.cell? ⟨w.heap.size, 0, none⟩ = some (.string nm) := x1.cell 0 (by simp)
    have v1 : wr.cell? ⟨w.heap.size, 1, none⟩ = some (.string y) := x1.cell 1 (by simp)
    have HBr := Lib.hid hb
    have HLO := Lib.hid hlo
    have m0 : (0 : Int) ≤ (k : Int) := by omega
    by_cases hgo : k < n ∧ nlt (E.getD k default).1 nm = true
    · have hkE : k < E.length := by rw [← HN.out]; exact hgo.1
      obtain ⟨g', o', hge, _, d0, _, _, _⟩ := (HE.out.below hb) k hkE
      cases hge
      rw [Nat.zero_add] at d0
      have hl2 := hgo.2
      obtain ⟨x, hx⟩ : ∃ x, x = (E.getD k default).1 := ⟨_, rfl⟩
      rw [← hx] at d0 hl2
      have tl : bytesLess x.toList nm.toList = true := hl2
      have m1 : (k : Int) < (n : Int) := by omega
      have t1 : decide (k < n) = true := decide_eq_true hgo.1
      have HLO2 : Hid (∀ j, j < k + 1 → nlt (E.getD j default).1 nm = true) := Lib.hid (fun j hj => by
        rcases Nat.lt_or_ge j k with h | h
        · exact HLO.out j h
        · obtain rfl : j = k := by omega
          rw [← hx]; exact hl2)
      clear hgo hx hl2 hlo hb x1
      go_wp2_with fail
      go_quiet (fail)
      go_wp2_with fail
      go_roundw
      case rel => exact ⟨k + 1, by omega, by go_num, HLO2.out, below_drewN HBr.out _⟩
      case measure => simp [intOf]; omega
    · have hp : pos E nm = k := pos_of (by rw [← HN.out]; exact hk) hlo (fun h => by
        cases hb : nlt (E.getD k default).1 nm with
        | false => rfl
        | true => exact absurd ⟨by rw [HN.out]; exact h, hb⟩ hgo)
      have HP := Lib.hid hp
      have hor : (decide (k < n) = false) ∨ ∃ x : ByteArray, decide (k < n) = true ∧ (k : Int) < (n : Int) ∧ wr.cell? ⟨g, k * 2, none⟩ = some (.string x) ∧ bytesLess x.toList nm.toList = false := by
        by_cases hkn : k < n
        · obtain ⟨g', o', hge, _, d0, _, _, _⟩ := (HE.out.below hb) k (by rw [← HN.out]; exact hkn)
          cases hge
          rw [Nat.zero_add] at d0
          exact .inr ⟨_, decide_eq_true hkn, by omega, d0, by
            cases hb : nlt (E.getD k default).1 nm with
            | false => exact hb
            | true => exact absurd ⟨hkn, hb⟩ hgo⟩
        · exact .inl (decide_eq_false hkn)
      clear hgo hp hlo hb x1
      rcases hor with t1 | ⟨x, t1, m1, d0, tl⟩
      all_goals
        go_wp2_with fail
        go_quiet (fail)
        go_wp2_with fail
        obtain ⟨V, hV⟩ : ∃ V, V = wr.drewN nq := ⟨_, rfl⟩
        have x2 := (XB.out.below HBr.out).below (below_drewN (Below.refl _ wr) nq)
        have e2 := (HE.out.below HBr.out).below (below_drewN (Below.refl _ wr) nq)
        have b2 := HBr.out.trans ((below_drewN (Below.refl _ wr) nq).mono HBr.out.size)
        rw [← hV] at x2 e2 b2 ⊢
        have hs2 := HS2.out
        have v0 : V.cell? ⟨w.heap.size, 0, none⟩ = some (.string nm) := x2.cell 0 (by simp)
        have v1 : V.cell? ⟨w.heap.size, 1, none⟩ = some (.string y) := x2.cell 1 (by simp)
        have lV : w.heap.size < V.heap.size := x2.lt
        obtain ⟨BBp, hBBp⟩ : ∃ BBp : World → Prop, BBp = fun W => Below (w.heap.size + 1) V W := ⟨_, rfl⟩
        have H0 : Hid (BBp V) := Lib.hid (by rw [hBBp]; exact Below.refl _ _)
        have HBs : Hid (∀ W, BBp W → w.heap.size + 1 ≤ W.heap.size) := Lib.hid (fun W hh => by rw [hBBp] at hh; have := hh.size; omega)
        have HDd : Hid (∀ W, BBp W → BBp W.drew) := Lib.hid (fun W hh => by rw [hBBp] at hh ⊢; exact hh.drew)
        have HAl : Hid (∀ W o, BBp W → BBp (W.alloc o)) := Lib.hid (fun W o hh => by
          have := HBs.out W hh
          rw [hBBp] at hh ⊢
          exact hh.alloc this o)
        have HTr : Hid (∀ W W', BBp W → Below (w.heap.size + 1) W W' → BBp W') := Lib.hid (fun W W' hh hb => by rw [hBBp] at hh ⊢; exact hh.trans hb)
        have HCl : Hid (∀ W, BBp W → W.cell? ⟨w.heap.size, 0, none⟩ = some (.string nm) ∧ W.cell? ⟨w.heap.size, 1, none⟩ = some (.string y) ∧ w.heap.size < W.heap.size) := Lib.hid (fun W hh => by
          rw [hBBp] at hh
          have := x2.belowB hh (by omega)
          exact ⟨this.cell 0 (by simp), this.cell 1 (by simp), this.lt⟩)
        have HRp : Hid (∀ W, BBp W → Rd W (some ⟨g, 0, none⟩) (eRow (E.take k))) := Lib.hid (fun W hh => by
          rw [hBBp] at hh
          exact ((e2.belowB hh (fun a e => by cases e; show g < _; omega)).take k).rd)
        have HFin : Hid (∀ W, BBp W → Below w.heap.size w W) := Lib.hid (fun W hh => by
          rw [hBBp] at hh
          exact HB.out.trans ((b2.trans (hh.mono (by omega))).mono (by omega)))
        have HRs0 : ∀ W, BBp W → Rd W (if c = k then some (⟨g, 0, none⟩ : Addr) else some ⟨g, k * 2, none⟩) (eRow (E.drop k)) := fun W hh => by
          rw [hBBp] at hh
          have hr := (e2.belowB hh (fun a e => by cases e; show g < _; omega)).rd
          by_cases hkn : k < n
          · rw [if_neg (by omega)]
            have h3 := hr.cut (k * 2) (by rw [eRow_length, ← HN.out]; omega)
            rw [eRow_drop] at h3
            simpa [Addr.add_lit] using h3
          · rw [List.drop_eq_nil_of_le (by rw [← HN.out]; omega)]
            exact Rd.nil _ _
        obtain ⟨A3, hA3⟩ : ∃ A3, (if c = k then some (⟨g, 0, none⟩ : Addr) else some ⟨g, k * 2, none⟩) = A3 := ⟨_, rfl⟩
        rw [hA3] at HRs0
        have HRs := Lib.hid HRs0
        have HEm : Hid (∀ W g', BBp W → g' = W.heap.size → (W.alloc (.cells #[] 58)).ownsRow (w.heap.size + 1) 58 2 (.slice (some ⟨g', 0, none⟩) 0 0) 0 []) := Lib.hid (fun W g' hh e => by
          subst e
          exact World.ownsRow_lit (e := 58) (base := w.heap.size + 1) (size := 2) W #[] 0 (HBs.out W hh) (by decide) rfl)
        have HXn : Hid (∀ W g', BBp W → g' = W.heap.size → Rd (W.alloc (.cells #[.string nm, .string y] 58)) (some ⟨g', 0, none⟩) [.string nm, .string y]) := Lib.hid (fun W g' hh e => by
          subst e
          exact Rd.new W #[.string nm, .string y] 58)
        have HLk : Hid ((eRow (E.take k)).length = k * 2 ∧ (eRow (E.drop k)).length = (n - k) * 2) := Lib.hid ⟨by rw [eRow_length, List.length_take, ← HN.out]; omega, by rw [eRow_length, List.length_drop, ← HN.out]⟩
        have HM : Hid (0 + k ≤ maxLen ∧ (0 + k) * 32 ≤ 140737488355328 ∧ k + 1 ≤ maxLen ∧ (k + 1) * 32 ≤ 140737488355328 ∧ k + 1 + (n - k) ≤ maxLen ∧ (k + 1 + (n - k)) * 32 ≤ 140737488355328) := Lib.hid (by unfold maxLen; omega)
        have hkc : k ≤ c := by omega
        have HOne : Hid (∀ u ∈ [Value.string nm, Value.string y], u.oneCell' = true) := Lib.hid (by intro u hu; simp only [List.mem_cons, List.not_mem_nil, or_false] at hu; rcases hu with rfl | rfl <;> rfl)
        have HIns : Hid (eRow (E.take k) ++ [Value.string nm, Value.string y] ++ eRow (E.drop k) = eRow (insE E (pos E nm) nm y) ∧ k + 1 + (n - k) = E.length + 1) := Lib.hid ⟨by
          rw [HP.out]; unfold insE; rw [eRow_app, eRow_app]; rfl, by rw [← HN.out]; omega⟩
        clear hBBp x2 e2 b2 hs2 hV HBr HRs0
        have HWt : Hid (∀ W g3 c3, BBp W → W.ownsRow (w.heap.size + 1) 58 2 (.slice (some ⟨g3, 0, none⟩) (k + 1 + (n - k)) c3) (k + 1 + (n - k)) (eRow (E.take k) ++ [Value.string nm, Value.string y] ++ eRow (E.drop k)) → WtP w E nm y (.returned (.slice (some ⟨g3, 0, none⟩) (k + 1 + (n - k)) c3)) W) := Lib.hid (fun W g3 c3 hh ho => by
          rw [HIns.out.1, HIns.out.2] at ho
          rw [HIns.out.2]
          exact ⟨g3, c3, rfl, ho, HFin.out W hh⟩)
        go_region_law (first
          | (refine step_appendRd (by rfl) _ _ 22 (by rfl) (w.heap.size + 1) 58 i0 (.agg #[.string ⟨#[]⟩, .string ⟨#[]⟩]) 2 32 Try.underlying22 hi0 hz0 hz1 hz2 (by rfl) (by decide) _ 0 0 [] rfl (some ⟨g, 0, none⟩) k c (eRow (E.take k)) rfl HLk.out.1 (eRow_ones _) HM.out.1 HM.out.2.1 (by repeat (first | exact HEm.out _ _ (by repeat (first | exact H0.out | assumption | apply HDd.out | apply HAl.out)) (by simp; done) | exact HEm.out _ _ (by repeat (first | exact H0.out | assumption | apply HDd.out | apply HAl.out)) rfl | refine own_below ?_ (Below.drew (Below.refl _ _)) | refine own_below ?_ ((Below.refl _ _).alloc (Nat.le_refl _) _))) (HRp.out _ (by repeat (first | exact H0.out | assumption | apply HDd.out | apply HAl.out))) (HBs.out _ (by repeat (first | exact H0.out | assumption | apply HDd.out | apply HAl.out))) ?_
             intro g1 c1 w1 hown1 (hgr1 : ((V.alloc (.cells #[] 58)).alloc (.cells #[.string nm, .string y] 58)).drew.grownBy w1 (some V.heap.size)) hb1
             have hx1 : Hid (Rd w1 (some ⟨V.heap.size + 1, 0, none⟩) [.string nm, .string y]) := Lib.hid (rd_grown (by repeat (first | exact HXn.out _ _ (by repeat (first | exact H0.out | assumption | apply HDd.out | apply HAl.out)) (by simp; done) | exact HXn.out _ _ (by repeat (first | exact H0.out | assumption | apply HDd.out | apply HAl.out)) rfl | refine Rd.below ?_ (Below.drew (Below.refl _ _)) | refine Rd.below ?_ ((Below.refl _ _).alloc (Nat.le_refl _) _))) hgr1 (fun k e => by cases e; omega))
             have bb1 := HTr.out _ _ (by repeat (first | exact H0.out | assumption | apply HDd.out | apply HAl.out)) hb1
             simp only [Nat.zero_add, List.nil_append] at hown1
             have HOW1 := Lib.hid hown1
             obtain ⟨y0, y1, y2⟩ := HCl.out w1 bb1
             clear hown1 hgr1 hb1)
          | (refine step_appendRd (by rfl) _ _ 22 (by rfl) (w.heap.size + 1) 58 i0 (.agg #[.string ⟨#[]⟩, .string ⟨#[]⟩]) 2 32 Try.underlying22 hi0 hz0 hz1 hz2 (by rfl) (by decide) _ 0 0 [] rfl (some ⟨g, 0, none⟩) k c (eRow (E.take k)) rfl HLk.out.1 (eRow_ones _) HM.out.1 HM.out.2.1 (by repeat (first | exact HEm.out _ _ (by repeat (first | exact H0.out | assumption | apply HDd.out | apply HAl.out)) (by simp; done) | exact HEm.out _ _ (by repeat (first | exact H0.out | assumption | apply HDd.out | apply HAl.out)) rfl | refine own_below ?_ (Below.drew (Below.refl _ _)) | refine own_below ?_ ((Below.refl _ _).alloc (Nat.le_refl _) _))) (HRp.out _ (by repeat (first | exact H0.out | assumption | apply HDd.out | apply HAl.out))) (HBs.out _ (by repeat (first | exact H0.out | assumption | apply HDd.out | apply HAl.out))) ?_
             intro g1 c1 w1 hown1 (hgr1 : ((V.alloc (.cells #[.string nm, .string y] 58)).alloc (.cells #[] 58)).drew.grownBy w1 (some (V.heap.size + 1))) hb1
             have hx0 : Hid (Rd w1 (some ⟨V.heap.size, 0, none⟩) [.string nm, .string y]) := Lib.hid (rd_grown (by repeat (first | exact HXn.out _ _ (by repeat (first | exact H0.out | assumption | apply HDd.out | apply HAl.out)) (by simp; done) | exact HXn.out _ _ (by repeat (first | exact H0.out | assumption | apply HDd.out | apply HAl.out)) rfl | refine Rd.below ?_ (Below.drew (Below.refl _ _)) | refine Rd.below ?_ ((Below.refl _ _).alloc (Nat.le_refl _) _))) hgr1 (fun k e => by cases e; omega))
             have bb1 := HTr.out _ _ (by repeat (first | exact H0.out | assumption | apply HDd.out | apply HAl.out)) hb1
             simp only [Nat.zero_add, List.nil_append] at hown1
             have HOW1 := Lib.hid hown1
             obtain ⟨y0, y1, y2⟩ := HCl.out w1 bb1
             clear hown1 hgr1 hb1)
          | (refine step_appendRd (by rfl) _ _ 22 (by rfl) (w.heap.size + 1) 58 i0 (.agg #[.string ⟨#[]⟩, .string ⟨#[]⟩]) 2 32 Try.underlying22 hi0 hz0 hz1 hz2 (by rfl) (by decide) _ 0 0 [] rfl (some ⟨g, 0, none⟩) k c (eRow (E.take k)) rfl HLk.out.1 (eRow_ones _) HM.out.1 HM.out.2.1 (by repeat (first | exact HEm.out _ _ (by repeat (first | exact H0.out | assumption | apply HDd.out | apply HAl.out)) (by simp; done) | exact HEm.out _ _ (by repeat (first | exact H0.out | assumption | apply HDd.out | apply HAl.out)) rfl | refine own_below ?_ (Below.drew (Below.refl _ _)) | refine own_below ?_ ((Below.refl _ _).alloc (Nat.le_refl _) _))) (HRp.out _ (by repeat (first | exact H0.out | assumption | apply HDd.out | apply HAl.out))) (HBs.out _ (by repeat (first | exact H0.out | assumption | apply HDd.out | apply HAl.out))) ?_
             intro g1 c1 w1 hown1 hgr1 hb1
             have bb1 := HTr.out _ _ (by repeat (first | exact H0.out | assumption | apply HDd.out | apply HAl.out)) hb1
             simp only [Nat.zero_add, List.nil_append] at hown1
             have HOW1 := Lib.hid hown1
             obtain ⟨y0, y1, y2⟩ := HCl.out w1 bb1
             clear hown1 hgr1 hb1)
          | (refine step_appendRd (by rfl) _ _ 22 (by rfl) (w.heap.size + 1) 58 i0 (.agg #[.string ⟨#[]⟩, .string ⟨#[]⟩]) 2 32 Try.underlying22 hi0 hz0 hz1 hz2 (by rfl) (by decide) g1 k c1 (eRow (E.take k)) rfl (some ⟨_, 0, none⟩) 1 1 [.string nm, .string y] rfl (by rfl) HOne.out HM.out.2.2.1 HM.out.2.2.2.1 (by repeat (first | exact HOW1.out | refine own_below ?_ (Below.drew (Below.refl _ _)) | refine own_below ?_ ((Below.refl _ _).alloc (Nat.le_refl _) _))) (by repeat (first | exact hx1.out | exact hx0.out | exact HXn.out _ _ (by repeat (first | exact H0.out | assumption | apply HDd.out | apply HAl.out)) (by simp; done) | exact HXn.out _ _ (by repeat (first | exact H0.out | assumption | apply HDd.out | apply HAl.out)) rfl | refine Rd.below ?_ (Below.drew (Below.refl _ _)) | refine Rd.below ?_ ((Below.refl _ _).alloc (Nat.le_refl _) _))) (HBs.out _ (by repeat (first | exact H0.out | assumption | apply HDd.out | apply HAl.out))) ?_
             intro g2 c2 w2 hown2 hgr2 hb2
             have bb2 := HTr.out _ _ (by repeat (first | exact H0.out | assumption | apply HDd.out | apply HAl.out)) hb2
             have HOW2 := Lib.hid hown2
             clear hown2 hgr2 hb2)
          | (refine step_appendRd (by rfl) _ _ 22 (by rfl) (w.heap.size + 1) 58 i0 (.agg #[.string ⟨#[]⟩, .string ⟨#[]⟩]) 2 32 Try.underlying22 hi0 hz0 hz1 hz2 (by rfl) (by decide) g2 (k + 1) c2 (eRow (E.take k) ++ [.string nm, .string y]) rfl A3 (n - k) (c - k) (eRow (E.drop k)) rfl HLk.out.2 (eRow_ones _) HM.out.2.2.2.2.1 HM.out.2.2.2.2.2 (by repeat (first | exact HOW2.out | refine own_below ?_ (Below.drew (Below.refl _ _)) | refine own_below ?_ ((Below.refl _ _).alloc (Nat.le_refl _) _))) (HRs.out _ (by repeat (first | exact H0.out | assumption | apply HDd.out | apply HAl.out))) (HBs.out _ (by repeat (first | exact H0.out | assumption | apply HDd.out | apply HAl.out))) ?_
             intro g3 c3 w3 hown3 _ hb3
             have bb3 := HTr.out _ _ (by repeat (first | exact H0.out | assumption | apply HDd.out | apply HAl.out)) hb3
             have HOW3 := Lib.hid hown3
             clear hown3 hb3))
        all_goals go_wp2_with fail
        all_goals go_ret
        all_goals exact HWt.out _ _ _ (by repeat (first | assumption | apply HDd.out)) (by repeat (first | exact HOW3.out | refine own_below ?_ (Below.drew (Below.refl _ _))))
end Go.Proofs.Ytejmbbhbimgheaa.Dk
namespace Go.Proofs.Ytejmbbhbimgheaa.Dk
open Go.RowKit Go.Op Rw

set_option maxHeartbeats 16000000 in
set_option maxRecDepth 100000 in
theorem rwithN_any (nm y : ByteArray) (w : World) :
    Calls Try.prog 36 #[.slice none 0 0, .agg #[.string nm, .string y]] w (WtP w [] nm y) := by
  obtain ⟨i0, hi0, hz0, hz1, hz2⟩ := info_parts info_ext
  obtain ⟨W2, hW2⟩ : ∃ W2, W2 = w.alloc (.cells #[.string nm, .string y] 58) := ⟨_, rfl⟩
  have hb : Below w.heap.size w W2 := by rw [hW2]; exact (Below.refl _ _).alloc (Nat.le_refl _) _
  have xb : Boxed W2 w.heap.size [.string nm, .string y] := by rw [hW2]; exact Boxed.new w #[.string nm, .string y] 58
  have HB := Lib.hid hb; have XB := Lib.hid xb; have HW2 := Lib.hid hW2
  have q0 : W2.cell? ⟨w.heap.size, 0, none⟩ = some (.string nm) := xb.cell 0 (by simp)
  have HS2 : Hid (W2.heap.size = w.heap.size + 1) := Lib.hid (by rw [hW2]; simp)
  clear hb xb hW2
  go_enter Try.func36, Try.ntmps36
  go_wp2_with fail
  rw [← HW2.out]
  go_loopw [5] (fun i wr => i = .int .i64 0 ∧ Below W2.heap.size W2 wr) (fun _ _ => 0)
  case atStart => exact ⟨rfl, Below.refl _ _⟩
  case round =>
    obtain ⟨rfl, hb⟩ := hrel
    have x1 := XB.out.below hb
    have HBr := Lib.hid hb
    clear hb x1
    go_wp2_with fail
    go_quiet (fail)
    go_wp2_with fail
    obtain ⟨V, hV⟩ : ∃ V, V = wr.drewN nq := ⟨_, rfl⟩
    have x2 := (XB.out.below HBr.out).below (below_drewN (Below.refl _ wr) nq)
    have b2 := HBr.out.trans ((below_drewN (Below.refl _ wr) nq).mono HBr.out.size)
    rw [← hV] at x2 b2 ⊢
    have hs2 := HS2.out
    have v0 : V.cell? ⟨w.heap.size, 0, none⟩ = some (.string nm) := x2.cell 0 (by simp)
    have v1 : V.cell? ⟨w.heap.size, 1, none⟩ = some (.string y) := x2.cell 1 (by simp)
    have lV : w.heap.size < V.heap.size := x2.lt
    obtain ⟨BBp, hBBp⟩ : ∃ BBp : World → Prop, BBp = fun W => Below (w.heap.size + 1) V W := ⟨_, rfl⟩
    have H0 : Hid (BBp V) := Lib.hid (by rw [hBBp]; exact Below.refl _ _)
    have HBs : Hid (∀ W, BBp W → w.heap.size + 1 ≤ W.heap.size) := Lib.hid (fun W hh => by rw [hBBp] at hh; have := hh.size; omega)
    have HDd : Hid (∀ W, BBp W → BBp W.drew) := Lib.hid (fun W hh => by rw [hBBp] at hh ⊢; exact hh.drew)
    have HAl : Hid (∀ W o, BBp W → BBp (W.alloc o)) := Lib.hid (fun W o hh => by
      have := HBs.out W hh
      rw [hBBp] at hh ⊢
      exact hh.alloc this o)
    have HTr : Hid (∀ W W', BBp W → Below (w.heap.size + 1) W W' → BBp W') := Lib.hid (fun W W' hh hb => by rw [hBBp] at hh ⊢; exact hh.trans hb)
    have HCl : Hid (∀ W, BBp W → W.cell? ⟨w.heap.size, 0, none⟩ = some (.string nm) ∧ W.cell? ⟨w.heap.size, 1, none⟩ = some (.string y) ∧ w.heap.size < W.heap.size) := Lib.hid (fun W hh => by
      rw [hBBp] at hh
      have := x2.belowB hh (by omega)
      exact ⟨this.cell 0 (by simp), this.cell 1 (by simp), this.lt⟩)
    have HFin : Hid (∀ W, BBp W → Below w.heap.size w W) := Lib.hid (fun W hh => by
      rw [hBBp] at hh
      exact HB.out.trans ((b2.trans (hh.mono (by omega))).mono (by omega)))
    have HEm : Hid (∀ W g', BBp W → g' = W.heap.size → (W.alloc (.cells #[] 58)).ownsRow (w.heap.size + 1) 58 2 (.slice (some ⟨g', 0, none⟩) 0 0) 0 []) := Lib.hid (fun W g' hh e => by
      subst e
      exact World.ownsRow_lit (e := 58) (base := w.heap.size + 1) (size := 2) W #[] 0 (HBs.out W hh) (by decide) rfl)
    have HXn : Hid (∀ W g', BBp W → g' = W.heap.size → Rd (W.alloc (.cells #[.string nm, .string y] 58)) (some ⟨g', 0, none⟩) [.string nm, .string y]) := Lib.hid (fun W g' hh e => by
      subst e
      exact Rd.new W #[.string nm, .string y] 58)
    have HM : Hid ((0 : Nat) + 0 ≤ maxLen ∧ (0 + 0) * 32 ≤ 140737488355328 ∧ 0 + 1 ≤ maxLen ∧ (0 + 1) * 32 ≤ 140737488355328 ∧ 1 + 0 ≤ maxLen ∧ (1 + 0) * 32 ≤ 140737488355328) := Lib.hid (by unfold maxLen; omega)
    have HOne : Hid (∀ u ∈ [Value.string nm, Value.string y], u.oneCell' = true) := Lib.hid (by intro u hu; simp only [List.mem_cons, List.not_mem_nil, or_false] at hu; rcases hu with rfl | rfl <;> rfl)
    clear hBBp x2 b2 hs2 hV HBr
    have HWt : Hid (∀ W g3 c3, BBp W → W.ownsRow (w.heap.size + 1) 58 2 (.slice (some ⟨g3, 0, none⟩) 1 c3) 1 [Value.string nm, Value.string y] → WtP w [] nm y (.returned (.slice (some ⟨g3, 0, none⟩) 1 c3)) W) := Lib.hid (fun W g3 c3 hh ho => ⟨g3, c3, rfl, ho, HFin.out W hh⟩)
    go_region_law (first
      | (refine step_appendRd (by rfl) _ _ 22 (by rfl) (w.heap.size + 1) 58 i0 (.agg #[.string ⟨#[]⟩, .string ⟨#[]⟩]) 2 32 Try.underlying22 hi0 hz0 hz1 hz2 (by rfl) (by decide) _ 0 0 [] rfl none 0 0 [] rfl rfl (fun u hu => absurd hu (by simp)) HM.out.1 HM.out.2.1 (by repeat (first | exact HEm.out _ _ (by repeat (first | exact H0.out | assumption | apply HDd.out | apply HAl.out)) (by simp; done) | exact HEm.out _ _ (by repeat (first | exact H0.out | assumption | apply HDd.out | apply HAl.out)) rfl | refine own_below ?_ (Below.drew (Below.refl _ _)) | refine own_below ?_ ((Below.refl _ _).alloc (Nat.le_refl _) _))) (Rd.nil _ _) (HBs.out _ (by repeat (first | exact H0.out | assumption | apply HDd.out | apply HAl.out))) ?_
         intro g1 c1 w1 hown1 (hgr1 : ((V.alloc (.cells #[] 58)).alloc (.cells #[.string nm, .string y] 58)).drew.grownBy w1 (some V.heap.size)) hb1
         have hx1 : Hid (Rd w1 (some ⟨V.heap.size + 1, 0, none⟩) [.string nm, .string y]) := Lib.hid (rd_grown (by repeat (first | exact HXn.out _ _ (by repeat (first | exact H0.out | assumption | apply HDd.out | apply HAl.out)) (by simp; done) | exact HXn.out _ _ (by repeat (first | exact H0.out | assumption | apply HDd.out | apply HAl.out)) rfl | refine Rd.below ?_ (Below.drew (Below.refl _ _)) | refine Rd.below ?_ ((Below.refl _ _).alloc (Nat.le_refl _) _))) hgr1 (fun k e => by cases e; omega))
         have bb1 := HTr.out _ _ (by repeat (first | exact H0.out | assumption | apply HDd.out | apply HAl.out)) hb1
         simp only [Nat.zero_add, List.append_nil] at hown1
         have HOW1 := Lib.hid hown1
         obtain ⟨y0, y1, y2⟩ := HCl.out w1 bb1
         clear hown1 hgr1 hb1)
      | (refine step_appendRd (by rfl) _ _ 22 (by rfl) (w.heap.size + 1) 58 i0 (.agg #[.string ⟨#[]⟩, .string ⟨#[]⟩]) 2 32 Try.underlying22 hi0 hz0 hz1 hz2 (by rfl) (by decide) _ 0 0 [] rfl none 0 0 [] rfl rfl (fun u hu => absurd hu (by simp)) HM.out.1 HM.out.2.1 (by repeat (first | exact HEm.out _ _ (by repeat (first | exact H0.out | assumption | apply HDd.out | apply HAl.out)) (by simp; done) | exact HEm.out _ _ (by repeat (first | exact H0.out | assumption | apply HDd.out | apply HAl.out)) rfl | refine own_below ?_ (Below.drew (Below.refl _ _)) | refine own_below ?_ ((Below.refl _ _).alloc (Nat.le_refl _) _))) (Rd.nil _ _) (HBs.out _ (by repeat (first | exact H0.out | assumption | apply HDd.out | apply HAl.out))) ?_
         intro g1 c1 w1 hown1 (hgr1 : ((V.alloc (.cells #[.string nm, .string y] 58)).alloc (.cells #[] 58)).drew.grownBy w1 (some (V.heap.size + 1))) hb1
         have hx0 : Hid (Rd w1 (some ⟨V.heap.size, 0, none⟩) [.string nm, .string y]) := Lib.hid (rd_grown (by repeat (first | exact HXn.out _ _ (by repeat (first | exact H0.out | assumption | apply HDd.out | apply HAl.out)) (by simp; done) | exact HXn.out _ _ (by repeat (first | exact H0.out | assumption | apply HDd.out | apply HAl.out)) rfl | refine Rd.below ?_ (Below.drew (Below.refl _ _)) | refine Rd.below ?_ ((Below.refl _ _).alloc (Nat.le_refl _) _))) hgr1 (fun k e => by cases e; omega))
         have bb1 := HTr.out _ _ (by repeat (first | exact H0.out | assumption | apply HDd.out | apply HAl.out)) hb1
         simp only [Nat.zero_add, List.append_nil] at hown1
         have HOW1 := Lib.hid hown1
         obtain ⟨y0, y1, y2⟩ := HCl.out w1 bb1
         clear hown1 hgr1 hb1)
      | (refine step_appendRd (by rfl) _ _ 22 (by rfl) (w.heap.size + 1) 58 i0 (.agg #[.string ⟨#[]⟩, .string ⟨#[]⟩]) 2 32 Try.underlying22 hi0 hz0 hz1 hz2 (by rfl) (by decide) _ 0 0 [] rfl none 0 0 [] rfl rfl (fun u hu => absurd hu (by simp)) HM.out.1 HM.out.2.1 (by repeat (first | exact HEm.out _ _ (by repeat (first | exact H0.out | assumption | apply HDd.out | apply HAl.out)) (by simp; done) | exact HEm.out _ _ (by repeat (first | exact H0.out | assumption | apply HDd.out | apply HAl.out)) rfl | refine own_below ?_ (Below.drew (Below.refl _ _)) | refine own_below ?_ ((Below.refl _ _).alloc (Nat.le_refl _) _))) (Rd.nil _ _) (HBs.out _ (by repeat (first | exact H0.out | assumption | apply HDd.out | apply HAl.out))) ?_
         intro g1 c1 w1 hown1 hgr1 hb1
         have bb1 := HTr.out _ _ (by repeat (first | exact H0.out | assumption | apply HDd.out | apply HAl.out)) hb1
         simp only [Nat.zero_add, List.append_nil] at hown1
         have HOW1 := Lib.hid hown1
         obtain ⟨y0, y1, y2⟩ := HCl.out w1 bb1
         clear hown1 hgr1 hb1)
      | (refine step_appendRd (by rfl) _ _ 22 (by rfl) (w.heap.size + 1) 58 i0 (.agg #[.string ⟨#[]⟩, .string ⟨#[]⟩]) 2 32 Try.underlying22 hi0 hz0 hz1 hz2 (by rfl) (by decide) g1 0 c1 [] rfl (some ⟨_, 0, none⟩) 1 1 [.string nm, .string y] rfl (by rfl) HOne.out HM.out.2.2.1 HM.out.2.2.2.1 (by repeat (first | exact HOW1.out | refine own_below ?_ (Below.drew (Below.refl _ _)) | refine own_below ?_ ((Below.refl _ _).alloc (Nat.le_refl _) _))) (by repeat (first | exact hx1.out | exact hx0.out | exact HXn.out _ _ (by repeat (first | exact H0.out | assumption | apply HDd.out | apply HAl.out)) (by simp; done) | exact HXn.out _ _ (by repeat (first | exact H0.out | assumption | apply HDd.out | apply HAl.out)) rfl | refine Rd.below ?_ (Below.drew (Below.refl _ _)) | refine Rd.below ?_ ((Below.refl _ _).alloc (Nat.le_refl _) _))) (HBs.out _ (by repeat (first | exact H0.out | assumption | apply HDd.out | apply HAl.out))) ?_
         intro g2 c2 w2 hown2 hgr2 hb2
         have bb2 := HTr.out _ _ (by repeat (first | exact H0.out | assumption | apply HDd.out | apply HAl.out)) hb2
         have HOW2 := Lib.hid hown2
         clear hown2 hgr2 hb2)
      | (refine step_appendRd (by rfl) _ _ 22 (by rfl) (w.heap.size + 1) 58 i0 (.agg #[.string ⟨#[]⟩, .string ⟨#[]⟩]) 2 32 Try.underlying22 hi0 hz0 hz1 hz2 (by rfl) (by decide) g2 1 c2 [.string nm, .string y] rfl none 0 0 [] rfl rfl (fun u hu => absurd hu (by simp)) HM.out.2.2.2.2.1 HM.out.2.2.2.2.2 (by repeat (first | exact HOW2.out | refine own_below ?_ (Below.drew (Below.refl _ _)) | refine own_below ?_ ((Below.refl _ _).alloc (Nat.le_refl _) _))) (Rd.nil _ _) (HBs.out _ (by repeat (first | exact H0.out | assumption | apply HDd.out | apply HAl.out))) ?_
         intro g3 c3 w3 hown3 _ hb3
         have bb3 := HTr.out _ _ (by repeat (first | exact H0.out | assumption | apply HDd.out | apply HAl.out)) hb3
         have HOW3 := Lib.hid hown3
         clear hown3 hb3))
    all_goals go_wp2_with fail
    all_goals go_ret
    all_goals exact HWt.out _ _ _ (by repeat (first | assumption | apply HDd.out)) (by repeat (first | exact HOW3.out | refine own_below ?_ (Below.drew (Below.refl _ _))))
/-- of a row of the call's own, whatever it is -/
theorem rwith_any (E : List Ext) (p : Option Addr) (n c B : Nat) (nm y : ByteArray) (w : World) (hn : n = E.length) (h : w.ownsRow B 58 2 (.slice p n c) n (eRow E)) (ho : EOk E) (hE : n ≤ 1000000) :
    Calls Try.prog 36 #[.slice p n c, .agg #[.string nm, .string y]] w (WtP w E nm y) := by
  rcases h.2 with ⟨hv, h0⟩ | ⟨g, cap, cur, hv, _⟩
  · injection hv with hp _ hc
    subst hp hc h0
    have : E = [] := List.eq_nil_of_length_eq_zero hn.symm
    subst this
    exact rwithN_any nm y w
  · injection hv with hp _ hc
    subst hp hc
    exact rwithS_any E g n c nm y w hn (extAt_own h ho) (own_aboveV h _ rfl).2 (own_capV h) hE
theorem eok_iff {E : List Ext} : EOk E ↔ ∀ x ∈ E, x.1.size ≤ 140737488355328 ∧ x.2.size ≤ 140737488355328 := by
  constructor
  · intro h x hx
    obtain ⟨i, hi, rfl⟩ := List.mem_iff_getElem.1 hx
    have := h i hi
    simpa [List.getD_eq_getElem?_getD, List.getElem?_eq_getElem hi] using this
  · intro h i hi
    have := h E[i] (List.getElem_mem _)
    simpa [List.getD_eq_getElem?_getD, List.getElem?_eq_getElem hi] using this
theorem eok_ins {E : List Ext} (h : EOk E) (k : Nat) {x y : ByteArray} (hx : x.size ≤ 140737488355328) (hy : y.size ≤ 140737488355328) : EOk (insE E k x y) := by
  rw [eok_iff] at h ⊢
  intro u hu
  rcases insE_mem.1 hu with rfl | hu
  · exact ⟨hx, hy⟩
  · exact h u hu
/-- with another row of extents -/
theorem OwnD.withE {W W2 : World} {B C : Nat} {D : Dsk} {v : DVal} (h : OwnD W B D v) (hb : Below W.heap.size W W2) {E' : List Ext} {g cap m : Nat} (hown : W2.ownsRow C 58 2 (.slice (some ⟨g, 0, none⟩) m cap) m (eRow E')) (hm : m = E'.length) (hC : W.heap.size ≤ C) (hB : B ≤ W.heap.size) (ho : EOk E') (hl : E'.length ≤ 9223372036854775807) :
    OwnD W2 B ⟨D.size, E', D.W, D.fuse, D.down⟩ ⟨some ⟨g, 0, none⟩, m, cap, v.pW, v.nW, v.cW⟩ := by
  refine ⟨hm, own_base hown (by omega), h.hW, own_below h.W hb, ho, h.okW, ⟨hl, h.lim.w, h.lim.f⟩, ?_⟩
  intro a b ea eb
  cases ea
  have h1 := (own_aboveV h.W b eb).2
  have h2 := (own_aboveV hown ⟨g, 0, none⟩ rfl).1
  show g ≠ b.block
  have h3 : C ≤ g := h2
  omega
end Go.Proofs.Ytejmbbhbimgheaa.Dk

/- The document's Sync. The document's Crash. -/
import Derived.Test.YtejmbbhbimgheaaDkRefH
import Derived.Test.YtejmbbhbimgheaaDkThy
namespace Go.Proofs.Ytejmbbhbimgheaa.Dk
open Go.RowKit Go.Op Rw

theorem setlE_step (kp : Nat → Bool) (L : List Wr) (k : Nat) (C : List Ext) (hk : k < L.length) : setlE kp k (L.drop k) C = setlE kp (k + 1) (L.drop (k + 1)) (if kp k = true then doneE C (L.getD k default) else C) := by
  have e : L.drop k = L.getD k default :: L.drop (k + 1) := by
    rw [List.drop_eq_getElem_cons hk]
    simp [List.getD_eq_getElem?_getD, List.getElem?_eq_getElem hk]
  rw [e]
  rfl
theorem setlE_over (kp : Nat → Bool) (L : List Wr) (C : List Ext) : setlE kp L.length (L.drop L.length) C = C := by rw [List.drop_length]; rfl
/-- the call of done, of any number that is right -/
theorem rdone2 (z : Int) (C : List Ext) (L : List Wr) (fz : Int) (dn : Bool) (pE pW : Option Addr) (nE cE nW cW : Nat) (x d : ByteArray) (c : Int) (B : Nat) (w : World) (h : OwnD w B ⟨z, C, L, fz, dn⟩ ⟨pE, nE, cE, pW, nW, cW⟩) (hB : B ≤ w.heap.size) (hso : Sorted C) (hk : wrOk C (x, c, d) = true) :
    Calls Try.prog 59 #[.agg #[.int .i64 z, .slice pE nE cE, .slice pW nW cW, .int .i64 fz, .bool dn], .agg #[.string x, .int .i64 c, .string d]] w fun e w' => e = .returned (.agg #[.int .i64 z, .slice pE nE cE, .slice pW nW cW, .int .i64 fz, .bool dn]) ∧ OwnD w' B ⟨z, doneE C (x, c, d), L, fz, dn⟩ ⟨pE, nE, cE, pW, nW, cW⟩ ∧ Below B w w' := by
  obtain ⟨n, rfl⟩ : ∃ n : Nat, c = (n : Int) := by
    unfold wrOk at hk
    simp only [Bool.and_eq_true, decide_eq_true_eq] at hk
    exact ⟨c.toNat, by omega⟩
  exact rdone_any ⟨z, C, L, fz, dn⟩ ⟨pE, nE, cE, pW, nW, cW⟩ x d n B w h hB hso hk
/-- a variable with a disk's own rows, and one for what is answered -/
structure Loop (w wr : World) (B : Nat) (z : Int) (E C : List Ext) (L : List Wr) (fz : Int) (dn : Bool) (v : DVal) : Prop where
  two : Two w wr ⟨z, E, L, fz, dn⟩ v
  own : OwnD wr B ⟨z, C, L, fz, dn⟩ v
  like : Like E C
  ge : w.heap.size + 2 ≤ B
  le : B ≤ wr.heap.size
theorem Loop.next {w wr w2 w4 : World} {B : Nat} {z : Int} {E C C' : List Ext} {L : List Wr} {fz : Int} {dn : Bool} {pE pW : Option Addr} {nE cE nW cW : Nat} (h : Loop w wr B z E C L fz dn ⟨pE, nE, cE, pW, nW, cW⟩) (h2 : Below wr.heap.size wr w2) (h4 : Below B w2 w4) (ho : OwnD w4 B ⟨z, C', L, fz, dn⟩ ⟨pE, nE, cE, pW, nW, cW⟩) (hl : Like E C') :
    Loop w (((((w4.setCell ⟨w.heap.size, 0, none⟩ (.int .i64 z)).setCell ⟨w.heap.size, 1, none⟩ (.slice pE nE cE)).setCell ⟨w.heap.size, 2, none⟩ (.slice pW nW cW)).setCell ⟨w.heap.size, 3, none⟩ (.int .i64 fz)).setCell ⟨w.heap.size, 4, none⟩ (.bool dn)) B z E C' L fz dn ⟨pE, nE, cE, pW, nW, cW⟩ := by
  have t2 := h.two.below h2
  have hB := h.ge
  have l0 : w.heap.size < B := by omega
  have l1 : w.heap.size + 1 < B := by omega
  have l2 : w.heap.size ≤ B := by omega
  have t4 : Two w w4 ⟨z, E, L, fz, dn⟩ ⟨pE, nE, cE, pW, nW, cW⟩ := ⟨t2.d.belowB h4 l0, t2.r.belowB h4 l1, t2.b.trans (h4.mono l2)⟩
  have hbar : Bar w4 (((((w4.setCell ⟨w.heap.size, 0, none⟩ (.int .i64 z)).setCell ⟨w.heap.size, 1, none⟩ (.slice pE nE cE)).setCell ⟨w.heap.size, 2, none⟩ (.slice pW nW cW)).setCell ⟨w.heap.size, 3, none⟩ (.int .i64 fz)).setCell ⟨w.heap.size, 4, none⟩ (.bool dn)) (fun k => k = w.heap.size) := bar_setD _ _ _ _ _ _ rfl
  have hsd : Two w (((((w4.setCell ⟨w.heap.size, 0, none⟩ (.int .i64 z)).setCell ⟨w.heap.size, 1, none⟩ (.slice pE nE cE)).setCell ⟨w.heap.size, 2, none⟩ (.slice pW nW cW)).setCell ⟨w.heap.size, 3, none⟩ (.int .i64 fz)).setCell ⟨w.heap.size, 4, none⟩ (.bool dn)) ⟨z, E, L, fz, dn⟩ ⟨pE, nE, cE, pW, nW, cW⟩ := t4.setD (v' := ⟨pE, nE, cE, pW, nW, cW⟩)
  refine ⟨hsd, ho.bar hbar (fun a e hk => ?_), hl, hB, ?_⟩
  · rcases e with e | e
    · have := ho.above.1 a e; omega
    · have := ho.above.2 a e; omega
  · have hz := Nat.le_trans h.le (Nat.le_trans h2.size h4.size)
    simp only [World.size_setCell]
    exact hz
theorem Loop.start {w w1 w3 : World} {z : Int} {E : List Ext} {L : List Wr} {fz : Int} {dn : Bool} {u : DVal} {pE pW : Option Addr} {nE cE nW cW : Nat} (t : Two w w1 ⟨z, E, L, fz, dn⟩ u) (hb : Below w1.heap.size w1 w3) (ho : OwnD w3 w1.heap.size ⟨z, E, L, fz, dn⟩ ⟨pE, nE, cE, pW, nW, cW⟩) :
    Loop w (((((w3.setCell ⟨w.heap.size, 0, none⟩ (.int .i64 z)).setCell ⟨w.heap.size, 1, none⟩ (.slice pE nE cE)).setCell ⟨w.heap.size, 2, none⟩ (.slice pW nW cW)).setCell ⟨w.heap.size, 3, none⟩ (.int .i64 fz)).setCell ⟨w.heap.size, 4, none⟩ (.bool dn)) w1.heap.size z E E L fz dn ⟨pE, nE, cE, pW, nW, cW⟩ := by
  have hlt := t.lt
  have hbar : Bar w3 (((((w3.setCell ⟨w.heap.size, 0, none⟩ (.int .i64 z)).setCell ⟨w.heap.size, 1, none⟩ (.slice pE nE cE)).setCell ⟨w.heap.size, 2, none⟩ (.slice pW nW cW)).setCell ⟨w.heap.size, 3, none⟩ (.int .i64 fz)).setCell ⟨w.heap.size, 4, none⟩ (.bool dn)) (fun k => k = w.heap.size) := bar_setD _ _ _ _ _ _ rfl
  have hsd : Two w (((((w3.setCell ⟨w.heap.size, 0, none⟩ (.int .i64 z)).setCell ⟨w.heap.size, 1, none⟩ (.slice pE nE cE)).setCell ⟨w.heap.size, 2, none⟩ (.slice pW nW cW)).setCell ⟨w.heap.size, 3, none⟩ (.int .i64 fz)).setCell ⟨w.heap.size, 4, none⟩ (.bool dn)) ⟨z, E, L, fz, dn⟩ ⟨pE, nE, cE, pW, nW, cW⟩ := (t.below hb).setD (v' := ⟨pE, nE, cE, pW, nW, cW⟩)
  refine ⟨hsd, ho.bar hbar (fun a e hk => ?_), Like.refl _, hlt, ?_⟩
  · rcases e with e | e
    · have := ho.above.1 a e; omega
    · have := ho.above.2 a e; omega
  · have := hb.size
    simp only [World.size_setCell]
    exact this
/-- what is left when all is done -/
theorem Loop.fin {w wr W : World} {B : Nat} {z : Int} {E C : List Ext} {L : List Wr} {fz : Int} {dn : Bool} {pE pW : Option Addr} {nE cE nW cW : Nat} (h : Loop w wr B z E C L fz dn ⟨pE, nE, cE, pW, nW, cW⟩) (hb : Bar wr W (fun k => k = w.heap.size ∨ k = w.heap.size + 1)) (f : Int) (b : Bool) (hf : f ≤ 9223372036854775807) (er : Int) :
    AnsP w ⟨z, C, [], f, b⟩ er (.returned (.tuple #[.agg #[.int .i64 z, .slice pE nE cE, .slice none 0 0, .int .i64 f, .bool b], .int .i64 er])) W := by
  have ho : OwnD wr B ⟨z, C, [], f, b⟩ ⟨pE, nE, cE, none, 0, 0⟩ := ⟨h.own.hE, h.own.E, rfl, World.ownsRow_nil _ _ _ _, h.own.okE, fun i hi => absurd hi (by simp), ⟨h.own.lim.e, by simp, hf⟩, fun a b _ e => by cases e⟩
  exact ans_own ho h.ge hb h.two.b rfl

set_option maxHeartbeats 16000000 in
set_option maxRecDepth 100000 in
theorem rSync_any (D : Dsk) (v : DVal) (w : World) (h : VarAt w D v) (hc : v.nE ≤ v.cE) (hf : Few D) :
    Calls Try.prog 25 #[.agg #[.int .i64 D.size, .slice v.pE v.nE v.cE, .slice v.pW v.nW v.cW, .int .i64 D.fuse, .bool D.down]] w (AnsP w (syD D) (syE D)) := by
  obtain ⟨W2, hW2⟩ : ∃ W2, W2 = ((w.alloc (.cells #[.int .i64 D.size, .slice v.pE v.nE v.cE, .slice v.pW v.nW v.cW, .int .i64 D.fuse, .bool D.down] 25)).alloc (.cells #[.int .i64 0, .slice none 0 0, .slice none 0 0, .int .i64 0, .bool false] 25)) := ⟨_, rfl⟩
  have tw := Two.new w D v
  rw [← hW2] at tw
  have hv := h.below tw.b
  have HW2 := Lib.hid hW2
  obtain ⟨r, hr⟩ : ∃ r, r = rdy D := ⟨_, rfl⟩
  have HPw : Hid (∀ W, Below W2.heap.size W2 W → Calls Try.prog 31 #[.agg #[.int .i64 D.size, .slice v.pE v.nE v.cE, .slice v.pW v.nW v.cW, .int .i64 D.fuse, .bool D.down]] W fun e w' => e = .returned (.int .i64 r) ∧ Below W.heap.size W w') := Lib.hid (fun W hb => by rw [hr]; exact rpower_any D v W (hv.below hb) hc)
  have HCp : Hid (∀ W, Below W2.heap.size W2 W → Calls Try.prog 5 #[.agg #[.int .i64 D.size, .slice v.pE v.nE v.cE, .slice v.pW v.nW v.cW, .int .i64 D.fuse, .bool D.down]] W (CpP W D)) := Lib.hid (fun W hb => rCopy_any D v W (hv.below hb) hf)
  have HAs : Hid (∀ W, Below W2.heap.size W2 W → Calls Try.prog 32 #[.agg #[.int .i64 D.size, .slice v.pE v.nE v.cE, .slice v.pW v.nW v.cW, .int .i64 D.fuse, .bool D.down], .int .i64 r] W (AnsP W (asD D r) r)) := Lib.hid (fun W hb => ras_any D v r W (hv.below hb) hc hf)
  have TW := Lib.hid tw; have HR := Lib.hid hr
  obtain ⟨q0, q1, q2, q3, q4⟩ := tw.d.five
  have HLf := h.lim.f
  clear h hc hf tw hv hW2 hr
  by_cases h0 : r = 0
  case neg =>
    have t0 : (r != 0) = true := by rw [bne_iff_ne]; exact h0
    have F : Hid (asD D r = syD D ∧ r = syE D) := Lib.hid (by
      rw [HR.out] at h0 ⊢
      exact as_rdy h0 _ _)
    clear h0 HCp
    go_enter Try.func25, Try.ntmps25
    go_wp2_with fail
    rw [← HW2.out]
    refine (HPw.out _ (Below.refl _ _)).mono ?_
    rintro e w1 ⟨rfl, b1⟩
    have TW1 := Lib.hid (TW.out.below b1)
    obtain ⟨q0, q1, q2, q3, q4⟩ := TW1.out.d.five
    have HBC := Lib.hid b1
    clear b1
    go_wp2_with fail
    refine (HAs.out _ HBC.out).mono ?_
    rintro e w3 ⟨v', rfl, hvar, habv, b3⟩
    have tw3 := TW1.out.below b3
    have hlt := TW1.out.lt
    have HFin : Hid (∀ W, Bar w3 W (fun k => k = w.heap.size ∨ k = w.heap.size + 1) → AnsP w (syD D) (syE D) (.returned (.tuple #[.agg #[.int .i64 (asD D r).size, .slice v'.pE v'.nE v'.cE, .slice v'.pW v'.nW v'.cW, .int .i64 (asD D r).fuse, .bool (asD D r).down], .int .i64 r])) W) := Lib.hid (fun W hb => by rw [← F.out.1]; exact ans_var hvar habv hlt hb (TW1.out.b.trans (b3.mono TW1.out.b.size)) F.out.2)
    obtain ⟨p0, p1, p2, p3, p4⟩ := tw3.r.five
    obtain ⟨f0, f1, f2, f3, f4⟩ := tw3.r.fiveF
    clear hvar habv b3 tw3 hlt
    go_wp2_with fail
    (try simp only [Exit.inBlock, Exit.then])
    refine bodyPost_ret (v := .tuple #[.agg #[.int .i64 (asD D r).size, .slice v'.pE v'.nE v'.cE, .slice v'.pW v'.nW v'.cW, .int .i64 (asD D r).fuse, .bool (asD D r).down], .int .i64 r]) ?_ rfl ?_
    · rw [results_cell_tmp rfl]
      go_simp
    · refine HFin.out _ ?_
      repeat (first | refine Bar.setCell ?_ (by first | exact Or.inl rfl | exact Or.inr rfl) _ | exact Bar.refl _ _)
  subst h0
  have hy : rdy D = 0 := HR.out.symm
  have hlr := lim_rdy hy
  have HK := Lib.hid (wtR_all (chk_good (ready_good hy).1).2.2.2.2)
  have eD : syD D = ⟨D.size, setlE (fun _ => true) 0 D.W D.E, [], D.fuse, D.down⟩ := by unfold syD; rw [chg_ok hy]; rfl
  have eE : syE D = 0 := chgR_ok hy
  rw [eD, eE]
  have HSo := Lib.hid hlr.1
  have hn1 : D.W.length ≤ 16384 := hlr.2.2.1
  clear HAs eD eE hlr hy
  obtain ⟨z, E, L, fz, dn⟩ := D
  simp only at HCp HK HSo hn1 q0 q1 q2 q3 q4 HLf ⊢
  go_enter Try.func25, Try.ntmps25
  go_wp2_with fail
  rw [← HW2.out]
  refine (HPw.out _ (Below.refl _ _)).mono ?_
  rintro e w1 ⟨rfl, b1⟩
  have TW1 := Lib.hid (TW.out.below b1)
  obtain ⟨q0, q1, q2, q3, q4⟩ := TW1.out.d.five
  have HBC := Lib.hid b1
  clear b1
  go_wp2_with fail
  refine (HCp.out _ HBC.out).mono ?_
  rintro e w3 ⟨⟨pE, nE, cE, pW, nW, cW⟩, rfl, hown, b3⟩
  have tw3 := TW1.out.below b3
  obtain ⟨p0, p1, p2, p3, p4⟩ := tw3.d.five
  obtain ⟨f0, f1, f2, f3, f4⟩ := tw3.d.fiveF
  have HNW : Hid (nW = L.length) := Lib.hid hown.hW
  have hnw2 : nW ≤ 16384 := by have := HNW.out; omega
  have LP0 := Loop.start TW1.out b3 hown
  obtain ⟨S, hS⟩ : ∃ S, S = (((((w3.setCell ⟨w.heap.size, 0, none⟩ (.int .i64 z)).setCell ⟨w.heap.size, 1, none⟩ (.slice pE nE cE)).setCell ⟨w.heap.size, 2, none⟩ (.slice pW nW cW)).setCell ⟨w.heap.size, 3, none⟩ (.int .i64 fz)).setCell ⟨w.heap.size, 4, none⟩ (.bool dn)) := ⟨_, rfl⟩
  rw [← hS] at LP0
  have LP := Lib.hid LP0; have HS := Lib.hid hS
  simp only at p0 p1 p2 p3 p4
  clear hown b3 tw3 LP0 hS
  go_wp2_with fail
  rw [← HS.out]
  clear HS p0 p1 p2 p3 p4 f0 f1 f2 f3 f4 q0 q1 q2 q3 q4
  go_loopw [6, 21] (fun _ i wr => ∃ (k : Nat) (C : List Ext), k ≤ nW ∧ i = .int .i64 k ∧ setlE (fun _ => true) 0 L E = setlE (fun _ => true) k (L.drop k) C ∧ Loop w wr w1.heap.size z E C L fz dn ⟨pE, nE, cE, pW, nW, cW⟩) (fun _ i _ => nW - (intOf i).toNat)
  case atStart => exact ⟨0, E, by omega, rfl, rfl, LP.out⟩
  case round =>
    obtain ⟨k, C, hk, rfl, hse, hlp⟩ := hrel
    by_cases hlt : k < nW
    · have hkL : k < L.length := by rw [← HNW.out]; exact hlt
      obtain ⟨ga, oa, rfl, hga, d0, d1, d2, s1, s2⟩ := hlp.own.at.W k hkL
      obtain ⟨x, hxx⟩ : ∃ x, x = (L.getD k default).1 := ⟨_, rfl⟩
      obtain ⟨c, hcc⟩ : ∃ c, c = (L.getD k default).2.1 := ⟨_, rfl⟩
      obtain ⟨d, hdd⟩ : ∃ d, d = (L.getD k default).2.2 := ⟨_, rfl⟩
      have hxe : L.getD k default = (x, c, d) := by rw [hxx, hcc, hdd]
      simp only at d0 d1 d2
      rw [← hxx] at d0 s1; rw [← hcc] at d1; rw [← hdd] at d2 s2
      have hwk : wrOk C (x, c, d) = true := by
        rw [hlp.like.wrOk, ← hxe]
        exact List.all_eq_true.1 HK.out _ (by simp [List.getD_eq_getElem?_getD, List.getElem?_eq_getElem hkL])
      obtain ⟨W3, hW3⟩ : ∃ W3, W3 = wr.alloc (.cells #[.string x, .int .i64 c, .string d] 63) := ⟨_, rfl⟩
      have t3 : Below wr.heap.size wr W3 := by rw [hW3]; exact (Below.refl _ _).alloc (Nat.le_refl _) _
      have HDn := Lib.hid (rdone2 z C L fz dn pE (some ⟨ga, oa, none⟩) nE cE nW cW x d c w1.heap.size W3 (hlp.own.below t3) (Nat.le_trans hlp.le t3.size) (hlp.like.sorted HSo.out) hwk)
      have HB3 := Lib.hid t3; have HW3 := Lib.hid hW3; have HLP := Lib.hid hlp; have HT3 := Lib.hid (hlp.two.below t3)
      have HGE : Hid (w.heap.size < w1.heap.size) := Lib.hid (by have := hlp.ge; omega)
      have HLk := Lib.hid (hlp.like.trans (like_done hwk))
      have m0 : (0 : Int) ≤ (k : Int) := by omega
      have m1 : (k : Int) < (nW : Int) := by omega
      have lw : w.heap.size < wr.heap.size := hlp.two.d.lt
      obtain ⟨q0, q1, q2, q3, q4⟩ := hlp.two.d.five
      simp only at q0 q1 q2 q3 q4
      have hse2 : setlE (fun _ => true) 0 L E = setlE (fun _ => true) (k + 1) (L.drop (k + 1)) (doneE C (x, c, d)) := by rw [hse, setlE_step _ L k C hkL, if_pos rfl, hxe]
      have HS2 := Lib.hid hse2
      clear hse hse2 hlp hwk hxx hcc hdd hxe hkL t3 hW3
      go_wp2_with fail
      rw [← HW3.out]
      refine HDn.out.mono ?_
      rintro e w4 ⟨rfl, ho4, b4⟩
      have LN := Lib.hid (HLP.out.next HB3.out b4 ho4 (HLk.out))
      have x4 := (HT3.out.d.belowB b4 HGE.out)
      obtain ⟨p0, p1, p2, p3, p4⟩ := x4.five
      obtain ⟨f0, f1, f2, f3, f4⟩ := x4.fiveF
      clear ho4 b4 x4
      go_wp2_with fail
      go_roundw
      case rel => exact ⟨k + 1, _, by omega, by go_num, HS2.out, LN.out⟩
      case measure => simp [intOf]; omega
    · have hke : k = L.length := by rw [← HNW.out]; omega
      have hsf : setlE (fun _ => true) 0 L E = C := by rw [hse, hke, setlE_over]
      have HLP := Lib.hid hlp
      have HFin : Hid (∀ W, Bar wr W (fun k => k = w.heap.size ∨ k = w.heap.size + 1) → AnsP w ⟨z, setlE (fun _ => true) 0 L E, [], fz, dn⟩ 0 (.returned (.tuple #[.agg #[.int .i64 z, .slice pE nE cE, .slice none 0 0, .int .i64 fz, .bool dn], .int .i64 0])) W) := Lib.hid (fun W hb => by rw [hsf]; exact HLP.out.fin hb fz dn HLf 0)
      have t : decide (k < nW) = false := decide_eq_false hlt
      obtain ⟨p0, p1, p2, p3, p4⟩ := hlp.two.d.five
      obtain ⟨f0, f1, f2, f3, f4⟩ := hlp.two.d.fiveF
      obtain ⟨r0, r1, r2, r3, r4⟩ := hlp.two.r.five
      obtain ⟨k0, k1, k2, k3, k4⟩ := hlp.two.r.fiveF
      simp only at p0 p1 p2 p3 p4
      clear hse hlp hke hsf
      go_wp2_with fail
      (try simp only [Exit.inBlock, Exit.then])
      refine bodyPost_ret (v := .tuple #[.agg #[.int .i64 z, .slice pE nE cE, .slice none 0 0, .int .i64 fz, .bool dn], .int .i64 0]) ?_ rfl ?_
      · rw [results_cell_tmp rfl]
        go_simp
      · refine HFin.out _ ?_
        repeat (first | refine Bar.setCell ?_ (by first | exact Or.inl rfl | exact Or.inr rfl) _ | exact Bar.refl _ _)
end Go.Proofs.Ytejmbbhbimgheaa.Dk
namespace Go.Proofs.Ytejmbbhbimgheaa.Dk
open Go.RowKit Go.Op Rw

theorem Loop.below {w wr w2 : World} {B : Nat} {z : Int} {E C : List Ext} {L : List Wr} {fz : Int} {dn : Bool} {v : DVal} (h : Loop w wr B z E C L fz dn v) (h2 : Below wr.heap.size wr w2) : Loop w w2 B z E C L fz dn v :=
  ⟨h.two.below h2, h.own.below h2, h.like, h.ge, Nat.le_trans h.le h2.size⟩
set_option maxHeartbeats 16000000 in
set_option maxRecDepth 100000 in
theorem rCrash_any (D : Dsk) (v : DVal) (K : List Bool) (pK : Option Addr) (nK cK : Nat) (w : World) (h : VarAt w D v) (hc : v.nE ≤ v.cE) (hf : Few D) (hnK : nK = K.length) (hK : Rd w pK (bools K)) (hKl : nK ≤ 9223372036854775807) :
    Calls Try.prog 27 #[.agg #[.int .i64 D.size, .slice v.pE v.nE v.cE, .slice v.pW v.nW v.cW, .int .i64 D.fuse, .bool D.down], .slice pK nK cK] w (AnsP w (crD D K) (ckE D)) := by
  obtain ⟨W2, hW2⟩ : ∃ W2, W2 = ((w.alloc (.cells #[.int .i64 D.size, .slice v.pE v.nE v.cE, .slice v.pW v.nW v.cW, .int .i64 D.fuse, .bool D.down] 25)).alloc (.cells #[.int .i64 0, .slice none 0 0, .slice none 0 0, .int .i64 0, .bool false] 25)) := ⟨_, rfl⟩
  have tw := Two.new w D v
  rw [← hW2] at tw
  have hv := h.below tw.b
  have HW2 := Lib.hid hW2
  have HRK : Hid (∀ W, Below w.heap.size w W → Rd W pK (bools K)) := Lib.hid (fun W hb => hK.below hb)
  have HNK := Lib.hid hnK
  have HCk : Hid (∀ W, Below W2.heap.size W2 W → Calls Try.prog 19 #[.agg #[.int .i64 D.size, .slice v.pE v.nE v.cE, .slice v.pW v.nW v.cW, .int .i64 D.fuse, .bool D.down]] W fun e w' => e = .returned (.int .i64 (ckE D)) ∧ Below W.heap.size W w') := Lib.hid (fun W hb => rCheck_any D v W (hv.below hb) hc)
  have HCp : Hid (∀ W, Below W2.heap.size W2 W → Calls Try.prog 5 #[.agg #[.int .i64 D.size, .slice v.pE v.nE v.cE, .slice v.pW v.nW v.cW, .int .i64 D.fuse, .bool D.down]] W (CpP W D)) := Lib.hid (fun W hb => rCopy_any D v W (hv.below hb) hf)
  have TW := Lib.hid tw
  obtain ⟨q0, q1, q2, q3, q4⟩ := tw.d.five
  clear h hc hf tw hv hW2 hnK hK
  rcases ckE_cases D with hk | hk
  case inr =>
    have F : Hid (Dsk0 = crD D K ∧ (2 : Int) = ckE D) := Lib.hid ⟨by
      show Dsk0 = if ckE D = 0 then _ else Dsk0
      rw [hk, if_neg (by decide)], hk.symm⟩
    rw [hk] at HCk
    clear hk
    go_enter Try.func27, Try.ntmps27
    go_wp2_with fail
    rw [← HW2.out]
    refine (HCk.out _ (Below.refl _ _)).mono ?_
    rintro e w1 ⟨rfl, b1⟩
    have TW1 := Lib.hid (TW.out.below b1)
    obtain ⟨p0, p1, p2, p3, p4⟩ := TW1.out.r.five
    obtain ⟨f0, f1, f2, f3, f4⟩ := TW1.out.r.fiveF
    have HFin : Hid (∀ W, Bar w1 W (fun k => k = w.heap.size ∨ k = w.heap.size + 1) → AnsP w (crD D K) (ckE D) (.returned (.tuple #[.agg #[.int .i64 0, .slice none 0 0, .slice none 0 0, .int .i64 0, .bool false], .int .i64 2])) W) := Lib.hid (fun W hb => by rw [← F.out.1]; exact ans_zero hb TW1.out.b F.out.2)
    clear b1
    go_wp2_with fail
    (try simp only [Exit.inBlock, Exit.then])
    refine bodyPost_ret (v := .tuple #[.agg #[.int .i64 0, .slice none 0 0, .slice none 0 0, .int .i64 0, .bool false], .int .i64 2]) ?_ rfl ?_
    · rw [results_cell_tmp rfl]
      go_simp
    · refine HFin.out _ ?_
      repeat (first | refine Bar.setCell ?_ (by first | exact Or.inl rfl | exact Or.inr rfl) _ | exact Bar.refl _ _)
  have hck : chkB D.size D.E D.W D.fuse = true := by
    cases hb : chkB D.size D.E D.W D.fuse with
    | true => rfl
    | false =>
      have : ckE D = 2 := by show chkE D.size D.E D.W D.fuse = 2; unfold chkE; rw [hb]; rfl
      omega
  have hg := chk_good hck
  have HK := Lib.hid (wtR_all hg.2.2.2.2)
  have HSo := Lib.hid (rising_sorted (exR_rising hg.2.2.2.1))
  have hn1 : D.W.length ≤ 16384 := wtR_length hg.2.2.2.2
  have eD : crD D K = ⟨D.size, setlE (kpK K) 0 D.W D.E, [], -1, false⟩ := by
    show (if ckE D = 0 then _ else Dsk0) = _
    rw [if_pos hk]
  rw [hk] at HCk ⊢
  rw [eD]
  clear hk eD hck hg
  obtain ⟨z, E, L, fz, dn⟩ := D
  simp only at HCk HCp HK HSo hn1 q0 q1 q2 q3 q4 ⊢
  go_enter Try.func27, Try.ntmps27
  go_wp2_with fail
  rw [← HW2.out]
  refine (HCk.out _ (Below.refl _ _)).mono ?_
  rintro e w1 ⟨rfl, b1⟩
  have TW1 := Lib.hid (TW.out.below b1)
  obtain ⟨q0, q1, q2, q3, q4⟩ := TW1.out.d.five
  have HBC := Lib.hid b1
  clear b1
  go_wp2_with fail
  refine (HCp.out _ HBC.out).mono ?_
  rintro e w3 ⟨⟨pE, nE, cE, pW, nW, cW⟩, rfl, hown, b3⟩
  have tw3 := TW1.out.below b3
  obtain ⟨p0, p1, p2, p3, p4⟩ := tw3.d.five
  obtain ⟨f0, f1, f2, f3, f4⟩ := tw3.d.fiveF
  have HNW : Hid (nW = L.length) := Lib.hid hown.hW
  have hnw2 : nW ≤ 16384 := by have := HNW.out; omega
  have LP0 := Loop.start TW1.out b3 hown
  obtain ⟨S, hS⟩ : ∃ S, S = (((((w3.setCell ⟨w.heap.size, 0, none⟩ (.int .i64 z)).setCell ⟨w.heap.size, 1, none⟩ (.slice pE nE cE)).setCell ⟨w.heap.size, 2, none⟩ (.slice pW nW cW)).setCell ⟨w.heap.size, 3, none⟩ (.int .i64 fz)).setCell ⟨w.heap.size, 4, none⟩ (.bool dn)) := ⟨_, rfl⟩
  rw [← hS] at LP0
  have LP := Lib.hid LP0; have HS := Lib.hid hS
  simp only at p0 p1 p2 p3 p4
  clear hown b3 tw3 LP0 hS
  go_wp2_with fail
  rw [← HS.out]
  clear HS p0 p1 p2 p3 p4 f0 f1 f2 f3 f4 q0 q1 q2 q3 q4
  go_loopw [6, 7, 17] (fun _ _ i wr => ∃ (k : Nat) (C : List Ext), k ≤ nW ∧ i = .int .i64 k ∧ setlE (kpK K) 0 L E = setlE (kpK K) k (L.drop k) C ∧ Loop w wr w1.heap.size z E C L fz dn ⟨pE, nE, cE, pW, nW, cW⟩) (fun _ _ i _ => nW - (intOf i).toNat)
  case atStart => exact ⟨0, E, by omega, rfl, rfl, LP.out⟩
  case round =>
    obtain ⟨k, C, hk, rfl, hse, hlp⟩ := hrel
    by_cases hlt : k < nW
    · have hkL : k < L.length := by rw [← HNW.out]; exact hlt
      obtain ⟨ga, oa, rfl, hga, d0, d1, d2, s1, s2⟩ := hlp.own.at.W k hkL
      obtain ⟨x, hxx⟩ : ∃ x, x = (L.getD k default).1 := ⟨_, rfl⟩
      obtain ⟨c, hcc⟩ : ∃ c, c = (L.getD k default).2.1 := ⟨_, rfl⟩
      obtain ⟨d, hdd⟩ : ∃ d, d = (L.getD k default).2.2 := ⟨_, rfl⟩
      have hxe : L.getD k default = (x, c, d) := by rw [hxx, hcc, hdd]
      simp only at d0 d1 d2
      rw [← hxx] at d0 s1; rw [← hcc] at d1; rw [← hdd] at d2 s2
      have hwk : wrOk C (x, c, d) = true := by
        rw [hlp.like.wrOk, ← hxe]
        exact List.all_eq_true.1 HK.out _ (by simp [List.getD_eq_getElem?_getD, List.getElem?_eq_getElem hkL])
      obtain ⟨W3, hW3⟩ : ∃ W3, W3 = wr.alloc (.cells #[.string x, .int .i64 c, .string d] 63) := ⟨_, rfl⟩
      have t3 : Below wr.heap.size wr W3 := by rw [hW3]; exact (Below.refl _ _).alloc (Nat.le_refl _) _
      have HDn := Lib.hid (rdone2 z C L fz dn pE (some ⟨ga, oa, none⟩) nE cE nW cW x d c w1.heap.size W3 (hlp.own.below t3) (Nat.le_trans hlp.le t3.size) (hlp.like.sorted HSo.out) hwk)
      have HB3 := Lib.hid t3; have HW3 := Lib.hid hW3; have HLP := Lib.hid hlp; have HT3 := Lib.hid (hlp.two.below t3)
      have HGE : Hid (w.heap.size < w1.heap.size) := Lib.hid (by have := hlp.ge; omega)
      have HLk := Lib.hid (hlp.like.trans (like_done hwk))
      have m0 : (0 : Int) ≤ (k : Int) := by omega
      have m1 : (k : Int) < (nW : Int) := by omega
      have lw : w.heap.size < wr.heap.size := hlp.two.d.lt
      obtain ⟨q0, q1, q2, q3, q4⟩ := hlp.two.d.five
      simp only at q0 q1 q2 q3 q4
      have hse1 : setlE (kpK K) 0 L E = setlE (kpK K) (k + 1) (L.drop (k + 1)) (if kpK K k = true then doneE C (x, c, d) else C) := by rw [hse, setlE_step _ L k C hkL, hxe]
      have HSE := Lib.hid hse1
      have HRD : Hid (Rd (wr.alloc (.cells #[.string x, .int .i64 c, .string d] 63)) pK (bools K)) := Lib.hid (by rw [← hW3]; exact HRK.out W3 (hlp.two.b.trans (t3.mono hlp.two.b.size)))
      have LB := Lib.hid (hlp.below t3)
      clear hse hse1 hlp hwk hxx hcc hdd hxe hkL t3 hW3
      by_cases hkn : k < nK
      case neg =>
        have t1 : decide (k < nK) = false := decide_eq_false hkn
        have HS2 : Hid (setlE (kpK K) 0 L E = setlE (kpK K) (k + 1) (L.drop (k + 1)) C) := Lib.hid (by
          have hb : kpK K k = false := by
            unfold kpK
            rw [List.getD_eq_getElem?_getD, List.getElem?_eq_none (by rw [← HNK.out]; omega)]
            rfl
          have e := HSE.out
          rw [hb] at e
          exact e)
        clear hkn
        go_wp2_with fail
        rw [← HW3.out]
        go_roundw
        case rel => exact ⟨k + 1, _, by omega, by go_num, HS2.out, LB.out⟩
        case measure => simp [intOf]; omega
      obtain ⟨ak, rfl, hal, hkc⟩ := HRD.out k (by simp [bools]; rw [← HNK.out]; exact hkn)
      rw [bools_getD K k (by rw [← HNK.out]; exact hkn)] at hkc
      have t1 : decide (k < nK) = true := decide_eq_true hkn
      have m2 : (k : Int) < (nK : Int) := by omega
      cases hb : K.getD k false with
      | false =>
        rw [hb] at hkc
        have HS2 : Hid (setlE (kpK K) 0 L E = setlE (kpK K) (k + 1) (L.drop (k + 1)) C) := Lib.hid (by
          have hb2 : kpK K k = false := hb
          have e := HSE.out
          rw [hb2] at e
          exact e)
        clear hkn hb hal
        go_wp2_with fail
        rw [← HW3.out]
        go_roundw
        case rel => exact ⟨k + 1, _, by omega, by go_num, HS2.out, LB.out⟩
        case measure => simp [intOf]; omega
      | true =>
        rw [hb] at hkc
        have HS2 : Hid (setlE (kpK K) 0 L E = setlE (kpK K) (k + 1) (L.drop (k + 1)) (doneE C (x, c, d))) := Lib.hid (by
          have hb2 : kpK K k = true := hb
          have e := HSE.out
          rw [hb2] at e
          exact e)
        clear hkn hb hal
        go_wp2_with fail
        rw [← HW3.out]
        refine HDn.out.mono ?_
        rintro e w4 ⟨rfl, ho4, b4⟩
        have LN := Lib.hid (HLP.out.next HB3.out b4 ho4 (HLk.out))
        have x4 := (HT3.out.d.belowB b4 HGE.out)
        obtain ⟨p0, p1, p2, p3, p4⟩ := x4.five
        obtain ⟨f0, f1, f2, f3, f4⟩ := x4.fiveF
        clear ho4 b4 x4
        go_wp2_with fail
        go_roundw
        case rel => exact ⟨k + 1, _, by omega, by go_num, HS2.out, LN.out⟩
        case measure => simp [intOf]; omega
    · have hke : k = L.length := by rw [← HNW.out]; omega
      have hsf : setlE (kpK K) 0 L E = C := by rw [hse, hke, setlE_over]
      have HLP := Lib.hid hlp
      have HFin : Hid (∀ W, Bar wr W (fun k => k = w.heap.size ∨ k = w.heap.size + 1) → AnsP w ⟨z, setlE (kpK K) 0 L E, [], -1, false⟩ 0 (.returned (.tuple #[.agg #[.int .i64 z, .slice pE nE cE, .slice none 0 0, .int .i64 (-1), .bool false], .int .i64 0])) W) := Lib.hid (fun W hb => by rw [hsf]; exact HLP.out.fin hb (-1) false (by decide) 0)
      have t : decide (k < nW) = false := decide_eq_false hlt
      obtain ⟨p0, p1, p2, p3, p4⟩ := hlp.two.d.five
      obtain ⟨f0, f1, f2, f3, f4⟩ := hlp.two.d.fiveF
      obtain ⟨r0, r1, r2, r3, r4⟩ := hlp.two.r.five
      obtain ⟨k0, k1, k2, k3, k4⟩ := hlp.two.r.fiveF
      simp only at p0 p1 p2 p3 p4
      clear hse hlp hke hsf
      go_wp2_with fail
      (try simp only [Exit.inBlock, Exit.then])
      refine bodyPost_ret (v := .tuple #[.agg #[.int .i64 z, .slice pE nE cE, .slice none 0 0, .int .i64 (-1), .bool false], .int .i64 0]) ?_ rfl ?_
      · rw [results_cell_tmp rfl]
        go_simp
      · refine HFin.out _ ?_
        repeat (first | refine Bar.setCell ?_ (by first | exact Or.inl rfl | exact Or.inr rfl) _ | exact Bar.refl _ _)
end Go.Proofs.Ytejmbbhbimgheaa.Dk

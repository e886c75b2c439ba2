/- PsE PsF PsG PsH PsI PsJ PkProg -/
import Derived.Test.YtbegngilbngnoaaDoorPsD
import Derived.Test.YtbegngilbngnoaaDoorPkG
import Derived.Deep.RegionLaw
import Derived.Deep.AppendLies
import Derived.RangeFuncBox
import Derived.Test.YtbegngilbngnoaaDoorRows
import Derived.RangeFuncNested
import Derived.RangeFuncBound
import Derived.RangeFuncCalls
import Derived.RangeFuncLeaves
import Derived.RangeFuncWrites
import Derived.Lib.Hide
import Derived.OwnWalkIn
import Derived.TacticsInMore
import Derived.LoopNIn
import Derived.LoopIn
import Derived.Shelf.RegionOpen
namespace Go.Proofs.YtbegngilbngnoaaDoor.Ps
open Go.RowKit Go.Lib Rw Ls Od Pk St _root_.Go.Proofs.YtbegngilbngnoaaDoor.Nm
open Go.Sort (grow)

open Go.Op in
/-- append one element to a row of one's own, at a step of a region that draws its order; where the row lies then -/
theorem step_own2 {P : Program} {ops : Array Oper} {o : Oper} {a : Act} {K : Act → World → Prop} {Q : Exit → Act → World → Prop} {E : Prop} (W : World) (hgd : o.guard = none) (s x : Operand) (t : TypeId)
    (ho : o.op = .call { callee := .builtin .append, args := #[s, x], argTypes := #[t, t] })
    (base : Nat) (e : TypeId) (i : TypeInfo) (z : Value) (size bytes : Nat) (ht : P.underlying t = some (.slice e)) (hi : P.info? e = some i) (hz : i.zero = some z)
    (hsize : i.size = size) (hby : i.bytes = bytes) (hzs : z.cells.size = size) (hsz : 0 < size)
    (v : Value) (n : Nat) (xs : List Value) (hs : a.eval s = v) (hown : W.ownsRow base e size v n xs)
    (news : List Value) (hx : a.eval x = .slice (some ⟨W.heap.size, 0, none⟩) 1 1) (hl : news.length = size) (h1c : news.all (fun u => u.oneCell') = true)
    (hn : n ≤ 1000000000) (hb2 : bytes ≤ 1000) (hbase : base ≤ W.heap.size)
    (hK : ∀ g cap w', w'.ownsRow base e size (.slice (some ⟨g, 0, none⟩) (n + 1) cap) (n + 1) (xs ++ news) → (W.alloc (.cells news.toArray e)).grownBy w' v.ownBlock → (v.ownBlock = some g ∨ g = W.heap.size + 1) → K (a.put o.dst (.slice (some ⟨g, 0, none⟩) (n + 1) cap)) w') :
    if Region.wanted o (yielded ops a.tmps) = true then Oper.wp P o a (W.alloc (.cells news.toArray e)) K Q else E := by
  have hown2 := Rw.own_below hown ((RowKit.Below.refl _ W).alloc (Nat.le_refl _) (.cells news.toArray e))
  refine step_append_lies _ hgd s x t ho base e i z size bytes ht hi hz hsize hby hzs hsz v n xs hs hown2 ⟨W.heap.size, 0, none⟩ 1 1 news hx (by omega) ?_ (fun u hu => List.all_eq_true.1 h1c u hu) (by decide) (by unfold maxLen; omega) ?_ (by simp; omega) (W.heap.size + 1) (by simp) ?_
  · intro j u hj
    exact World.news_of_block (cs := news.toArray) (heap_alloc_new W _) j u (by simpa using hj)
  · have : (n + 1) * bytes ≤ (1000000000 + 1) * 1000 := Nat.mul_le_mul (by omega) hb2
    omega
  · intro g cap w' h1 h2 h3 _
    exact hK g cap w' h1 h2 h3
theorem info_pk : (Tryd.prog.info? 89).map (fun i => (i.zero, i.size, i.bytes)) = some (some (.agg #[.int .u64 0, .bool false]), 2, 16) := by kernel_rfl
theorem pcs_one (V : Nat → Nat) (T : List Tr) : ∀ u ∈ pcs V T, u.oneCell' = true := by
  intro u hu
  unfold pcs at hu
  obtain ⟨t, _, h⟩ := List.mem_flatMap.1 hu
  exact pv_one V t u h
/-- packages, new -/
def PkP (w : World) (V : Nat → Nat) (n : Nat) (T : List Tr) (e : Ending) (w' : World) : Prop := ∃ (g cap : Nat), e = .returned (.slice (some ⟨g, 0, none⟩) n cap) ∧ PkAt w' w.heap.size V g n cap T ∧ w.heap.size ≤ g ∧ g < w'.heap.size ∧ Below w.heap.size w w'
set_option maxHeartbeats 4000000 in
theorem clonep_any (V : Nat → Nat) (T : List Tr) (ga n c : Nat) (w : World) (hn : n = T.length) (h0 : 0 < n) (hl : n ≤ 1000000) (hp : Rd w (some ⟨ga, 0, none⟩) (pcs V T)) :
    Calls Tryd.prog 65 #[.slice (some ⟨ga, 0, none⟩) n c] w (PkP w V n T) := by
  have hnil : ∀ W, (binOp .eql 87 (.slice (some ⟨ga, 0, none⟩) n c) (.slice none 0 0)).run Tryd.prog W = .ok (.bool false) W := fun W => run_eql_slice_nil W 87 89 (some ⟨ga, 0, none⟩) n c Tryd.underlying87
  obtain ⟨i0, hi0, hz0, hz1, hz2⟩ := info_parts info_pk
  have own0 : (w.alloc (.cells #[] 89)).ownsRow w.heap.size 89 2 (.slice (some ⟨w.heap.size, 0, none⟩) 0 0) 0 [] :=
    World.ownsRow_lit (e := 89) (base := w.heap.size) (size := 2) w #[] 0 (by omega) (by decide) rfl
  have HO := Lib.hid own0
  have HR := Lib.hid (hp.alloc (.cells #[] 89))
  have HL : Hid ((pcs V T).length = n * 2) := Lib.hid (by rw [pcs_length, hn]; omega)
  have H1 := Lib.hid (pcs_one V T)
  have HB : Hid (Below w.heap.size w (w.alloc (.cells #[] 89))) := Lib.hid ((Below.refl _ _).alloc (Nat.le_refl _) _)
  clear own0 hp hn
  go_enter Tryd.func65, Tryd.ntmps65
  go_wp2_with (at_builtin; refine wpList_app rfl _ _ 87 rfl w.heap.size 89 i0 (.agg #[.int .u64 0, .bool false]) 2 16 Tryd.underlying87 hi0 hz0 hz1 hz2 rfl (by decide) (.slice (some ⟨w.heap.size, 0, none⟩) 0 0) 0 [] rfl (some ⟨ga, 0, none⟩) n c (pcs V T) rfl HL.out H1.out (by unfold maxLen; omega) (by omega) HO.out HR.out (by simp) ?_)
  intro v' w' hown _ hb _
  try rw [List.nil_append] at hown
  try rw [Nat.zero_add] at hown
  obtain ⟨n', rfl⟩ : ∃ m, n = m + 1 := ⟨n - 1, by omega⟩
  obtain ⟨g, cap, rfl⟩ := ownsRow_succ hown
  have F : Hid (PkP w V (n' + 1) T (.returned (.slice (some ⟨g, 0, none⟩) (n' + 1) cap)) w') := Lib.hid ⟨g, cap, rfl, hown, (hown.lt g rfl).1, (hown.lt g rfl).2, HB.out.trans hb⟩
  clear hown hb
  go_wp2_with fail
  go_ret
  exact F.out
theorem own_grows {w w1 : World} {B g n cap : Nat} {o : Obj} (h1 : B ≤ g) (hg : (w.drew.alloc o).grownBy w1 (Value.ownBlock (.slice (some ⟨g, 0, none⟩) n cap))) (hB : B ≤ w.heap.size) : Below B w w1 :=
  (((Below.refl B w).drew).alloc (by exact hB) _).grown hg (by simp; omega) (fun j e => by simp [Value.ownBlock] at e; omega)
theorem take_succ_prs {T : List Tr} {k : Nat} (h : 2 * k + 1 < T.length) : (prs T).take (k + 1) = (prs T).take k ++ [.nd (T[2 * k]'(by omega)) T[2 * k + 1]] := by
  obtain ⟨h2, e⟩ := prs_at T k h
  rw [List.take_succ_eq_append_getElem h2, e]
theorem pk_cell {V : Nat → Nat} {T : List Tr} {w : World} {g : Nat} (h : Rd w (some ⟨g, 0, none⟩) (pcs V T)) {i : Nat} (hi : i < T.length) : w.cell? ⟨g, i * 2, none⟩ = some (.int .u64 ((T[i].wt V : Nat) : Int)) ∧ w.cell? ⟨g, i * 2 + 1, none⟩ = some (.bool (leaf T[i])) := by
  have e1 := pcs_at V T i 0 hi (by omega)
  have e2 := pcs_at V T i 1 hi (by omega)
  have h1 := h.at (i := i * 2) (by rw [pcs_length]; omega)
  have h2 := h.at (i := i * 2 + 1) (by rw [pcs_length]; omega)
  rw [List.getD_eq_getElem?_getD, Addr.add_lit, Nat.zero_add] at h1 h2
  rw [show (pcs V T)[i * 2]? = (pcs V T)[i * 2 + 0]? from rfl, e1] at h1
  rw [e2] at h2
  exact ⟨h1, h2⟩
set_option maxHeartbeats 8000000 in
set_option maxRecDepth 100000 in
theorem level_any (V : Nat → Nat) (A T : List Tr) (ga gt n m c d : Nat) (w : World) (hn : n = A.length) (hm : m = T.length) (h0 : 0 < n) (hl : n ≤ 1000) (hl2 : m ≤ 2000) (hA : Up (Tr.wt V) A) (hT : Up (Tr.wt V) T) (hw : ∀ t ∈ T, t.wt V ≤ 4000000000000000000)
    (hp : Rd w (some ⟨ga, 0, none⟩) (pcs V A)) (hq : Rd w (some ⟨gt, 0, none⟩) (pcs V T)) :
    Calls Tryd.prog 52 #[.slice (some ⟨ga, 0, none⟩) n c, .slice (some ⟨gt, 0, none⟩) m d] w fun e w' => ∃ (g cap : Nat), e = .returned (.slice (some ⟨g, 0, none⟩) (n + m / 2) cap) ∧ w.heap.size ≤ g ∧ g < w'.heap.size ∧ n + m / 2 ≤ cap ∧ Rd w' (some ⟨g, 0, none⟩) (pcs V (mrg (Tr.wt V) A (prs T))) ∧ Below w.heap.size w w' := by
  obtain ⟨i0, hi0, hz0, hz1, hz2⟩ := info_parts info_pk
  have CC := Lib.hid (clonep_any V A ga n c w hn h0 (by omega) hp)
  have HN := Lib.hid hn; have HM := Lib.hid hm; have HW := Lib.hid hw; have HA := Lib.hid hA; have HT := Lib.hid hT
  have HQ : Hid (∀ W, Below w.heap.size w W → Rd W (some ⟨gt, 0, none⟩) (pcs V T)) := Lib.hid (fun W hb => hq.below hb)
  obtain ⟨B, hB⟩ : ∃ B, B = w.heap.size := ⟨_, rfl⟩
  have HBW := Lib.hid hB
  rw [← hB] at HQ
  have CR : Hid (∀ (g cap sz : Nat) (W : World), sz = n + m / 2 → PkAt W B V g sz cap (A ++ prs T) → g < W.heap.size → B ≤ g → B ≤ W.heap.size → Calls Tryd.prog 66 #[.slice (some ⟨g, 0, none⟩) sz cap, .func (.func 67) #[] #[]] W fun e w' => e = .returned (.tuple #[]) ∧ Below B W w' ∧ Rd w' (some ⟨g, 0, none⟩) (pcs V (mrg (Tr.wt V) A (prs T)))) :=
    Lib.hid (fun g cap sz W h1 h2 h3 h4 h5 => risek_any V A (prs T) B g cap sz W (by omega) (by rw [h1, List.length_append, prs_length, hn, hm]) (by omega) h5 hA (prs_up hT) h2 h3 h4)
  clear hp hq hn hm hw hA hT hB
  go_enter Tryd.func52, Tryd.ntmps52
  go_wp2_with fail
  refine CC.out.mono ?_
  rintro e w1 ⟨g0, cap0, rfl, ho, hg0, hgl, hb⟩
  rw [← HBW.out] at ho hg0 hb
  have HO0 := Lib.hid ho; have HB0 := Lib.hid hb
  clear ho hb CC
  go_wp2_with fail
  go_loopw [5, 6] (fun v i wr => ∃ (k g cap : Nat), i = .int .i64 ((2 * k + 1 : Nat) : Int) ∧ v = .slice (some ⟨g, 0, none⟩) (n + k) cap ∧ 2 * k ≤ m ∧ B ≤ g ∧ g < wr.heap.size ∧ Hid (PkAt wr B V g (n + k) cap (A ++ (prs T).take k)) ∧ Hid (Below B w wr)) (fun _ i _ => m + 2 - (intOf i).toNat)
  case atStart => exact ⟨0, g0, cap0, rfl, rfl, by omega, hg0, hgl, Lib.hid (by rw [List.take_zero, List.append_nil]; exact HO0.out), HB0⟩
  case round =>
    clear hg0 hgl
    obtain ⟨k, g, cap, rfl, rfl, hk, hgB, hgl, HO, HB⟩ := hrel
    have hwz : B ≤ wr.heap.size := by omega
    have HR := Lib.hid (HQ.out wr (by exact HB.out))
    by_cases hlt : 2 * k + 1 < m
    · obtain ⟨i1, hi1⟩ : ∃ x, x = 2 * k + 1 := ⟨_, rfl⟩
      obtain ⟨i2, hi2⟩ : ∃ x, x = 2 * k := ⟨_, rfl⟩
      have hT1 : i1 < T.length := by rw [← HM.out]; omega
      have hT2 : i2 < T.length := by rw [← HM.out]; omega
      have c1 := (pk_cell HR.out hT1).1
      have c2 := (pk_cell HR.out hT2).1
      have hw1 := HW.out T[i1] (List.getElem_mem _)
      have hw2 := HW.out T[i2] (List.getElem_mem _)
      have HNX : Hid (pcs V (A ++ (prs T).take (k + 1)) = pcs V (A ++ (prs T).take k) ++ [.int .u64 ((T[i2].wt V + T[i1].wt V : Nat) : Int), .bool false]) := Lib.hid (by
        subst hi1 hi2
        rw [take_succ_prs (by rw [← HM.out]; exact hlt), ← List.append_assoc, pcs_app]
        rfl)
      obtain ⟨x1, hx1⟩ : ∃ x, x = T[i1].wt V := ⟨_, rfl⟩
      obtain ⟨x2, hx2⟩ : ∃ x, x = T[i2].wt V := ⟨_, rfl⟩
      rw [← hx1] at c1 hw1 HNX
      rw [← hx2] at c2 hw2 HNX
      obtain ⟨x3, hx3⟩ : ∃ x, x = x2 + x1 := ⟨_, rfl⟩
      rw [← hx3] at HNX
      have e1 : (x2 : Int) + (x1 : Int) = (x3 : Int) := by omega
      have e2 : IntKind.u64.wrap ((x3 : Int)) = (x3 : Int) := IntWalk.u64_in _ (by omega)
      rw [← hi1]
      have z1 : (i1 : Int) - 1 = (i2 : Int) := by omega
      have z2 : IntKind.i64.wrap ((i2 : Int)) = (i2 : Int) := IntWalk.i64_in _ (by omega)
      have z3 : (0 : Int) ≤ (i1 : Int) := by omega
      have z4 : (i1 : Int) < (m : Int) := by omega
      have z5 : (0 : Int) ≤ (i2 : Int) := by omega
      have z6 : (i2 : Int) < (m : Int) := by omega
      have HI1 := Lib.hid hi1
      obtain ⟨i3, hi3⟩ : ∃ x, x = 2 * (k + 1) + 1 := ⟨_, rfl⟩
      have z7 : (i1 : Int) + 2 = (i3 : Int) := by omega
      have z8 : IntKind.i64.wrap ((i3 : Int)) = (i3 : Int) := IntWalk.i64_in _ (by omega)
      have HI3 := Lib.hid hi3
      have hk2 : 2 * (k + 1) ≤ m := by omega
      have hmes : m + 2 - i3 < m + 2 - i1 := by omega
      obtain ⟨nk, hnk⟩ : ∃ x, x = n + k := ⟨_, rfl⟩
      rw [← hnk] at HO ⊢
      have HNK := Lib.hid hnk
      have hnkb : nk ≤ 1000000 := by omega
      clear hi1 hi2 hx1 hx2 hx3 hT1 hT2 hw1 hw2 hi3 hnk hlt
      go_wp2_with fail
      go_region_law (first
        | (refine step_own2 wr.drew (by rfl) _ _ 87 (by rfl) B 89 i0 (.agg #[.int .u64 0, .bool false]) 2 16 Tryd.underlying87 hi0 hz0 hz1 hz2 (by rfl) (by decide) (.slice (some ⟨g, 0, none⟩) nk cap) nk _ (by rfl) HO.out [.int .u64 (x3 : Nat), .bool false] (by rfl) (by rfl) (by rfl) (by omega) (by omega) (by show B ≤ wr.heap.size; omega) ?_
           intro g1 cap1 w1 hown hgr hor
           have HB1 : Hid (Below B w w1) := Lib.hid (HB.out.trans (own_grows hgB hgr hwz))
           have hg1 : B ≤ g1 := by
             rcases hor with h | h
             · have : g = g1 := by simpa [Value.ownBlock] using h
               omega
             · have : g1 = wr.heap.size + 1 := h
               omega
           have hgl1 := (hown.lt g1 rfl).2
           have HO1 : Hid (PkAt w1 B V g1 (nk + 1) cap1 (A ++ (prs T).take (k + 1))) := Lib.hid (by unfold PkAt; rw [HNX.out]; exact hown)
           clear hown hgr hor))
      all_goals go_wp2_with fail
      all_goals go_roundw
      all_goals (first
        | (show m + 2 - _ < m + 2 - _; simp [intOf]; omega)
        | exact ⟨k + 1, g1, cap1, by rw [← HI3.out], by rw [HNK.out]; rfl, hk2, hg1, hgl1, by rw [HNK.out] at HO1; exact HO1, HB1⟩)
    · have hkm : k = m / 2 := by omega
      have hall : (prs T).take k = prs T := List.take_of_length_le (by rw [prs_length, ← HM.out]; omega)
      have z1 : ¬ ((2 * k + 1 : Nat) : Int) < (m : Int) := by omega
      have z2 : decide ((((2 * k + 1 : Nat) : Int)) < (m : Int)) = false := decide_eq_false z1
      have C1 := Lib.hid (CR.out g cap (n + k) wr (by omega) (by have := HO.out; rw [hall] at this; exact this) hgl hgB hwz)
      have hcap : n + k ≤ cap := by
        rcases HO.out.2 with ⟨h, _⟩ | ⟨g2, cap2, cur, h, _, _, hc2, _⟩
        · cases h
        · simp only [Value.slice.injEq] at h; rw [h.2.2]; exact hc2
      have HKM := Lib.hid hkm
      obtain ⟨nk, hnk⟩ : ∃ x, x = n + k := ⟨_, rfl⟩
      rw [← hnk] at C1 hcap ⊢
      have HNK := Lib.hid hnk
      obtain ⟨i1, hi1⟩ : ∃ x, x = 2 * k + 1 := ⟨_, rfl⟩
      rw [← hi1] at z1 z2 ⊢
      clear hkm hall hnk hlt hi1
      go_wp2_with fail
      refine C1.out.mono ?_
      rintro e w3 ⟨rfl, h1, h2⟩
      have H1 := Lib.hid h1; have H2 := Lib.hid h2
      clear h1 h2 C1
      go_wp2_with fail
      go_ret
      refine ⟨g, cap, by rw [← HKM.out, HNK.out]; rfl, by rw [← HBW.out]; exact hgB, Nat.lt_of_lt_of_le hgl H1.out.size, by rw [← HKM.out, ← HNK.out]; exact hcap, H2.out, by rw [← HBW.out]; exact HB.out.trans H1.out⟩
end Go.Proofs.YtbegngilbngnoaaDoor.Ps
namespace Go.Proofs.YtbegngilbngnoaaDoor.Ps
open Go.RowKit Go.Lib Rw Ls Od Pk St _root_.Go.Proofs.YtbegngilbngnoaaDoor.Nm
open Go.Sort (grow)

theorem info_row : (Tryd.prog.info? 87).map (fun i => (i.zero, i.size, i.bytes)) = some (some (.slice none 0 0), 1, 24) := by kernel_rfl
/-- where levels lie, from the first one on -/
def ovs (V : Nat → Nat) (L : List Nat) (gs : List (Nat × Nat)) : List Value := (List.range gs.length).map fun j => .slice (some ⟨(gs.getD j (0, 0)).1, 0, none⟩) (lev V L j).length (gs.getD j (0, 0)).2
theorem ovs_length (V : Nat → Nat) (L : List Nat) (gs : List (Nat × Nat)) : (ovs V L gs).length = gs.length := by simp [ovs]
theorem ovs_at (V : Nat → Nat) (L : List Nat) (gs : List (Nat × Nat)) {j : Nat} (h : j < gs.length) : (ovs V L gs).getD j (.bool false) = .slice (some ⟨(gs.getD j (0, 0)).1, 0, none⟩) (lev V L j).length (gs.getD j (0, 0)).2 := by simp [ovs, h]
theorem ovs_snoc (V : Nat → Nat) (L : List Nat) (gs : List (Nat × Nat)) (x : Nat × Nat) : ovs V L (gs ++ [x]) = ovs V L gs ++ [.slice (some ⟨x.1, 0, none⟩) (lev V L gs.length).length x.2] := by
  unfold ovs
  rw [List.length_append, List.length_singleton, List.range_succ, List.map_append]
  congr 1
  · apply List.map_congr_left
    intro j hj
    have := List.mem_range.1 hj
    simp [List.getElem?_append_left this]
  · simp
def LvsAt (w : World) (V : Nat → Nat) (L : List Nat) (gs : List (Nat × Nat)) : Prop := ∀ j, j < gs.length → Rd w (some ⟨(gs.getD j (0, 0)).1, 0, none⟩) (pcs V (lev V L j)) ∧ (lev V L j).length ≤ (gs.getD j (0, 0)).2
theorem LvsAt.below {w w' : World} {V : Nat → Nat} {L : List Nat} {gs : List (Nat × Nat)} (h : LvsAt w V L gs) (hb : Below w.heap.size w w') : LvsAt w' V L gs := fun j hj => ⟨(h j hj).1.below hb, (h j hj).2⟩
theorem LvsAt.snoc {w : World} {V : Nat → Nat} {L : List Nat} {gs : List (Nat × Nat)} {g cap : Nat} (h : LvsAt w V L gs) (hr : Rd w (some ⟨g, 0, none⟩) (pcs V (lev V L gs.length))) (hc : (lev V L gs.length).length ≤ cap) : LvsAt w V L (gs ++ [(g, cap)]) := fun j hj => by
  rw [List.length_append, List.length_singleton] at hj
  by_cases e : j < gs.length
  · have : (gs ++ [(g, cap)]).getD j (0, 0) = gs.getD j (0, 0) := by simp [List.getElem?_append_left e]
    rw [this]; exact h j e
  · obtain rfl : j = gs.length := by omega
    have : (gs ++ [(g, cap)]).getD gs.length (0, 0) = (g, cap) := by simp
    rw [this]; exact ⟨hr, hc⟩
/-- levels, new -/
def LsP (w : World) (V : Nat → Nat) (L : List Nat) (lm : Nat) (e : Ending) (w' : World) : Prop := ∃ (ga cap : Nat) (gs : List (Nat × Nat)), e = .returned (.slice (some ⟨ga, 0, none⟩) lm cap) ∧ gs.length = lm ∧ Rd w' (some ⟨ga, 0, none⟩) (ovs V L gs) ∧ LvsAt w' V L gs ∧ w.heap.size ≤ ga ∧ Below w.heap.size w w'
theorem wt_ok {ws : List Nat} (ho : okW ws = true) {j : Nat} (hj : j ≤ 15) : ∀ t ∈ lev (wf ws) (lv ws) j, t.wt (wf ws) ≤ 4000000000000000000 := fun t ht => by
  have h1 := lev_sz j t ht
  have h2 := wt_sz (W := wf ws) (m := 1099511627776) (fun i => okW_at ho i) t
  have h3 : 2 ^ j ≤ 2 ^ 15 := Nat.pow_le_pow_right (by omega) hj
  have h4 : t.sz * 1099511627776 ≤ 2 ^ 15 * 1099511627776 := Nat.mul_le_mul_right _ (Nat.le_trans h1 h3)
  have h5 : 2 ^ 15 * 1099511627776 ≤ 4000000000000000000 := by decide
  omega
theorem leaf_row (V : Nat → Nat) (L : List Nat) (k : Nat) (hk : k < L.length) : pcs V ((L.take (k + 1)).map Tr.lf) = pcs V ((L.take k).map Tr.lf) ++ [.int .u64 (V L[k] : Nat), .bool true] := by
  rw [List.take_succ_eq_append_getElem hk, List.map_append, pcs_app]; rfl
theorem LvsAt.grown {w w' : World} {V : Nat → Nat} {L : List Nat} {gs : List (Nat × Nat)} {gb n c : Nat} (h : LvsAt w V L gs) (hg : w.grownBy w' (Value.ownBlock (.slice (some ⟨gb, 0, none⟩) n c))) (hne : ∀ j, j < gs.length → (gs.getD j (0, 0)).1 ≠ gb) : LvsAt w' V L gs := fun j hj =>
  ⟨rd_grown (h j hj).1 hg (fun k e => by simp [Value.ownBlock] at e; subst e; exact hne j hj), (h j hj).2⟩
theorem LvsAt.lt {w : World} {V : Nat → Nat} {L : List Nat} {gs : List (Nat × Nat)} (h : LvsAt w V L gs) (hL : 0 < L.length) {j : Nat} (hj : j < gs.length) : (gs.getD j (0, 0)).1 < w.heap.size := by
  have hl : 0 < (lev V L j).length := by
    cases j with
    | zero => show 0 < (L.map Tr.lf).length; rw [List.length_map]; exact hL
    | succ j => rw [lev_length]; omega
  obtain ⟨a, e, hb, _⟩ := (h j hj).1 0 (by rw [pcs_length]; omega)
  cases e; exact hb
set_option maxHeartbeats 8000000 in
set_option maxRecDepth 100000 in
theorem levels_any (ws : List Nat) (p : Option Addr) (c n gs0 sz cs lm : Nat) (w : World) (hn : n = ws.length) (ho : okW ws = true) (hsz : sz = (lv ws).length) (h2 : 2 ≤ sz) (hlm : 1 ≤ lm) (hlm2 : lm ≤ 15) (hp : Rd w p (nums ws)) (hs : Rd w (some ⟨gs0, 0, none⟩) (zs (up (lv ws)))) :
    Calls Tryd.prog 35 #[.slice p n c, .slice (some ⟨gs0, 0, none⟩) sz cs, .int .i64 (lm : Int)] w (LsP w (wf ws) (lv ws) lm) := by
  obtain ⟨i0, hi0, hz0, hz1, hz2⟩ := info_parts info_pk
  obtain ⟨i1, hi1, hy0, hy1, hy2⟩ := info_parts info_row
  have hl5 := okW_len ho
  have hsz5 : sz ≤ 512 := by have := lv_len ws; have := sy_len ws; omega
  have HOK := Lib.hid ho; have HN := Lib.hid hn; have HSZ := Lib.hid hsz
  obtain ⟨B, hB⟩ : ∃ B, B = w.heap.size := ⟨_, rfl⟩
  have HBW := Lib.hid hB
  have P : Hid (∀ W, Below B w W → Rd W p (nums ws) ∧ Rd W (some ⟨gs0, 0, none⟩) (zs (up (lv ws)))) := Lib.hid (fun W hb => ⟨hp.below (by rw [← hB]; exact hb), hs.below (by rw [← hB]; exact hb)⟩)
  obtain ⟨w1, hw1⟩ : ∃ w1, w1 = w.alloc (.cells #[] 89) := ⟨_, rfl⟩
  have own0 : w1.ownsRow B 89 2 (.slice (some ⟨B, 0, none⟩) 0 0) 0 [] := by
    have := World.ownsRow_lit (e := 89) (base := B) (size := 2) w #[] 0 (by omega) (by decide) rfl
    rw [← hw1, ← hB] at this
    exact this
  have hs1 : w1.heap.size = B + 1 := by rw [hw1, hB]; simp
  have HO0 := Lib.hid own0; have HS1 := Lib.hid hs1
  have HB1 : Hid (Below B w w1) := Lib.hid (by rw [hw1, hB]; exact (Below.refl _ _).alloc (Nat.le_refl _) _)
  clear hp hs hn hsz ho own0 hs1 hl5
  go_enter Tryd.func35, Tryd.ntmps35
  go_wp2_with fail
  rw [← hw1, ← hB]
  clear hw1 hB
  go_loopw [7, 14] (fun v i wr => ∃ (k g cap : Nat), k ≤ sz ∧ i = .int .i64 k ∧ v = .slice (some ⟨g, 0, none⟩) k cap ∧ B ≤ g ∧ g < wr.heap.size ∧ Hid (PkAt wr B (wf ws) g k cap (((lv ws).take k).map Tr.lf)) ∧ Hid (Below B w wr)) (fun _ i _ => sz - (intOf i).toNat)
  case atStart => exact ⟨0, B, 0, Nat.zero_le _, rfl, rfl, Nat.le_refl _, by rw [HS1.out]; omega, HO0, HB1⟩
  case round =>
    obtain ⟨k, g, cap, hk, rfl, rfl, hgB, hgl, HO, HB⟩ := hrel
    have hwz : B ≤ wr.heap.size := by omega
    have hPP := P.out wr HB.out
    have HP1 := Lib.hid hPP.1; have HP2 := Lib.hid hPP.2
    clear hPP
    by_cases hlt : k < sz
    · have hkl : k < (lv ws).length := by rw [← HSZ.out]; exact hlt
      have cs1 := HP2.out.at (i := k) (by simp [zs, up]; exact hkl)
      rw [Addr.add_lit, Nat.zero_add] at cs1
      have hsl : (lv ws)[k] < ws.length := (lv_mem.1 (List.getElem_mem hkl)).1
      obtain ⟨s, hs⟩ : ∃ s, s = (lv ws)[k] := ⟨_, rfl⟩
      have cs2 : wr.cell? ⟨gs0, k, none⟩ = some (.int .i64 (s : Nat)) := by rw [cs1, hs]; simp [zs, up, hkl]
      rw [← hs] at hsl
      obtain ⟨a, rfl, cy⟩ := rd_num HP1.out s hsl
      have HLR : Hid (pcs (wf ws) (((lv ws).take (k + 1)).map Tr.lf) = pcs (wf ws) (((lv ws).take k).map Tr.lf) ++ [.int .u64 ((ws.getD s 0 : Nat) : Int), .bool true]) := Lib.hid (by rw [leaf_row _ _ k hkl, ← hs]; rfl)
      obtain ⟨y, hy⟩ : ∃ y, y = ws.getD s 0 := ⟨_, rfl⟩
      rw [← hy] at cy HLR
      have k0 : (0 : Int) ≤ (k : Int) := by omega
      have k1 : (k : Int) < (sz : Int) := by omega
      have k2 : (0 : Int) ≤ (s : Int) := by omega
      have k3 : (s : Int) < (n : Int) := by rw [HN.out]; omega
      obtain ⟨xs, hxs⟩ : ∃ xs, xs = pcs (wf ws) (((lv ws).take k).map Tr.lf) := ⟨_, rfl⟩
      rw [← hxs] at HLR
      have HOx : Hid (wr.ownsRow B 89 2 (.slice (some ⟨g, 0, none⟩) k cap) k xs) := Lib.hid (by rw [hxs]; exact HO.out)
      clear cs1 hsl hs hy hkl hxs
      go_wp2_with (at_builtin; refine Rw.push rfl _ _ 87 rfl B 89 i0 (.agg #[.int .u64 0, .bool false]) 2 16 Tryd.underlying87 hi0 hz0 hz1 hz2 rfl (by decide) (.slice (some ⟨g, 0, none⟩) k cap) k xs rfl HOx.out [.int .u64 (y : Nat), .bool true] rfl rfl rfl (by omega) (by omega) hwz ?_)
      intro g4 cap4 w4 hown4 _ hor4 hl4 hb4
      have hgB4 : B ≤ g4 := by
        rcases hor4 with h | h
        · have : g = g4 := by simpa [Value.ownBlock] using h
          omega
        · omega
      have HO4 : Hid (PkAt w4 B (wf ws) g4 (k + 1) cap4 (((lv ws).take (k + 1)).map Tr.lf)) := Lib.hid (by unfold PkAt; rw [HLR.out]; exact hown4)
      have HB4 := Lib.hid (HB.out.trans hb4)
      clear hown4 hb4 hor4
      go_wp2_with fail
      go_roundw
      case rel => exact ⟨k + 1, g4, cap4, by omega, by go_num, rfl, hgB4, hl4, HO4, HB4⟩
      case measure => simp [intOf]; omega
    · obtain rfl : k = sz := by omega
      have k1 : ¬ (k : Int) < (k : Int) := by omega
      have hall : ((lv ws).take k).map Tr.lf = lev (wf ws) (lv ws) 0 := by rw [HSZ.out, List.take_length]; rfl
      have hlen : (lev (wf ws) (lv ws) 0).length = k := by rw [← hall, List.length_map, List.length_take, ← HSZ.out, Nat.min_self]
      obtain ⟨_, _, e0, hcap, hRF, _⟩ := own_rdN HO.out
      cases e0
      rw [hall] at hRF
      have HLEN := Lib.hid hlen
      obtain ⟨w5, hw5⟩ : ∃ w5, w5 = wr.alloc (.cells #[.slice (some ⟨g, 0, none⟩) k cap] 87) := ⟨_, rfl⟩
      have own5 : w5.ownsRow B 87 1 (.slice (some ⟨wr.heap.size, 0, none⟩) 1 1) 1 (ovs (wf ws) (lv ws) [(g, cap)]) := by
        have := World.ownsRow_lit (e := 87) (base := B) (size := 1) wr #[.slice (some ⟨g, 0, none⟩) k cap] 1 hwz (by decide) rfl
        rw [← hw5] at this
        have e : ovs (wf ws) (lv ws) [(g, cap)] = [.slice (some ⟨g, 0, none⟩) k cap] := by simp [ovs, hlen]
        rw [e]
        exact this
      have hb5 : Below wr.heap.size wr w5 := by rw [hw5]; exact (Below.refl _ _).alloc (Nat.le_refl _) _
      have HO5 := Lib.hid own5
      have HB5 : Hid (Below B w w5) := Lib.hid (HB.out.trans (hb5.mono hwz))
      have HLV : Hid (LvsAt w5 (wf ws) (lv ws) [(g, cap)]) := Lib.hid (fun j hj => by
        obtain rfl : j = 0 := by simpa using hj
        exact ⟨hRF.below hb5, by rw [hlen]; exact hcap⟩)
      have hs5 : w5.heap.size = wr.heap.size + 1 := by rw [hw5]; simp
      obtain ⟨ga, hga⟩ : ∃ ga, ga = wr.heap.size := ⟨_, rfl⟩
      rw [← hga] at HO5 hs5 hwz
      have HGA := Lib.hid hga
      have HNE0 : Hid (∀ j, j < [(g, cap)].length → ([(g, cap)].getD j (0, 0)).1 ≠ ga) := Lib.hid (fun j hj => by
        obtain rfl : j = 0 := by simpa using hj
        show g ≠ ga
        omega)
      have CL : Hid (∀ (j gt ct : Nat) (W : World), j ≤ 14 → Rd W (some ⟨g, 0, none⟩) (pcs (wf ws) (lev (wf ws) (lv ws) 0)) → Rd W (some ⟨gt, 0, none⟩) (pcs (wf ws) (lev (wf ws) (lv ws) j)) →
          Calls Tryd.prog 52 #[.slice (some ⟨g, 0, none⟩) k cap, .slice (some ⟨gt, 0, none⟩) (lev (wf ws) (lv ws) j).length ct] W fun e w' => ∃ (g cap : Nat), e = .returned (.slice (some ⟨g, 0, none⟩) (lev (wf ws) (lv ws) (j + 1)).length cap) ∧ W.heap.size ≤ g ∧ g < w'.heap.size ∧ (lev (wf ws) (lv ws) (j + 1)).length ≤ cap ∧ Rd w' (some ⟨g, 0, none⟩) (pcs (wf ws) (lev (wf ws) (lv ws) (j + 1))) ∧ Below W.heap.size W w') :=
        Lib.hid (fun j gt ct W h1 h2' h3 => by
          have hl := lev_length (wf ws) (lv ws) j
          rw [← HSZ.out] at hl
          have hle := lev_le (wf ws) (lv ws) j
          rw [← HSZ.out] at hle
          have := level_any (wf ws) (lev (wf ws) (lv ws) 0) (lev (wf ws) (lv ws) j) g gt k _ cap ct W HLEN.out.symm rfl (by omega) (by omega) (by omega) (lev_up (lv_up ws) 0) (lev_up (lv_up ws) j) (wt_ok HOK.out (by omega)) h2' h3
          rw [← hl] at this
          exact this)
      clear hall hlen hRF own5 hb5 hgl hk hlt HO hga HO0 HB1 HS1
      go_wp2_with fail
      rw [← hw5, ← HGA.out]
      clear hw5
      go_loopw [10] (fun v wr2 => ∃ (gb cb : Nat) (gs : List (Nat × Nat)), v = .slice (some ⟨gb, 0, none⟩) gs.length cb ∧ 1 ≤ gs.length ∧ gs.length ≤ lm ∧ Hid (gs.getD 0 (0, 0) = (g, cap)) ∧ B ≤ gb ∧ gb < wr2.heap.size ∧ Hid (∀ j, j < gs.length → (gs.getD j (0, 0)).1 ≠ gb) ∧ Hid (wr2.ownsRow B 87 1 v gs.length (ovs (wf ws) (lv ws) gs)) ∧ Hid (LvsAt wr2 (wf ws) (lv ws) gs) ∧ Hid (Below B w wr2)) (fun v _ => match v with | .slice _ n _ => lm - n | _ => 0)
      case atStart => exact ⟨ga, 1, [(g, cap)], rfl, Nat.le_refl _, hlm, Lib.hid rfl, hwz, by omega, HNE0, HO5, HLV, HB5⟩
      case round =>
        clear HO5 HLV HB5 hs5
        obtain ⟨gb, cb, gs, rfl, hg1, hg2, HG0, hgbB, hgbl, HNE, HOW, HLV, HB⟩ := hrel
        obtain ⟨q, hq⟩ : ∃ q, q = gs.length := ⟨_, rfl⟩
        rw [← hq] at hg1 hg2 HOW ⊢
        have HQ := Lib.hid hq
        have hwz2 : B ≤ wr.heap.size := by omega
        by_cases hlt : q < lm
        · obtain ⟨r, hr⟩ : ∃ r, q = r + 1 := ⟨q - 1, by omega⟩
          have hrl : r < gs.length := by omega
          have hcr := HOW.out.cellAt r (by omega)
          have hov := ovs_at (wf ws) (lv ws) gs hrl
          rw [show (ovs (wf ws) (lv ws) gs)[r]? = some ((ovs (wf ws) (lv ws) gs).getD r (.bool false)) from by
            rw [List.getD_eq_getElem?_getD, List.getElem?_eq_getElem (by rw [ovs_length]; exact hrl)]; rfl, hov] at hcr
          have hLr := (HLV.out r hrl).1
          have hL0 := (HLV.out 0 (by omega)).1
          rw [HG0.out] at hL0
          obtain ⟨gt, hgt⟩ : ∃ x, x = (gs.getD r (0, 0)).1 := ⟨_, rfl⟩
          obtain ⟨ct, hct⟩ : ∃ x, x = (gs.getD r (0, 0)).2 := ⟨_, rfl⟩
          rw [← hgt, ← hct] at hcr
          rw [← hgt] at hLr
          have C := CL.out r gt ct wr (by omega) hL0 hLr
          rw [← hr] at C
          have C1 := Lib.hid C
          have HNX : Hid (∀ g7 c7, ovs (wf ws) (lv ws) (gs ++ [(g7, c7)]) = ovs (wf ws) (lv ws) gs ++ [.slice (some ⟨g7, 0, none⟩) (lev (wf ws) (lv ws) q).length c7] ∧ (gs ++ [(g7, c7)]).length = q + 1) := Lib.hid (fun g7 c7 => ⟨by rw [ovs_snoc, HQ.out], by simp [HQ.out]⟩)
          have hLpos : 0 < (lv ws).length := by rw [← HSZ.out]; omega
          have HLP := Lib.hid hLpos
          obtain ⟨ln, hln⟩ : ∃ x, x = (lev (wf ws) (lv ws) r).length := ⟨_, rfl⟩
          obtain ⟨lq, hlq⟩ : ∃ x, x = (lev (wf ws) (lv ws) q).length := ⟨_, rfl⟩
          rw [← hln] at hcr
          rw [← hln, ← hlq] at C1
          rw [← hlq] at HNX
          have HLQ := Lib.hid hlq
          have hlz : (q : Int) < (lm : Int) := by omega
          have z1 : (q : Int) - 1 = (r : Int) := by omega
          have z2 : IntKind.i64.wrap ((r : Int)) = (r : Int) := IntWalk.i64_in _ (by omega)
          have z3 : (0 : Int) ≤ (r : Int) := by omega
          have z4 : (r : Int) < (q : Int) := by omega
          clear hq hr hrl hov hLr hL0 hgt hct C hln hlq hLpos hlt
          go_wp2_with fail
          refine C1.out.mono ?_
          rintro e w6 ⟨g7, c7, rfl, h1, h2', h3, h4, h5⟩
          have HO6 := Lib.hid (own_below HOW.out h5)
          have HLV6 := Lib.hid (HLV.out.below h5)
          have HB6 : Hid (Below B w w6) := Lib.hid (HB.out.trans (h5.mono hwz2))
          have hwz6 : B ≤ w6.heap.size := Nat.le_trans hwz2 h5.size
          have H7 := Lib.hid (And.intro h1 (And.intro h2' h3)); have HR7 := Lib.hid h4
          have hgb6 : gb < w6.heap.size := Nat.lt_of_lt_of_le hgbl h5.size
          clear h1 h2' h3 h4 h5 C1
          go_wp2_with (at_builtin; refine Rw.push rfl _ _ 60 rfl B 87 i1 (.slice none 0 0) 1 24 Tryd.underlying60 hi1 hy0 hy1 hy2 rfl (by decide) (.slice (some ⟨gb, 0, none⟩) q cb) q _ rfl HO6.out [.slice (some ⟨g7, 0, none⟩) lq c7] rfl rfl rfl (by omega) (by omega) hwz6 ?_)
          intro g8 c8 w8 hown8 hgr8 hor8 hl8 hb8
          have HO8 : Hid (w8.ownsRow B 87 1 (.slice (some ⟨g8, 0, none⟩) (q + 1) c8) (q + 1) (ovs (wf ws) (lv ws) (gs ++ [(g7, c7)]))) := Lib.hid (by rw [(HNX.out g7 c7).1]; exact hown8)
          have hgb8 : B ≤ g8 := by
            rcases hor8 with h | h
            · have : gb = g8 := by simpa [Value.ownBlock] using h
              omega
            · omega
          have HB8 : Hid (Below B w w8) := Lib.hid (HB6.out.trans hb8)
          have hne7 : g7 ≠ gb := by have := H7.out.1; omega
          have HLV8 : Hid (LvsAt w8 (wf ws) (lv ws) (gs ++ [(g7, c7)])) := Lib.hid ((HLV6.out.snoc (by rw [← HQ.out]; exact HR7.out) (by rw [← HQ.out, ← HLQ.out]; exact H7.out.2.2)).grown hgr8 (fun j hj => by
            rw [List.length_append, List.length_singleton] at hj
            by_cases e : j < gs.length
            · have : (gs ++ [(g7, c7)]).getD j (0, 0) = gs.getD j (0, 0) := by simp [List.getElem?_append_left e]
              rw [this]; exact HNE.out j e
            · obtain rfl : j = gs.length := by omega
              have : (gs ++ [(g7, c7)]).getD gs.length (0, 0) = (g7, c7) := by simp
              rw [this]; exact hne7))
          have HNE8 : Hid (∀ j, j < (gs ++ [(g7, c7)]).length → ((gs ++ [(g7, c7)]).getD j (0, 0)).1 ≠ g8) := Lib.hid (fun j hj => by
            have hlt6 : ((gs ++ [(g7, c7)]).getD j (0, 0)).1 < w6.heap.size ∧ ((gs ++ [(g7, c7)]).getD j (0, 0)).1 ≠ gb := by
              rw [List.length_append, List.length_singleton] at hj
              by_cases e : j < gs.length
              · have : (gs ++ [(g7, c7)]).getD j (0, 0) = gs.getD j (0, 0) := by simp [List.getElem?_append_left e]
                rw [this]; exact ⟨HLV6.out.lt HLP.out e, HNE.out j e⟩
              · obtain rfl : j = gs.length := by omega
                have : (gs ++ [(g7, c7)]).getD gs.length (0, 0) = (g7, c7) := by simp
                rw [this]; exact ⟨H7.out.2.1, hne7⟩
            rcases hor8 with h | h
            · have : gb = g8 := by simpa [Value.ownBlock] using h
              rw [← this]; exact hlt6.2
            · omega)
          have HG8 : Hid ((gs ++ [(g7, c7)]).getD 0 (0, 0) = (g, cap)) := Lib.hid (by
            rw [← HG0.out]
            have : 0 < gs.length := by rw [← HQ.out]; omega
            rw [List.getD_eq_getElem?_getD, List.getD_eq_getElem?_getD, List.getElem?_append_left this])
          clear hown8 hgr8 hor8 hb8 hne7
          go_wp2_with fail
          go_roundw
          case rel => exact ⟨g8, c8, gs ++ [(g7, c7)], by rw [(HNX.out g7 c7).2], by rw [(HNX.out g7 c7).2]; omega, by rw [(HNX.out g7 c7).2]; omega, HG8, hgb8, hl8, HNE8, by rw [(HNX.out g7 c7).2]; exact HO8, HLV8, HB8⟩
          case measure => show lm - (q + 1) < lm - q; omega
        · obtain rfl : q = lm := by omega
          have hz : ¬ (q : Int) < (q : Int) := by omega
          obtain ⟨_, _, e0, _, hRO, _⟩ := own_rdN HOW.out
          cases e0
          have F : Hid (LsP w (wf ws) (lv ws) q (.returned (.slice (some ⟨gb, 0, none⟩) q cb)) wr) := Lib.hid ⟨gb, cb, gs, rfl, HQ.out.symm, hRO, HLV.out, by rw [← HBW.out]; exact hgbB, by rw [← HBW.out]; exact HB.out⟩
          clear hRO hq
          go_wp2_with fail
          go_ret
          exact F.out
end Go.Proofs.YtbegngilbngnoaaDoor.Ps
namespace Go.Proofs.YtbegngilbngnoaaDoor.Ps
open Go.RowKit Go

/-- the function tells xs, whatever the loop does between two of them, if it can read what it reads -/
def Tells {α : Type} (F : Fence) (m : Nat) (P : Program) (gf : Nat) (lb : Array Value) (encs : α → Array Value) (xs : List α) (Rds : World → Prop) : Prop :=
  ∀ (l : Nat) (J : List α → World → Prop) (W : World), (∀ pre W1, J pre W1 → Rds W1) →
    (∀ pre x rest W1, xs = pre ++ x :: rest → J pre W1 → YieldAt F (m - 1) P l (encs x) W1 fun e W' => e = .returned (.bool true) ∧ J (pre ++ [x]) W') →
    J [] W → CallsIn F m P gf (#[.func (.yield l) #[] #[]] ++ lb) W fun e W' => (∃ v, e = .returned v) ∧ J xs W'
/-- how a round of the body ends -/
def Ends {α : Type} (B : Nat) (I : List α → World → Prop) (xs : List α) (W : World) (e : Exit) (_ : Act) (W' : World) : Prop := e = .normal ∧ KeepsFrom B W W' ∧ I xs W'
set_option maxHeartbeats 2000000 in
theorem range_told {F : Fence} {P : Program} {n : Nat} {α : Type} {g : Operand} {ps : Array Tmp} {assign body : Code} {Q : Exit → Act → World → Prop} {a : Act} {w : World}
    (hro : F.round = none) (h1 : 1 ≤ n) {gf : Nat} {lb : Array Value} (hg : a.eval g = .func (.func gf) #[] lb) (hFg : F.fn gf) (eg : ∀ args w, (callFunc gf args).run P w = .ok (.enter gf args) w)
    {encs : α → Array Value} {xs : List α} {Rds : World → Prop} (ht : Tells F (n - 1) P gf lb encs xs Rds) (hps : ∀ x, (encs x).size = ps.size)
    (I : List α → World → Prop) (hI : OwnFrom w.heap.size I) (hR : ∀ pre W, I pre W → Rds W) (h0 : I [] w) (a₁ : α → Act)
    (hassign : ∀ (l : Nat) (x : α) (W : World) (K : Act → World → Prop), K (a₁ x) W →
      assign.wpIn (F.inRound l) (n - 1 - 1) P (Exit.then K (fun _ _ _ => False)) { tmps := (ps.zip (encs x)).foldl (fun t (p, v) => t.setIfInBounds p v) a.tmps, defers := [] } W)
    (hbody : ∀ (l : Nat) (pre : List α) (x : α) (rest : List α) (W : World), xs = pre ++ x :: rest → I pre W → body.wpIn (F.inRound l) (n - 1 - 1) P (Ends w.heap.size I (pre ++ [x]) W) (a₁ x) W)
    (hdone : ∀ (D : Nat) (W : World), w.heap.size ≤ D → I xs W → W.heap[D]? = some (.deferred (some [])) → Q .normal { a with defers := { target := .collected D, args := #[] } :: a.defers } W) :
    (Code.rangeFunc g ps assign body).wpIn F n P Q a w := by
  refine wpIn_rangeFunc fun fn hfn => ?_
  rw [hro]
  obtain ⟨D, hD⟩ : ∃ D, D = w.heap.size := ⟨_, rfl⟩
  obtain ⟨r, hr⟩ : ∃ r : LoopState → Loop, r = fun st => { state := st, pending := none, fn, tmps := a.tmps, params := ps, assign, body, defers := w.heap.size } := ⟨_, rfl⟩
  have hrun := run_enterLoop_outer (P := P) (w := w) fn a.tmps ps assign body
  rw [show ({ state := .ready, pending := none, fn, tmps := a.tmps, params := ps, assign, body, defers := w.heap.size } : Loop) = r .ready from by rw [hr]] at hrun
  obtain ⟨w2, hw2⟩ : ∃ w2, (w.alloc (.deferred (some []))).alloc (.loop (r .ready)) = w2 := ⟨_, rfl⟩
  have hLl : w2.heap[D + 1]? = some (.loop (r .ready)) := by
    rw [← hw2]
    have := World.alloc_heap_new (w.alloc (.deferred (some []))) (.loop (r .ready))
    rwa [World.size_alloc, ← hD] at this
  have hDl : w2.heap[D]? = some (.deferred (some [])) := by
    rw [← hw2, hD]
    exact (Below.heap_alloc _ _ _ (by simp)).trans (World.alloc_heap_new w _)
  have hI2 : I [] w2 := by rw [← hw2]; exact hI.alloc _ (hI.alloc _ h0)
  rw [hw2, ← hD] at hrun
  have hy : ∀ (x : α) (W : World), W.heap[D + 1]? = some (.loop (r .ready)) → (Instr.yield (D + 1) (encs x)).run P W = .ok (.round (D + 1) fn ((ps.zip (encs x)).foldl (fun t (p, v) => t.setIfInBounds p v) a.tmps) assign body) W := fun x W h => by
    have := run_yield (P := P) (args := encs x) h (by rw [hr]; exact hps x)
    rw [hr] at this
    exact this
  have hbg : ∀ W : World, W.heap[D + 1]? = some (.loop (r .ready)) → (Instr.beginRound (D + 1)).run P W = .ok () (W.putObj (D + 1) (.loop (r .busy))) := fun W h => by
    have := run_beginRound (P := P) h (by rw [hr])
    rw [hr] at this ⊢
    exact this
  have hen : ∀ W : World, W.heap[D + 1]? = some (.loop (r .busy)) → (Instr.endRound (D + 1) none).run P W = .ok (.bool true) (W.putObj (D + 1) (.loop (r .ready))) := fun W h => by
    have := run_endRound (P := P) none h
    rw [hr] at this ⊢
    exact this
  have hel : ∀ W : World, W.heap[D + 1]? = some (.loop (r .ready)) → (Instr.endLoop (D + 1)).run P W = .ok none (W.putObj (D + 1) (.loop (r .exhausted))) := fun W h => by
    have := run_endLoop (P := P) h (by rw [hr]; simp)
    rw [hr] at this ⊢
    exact this
  rw [← hD] at hI hbody hdone
  clear hr hw2 h0
  have hne : D ≠ D + 1 := Nat.ne_of_lt (Nat.lt_succ_self D)
  have hle : D ≤ D + 1 := Nat.le_succ D
  have one : ∀ pre x rest W, xs = pre ++ x :: rest → (I pre W ∧ W.heap[D + 1]? = some (.loop (r .ready)) ∧ W.heap[D]? = some (.deferred (some []))) →
      YieldAt F (n - 1 - 1) P (D + 1) (encs x) W fun e W' => e = .returned (.bool true) ∧ (I (pre ++ [x]) W' ∧ W'.heap[D + 1]? = some (.loop (r .ready)) ∧ W'.heap[D]? = some (.deferred (some []))) := by
    rintro pre x rest W hx ⟨hi, hl, hd⟩
    have hlt : D + 1 < W.heap.size := (Array.getElem?_eq_some_iff.1 hl).1
    refine ⟨fn, _, assign, body, hy x W hl, roundIn_of_wpIn hfn (hassign _ x W _ ⟨_, hbg W hl, ?_⟩)⟩
    have hl2 : (W.putObj (D + 1) (.loop (r .busy))).heap[D + 1]? = some (.loop (r .busy)) := World.putObj_heap_same hlt
    have hd2 : (W.putObj (D + 1) (.loop (r .busy))).heap[D]? = some (.deferred (some [])) := (World.putObj_heap_other hne).trans hd
    refine wpIn_mono (hbody (D + 1) pre x rest _ hx (hI.putObj _ hi hle hl rfl)) ?_
    rintro e a3 W3 ⟨rfl, hk, hi3⟩
    have hl3 := hk.same (D + 1) _ hle hl2 rfl
    have hd3 := hk.same D _ (Nat.le_refl _) hd2 rfl
    exact ⟨_, _, hen W3 hl3, rfl, hI.putObj _ hi3 hle hl3 rfl, World.putObj_heap_same (Array.getElem?_eq_some_iff.1 hl3).1, (World.putObj_heap_other hne).trans hd3⟩
  have hc := ht (D + 1) (fun pre W => I pre W ∧ W.heap[D + 1]? = some (.loop (r .ready)) ∧ W.heap[D]? = some (.deferred (some []))) w2 (fun pre W h => hR pre W h.1) one ⟨hI2, hLl, hDl⟩
  refine ⟨D + 1, [{ target := .collected D, args := #[] }], w2, { target := .fn (.func gf) lb, args := #[.func (.yield (D + 1)) #[] #[]] }, w2, gf, #[.func (.yield (D + 1)) #[] #[]] ++ lb, w2, ?_, ?_, ?_, ?_, fun _ => h1, ?_⟩
  · exact hrun
  · simp only [resolve, hg]
    simp [go_sem]
  · intro f' hf'; simp [Target.leads] at hf'; subst hf'; exact hFg
  · simp [invoke, go_sem, eg]
  · refine hc.mono ?_
    rintro e W ⟨⟨v, rfl⟩, hi, hl, hd⟩
    exact ⟨none, _, hel W hl, hdone D _ (Nat.le_refl _) (hI.putObj _ hi hle hl rfl) ((World.putObj_heap_other hne).trans hd)⟩
end Go.Proofs.YtbegngilbngnoaaDoor.Ps
namespace Go.Proofs.YtbegngilbngnoaaDoor.Ps
open Go.RowKit Go.Lib Rw Ls Od Pk St _root_.Go.Proofs.YtbegngilbngnoaaDoor.Nm
attribute [local go_sem] Oper.semAt_some
theorem wide_fn' (f : FuncId) : Fence.wide.fn f = True := rfl
attribute [local go_sem] wide_fn'

/-- numbers from n down to 0, n left out -/
def downs (n : Nat) : List Nat := (List.range n).reverse
theorem downs_succ (n : Nat) : downs (n + 1) = n :: downs n := by simp [downs, List.range_succ]
theorem downs_split : ∀ (n k : Nat), k ≤ n → downs n = (downs n).take (n - k) ++ downs k
  | n, k, h => by
    induction n with
    | zero => obtain rfl : k = 0 := by omega
              rfl
    | succ n ih =>
      by_cases e : k = n + 1
      · subst e; simp
      · rw [downs_succ, show n + 1 - k = (n - k) + 1 by omega, List.take_succ_cons, List.cons_append, ← ih (by omega)]
theorem downs_length (n : Nat) : (downs n).length = n := by simp [downs]
theorem downs_take {n k : Nat} (h : k < n) : (downs n).take (n - (k + 1)) ++ [k] = (downs n).take (n - k) := by
  have h1 := downs_split n (k + 1) (by omega)
  have h2 := downs_split n k (by omega)
  rw [downs_succ] at h1
  have e : (downs n).take (n - k) ++ downs k = ((downs n).take (n - (k + 1)) ++ [k]) ++ downs k := by rw [← h2, List.append_assoc]; exact h1
  exact (List.append_cancel_right e).symm
/-- where a list is parted tells what is at the place -/
theorem downs_at {n : Nat} {pre rest : List Nat} {x : Nat} (h : downs n = pre ++ x :: rest) : x < n ∧ pre.length = n - 1 - x ∧ pre = (downs n).take (n - (x + 1)) := by
  have hl : pre.length < n := by
    have := congrArg List.length h
    rw [downs_length, List.length_append, List.length_cons] at this; omega
  have hx : (downs n)[pre.length]? = some x := by rw [h]; simp
  have hx2 : (downs n)[pre.length]? = some (n - 1 - pre.length) := by
    unfold downs
    rw [List.getElem?_reverse (by simpa using hl), List.length_range, List.getElem?_range (by omega)]
  rw [hx] at hx2
  have e : x = n - 1 - pre.length := by injection hx2
  refine ⟨by omega, by omega, ?_⟩
  rw [show n - (x + 1) = pre.length by omega, h]; simp
/-- what the iterator reads -/
def BkR (Bx ga n cap : Nat) (val : Nat → Value) (W : World) : Prop := W.cell? ⟨Bx, 0, none⟩ = some (.slice (some ⟨ga, 0, none⟩) n cap) ∧ ∀ j, j < n → W.cell? ⟨ga, j, none⟩ = some (val j)
set_option maxRecDepth 100000 in
set_option maxHeartbeats 4000000 in
theorem back_tells (Bx ga n cap : Nat) (val : Nat → Value) (hn : n ≤ 4096) :
    Tells Fence.wide 3 Tryd.prog 64 #[.pointer (some ⟨Bx, 0, none⟩)] (fun j : Nat => #[Value.int .i64 (j : Nat), val j]) (downs n) (BkR Bx ga n cap val) := by
  intro l J W hR hY h0
  have HY := Lib.hid hY; have H0 := Lib.hid h0; have HR := Lib.hid hR
  have vw : IntKind.i64.wrap ((n : Int) - 1) = (n : Int) - 1 := IntWalk.i64_in _ (by omega)
  have C1 := (hR [] W h0).1
  clear hY h0 hR
  refine callsIn_of_wp Tryd.func64 rfl trivial ?_ rfl
  simp only [Tryd.ntmps64, List.size_toArray, List.length_cons, List.length_nil, Nat.reduceAdd, Nat.reduceSub, Array.replicate_succ, Array.replicate_zero, List.push_toArray, List.append_toArray, List.nil_append, List.cons_append]
  gi_wp2_with fail
  gi_loopw [3] (fun i wr => ∃ r : Nat, r ≤ n ∧ i = .int .i64 ((r : Int) - 1) ∧ Hid (J ((downs n).take (n - r)) wr)) (fun i _ => (intOf i + 1).toNat)
  case atStart => exact ⟨n, Nat.le_refl _, rfl, Lib.hid (by rw [Nat.sub_self]; exact H0.out)⟩
  case round =>
    clear H0 C1
    obtain ⟨r, hr, rfl, HJ⟩ := hrel
    cases r with
    | succ m =>
      have em : (((m + 1 : Nat) : Int) - 1) = (m : Int) := by omega
      rw [em]
      have m0 : (0 : Int) ≤ (m : Int) := by omega
      have m1 : (m : Int) < (n : Int) := by omega
      have mw : IntKind.i64.wrap ((m : Int) - 1) = (m : Int) - 1 := IntWalk.i64_in _ (by omega)
      obtain ⟨cb, cj⟩ := HR.out _ _ HJ.out
      have cz := cj m (by omega)
      obtain ⟨fn, tmps, assign, body, hy, hY2⟩ := HY.out ((downs n).take (n - (m + 1))) m (downs m) wr (by rw [← downs_succ]; exact downs_split n (m + 1) hr) HJ.out
      have HT : Hid ((downs n).take (n - (m + 1)) ++ [m] = (downs n).take (n - m)) := Lib.hid (downs_take (by omega))
      have hm : m ≤ n := by omega
      clear hr em cj
      gi_wp2
      refine hY2.mono ?_
      rintro e w3 ⟨rfl, hJ3⟩
      have HJ3 : Hid (J ((downs n).take (n - m)) w3) := Lib.hid (by rw [← HT.out]; exact hJ3)
      clear hJ3
      gi_wp2
      go_roundw
      case rel => exact ⟨m, hm, rfl, HJ3⟩
      case measure => simp [intOf]
    | zero =>
      have k1 : ¬ ((0 : Int) ≤ ((0 : Nat) : Int) - 1) := by omega
      have F : Hid (J (downs n) wr) := Lib.hid (by have := HJ.out; rw [Nat.sub_zero, List.take_of_length_le (by rw [downs_length]; exact Nat.le_refl _)] at this; exact this)
      gi_wp2
      go_end0
      exact ⟨⟨_, rfl⟩, F.out⟩
theorem back_enters : ∀ args w, (callFunc 64 args).run Tryd.prog w = .ok (.enter 64 args) w := enters_of Tryd.func64 (by kernel_rfl) rfl
theorem backward_any (p : Option Addr) (n c : Nat) (w : World) :
    Calls Tryd.prog 51 #[.slice p n c] w fun e w' => e = .returned (.func (.func 64) #[] #[.pointer (some ⟨w.heap.size, 0, none⟩)]) ∧ w' = w.alloc (.cells #[.slice p n c] 60) := by
  go_enter Tryd.func51, Tryd.ntmps51
  go_wp2
  go_ret
  exact ⟨rfl, rfl⟩
end Go.Proofs.YtbegngilbngnoaaDoor.Ps
namespace Go.Proofs.YtbegngilbngnoaaDoor.Ps
open Go.RowKit Go.Lib Rw Ls Od Pk St _root_.Go.Proofs.YtbegngilbngnoaaDoor.Nm
attribute [local go_sem] Oper.semAt_some wide_fn'

/-- what a round leaves as it lay -/
def Kept2 (g b : Nat) (W0 W : World) : Prop := W0.heap.size ≤ W.heap.size ∧ ∀ k, k < W0.heap.size → k ≠ g → k ≠ b → W.heap[k]? = W0.heap[k]?
theorem Kept2.refl (g b : Nat) (W : World) : Kept2 g b W W := ⟨Nat.le_refl _, fun _ _ _ _ => rfl⟩
theorem kept2_own {β : Type} {g b B : Nat} {W0 : World} (hB : W0.heap.size ≤ B) : OwnFrom B (fun (_ : β) W => Kept2 g b W0 W) := fun _ W W' row hs hg hr =>
  ⟨Nat.le_trans hs.1 hg.size, fun k hk h1 h2 => (hg.block k (Nat.lt_of_lt_of_le hk hs.1) (fun e => by have := (hr k e.symm).1; omega)).trans (hs.2 k hk h1 h2)⟩
theorem setCell_grown0 (W : World) (a : Addr) (v : Value) : W.grownBy (W.setCell a v) (some a.block) :=
  ⟨rfl, rfl, rfl, (KeepsWalks.setCell W _ v).size, fun k _ hk => Below.heap_setCell _ _ _ k (fun e => hk (by rw [e]))⟩
theorem Kept2.put {g b : Nat} {W0 W : World} (h : Kept2 g b W0 W) (a : Addr) (v : Value) (ha : a.block = g ∨ a.block = b) : Kept2 g b W0 (W.setCell a v) :=
  ⟨Nat.le_trans h.1 (setCell_grown0 W a v).size, fun k hk h1 h2 => (Below.heap_setCell _ _ _ k (fun e => by rcases ha with ha | ha <;> omega)).trans (h.2 k hk h1 h2)⟩
theorem Kept2.alloc {g b : Nat} {W0 W : World} (h : Kept2 g b W0 W) (o : Obj) : Kept2 g b W0 (W.alloc o) :=
  ⟨Nat.le_trans h.1 (by simp), fun k hk h1 h2 => (Below.heap_alloc _ _ _ (Nat.lt_of_lt_of_le hk h.1)).trans (h.2 k hk h1 h2)⟩
theorem Kept2.boxed {g b B : Nat} {W0 W : World} {t : TypeId} {v : Value} (h : Kept2 g b W0 W) (hb : Boxed W0 B t v) (h1 : B ≠ g) (h2 : B ≠ b) : Boxed W B t v := (h.2 B hb.lt h1 h2).trans hb
theorem Kept2.rd {g b : Nat} {W0 W : World} {p : Nat} {xs : List Value} (h : Kept2 g b W0 W) (hr : Rd W0 (some ⟨p, 0, none⟩) xs) (h1 : p ≠ g) (h2 : p ≠ b) : Rd W (some ⟨p, 0, none⟩) xs := fun i hi => by
  obtain ⟨a, e, hl, hc⟩ := hr i hi
  cases e
  refine ⟨_, rfl, Nat.lt_of_lt_of_le hl h.1, ?_⟩
  rw [← hc]
  unfold World.cell?
  rw [add_block, h.2 _ hl h1 h2]
/-- what is counted, levels below r being left -/
def StC (V : Nat → Nat) (L : List Nat) (tot : Nat → Nat) (r k : Nat) (O : List Nat) : Prop := match r with
  | 0 => O.length = L.length ∧ ∀ i, i < L.length → O.getD i 0 = tot i
  | j + 1 => Cnt V L tot j k O
theorem stc_own {B bf b g n : Nat} {t e : TypeId} (P : List Nat → Nat → List Nat → Prop) (hg : g < B) (hb : bf < B) : OwnFrom B (fun (pre : List Nat) W => ∃ (k : Nat) (O : List Nat), P pre k O ∧ Boxed W bf t (.int .i64 (k : Nat)) ∧ Arr W b e g n (zs (up O))) := fun pre W W' row ⟨k, O, hP, hx, hA⟩ hgr hr =>
  ⟨k, O, hP, hx.kept hgr (fun e => by have := (hr bf e.symm).1; omega), World.ownsRow.kept hA hgr (.inr (fun e => by have := (hr g (by rw [← e]; rfl)).1; omega))⟩
theorem tot_le {V : Nat → Nat} {L : List Nat} {t : Nat → Nat} {j k : Nat} {O : List Nat} (h : Cnt V L t j k O) {i : Nat} (hi : i < L.length) : O.getD i 0 ≤ t i := by have := h.2.2 i hi; omega
theorem up_set (O : List Nat) (q v : Nat) : (zs (up O)).set q (.int .i64 (v : Nat)) = zs (up (O.set q v)) := by simp [zs, up, List.map_set]
theorem zup_getD (O : List Nat) (k : Nat) (h : k < O.length) : (zs (up O)).getD k (.bool false) = .int .i64 ((O.getD k 0 : Nat) : Int) := by simp [zs, up, h]
set_option maxHeartbeats 8000000 in
set_option maxRecDepth 100000 in
theorem counts_any (ws : List Nat) (ga cap n lm : Nat) (gs : List (Nat × Nat)) (w : World) (hn : n = (lv ws).length) (h2 : 2 ≤ n) (h5 : n ≤ 512) (hlm : 1 ≤ lm) (hlm2 : lm ≤ 15) (hgs : gs.length = lm) (hk : n ≤ 2 ^ (lm - 1 + 1))
    (ho : Rd w (some ⟨ga, 0, none⟩) (ovs (wf ws) (lv ws) gs)) (hl : LvsAt w (wf ws) (lv ws) gs) :
    Calls Tryd.prog 34 #[.slice (some ⟨ga, 0, none⟩) lm cap, .int .i64 (n : Nat)] w fun e w' => ∃ g c, e = .returned (.slice (some ⟨g, 0, none⟩) n c) ∧ w.heap.size ≤ g ∧ Rd w' (some ⟨g, 0, none⟩) (zs (up ((List.range n).map fun i => len (wf ws) (lv ws) (lm - 1) ((lv ws).getD i 0)))) ∧ Below w.heap.size w w' := by
  obtain ⟨i0, hi0, hz0, hz1, hz2⟩ := info_parts info_int
  have HO := Lib.hid ho; have HL := Lib.hid hl; have HN := Lib.hid hn; have HGS := Lib.hid hgs; have HK := Lib.hid hk
  obtain ⟨f0, hf0⟩ : ∃ x, x = 2 * n - 2 := ⟨_, rfl⟩
  have z1 : (2 : Int) * (n : Int) - 2 = (f0 : Int) := by omega
  obtain ⟨n2, hn2⟩ : ∃ x, x = 2 * n := ⟨_, rfl⟩
  have z2 : (2 : Int) * (n : Int) = (n2 : Int) := by omega
  have z3 : (n2 : Int) - 2 = (f0 : Int) := by omega
  have z4 : IntKind.i64.wrap (n2 : Int) = (n2 : Int) := IntWalk.i64_in _ (by omega)
  have z5 : IntKind.i64.wrap (f0 : Int) = (f0 : Int) := IntWalk.i64_in _ (by omega)
  have HF0 := Lib.hid hf0
  clear ho hl hn hgs hf0 hn2 hk
  refine (callsIn_wide (n := 4)).1 (callsIn_of_wp_marks Tryd.func34 rfl trivial ?_ rfl)
  simp only [Tryd.ntmps34, List.size_toArray, List.length_cons, List.length_nil, Nat.reduceAdd, Nat.reduceSub, Array.replicate_succ, Array.replicate_zero, List.push_toArray, List.append_toArray, List.nil_append, List.cons_append]
  refine wpIn_wide.2 ?_
  go_wp2_with (at_make; refine wpList_make_full _ rfl _ _ 36 rfl w.heap.size 3 i0 (.int .i64 0) 1 Tryd.underlying36 hi0 hz0 hz1 .i64 .i64 ↑n ↑n n rfl rfl rfl rfl ?c1 ?c2 ?c3 ?_)
  case c1 => rw [hz2]; omega
  case c2 => unfold maxLen; omega
  case c3 => simp
  intro w1 hown1 hgr1
  have b1 : Below w.heap.size w w1 := (Below.refl _ _).grown hgr1 (Nat.le_refl _) (by simp)
  rw [toList_madeCells_one] at hown1
  obtain ⟨g, hg⟩ : ∃ g, g = w.heap.size := ⟨_, rfl⟩
  rw [← hg] at hown1 b1
  try rw [← hg]
  obtain ⟨s1, hs1⟩ : ∃ s, s = w1.heap.size := ⟨_, rfl⟩
  have hgs1 : g < s1 := by rw [hs1]; exact (hown1.lt g rfl).2
  have HB := Lib.hid (backward_any (some ⟨ga, 0, none⟩) lm cap)
  have hbx := Lib.hid (And.intro (Boxed.new w1 36 (.slice (some ⟨g, 0, none⟩) n n)) (And.intro (Boxed.new (w1.alloc (.cells #[.slice (some ⟨g, 0, none⟩) n n] 36)) 3 (.int .i64 f0)) (Boxed.new ((w1.alloc (.cells #[.slice (some ⟨g, 0, none⟩) n n] 36)).alloc (.cells #[.int .i64 f0] 3)) 60 (.slice (some ⟨ga, 0, none⟩) lm cap))))
  go_wp2_with fail
  refine (HB.out _).mono ?_
  rintro e w8 ⟨rfl, rfl⟩
  go_wp2_with fail
  try rw [← hg]
  rw [← hs1] at hbx ⊢
  obtain ⟨wA, hwA⟩ : ∃ wA, wA = ((w1.alloc (.cells #[.slice (some ⟨g, 0, none⟩) n n] 36)).alloc (.cells #[.int .i64 f0] 3)).alloc (.cells #[.slice (some ⟨ga, 0, none⟩) lm cap] 60) := ⟨_, rfl⟩
  have hsA : wA.heap.size = s1 + 3 := by rw [hwA, hs1]; simp
  have b1A : Below s1 w1 wA := by rw [hwA, hs1]; exact (((Below.refl _ w1).alloc (Nat.le_refl _) _).alloc (by simp) _).alloc (by simp; omega) _
  have Z5 : Boxed wA s1 36 (.slice (some ⟨g, 0, none⟩) n n) := by rw [hwA]; exact (hbx.out.1.alloc _).alloc _
  have Z6 : Boxed wA (s1 + 1) 3 (.int .i64 f0) := by
    have := hbx.out.2.1.alloc (.cells #[.slice (some ⟨ga, 0, none⟩) lm cap] 60)
    rw [hwA]; simp only [World.size_alloc, ← hs1] at this ⊢; exact this
  have ZX : Boxed wA (s1 + 1 + 1) 60 (.slice (some ⟨ga, 0, none⟩) lm cap) := by
    have := hbx.out.2.2
    rw [hwA]; simp only [World.size_alloc, ← hs1] at this ⊢; exact this
  have hAr : Arr wA g 3 g n (zs (up (List.replicate (lv ws).length 0))) := by
    have h1 := own_belowB hown1 (b1A) (fun k e => by simp [Value.ownBlock] at e; omega)
    have e : zs (up (List.replicate (lv ws).length 0)) = List.replicate n (.int .i64 0) := by rw [HN.out]; simp [zs, up]
    rw [e]; exact h1
  have hbA : Below g w wA := b1.trans (b1A.mono (by omega))
  have X0 := HO.out.below (by rw [← hg]; exact hbA)
  have XL := HL.out.below (by rw [← hg]; exact hbA)
  have hLpos : 0 < (lv ws).length := by rw [← HN.out]; omega
  have hgaL : ga < g := by
    obtain ⟨a, e, hlt, _⟩ := HO.out 0 (by rw [ovs_length, HGS.out]; omega)
    cases e; rw [hg]; exact hlt
  have hgL : ∀ j, j < lm → (gs.getD j (0, 0)).1 < g := fun j hj => by rw [hg]; exact HL.out.lt hLpos (by rw [HGS.out]; exact hj)
  have HZ5 := Lib.hid Z5; have HZ6 := Lib.hid Z6; have HZX := Lib.hid ZX; have HAr := Lib.hid hAr; have HbA := Lib.hid hbA; have HX0 := Lib.hid X0; have HXL := Lib.hid XL; have HgaL := Lib.hid hgaL; have HgL := Lib.hid hgL; have HG := Lib.hid hg; have HsA := Lib.hid hsA
  have TOT : Hid (∀ i, i < n → len (wf ws) (lv ws) (lm - 1) ((lv ws).getD i 0) ≤ 16) := Lib.hid (fun i hi => by
    have hi2 : i < (lv ws).length := by rw [← HN.out]; exact hi
    have := ((len_full (lv_up ws) (lv_nodup ws) (by rw [← HN.out]; exact h2) (by rw [← HN.out]; exact HK.out)).1 (lv ws)[i] (List.getElem_mem hi2)).2
    simp only [List.getD_eq_getElem?_getD, List.getElem?_eq_getElem hi2, Option.getD_some]
    omega)
  obtain ⟨tot, htot⟩ : ∃ tot : Nat → Nat, tot = fun i => len (wf ws) (lv ws) (lm - 1) ((lv ws).getD i 0) := ⟨_, rfl⟩
  have HTOT := Lib.hid htot
  have TOT2 : Hid (∀ i, i < n → tot i ≤ 16) := Lib.hid (fun i hi => by rw [htot]; exact TOT.out i hi)
  have HST : Hid (StC (wf ws) (lv ws) tot lm f0 (List.replicate (lv ws).length 0)) := Lib.hid (by
    obtain ⟨j, rfl⟩ : ∃ j, lm = j + 1 := ⟨lm - 1, by omega⟩
    have := Cnt.start (W := wf ws) (L := lv ws) (j := j) (lev_long j (by rw [← HN.out]; have := HK.out; simpa using this))
    rw [← HN.out] at this
    rw [htot, HF0.out, ← HN.out]
    exact this)
  rw [← hwA]
  clear hwA hbx HB Z5 Z6 ZX hAr hbA X0 XL hLpos hgaL hgL hsA b1A b1 hown1 hgr1 hg hs1 htot TOT
  clear w1
  refine (wpIn_wide (n := 4)).1 ?_
  refine range_told rfl (by omega) (gf := 64) (lb := #[.pointer (some ⟨s1 + 1 + 1, 0, none⟩)]) rfl trivial back_enters
    (back_tells (s1 + 1 + 1) ga lm cap (fun j => .slice (some ⟨(gs.getD j (0, 0)).1, 0, none⟩) (lev (wf ws) (lv ws) j).length (gs.getD j (0, 0)).2) (by omega)) (fun _ => rfl)
    (fun pre W => Kept2 g (s1 + 1) wA W ∧ Below g w W ∧ ∃ (k : Nat) (O : List Nat), (StC (wf ws) (lv ws) tot (lm - pre.length) k O ∧ k ≤ 4096) ∧ Boxed W (s1 + 1) 3 (.int .i64 (k : Nat)) ∧ Arr W g 3 g n (zs (up O)))
    ((kept2_own (Nat.le_refl _)).and ((ownFrom_below (by rw [HG.out]; exact Nat.le_refl _) (by rw [HsA.out]; omega)).and (stc_own _ (by rw [HsA.out]; omega) (by rw [HsA.out]; omega))))
    (fun pre W h => ⟨(h.1.boxed HZX.out (by omega) (by omega)).cell, fun j hj => by
      have := (h.1.rd HX0.out (by have := HgaL.out; omega) (by have := HgaL.out; omega)).at (i := j) (by rw [ovs_length, HGS.out]; exact hj)
      rw [Addr.add_lit, Nat.zero_add, ovs_at _ _ _ (by rw [HGS.out]; exact hj)] at this
      exact this⟩)
    ⟨Kept2.refl _ _ _, HbA.out, f0, _, ⟨by rw [List.length_nil, Nat.sub_zero]; exact HST.out, by omega⟩, HZ6.out, HAr.out⟩
    (fun j => { tmps := #[.slice (some ⟨ga, 0, none⟩) lm cap, .int .i64 (n : Nat), undef, undef, .slice none 0 0, .pointer (some ⟨s1, 0, none⟩), .pointer (some ⟨s1 + 1, 0, none⟩), undef, .slice (some ⟨(gs.getD j (0, 0)).1, 0, none⟩) (lev (wf ws) (lv ws) j).length (gs.getD j (0, 0)).2, undef, undef, undef, .int .i64 (n : Nat), .slice (some ⟨g, 0, none⟩) n n, .int .i64 (n : Nat), .int .i64 (n2 : Nat), .int .i64 (f0 : Nat), .slice (some ⟨ga, 0, none⟩) lm cap, .func (.func 64) #[] #[.pointer (some ⟨s1 + 1 + 1, 0, none⟩)], .int .i64 (j : Nat), .slice (some ⟨(gs.getD j (0, 0)).1, 0, none⟩) (lev (wf ws) (lv ws) j).length (gs.getD j (0, 0)).2, undef, undef, undef, undef, undef, undef, undef, undef, undef, undef, undef, undef, undef, undef, undef, undef, undef, undef, undef, undef, undef, undef, undef, undef], defers := [] }) ?assign ?body ?done
  case assign =>
    intro lp j W K hK
    gi_wp2
    exact hK
  case body =>
    intro lp pre j rest W hx hI
    obtain ⟨hK2, hBw, k, O, ⟨hS, hk4⟩, h6, hA⟩ := hI
    obtain ⟨hj1, hj2, -⟩ := downs_at hx
    have hr : lm - pre.length = j + 1 := by omega
    rw [hr] at hS
    have HC : Hid (Cnt (wf ws) (lv ws) tot j k O) := Lib.hid hS
    obtain ⟨T, hT⟩ : ∃ T, T = lev (wf ws) (lv ws) j := ⟨_, rfl⟩
    have HTT := Lib.hid hT
    have hrT := hK2.rd (HXL.out j (by rw [HGS.out]; exact hj1)).1 (by have := HgL.out j hj1; omega) (by have := HgL.out j hj1; omega)
    have hcT := (HXL.out j (by rw [HGS.out]; exact hj1)).2
    have hgt := HgL.out j hj1
    have hkT := hS.2.1
    have hOl := hS.1
    have hlT := lfc_lev (wf ws) (lv ws) j
    rw [← hT] at hrT hcT hkT hlT ⊢
    obtain ⟨gt, hgt2⟩ : ∃ x, x = (gs.getD j (0, 0)).1 := ⟨_, rfl⟩
    obtain ⟨ct, hct2⟩ : ∃ x, x = (gs.getD j (0, 0)).2 := ⟨_, rfl⟩
    have hrA := (HXL.out j (by rw [HGS.out]; exact hj1)).1
    rw [← hgt2] at hrT hgt hrA
    rw [← hT] at hrA
    have HRA := Lib.hid hrA
    rw [← hct2] at hcT
    rw [← hgt2, ← hct2]
    rw [← HN.out] at hOl hlT
    have HR := Lib.hid hrT; have HLT := Lib.hid hlT; have HOL := Lib.hid hOl
    have HLEN : Hid (k ≤ T.length) := Lib.hid hkT
    have OB : Hid (∀ q, q < n → O.getD q 0 ≤ 16) := Lib.hid (fun q hq => Nat.le_trans (tot_le HC.out (by rw [← HN.out]; exact hq)) (TOT2.out q hq))
    have HFIN : Hid (∀ W', Kept2 g (s1 + 1) wA W' → Below g w W' → Boxed W' (s1 + 1) 3 (.int .i64 ((2 * (k - lfc (T.take k)) : Nat) : Int)) → Arr W' g 3 g n (zs (up (bump O (lfc (T.take k))))) →
        Kept2 g (s1 + 1) wA W' ∧ Below g w W' ∧ ∃ (k : Nat) (O : List Nat), (StC (wf ws) (lv ws) tot (lm - (pre ++ [j]).length) k O ∧ k ≤ 4096) ∧ Boxed W' (s1 + 1) 3 (.int .i64 (k : Nat)) ∧ Arr W' g 3 g n (zs (up O))) := Lib.hid (fun W' a1 a2 a3 a4 => by
      refine ⟨a1, a2, _, _, ⟨?_, ?_⟩, a3, a4⟩
      · rw [show lm - (pre ++ [j]).length = j by simp; omega]
        cases j with
        | zero =>
          have := HC.out.low (lv_nodup ws)
          rw [← HTT.out] at this
          exact this
        | succ j =>
          have := HC.out.step (lv_up ws) (lv_nodup ws)
          rw [← HTT.out] at this
          unfold nxt at this
          rw [← HTT.out] at this
          exact this
      · cases j with
        | zero =>
          have h1 : k ≤ n := by have := HLEN.out; rw [HTT.out] at this; simpa [lev, ← HN.out] using this
          omega
        | succ j =>
          have := (step_up (lv_up ws) (W := wf ws) (L := lv ws) (j := j) (k := k) (by rw [← HTT.out]; exact HLEN.out) 0).2
          unfold nxt at this
          rw [← HTT.out] at this
          have h3 := lev_le (wf ws) (lv ws) j
          rw [← HN.out] at h3
          omega)
    have h5' := hK2.boxed HZ5.out (by omega) (by omega)
    have c6 := h6.cell
    have d1 : (0 : Int) ≤ (k : Int) := by omega
    have d2 : (k : Int) ≤ (ct : Int) := by omega
    have HK2 := Lib.hid hK2; have HBw := Lib.hid hBw; have H6 := Lib.hid h6; have HA := Lib.hid hA
    have KF : Hid (KeepsFrom wA.heap.size W W) := Lib.hid (KeepsFrom.refl _ _)
    have HS3 : Hid (wA.heap.size = s1 + 3) := HsA
    clear hrA hx hS hT hK2 hBw h6 hA hgt2 hct2 hrT hkT hOl hlT hcT h5'
    gi_wp2
    gi_loopw [9, 25] (fun vl vi wr => ∃ t : Nat, t ≤ k ∧ vi = .int .i64 (t : Nat) ∧ vl = .int .i64 ((lfc (T.take t) : Nat) : Int) ∧ Hid (Kept2 g (s1 + 1) wA wr) ∧ Hid (Below g w wr) ∧ Hid (Boxed wr (s1 + 1) 3 (.int .i64 (k : Nat))) ∧ Hid (Arr wr g 3 g n (zs (up (bump O (lfc (T.take t)))))) ∧ Hid (KeepsFrom wA.heap.size W wr)) (fun _ i _ => k - (intOf i).toNat)
    case atStart => exact ⟨0, Nat.zero_le _, rfl, rfl, HK2, HBw, H6, by rw [List.take_zero]; show Hid (Arr W g _ g n (zs (up (bump O 0)))); rw [bump_zero]; exact HA, KF⟩
    case round =>
      clear HA H6 HBw HK2 KF c6
      obtain ⟨t, htk, rfl, rfl, HK2, HBw, H6, HA, KF⟩ := hrel
      have hwA : wA.heap.size ≤ wr.heap.size := HK2.out.1
      by_cases hlt : t < k
      · have htT : t < T.length := by have := HLEN.out; omega
        have hsucc := lfc_succ htT
        have hqn : lfc (T.take (t + 1)) ≤ n := by rw [← HLT.out]; exact lfc_le T (t + 1)
        obtain ⟨cw, cl⟩ := pk_cell (HK2.out.rd HRA.out (by omega) (by omega)) htT
        obtain ⟨x, hx⟩ : ∃ x, x = T[t].wt (wf ws) := ⟨_, rfl⟩
        obtain ⟨q, hq⟩ : ∃ q, q = lfc (T.take t) := ⟨_, rfl⟩
        rw [← hx] at cw
        rw [← hq] at HA hsucc ⊢
        have k0 : (0 : Int) ≤ (t : Int) := by omega
        have k1 : (t : Int) < (k : Int) := by omega
        have hq2 := Lib.hid hq
        have hA0 : Below wr.heap.size wr (wr.alloc (.cells #[.int .u64 (x : Nat), .bool (leaf T[t])] 89)) := (Below.refl _ _).alloc (Nat.le_refl _) _
        have HK3 := Lib.hid (HK2.out.alloc (.cells #[.int .u64 (x : Nat), .bool (leaf T[t])] 89))
        have HB3 : Hid (Below g w (wr.alloc (.cells #[.int .u64 (x : Nat), .bool (leaf T[t])] 89))) := Lib.hid (HBw.out.alloc (by have := HS3.out; omega) _)
        have H63 := Lib.hid (H6.out.alloc (.cells #[.int .u64 (x : Nat), .bool (leaf T[t])] 89))
        have HA3 := Lib.hid (HA.out.below hA0)
        have KF3 : Hid (KeepsFrom wA.heap.size W (wr.alloc (.cells #[.int .u64 (x : Nat), .bool (leaf T[t])] 89))) := Lib.hid (KF.out.trans ((KeepsOthers.alloc _ _).from _))
        have c5 := (HK3.out.boxed HZ5.out (by omega) (by omega)).cell
        have hmes : t < k := hlt
        clear hx hq hA0
        cases hlf : leaf T[t] with
        | true =>
          rw [hlf] at cl HK3 HB3 H63 HA3 KF3 c5 hsucc
          rw [if_pos rfl] at hsucc
          have hqlt : q < n := by omega
          have cq := HA3.out.cell hqlt
          have fq := HA3.out.free q
          rw [zup_getD _ _ (by rw [bump_length, HOL.out]; exact hqlt)] at cq
          have hv := bump_at (O := O) (q := q) (i := q) (by rw [HOL.out]; exact hqlt)
          rw [if_neg (by omega), Nat.add_zero] at hv
          have hvb := OB.out q hqlt
          have HBS := Lib.hid (bump_succ (O := O) (q := q) (by rw [HOL.out]; exact hqlt))
          obtain ⟨v, hv2⟩ : ∃ v, v = (bump O q).getD q 0 := ⟨_, rfl⟩
          rw [← hv2] at cq hv HBS
          have hvl : v ≤ 16 := by omega
          obtain ⟨v1, hv1⟩ : ∃ v1, v1 = v + 1 := ⟨_, rfl⟩
          rw [← hv1] at HBS
          have y1 : (v : Int) + 1 = (v1 : Int) := by omega
          have y2 : IntKind.i64.wrap (v1 : Int) = (v1 : Int) := IntWalk.i64_in _ (by omega)
          have y3 : (0 : Int) ≤ (q : Int) := by omega
          have y4 : (q : Int) < (n : Int) := by omega
          obtain ⟨q1, hq1⟩ : ∃ q1, q1 = q + 1 := ⟨_, rfl⟩
          have y5 : (q : Int) + 1 = (q1 : Int) := by omega
          have y6 : IntKind.i64.wrap (q1 : Int) = (q1 : Int) := IntWalk.i64_in _ (by omega)
          have HQ1 : Hid (q1 = lfc (T.take (t + 1))) := Lib.hid (by rw [hsucc, hq1])
          have HQS : Hid (q1 = q + 1) := Lib.hid hq1
          have E1 := Lib.hid (HK3.out.put ⟨g, q, none⟩ (.int .i64 (v1 : Nat)) (.inl rfl))
          have E2 := Lib.hid (below_put HB3.out (a := ⟨g, q, none⟩) (Nat.le_refl _) (.int .i64 (v1 : Nat)))
          have E3 := Lib.hid (H63.out.kept (setCell_grown0 _ ⟨g, q, none⟩ (.int .i64 (v1 : Nat))) (fun e => absurd (Option.some.inj e) (by show s1 + 1 ≠ g; omega)))
          have E4 := HA3.out.set q (.int .i64 (v1 : Nat))
          rw [up_set, HBS.out, ← HQS.out] at E4
          have E4 := Lib.hid E4
          have E5 : Hid (KeepsFrom wA.heap.size W ((wr.alloc (.cells #[.int .u64 (x : Nat), .bool true] 89)).setCell ⟨g, q, none⟩ (.int .i64 (v1 : Nat)))) := Lib.hid (KF3.out.trans (KeepsFrom.of_grownBy (setCell_grown0 _ ⟨g, q, none⟩ _) (fun j e => by cases e; show g < wA.heap.size; rw [HS3.out]; omega)))
          clear hsucc hv hv2 hv1 hq1 hlf HK3 HB3 H63 HA3 KF3 HBS hvb hqn hqlt
          gi_wp2
          go_roundw
          case rel => exact ⟨t + 1, by omega, by go_num, by rw [HQ1.out], E1, E2, E3, by rw [← HQ1.out]; exact E4, E5⟩
          case measure => simp [intOf]; omega
        | false =>
          rw [hlf] at cl HK3 HB3 H63 HA3 KF3 c5 hsucc
          rw [if_neg (by simp), Nat.add_zero] at hsucc
          have HQ1 : Hid (q = lfc (T.take (t + 1))) := Lib.hid hsucc.symm
          clear hsucc hlf hqn
          gi_wp2
          go_roundw
          case rel => exact ⟨t + 1, by omega, by go_num, by rw [HQ1.out], HK3, HB3, H63, by rw [← HQ1.out]; exact HA3, KF3⟩
          case measure => simp [intOf]; omega
      · obtain rfl : t = k := by omega
        have hqk : lfc (T.take t) ≤ t := by have := lfc_len (T.take t); rw [List.length_take] at this; omega
        have FIN := Lib.hid (HFIN.out)
        obtain ⟨q, hq⟩ : ∃ q, q = lfc (T.take t) := ⟨_, rfl⟩
        rw [← hq] at HA HFIN hqk ⊢
        have c6 := H6.out.cell
        have f6 := H6.out.frozen
        have k1 : ¬ (t : Int) < (t : Int) := by omega
        obtain ⟨u, hu⟩ : ∃ u, u = t - q := ⟨_, rfl⟩
        rw [← hu] at HFIN
        have y1 : (t : Int) - (q : Int) = (u : Int) := by omega
        have y2 : IntKind.i64.wrap (u : Int) = (u : Int) := IntWalk.i64_in _ (by omega)
        obtain ⟨u2, hu2⟩ : ∃ u2, u2 = 2 * u := ⟨_, rfl⟩
        rw [← hu2] at HFIN
        have y3 : (2 : Int) * (u : Int) = (u2 : Int) := by omega
        have y4 : IntKind.i64.wrap (u2 : Int) = (u2 : Int) := IntWalk.i64_in _ (by omega)
        have E1 := HK2.out.put ⟨s1 + 1, 0, none⟩ (.int .i64 (u2 : Nat)) (.inr rfl)
        have E2 := below_put HBw.out (a := ⟨s1 + 1, 0, none⟩) (by show g ≤ s1 + 1; omega) (.int .i64 (u2 : Nat))
        have E3 := H6.out.set (.int .i64 (u2 : Nat))
        have E4 := HA.out.other (a := ⟨s1 + 1, 0, none⟩) (by show s1 + 1 ≠ g; omega) (.int .i64 (u2 : Nat))
        have E5 : Hid (KeepsFrom wA.heap.size W (wr.setCell ⟨s1 + 1, 0, none⟩ (.int .i64 (u2 : Nat)))) := Lib.hid (KF.out.trans (KeepsFrom.of_grownBy (setCell_grown0 _ ⟨s1 + 1, 0, none⟩ _) (fun j e => by cases e; show s1 + 1 < wA.heap.size; rw [HS3.out]; omega)))
        have FF := Lib.hid (HFIN.out _ E1 E2 E3 E4)
        clear E1 E2 E3 E4 hu hu2 hq hqk FIN HFIN hlt
        gi_wp2
        exact ⟨rfl, E5.out, FF.out⟩
  case done =>
    rintro D W hD ⟨hK2, hBw, k, O, ⟨hS, hk4⟩, h6, hA⟩ hDf
    rw [downs_length, Nat.sub_self] at hS
    have c5 := (hK2.boxed HZ5.out (by omega) (by omega)).cell
    have HS0 : Hid (O = (List.range n).map fun i => len (wf ws) (lv ws) (lm - 1) ((lv ws).getD i 0)) := Lib.hid (by
      obtain ⟨e1, e2⟩ := hS
      apply List.ext_getElem
      · rw [e1, List.length_map, List.length_range, HN.out]
      · intro i h1 h3
        have := e2 i (by rw [← e1]; exact h1)
        rw [HTOT.out, List.getD_eq_getElem?_getD, List.getElem?_eq_getElem h1, Option.getD_some] at this
        rw [this]
        simp)
    have HA := Lib.hid hA; have HBw := Lib.hid hBw; have HD := Lib.hid hD; have HDf := Lib.hid hDf
    clear hK2 hBw hS h6 hA hD hDf
    go_wp2_with fail
    refine ⟨by simp, .inl ⟨_, _, rfl, run_takeDeferred HDf.out, ?_⟩⟩
    have hb2 := HBw.out.trans (belowK_b (w := wA) (n₀ := g) (by rw [HsA.out]; omega) W D _ (.deferred none) HD.out HDf.out rfl rfl)
    have hA2 : Arr (W.putObj D (.deferred none)) g 3 g n (zs (up O)) := World.ownsRow.kept HA.out (grownBy_putObj' _ D (.deferred none)) (.inr (fun e => by
      have : g = D := by simpa [Value.ownBlock] using e
      have := HD.out; have := HsA.out; omega))
    refine ⟨.slice (some ⟨g, 0, none⟩) n n, by simp [results, Tryd.results34, go_sem], ?_⟩
    exact ⟨g, n, rfl, by rw [HG.out]; exact Nat.le_refl _, by rw [← HS0.out]; exact hA2.rd, by rw [← HG.out]; exact hb2⟩
end Go.Proofs.YtbegngilbngnoaaDoor.Ps
namespace Go.Proofs.YtbegngilbngnoaaDoor.Ps
open Go.RowKit Go.Lib Rw Ls Od Pk St _root_.Go.Proofs.YtbegngilbngnoaaDoor.Nm

theorem rd_other {w : World} {A : Option Addr} {xs : List Value} (h : Rd w A xs) {a : Addr} (ha : ∀ q, A = some q → q.block ≠ a.block) (v : Value) : Rd (w.setCell a v) A xs := fun i hi => by
  obtain ⟨q, e, hl, hc⟩ := h i hi
  refine ⟨q, e, Nat.lt_of_lt_of_le hl (KeepsWalks.setCell w a v).size, ?_⟩
  rw [World.cell?_setCell_other _ _ _ _ (fun h2 => ha q e (by rw [← add_block q i, h2]))]
  exact hc
set_option maxHeartbeats 4000000 in
set_option maxRecDepth 100000 in
theorem plengths_bad (ws : List Nat) (lim : Int) (p : Option Addr) (c : Nat) (w : World) (hp : Rd w p (nums ws)) (hl : ws.length ≤ 17592186044416) (hb : okL ws lim = false) :
    Calls Tryd.prog 19 #[.slice p ws.length c, .int .i64 lim] w (IE w (lenR ws lim)) := by
  have F : Hid (lenR ws lim = ([], 1)) := Lib.hid (by unfold lenR; rw [hb]; rfl)
  have CR := pweights_any ws p c w hp hl
  cases ho : okW ws with
  | false =>
    rw [ho] at CR
    have C := Lib.hid CR
    clear CR ho hp hb hl
    go_enter Tryd.func19, Tryd.ntmps19
    go_wp2_with fail
    refine C.out.mono ?_
    rintro e w1 ⟨rfl, rfl⟩
    go_wp2_with fail
    refine bodyPost_ret (v := .tuple #[.slice none 0 0, .int .i64 1]) (by simp [results, Tryd.results19, go_sem]) rfl ?_
    exact ie_mk F.out rfl (Nat.le_refl _) (Rd.nil _ _) (Below.refl _ _)
  | true =>
    have hlm : okLim lim = false := by
      unfold okL at hb
      unfold okLim
      rw [ho, Bool.true_and] at hb
      exact hb
    have CL := plimit_any lim w
    rw [hlm] at CL
    rw [ho] at CR
    have C := Lib.hid CR
    have D := Lib.hid CL
    clear CR CL ho hp hb hl hlm
    go_enter Tryd.func19, Tryd.ntmps19
    go_wp2_with fail
    refine C.out.mono ?_
    rintro e w1 ⟨rfl, rfl⟩
    go_wp2_with fail
    refine D.out.mono ?_
    rintro e w2 ⟨rfl, rfl⟩
    go_wp2_with fail
    refine bodyPost_ret (v := .tuple #[.slice none 0 0, .int .i64 1]) (by simp [results, Tryd.results19, go_sem]) rfl ?_
    exact ie_mk F.out rfl (Nat.le_refl _) (Rd.nil _ _) (Below.refl _ _)
set_option maxHeartbeats 8000000 in
set_option maxRecDepth 100000 in
theorem plengths_ok (ws : List Nat) (lm n : Nat) (p : Option Addr) (c : Nat) (w : World) (hn : n = ws.length) (hp : Rd w p (nums ws)) (hb : okL ws (lm : Int) = true) :
    Calls Tryd.prog 19 #[.slice p n c, .int .i64 (lm : Int)] w (IE w (lenR ws (lm : Int))) := by
  obtain ⟨i0, hi0, hz0, hz1, hz2⟩ := info_parts info_int
  have hb2 := hb
  unfold okL at hb2
  simp only [Bool.and_eq_true, decide_eq_true_eq] at hb2
  obtain ⟨⟨ho, g1⟩, g2⟩ := hb2
  have hl1 : 1 ≤ lm ∧ lm ≤ 15 := by omega
  have hl5 := okW_len ho
  rw [← hn] at hl5
  have CR0 := pweights_any ws p c w hp (by rw [← hn]; omega)
  rw [ho, ← hn] at CR0
  have hlim : okLim (lm : Int) = true := by unfold okLim; rw [decide_eq_true g1, decide_eq_true g2]; rfl
  have CL0 := plimit_any (lm : Int) w
  rw [hlim] at CL0
  have hsl := sy_len ws
  obtain ⟨sz, hsz⟩ : ∃ sz, sz = (sy ws).length := ⟨_, rfl⟩
  rw [← hsz, ← hn] at hsl
  have CLE := leaves_any ws p c n sz w hn (by omega) hsz hp
  obtain ⟨x0, hx0⟩ : ∃ x0 : Nat, x0 = 2 ^ lm := ⟨_, rfl⟩
  have sh0 := shl_i64 lm hl1.2
  rw [← hx0] at sh0
  have hx0b : x0 ≤ 32768 := by rw [hx0]; exact Nat.pow_le_pow_right (n := 2) (by omega) hl1.2
  have HX0 := Lib.hid hx0
  have C1 := Lib.hid CR0; have C2 := Lib.hid CL0; have C3 := Lib.hid CLE
  have HN := Lib.hid hn; have HSZ := Lib.hid hsz; have HOK := Lib.hid ho; have HBD := Lib.hid hb; have HP := Lib.hid hp
  have e5 : decide (15 < lm) = false := decide_eq_false (by omega)
  clear CR0 CL0 CLE hn hsz hx0 hlim ho hb hp g1 g2
  go_enter Tryd.func19, Tryd.ntmps19
  go_wp2_with fail
  refine C1.out.mono ?_
  rintro e w1 ⟨rfl, hw1⟩
  replace hw1 := hw1.symm
  subst hw1
  go_wp2_with fail
  refine C2.out.mono ?_
  rintro e w2 ⟨rfl, hw2⟩
  replace hw2 := hw2.symm
  subst hw2
  go_wp2_with fail
  refine C3.out.mono ?_
  rintro e w3 ⟨g, cap, rfl, h1, h2, h3, h4⟩
  have HG := Lib.hid (And.intro h1 h2); have HRS := Lib.hid h3; have HB3 := Lib.hid h4
  clear h1 h2 h3 h4 C1 C2 C3
  by_cases hfull : x0 < sz
  · have t1 : decide ((x0 : Int) < (sz : Int)) = true := decide_eq_true (by omega)
    have t2 : decide (x0 < sz) = true := decide_eq_true hfull
    have F : Hid (lenR ws (lm : Int) = ([], 8)) := Lib.hid (by unfold lenR; rw [if_pos HBD.out, Int.toNat_natCast, if_pos (by rw [← HX0.out, ← HSZ.out]; exact hfull)])
    clear hfull
    go_wp2_with fail
    refine bodyPost_ret (v := .tuple #[.slice none 0 0, .int .i64 8]) (by simp [results, Tryd.results19, go_sem]) rfl ?_
    exact ie_mk F.out rfl (Nat.le_refl _) (Rd.nil _ _) HB3.out
  have t1 : decide ((x0 : Int) < (sz : Int)) = false := decide_eq_false (by omega)
  have t2 : decide (x0 < sz) = false := decide_eq_false hfull
  have F : Hid (lenR ws (lm : Int) = (lens ws lm, 0)) := Lib.hid (by unfold lenR; rw [if_pos HBD.out, Int.toNat_natCast, if_neg (by rw [← HX0.out, ← HSZ.out]; exact hfull)])
  have HFU := Lib.hid hfull
  clear hfull
  go_wp2_with (at_make; refine wpList_make_full _ rfl _ _ 36 rfl w3.heap.size 3 i0 (.int .i64 0) 1 Tryd.underlying36 hi0 hz0 hz1 .i64 .i64 ↑n ↑n n rfl rfl rfl rfl ?c1 ?c2 ?c3 ?_)
  case c1 => rw [hz2]; omega
  case c2 => unfold maxLen; omega
  case c3 => simp
  intro w4 hown4 hgr4
  have b4 : Below w3.heap.size w3 w4 := (Below.refl _ _).grown hgr4 (Nat.le_refl _) (by simp)
  rw [toList_madeCells_one] at hown4
  obtain ⟨gL, hgL⟩ : ∃ gL, gL = w3.heap.size := ⟨_, rfl⟩
  rw [← hgL] at hown4 b4 
  have HGL := Lib.hid hgL
  have hAr : Arr w4 gL 3 gL n (zs (up (List.replicate n 0))) := by
    have e : zs (up (List.replicate n 0)) = List.replicate n (.int .i64 0) := by simp [zs, up]
    rw [e]; exact hown4
  have HAr := Lib.hid hAr
  have HB4 : Hid (Below w.heap.size w w4) := Lib.hid (HB3.out.trans (b4.mono (by rw [hgL]; exact HB3.out.size)))
  have HRS4 : Hid (Rd w4 (some ⟨g, 0, none⟩) (zs (up (lv ws)))) := Lib.hid (HRS.out.below (by rw [← hgL]; exact b4))
  have hgg : g < gL := by rw [hgL]; exact HG.out.2
  try rw [← hgL]
  clear hown4 hgr4 b4 hAr hgL
  have HSL : Hid ((lv ws).length = sz) := Lib.hid (by rw [lv_len, HSZ.out])
  have HLL : Hid ((lens ws lm).length = n) := Lib.hid (by rw [lens_length, HN.out])
  by_cases hs0 : sz = 0
  · have u1 : ((sz : Int) == 1) = false := by rw [beq_eq_false_iff_ne]; omega
    have u2 : ((sz : Int) == 0) = true := by rw [beq_iff_eq]; omega
    have u3 : (sz == 0) = true := by rw [beq_iff_eq]; exact hs0
    have u4 : (sz == 1) = false := by rw [beq_eq_false_iff_ne]; omega
    have HFE : Hid (lens ws lm = List.replicate n 0) := Lib.hid (by rw [few_none (by rw [← HSZ.out]; exact hs0), HN.out])
    clear hs0
    go_wp2_with fail
    refine bodyPost_ret (v := .tuple #[.slice (some ⟨gL, 0, none⟩) n n, .int .i64 0]) (by simp [results, Tryd.results19, go_sem]) rfl ?_
    exact ie_mk F.out HLL.out (Nat.le_refl _) (by rw [HFE.out]; exact HAr.out.rd) HB4.out
  by_cases hs1 : sz = 1
  · have u1 : ((sz : Int) == 1) = true := by rw [beq_iff_eq]; omega
    have u4 : (sz == 1) = true := by rw [beq_iff_eq]; exact hs1
    obtain ⟨x, hx⟩ := List.length_eq_one_iff.1 (show (sy ws).length = 1 by rw [← HSZ.out]; exact hs1)
    have hlv : lv ws = [x] := by
      have := lv_perm ws
      rw [hx] at this
      exact List.perm_singleton.1 this
    have hxn : x < n := by rw [HN.out]; exact (sy_lt (show x ∈ sy ws by rw [hx]; simp)).1
    have cs := HRS4.out.at (i := 0) (by rw [hlv]; simp [zs, up])
    rw [Addr.add_lit, hlv] at cs
    have cs2 : w4.cell? ⟨g, 0, none⟩ = some (.int .i64 (x : Nat)) := by
      rw [show (⟨g, 0 + 0, none⟩ : Addr) = ⟨g, 0, none⟩ from rfl] at cs
      rw [cs]; rfl
    have ca := HAr.out.cell hxn
    have fa := HAr.out.free x
    have HFE : Hid (lens ws lm = (List.replicate n 0).set x 1) := Lib.hid (by rw [few_one hx, HN.out])
    have HA2 := HAr.out.set x (.int .i64 ((1 : Nat) : Int))
    rw [up_set] at HA2
    have HA2 := Lib.hid HA2
    have HB5 := Lib.hid (below_put HB4.out (a := ⟨gL, x, none⟩) (by show w.heap.size ≤ gL; have := HG.out.1; omega) (.int .i64 ((1 : Nat) : Int)))
    have y1 : (0 : Int) ≤ (x : Int) := by omega
    have y2 : (x : Int) < (n : Int) := by omega
    have y3 : (0 : Int) < (sz : Int) := by omega
    clear cs hx hlv hs1
    go_wp2_with fail
    refine bodyPost_ret (v := .tuple #[.slice (some ⟨gL, 0, none⟩) n n, .int .i64 0]) (by simp [results, Tryd.results19, go_sem]) rfl ?_
    exact ie_mk F.out HLL.out (Nat.le_refl _) (by rw [HFE.out]; exact HA2.out.rd) HB5.out
  have h2 : 2 ≤ sz := by omega
  have u1 : ((sz : Int) == 1) = false := by rw [beq_eq_false_iff_ne]; omega
  have u2 : ((sz : Int) == 0) = false := by rw [beq_eq_false_iff_ne]; omega
  have u3 : (sz == 0) = false := by rw [beq_eq_false_iff_ne]; exact hs0
  have u4 : (sz == 1) = false := by rw [beq_eq_false_iff_ne]; exact hs1
  have hkk : sz ≤ 2 ^ (lm - 1 + 1) := by rw [show lm - 1 + 1 = lm by omega, ← HX0.out]; have := HFU.out; omega
  have HKK := Lib.hid hkk
  have CLV := Lib.hid (levels_any ws p c n g sz cap lm w4 HN.out HOK.out HSL.out.symm h2 hl1.1 hl1.2 (HP.out.below HB4.out) HRS4.out)
  have CCO : Hid (∀ (ga cap : Nat) (gs : List (Nat × Nat)) (W : World), gs.length = lm → Rd W (some ⟨ga, 0, none⟩) (ovs (wf ws) (lv ws) gs) → LvsAt W (wf ws) (lv ws) gs → Calls Tryd.prog 34 #[.slice (some ⟨ga, 0, none⟩) lm cap, .int .i64 (sz : Nat)] W fun e w' => ∃ g c, e = .returned (.slice (some ⟨g, 0, none⟩) sz c) ∧ W.heap.size ≤ g ∧ Rd w' (some ⟨g, 0, none⟩) (zs (up ((List.range sz).map fun i => len (wf ws) (lv ws) (lm - 1) ((lv ws).getD i 0)))) ∧ Below W.heap.size W w') :=
    Lib.hid (fun ga cap gs W a1 a2 a3 => counts_any ws ga cap sz lm gs W HSL.out.symm h2 (by omega) hl1.1 hl1.2 a1 HKK.out a2 a3)
  have HTOLD : Hid (told n (lv ws) (len (wf ws) (lv ws) (lm - 1)) sz = lens ws lm) := Lib.hid (by
    have := told_all (ws := ws) (lim := lm) (by rw [HSL.out]; exact h2) (by rw [HSL.out]; exact HKK.out)
    rw [HSL.out, ← HN.out] at this
    exact this)
  obtain ⟨f, hf⟩ : ∃ f, f = len (wf ws) (lv ws) (lm - 1) := ⟨_, rfl⟩
  rw [← hf] at CCO HTOLD
  have HA0 : Hid (Arr w4 gL 3 gL n (zs (up (told n (lv ws) f 0)))) := Lib.hid (by rw [told_zero]; exact HAr.out)
  clear hf hs0 hs1 hkk
  go_wp2_with fail
  refine CLV.out.mono ?_
  rintro e w5 ⟨ga, ca, gs, rfl, q1, q2, q3, q4, q5⟩
  have HR5 := Lib.hid q2; have HL5 := Lib.hid q3; have HB5 := Lib.hid q5; have HQ1 := Lib.hid q1
  clear q1 q2 q3 q4 q5 CLV
  go_wp2_with fail
  refine (CCO.out ga ca gs w5 HQ1.out HR5.out HL5.out).mono ?_
  rintro e w6 ⟨gO, cO, rfl, q0, q1, q2⟩
  have HB45 : Hid (Below w4.heap.size w4 w6) := Lib.hid (HB5.out.trans (q2.mono HB5.out.size))
  have HRO := Lib.hid q1
  have HB6 : Hid (Below w.heap.size w w6) := Lib.hid (HB4.out.trans (HB45.out.mono HB4.out.size))
  have HA6 : Hid (Arr w6 gL 3 gL n (zs (up (told n (lv ws) f 0)))) := Lib.hid (HA0.out.below HB45.out)
  have HRS6 : Hid (Rd w6 (some ⟨g, 0, none⟩) (zs (up (lv ws)))) := Lib.hid (HRS4.out.below HB45.out)
  have hgO : gO ≠ gL := by
    have h1 := HAr.out.lt
    have h3 := HB5.out.size
    omega
  clear q0 q1 q2 CCO HB5 HR5 HL5 HA0 HRS4 HAr HB4
  go_wp2_with fail
  go_loopw [48] (fun i wr => ∃ t : Nat, t ≤ sz ∧ i = .int .i64 (t : Nat) ∧ Hid (Arr wr gL 3 gL n (zs (up (told n (lv ws) f t)))) ∧ Hid (Rd wr (some ⟨g, 0, none⟩) (zs (up (lv ws)))) ∧ Hid (Rd wr (some ⟨gO, 0, none⟩) (zs (up ((List.range sz).map fun i => f ((lv ws).getD i 0))))) ∧ Hid (Below w.heap.size w wr)) (fun i _ => sz - (intOf i).toNat)
  case atStart => exact ⟨0, Nat.zero_le _, rfl, HA6, HRS6, HRO, HB6⟩
  case round =>
    clear HA6 HRS6 HRO HB6
    obtain ⟨t, ht, rfl, HA, HRS, HRO, HB⟩ := hrel
    by_cases hlt : t < sz
    · have htl : t < (lv ws).length := by rw [HSL.out]; exact hlt
      have cs := HRS.out.at (i := t) (by simp [zs, up]; exact htl)
      have co := HRO.out.at (i := t) (by simp [zs, up]; exact hlt)
      rw [Addr.add_lit, Nat.zero_add, zup_getD _ _ htl] at cs
      rw [Addr.add_lit, Nat.zero_add, zup_getD _ _ (by simp; exact hlt)] at co
      have hsn : (lv ws)[t] < n := by rw [HN.out]; exact (lv_mem.1 (List.getElem_mem htl)).1
      have hTS := told_succ (m := n) (L := lv ws) (f := f) htl
      obtain ⟨s, hs⟩ : ∃ s, s = (lv ws)[t] := ⟨_, rfl⟩
      have es : (lv ws).getD t 0 = s := by rw [hs]; simp [htl]
      have eo : ((List.range sz).map fun i => f ((lv ws).getD i 0)).getD t 0 = f s := by
        rw [List.getD_eq_getElem?_getD, List.getElem?_map, List.getElem?_range hlt]
        show f ((lv ws).getD t 0) = f s
        rw [es]
      rw [es] at cs
      rw [eo] at co
      rw [← hs] at hsn hTS
      obtain ⟨v, hv⟩ : ∃ v, v = f s := ⟨_, rfl⟩
      rw [← hv] at co hTS
      have ca := HA.out.cell hsn
      have fa := HA.out.free s
      have HA2 := HA.out.set s (.int .i64 (v : Nat))
      rw [up_set, hTS] at HA2
      have HA2 := Lib.hid HA2
      have HRS2 := Lib.hid (rd_other HRS.out (a := ⟨gL, s, none⟩) (fun q e => by cases e; show g ≠ gL; omega) (.int .i64 (v : Nat)))
      have HRO2 := Lib.hid (rd_other HRO.out (a := ⟨gL, s, none⟩) (fun q e => by cases e; exact hgO) (.int .i64 (v : Nat)))
      have HB2 := Lib.hid (below_put HB.out (a := ⟨gL, s, none⟩) (by show w.heap.size ≤ gL; have := HG.out.1; omega) (.int .i64 (v : Nat)))
      have y1 : (0 : Int) ≤ (t : Int) := by omega
      have y2 : (t : Int) < (sz : Int) := by omega
      have y3 : (0 : Int) ≤ (s : Int) := by omega
      have y4 : (s : Int) < (n : Int) := by omega
      clear hs es eo hv hTS htl hlt
      go_wp2_with fail
      go_roundw
      case rel => exact ⟨t + 1, by omega, by go_num, HA2, HRS2, HRO2, HB2⟩
      case measure => simp [intOf]; omega
    · obtain rfl : t = sz := by omega
      have k1 : ¬ (t : Int) < (t : Int) := by omega
      have HAF : Hid (Arr wr gL 3 gL n (zs (up (lens ws lm)))) := Lib.hid (by rw [← HTOLD.out]; exact HA.out)
      go_wp2_with fail
      refine bodyPost_ret (v := .tuple #[.slice (some ⟨gL, 0, none⟩) n n, .int .i64 0]) (by simp [results, Tryd.results19, go_sem]) rfl ?_
      exact ie_mk F.out HLL.out (Nat.le_refl _) HAF.out.rd HB.out
theorem plengths_any (ws : List Nat) (lim : Int) (p : Option Addr) (c : Nat) (w : World) (hp : Rd w p (nums ws)) (hl : ws.length ≤ 17592186044416) :
    Calls Tryd.prog 19 #[.slice p ws.length c, .int .i64 lim] w (IE w (lenR ws lim)) := by
  cases hb : okL ws lim with
  | false => exact plengths_bad ws lim p c w hp hl hb
  | true =>
    have hb2 := hb
    unfold okL at hb2
    simp only [Bool.and_eq_true, decide_eq_true_eq] at hb2
    obtain ⟨lm, rfl⟩ := Int.eq_ofNat_of_zero_le (show 0 ≤ lim by omega)
    exact plengths_ok ws lm ws.length p c w rfl hp hb
end Go.Proofs.YtbegngilbngnoaaDoor.Ps
namespace Go.Proofs.YtbegngilbngnoaaDoor.Pk
open Go.RowKit Go.Lib Rw Ls Od _root_.Go.Proofs.YtbegngilbngnoaaDoor.Nm

/-- ints in memory, how many being a number -/
def IEn (W : World) (n : Nat) (L : List Nat) (r : Int) (e : Ending) (w' : World) : Prop := ∃ (q : Option Addr) (c : Nat), e = .returned (.tuple #[.slice q n c, .int .i64 r]) ∧ n ≤ c ∧ Rd w' q (zs (up L)) ∧ Below W.heap.size W w'
theorem ien_of {W : World} {n : Nat} {o : List Nat × Int} {L : List Nat} {r : Int} (h : o = (L, r)) (hn : L.length = n) {f : FuncId} {a : Array Value} {P : Program} (hc : Calls P f a W (IE W o)) : Calls P f a W (IEn W n L r) := by subst h; subst hn; exact hc
theorem plengths_any (ws : List Nat) (lim : Int) (p : Option Addr) (c : Nat) (w : World) (hp : Rd w p (nums ws)) (hl : ws.length ≤ 17592186044416) :
    Calls Tryd.prog 19 #[.slice p ws.length c, .int .i64 lim] w (IE w (lenR ws lim)) := Ps.plengths_any ws lim p c w hp hl
theorem pcost_any (ws : List Nat) (ls : List Int) (p q : Option Addr) (c d : Nat) (w : World) (hp : Rd w p (nums ws)) (hq : Rd w q (zs ls)) (hl : ws.length ≤ 17592186044416) (hm : ls.length ≤ 17592186044416) :
    Calls Tryd.prog 20 #[.slice p ws.length c, .slice q ls.length d] w fun e w' => e = .returned (.tuple #[.int .u64 ((costR ws ls).1 : Nat), .int .i64 (costR ws ls).2]) ∧ Below w.heap.size w w' :=
  (Ps.pcostw_any ws ls p q c d w hp hq hl hm).mono fun _ _ ⟨h1, h2⟩ => ⟨h1, h2 ▸ Below.refl _ _⟩
end Go.Proofs.YtbegngilbngnoaaDoor.Pk

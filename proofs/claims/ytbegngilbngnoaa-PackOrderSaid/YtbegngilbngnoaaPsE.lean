/- The walk of package pack's level. -/
import Derived.Test.YtbegngilbngnoaaPsD
import Derived.Test.YtbegngilbngnoaaPkG
import Derived.Deep.RegionLaw
import Derived.Deep.AppendLies
import Derived.RangeFuncBox
namespace Go.Proofs.Ytbegngilbngnoaa.Ps
open Go.RowKit Go.Lib Rw Ls Od Pk St _root_.Go.Proofs.Ytbegngilbngnoaa.Nm
open Go.Sort (grow)

open Go.Op in
/-- append one element to a row of one's own, at a step of a region that draws its order; where the row lies then -/
theorem step_own2 {P : Program} {ops : Array Oper} {o : Oper} {a : Act} {K : Act → World → Prop} {Q : Exit → Act → World → Prop} {E : Prop} (W : World) (hgd : o.guard = none) (s x : Operand) (t : TypeId)
    (ho : o.op = .call { callee := .builtin .append, args := #[s, x], argTypes := #[t, t] })
    (base : Nat) (e : TypeId) (i : TypeInfo) (z : Value) (size bytes : Nat) (ht : P.underlying t = some (.slice e)) (hi : P.info? e = some i) (hz : i.zero = some z)
    (hsize : i.size = size) (hby : i.bytes = bytes) (hzs : z.cells.size = size) (hsz : 0 < size)
    (v : Value) (n : Nat) (xs : List Value) (hs : a.eval s = v) (hown : W.ownsRow base e size v n xs)
    (news : List Value) (hx : a.eval x = .slice (some ⟨W.heap.size, 0, none⟩) 1 1) (hl : news.length = size) (h1c : news.all (fun u => u.oneCell') = true)
    (hn : n ≤ 1000000000) (hb2 : bytes ≤ 1000) (hbase : base ≤ W.heap.size)
    (hK : ∀ g cap w', w'.ownsRow base e size (.slice (some ⟨g, 0, none⟩) (n + 1) cap) (n + 1) (xs ++ news) → (W.alloc (.cells news.toArray e)).grownBy w' v.ownBlock → (v.ownBlock = some g ∨ g = W.heap.size + 1) → K (a.put o.dst (.slice (some ⟨g, 0, none⟩) (n + 1) cap)) w') :
    if Region.wanted o (yielded ops a.tmps) = true then Oper.wp P o a (W.alloc (.cells news.toArray e)) K Q else E := by
  have hown2 := Rw.own_below hown ((RowKit.Below.refl _ W).alloc (Nat.le_refl _) (.cells news.toArray e))
  refine step_append_lies _ hgd s x t ho base e i z size bytes ht hi hz hsize hby hzs hsz v n xs hs hown2 ⟨W.heap.size, 0, none⟩ 1 1 news hx (by omega) ?_ (fun u hu => List.all_eq_true.1 h1c u hu) (by decide) (by unfold maxLen; omega) ?_ (by simp; omega) (W.heap.size + 1) (by simp) ?_
  · intro j u hj
    exact World.news_of_block (cs := news.toArray) (heap_alloc_new W _) j u (by simpa using hj)
  · have : (n + 1) * bytes ≤ (1000000000 + 1) * 1000 := Nat.mul_le_mul (by omega) hb2
    omega
  · intro g cap w' h1 h2 h3 _
    exact hK g cap w' h1 h2 h3
theorem info_pk : (Try.prog.info? 55).map (fun i => (i.zero, i.size, i.bytes)) = some (some (.agg #[.int .u64 0, .bool false]), 2, 16) := by kernel_rfl
theorem pcs_one (V : Nat → Nat) (T : List Tr) : ∀ u ∈ pcs V T, u.oneCell' = true := by
  intro u hu
  unfold pcs at hu
  obtain ⟨t, _, h⟩ := List.mem_flatMap.1 hu
  exact pv_one V t u h
/-- packages, new -/
def PkP (w : World) (V : Nat → Nat) (n : Nat) (T : List Tr) (e : Ending) (w' : World) : Prop := ∃ (g cap : Nat), e = .returned (.slice (some ⟨g, 0, none⟩) n cap) ∧ PkAt w' w.heap.size V g n cap T ∧ w.heap.size ≤ g ∧ g < w'.heap.size ∧ Below w.heap.size w w'
set_option maxHeartbeats 4000000 in
theorem clonep_any (V : Nat → Nat) (T : List Tr) (ga n c : Nat) (w : World) (hn : n = T.length) (h0 : 0 < n) (hl : n ≤ 1000000) (hp : Rd w (some ⟨ga, 0, none⟩) (pcs V T)) :
    Calls Try.prog 32 #[.slice (some ⟨ga, 0, none⟩) n c] w (PkP w V n T) := by
  have hnil : ∀ W, (binOp .eql 53 (.slice (some ⟨ga, 0, none⟩) n c) (.slice none 0 0)).run Try.prog W = .ok (.bool false) W := fun W => run_eql_slice_nil W 53 55 (some ⟨ga, 0, none⟩) n c Try.underlying53
  obtain ⟨i0, hi0, hz0, hz1, hz2⟩ := info_parts info_pk
  have own0 : (w.alloc (.cells #[] 55)).ownsRow w.heap.size 55 2 (.slice (some ⟨w.heap.size, 0, none⟩) 0 0) 0 [] :=
    World.ownsRow_lit (e := 55) (base := w.heap.size) (size := 2) w #[] 0 (by omega) (by decide) rfl
  have HO := Lib.hid own0
  have HR := Lib.hid (hp.alloc (.cells #[] 55))
  have HL : Hid ((pcs V T).length = n * 2) := Lib.hid (by rw [pcs_length, hn]; omega)
  have H1 := Lib.hid (pcs_one V T)
  have HB : Hid (Below w.heap.size w (w.alloc (.cells #[] 55))) := Lib.hid ((Below.refl _ _).alloc (Nat.le_refl _) _)
  clear own0 hp hn
  go_enter Try.func32, Try.ntmps32
  go_wp2_with (at_builtin; refine wpList_app rfl _ _ 53 rfl w.heap.size 55 i0 (.agg #[.int .u64 0, .bool false]) 2 16 Try.underlying53 hi0 hz0 hz1 hz2 rfl (by decide) (.slice (some ⟨w.heap.size, 0, none⟩) 0 0) 0 [] rfl (some ⟨ga, 0, none⟩) n c (pcs V T) rfl HL.out H1.out (by unfold maxLen; omega) (by omega) HO.out HR.out (by simp) ?_)
  intro v' w' hown _ hb _
  try rw [List.nil_append] at hown
  try rw [Nat.zero_add] at hown
  obtain ⟨n', rfl⟩ : ∃ m, n = m + 1 := ⟨n - 1, by omega⟩
  obtain ⟨g, cap, rfl⟩ := ownsRow_succ hown
  have F : Hid (PkP w V (n' + 1) T (.returned (.slice (some ⟨g, 0, none⟩) (n' + 1) cap)) w') := Lib.hid ⟨g, cap, rfl, hown, (hown.lt g rfl).1, (hown.lt g rfl).2, HB.out.trans hb⟩
  clear hown hb
  go_wp2_with fail
  go_ret
  exact F.out
theorem own_grows {w w1 : World} {B g n cap : Nat} {o : Obj} (h1 : B ≤ g) (hg : (w.drew.alloc o).grownBy w1 (Value.ownBlock (.slice (some ⟨g, 0, none⟩) n cap))) (hB : B ≤ w.heap.size) : Below B w w1 :=
  (((Below.refl B w).drew).alloc (by exact hB) _).grown hg (by simp; omega) (fun j e => by simp [Value.ownBlock] at e; omega)
theorem take_succ_prs {T : List Tr} {k : Nat} (h : 2 * k + 1 < T.length) : (prs T).take (k + 1) = (prs T).take k ++ [.nd (T[2 * k]'(by omega)) T[2 * k + 1]] := by
  obtain ⟨h2, e⟩ := prs_at T k h
  rw [List.take_succ_eq_append_getElem h2, e]
theorem pk_cell {V : Nat → Nat} {T : List Tr} {w : World} {g : Nat} (h : Rd w (some ⟨g, 0, none⟩) (pcs V T)) {i : Nat} (hi : i < T.length) : w.cell? ⟨g, i * 2, none⟩ = some (.int .u64 ((T[i].wt V : Nat) : Int)) ∧ w.cell? ⟨g, i * 2 + 1, none⟩ = some (.bool (leaf T[i])) := by
  have e1 := pcs_at V T i 0 hi (by omega)
  have e2 := pcs_at V T i 1 hi (by omega)
  have h1 := h.at (i := i * 2) (by rw [pcs_length]; omega)
  have h2 := h.at (i := i * 2 + 1) (by rw [pcs_length]; omega)
  rw [List.getD_eq_getElem?_getD, Addr.add_lit, Nat.zero_add] at h1 h2
  rw [show (pcs V T)[i * 2]? = (pcs V T)[i * 2 + 0]? from rfl, e1] at h1
  rw [e2] at h2
  exact ⟨h1, h2⟩
set_option maxHeartbeats 8000000 in
set_option maxRecDepth 100000 in
theorem level_any (V : Nat → Nat) (A T : List Tr) (ga gt n m c d : Nat) (w : World) (hn : n = A.length) (hm : m = T.length) (h0 : 0 < n) (hl : n ≤ 1000) (hl2 : m ≤ 2000) (hA : Up (Tr.wt V) A) (hT : Up (Tr.wt V) T) (hw : ∀ t ∈ T, t.wt V ≤ 4000000000000000000)
    (hp : Rd w (some ⟨ga, 0, none⟩) (pcs V A)) (hq : Rd w (some ⟨gt, 0, none⟩) (pcs V T)) :
    Calls Try.prog 27 #[.slice (some ⟨ga, 0, none⟩) n c, .slice (some ⟨gt, 0, none⟩) m d] w fun e w' => ∃ (g cap : Nat), e = .returned (.slice (some ⟨g, 0, none⟩) (n + m / 2) cap) ∧ w.heap.size ≤ g ∧ g < w'.heap.size ∧ n + m / 2 ≤ cap ∧ Rd w' (some ⟨g, 0, none⟩) (pcs V (mrg (Tr.wt V) A (prs T))) ∧ Below w.heap.size w w' := by
  obtain ⟨i0, hi0, hz0, hz1, hz2⟩ := info_parts info_pk
  have CC := Lib.hid (clonep_any V A ga n c w hn h0 (by omega) hp)
  have HN := Lib.hid hn; have HM := Lib.hid hm; have HW := Lib.hid hw; have HA := Lib.hid hA; have HT := Lib.hid hT
  have HQ : Hid (∀ W, Below w.heap.size w W → Rd W (some ⟨gt, 0, none⟩) (pcs V T)) := Lib.hid (fun W hb => hq.below hb)
  obtain ⟨B, hB⟩ : ∃ B, B = w.heap.size := ⟨_, rfl⟩
  have HBW := Lib.hid hB
  rw [← hB] at HQ
  have CR : Hid (∀ (g cap sz : Nat) (W : World), sz = n + m / 2 → PkAt W B V g sz cap (A ++ prs T) → g < W.heap.size → B ≤ g → B ≤ W.heap.size → Calls Try.prog 33 #[.slice (some ⟨g, 0, none⟩) sz cap, .func (.func 34) #[] #[]] W fun e w' => e = .returned (.tuple #[]) ∧ Below B W w' ∧ Rd w' (some ⟨g, 0, none⟩) (pcs V (mrg (Tr.wt V) A (prs T)))) :=
    Lib.hid (fun g cap sz W h1 h2 h3 h4 h5 => risek_any V A (prs T) B g cap sz W (by omega) (by rw [h1, List.length_append, prs_length, hn, hm]) (by omega) h5 hA (prs_up hT) h2 h3 h4)
  clear hp hq hn hm hw hA hT hB
  go_enter Try.func27, Try.ntmps27
  go_wp2_with fail
  refine CC.out.mono ?_
  rintro e w1 ⟨g0, cap0, rfl, ho, hg0, hgl, hb⟩
  rw [← HBW.out] at ho hg0 hb
  have HO0 := Lib.hid ho; have HB0 := Lib.hid hb
  clear ho hb CC
  go_wp2_with fail
  go_loopw [5, 6] (fun v i wr => ∃ (k g cap : Nat), i = .int .i64 ((2 * k + 1 : Nat) : Int) ∧ v = .slice (some ⟨g, 0, none⟩) (n + k) cap ∧ 2 * k ≤ m ∧ B ≤ g ∧ g < wr.heap.size ∧ Hid (PkAt wr B V g (n + k) cap (A ++ (prs T).take k)) ∧ Hid (Below B w wr)) (fun _ i _ => m + 2 - (intOf i).toNat)
  case atStart => exact ⟨0, g0, cap0, rfl, rfl, by omega, hg0, hgl, Lib.hid (by rw [List.take_zero, List.append_nil]; exact HO0.out), HB0⟩
  case round =>
    clear hg0 hgl
    obtain ⟨k, g, cap, rfl, rfl, hk, hgB, hgl, HO, HB⟩ := hrel
    have hwz : B ≤ wr.heap.size := by omega
    have HR := Lib.hid (HQ.out wr (by exact HB.out))
    by_cases hlt : 2 * k + 1 < m
    · obtain ⟨i1, hi1⟩ : ∃ x, x = 2 * k + 1 := ⟨_, rfl⟩
      obtain ⟨i2, hi2⟩ : ∃ x, x = 2 * k := ⟨_, rfl⟩
      have hT1 : i1 < T.length := by rw [← HM.out]; omega
      have hT2 : i2 < T.length := by rw [← HM.out]; omega
      have c1 := (pk_cell HR.out hT1).1
      have c2 := (pk_cell HR.out hT2).1
      have hw1 := HW.out T[i1] (List.getElem_mem _)
      have hw2 := HW.out T[i2] (List.getElem_mem _)
      have HNX : Hid (pcs V (A ++ (prs T).take (k + 1)) = pcs V (A ++ (prs T).take k) ++ [.int .u64 ((T[i2].wt V + T[i1].wt V : Nat) : Int), .bool false]) := Lib.hid (by
        subst hi1 hi2
        rw [take_succ_prs (by rw [← HM.out]; exact hlt), ← List.append_assoc, pcs_app]
        rfl)
      obtain ⟨x1, hx1⟩ : ∃ x, x = T[i1].wt V := ⟨_, rfl⟩
      obtain ⟨x2, hx2⟩ : ∃ x, x = T[i2].wt V := ⟨_, rfl⟩
      rw [← hx1] at c1 hw1 HNX
      rw [← hx2] at c2 hw2 HNX
      obtain ⟨x3, hx3⟩ : ∃ x, x = x2 + x1 := ⟨_, rfl⟩
      rw [← hx3] at HNX
      have e1 : (x2 : Int) + (x1 : Int) = (x3 : Int) := by omega
      have e2 : IntKind.u64.wrap ((x3 : Int)) = (x3 : Int) := IntWalk.u64_in _ (by omega)
      rw [← hi1]
      have z1 : (i1 : Int) - 1 = (i2 : Int) := by omega
      have z2 : IntKind.i64.wrap ((i2 : Int)) = (i2 : Int) := IntWalk.i64_in _ (by omega)
      have z3 : (0 : Int) ≤ (i1 : Int) := by omega
      have z4 : (i1 : Int) < (m : Int) := by omega
      have z5 : (0 : Int) ≤ (i2 : Int) := by omega
      have z6 : (i2 : Int) < (m : Int) := by omega
      have HI1 := Lib.hid hi1
      obtain ⟨i3, hi3⟩ : ∃ x, x = 2 * (k + 1) + 1 := ⟨_, rfl⟩
      have z7 : (i1 : Int) + 2 = (i3 : Int) := by omega
      have z8 : IntKind.i64.wrap ((i3 : Int)) = (i3 : Int) := IntWalk.i64_in _ (by omega)
      have HI3 := Lib.hid hi3
      have hk2 : 2 * (k + 1) ≤ m := by omega
      have hmes : m + 2 - i3 < m + 2 - i1 := by omega
      obtain ⟨nk, hnk⟩ : ∃ x, x = n + k := ⟨_, rfl⟩
      rw [← hnk] at HO ⊢
      have HNK := Lib.hid hnk
      have hnkb : nk ≤ 1000000 := by omega
      clear hi1 hi2 hx1 hx2 hx3 hT1 hT2 hw1 hw2 hi3 hnk hlt
      go_wp2_with fail
      go_region_law (first
        | (refine step_own2 wr.drew (by rfl) _ _ 53 (by rfl) B 55 i0 (.agg #[.int .u64 0, .bool false]) 2 16 Try.underlying53 hi0 hz0 hz1 hz2 (by rfl) (by decide) (.slice (some ⟨g, 0, none⟩) nk cap) nk _ (by rfl) HO.out [.int .u64 (x3 : Nat), .bool false] (by rfl) (by rfl) (by rfl) (by omega) (by omega) (by show B ≤ wr.heap.size; omega) ?_
           intro g1 cap1 w1 hown hgr hor
           have HB1 : Hid (Below B w w1) := Lib.hid (HB.out.trans (own_grows hgB hgr hwz))
           have hg1 : B ≤ g1 := by
             rcases hor with h | h
             · have : g = g1 := by simpa [Value.ownBlock] using h
               omega
             · have : g1 = wr.heap.size + 1 := h
               omega
           have hgl1 := (hown.lt g1 rfl).2
           have HO1 : Hid (PkAt w1 B V g1 (nk + 1) cap1 (A ++ (prs T).take (k + 1))) := Lib.hid (by unfold PkAt; rw [HNX.out]; exact hown)
           clear hown hgr hor))
      all_goals go_wp2_with fail
      all_goals go_roundw
      all_goals (first
        | (show m + 2 - _ < m + 2 - _; simp [intOf]; omega)
        | exact ⟨k + 1, g1, cap1, by rw [← HI3.out], by rw [HNK.out]; rfl, hk2, hg1, hgl1, by rw [HNK.out] at HO1; exact HO1, HB1⟩)
    · have hkm : k = m / 2 := by omega
      have hall : (prs T).take k = prs T := List.take_of_length_le (by rw [prs_length, ← HM.out]; omega)
      have z1 : ¬ ((2 * k + 1 : Nat) : Int) < (m : Int) := by omega
      have z2 : decide ((((2 * k + 1 : Nat) : Int)) < (m : Int)) = false := decide_eq_false z1
      have C1 := Lib.hid (CR.out g cap (n + k) wr (by omega) (by have := HO.out; rw [hall] at this; exact this) hgl hgB hwz)
      have hcap : n + k ≤ cap := by
        rcases HO.out.2 with ⟨h, _⟩ | ⟨g2, cap2, cur, h, _, _, hc2, _⟩
        · cases h
        · simp only [Value.slice.injEq] at h; rw [h.2.2]; exact hc2
      have HKM := Lib.hid hkm
      obtain ⟨nk, hnk⟩ : ∃ x, x = n + k := ⟨_, rfl⟩
      rw [← hnk] at C1 hcap ⊢
      have HNK := Lib.hid hnk
      obtain ⟨i1, hi1⟩ : ∃ x, x = 2 * k + 1 := ⟨_, rfl⟩
      rw [← hi1] at z1 z2 ⊢
      clear hkm hall hnk hlt hi1
      go_wp2_with fail
      refine C1.out.mono ?_
      rintro e w3 ⟨rfl, h1, h2⟩
      have H1 := Lib.hid h1; have H2 := Lib.hid h2
      clear h1 h2 C1
      go_wp2_with fail
      go_ret
      refine ⟨g, cap, by rw [← HKM.out, HNK.out]; rfl, by rw [← HBW.out]; exact hgB, Nat.lt_of_lt_of_le hgl H1.out.size, by rw [← HKM.out, ← HNK.out]; exact hcap, H2.out, by rw [← HBW.out]; exact HB.out.trans H1.out⟩
end Go.Proofs.Ytbegngilbngnoaa.Ps

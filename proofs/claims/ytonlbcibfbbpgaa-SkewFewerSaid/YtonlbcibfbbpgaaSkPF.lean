/- slices.BinarySearchFunc at skew's triples. -/
import Derived.Test.YtonlbcibfbbpgaaSkPE
import Derived.Shelf.SlSortCmp.QuietGrown
import Derived.BigQuiet
namespace Go.Proofs.Ytonlbcibfbbpgaa.Sk
open Go.RowKit Go.Lib Go.Sort Rw Ls Od _root_.Go.Proofs.Ytonlbcibfbbpgaa.Nm

theorem rd_grow {w : World} {p : Option Addr} {xs : List Value} (h : Rd w p xs) (n : Nat) (os : Array Obj) : Rd (grow (w.drewN n) os) p xs := fun i hi => by
  obtain ⟨a, e, hl, hc⟩ := h i hi
  refine ⟨a, e, ?_, cell_grown (by rw [add_block]; exact hl) hc n os⟩
  rw [size_grow]
  exact Nat.lt_of_lt_of_le hl (Nat.le_add_right _ _)
theorem grow_drew (w : World) (os : Array Obj) (n m : Nat) (os' : Array Obj) : grow ((grow (w.drewN n) os).drewN m) os' = grow (w.drewN (n + m)) (os ++ os') := by
  show grow (grow ((w.drewN n).drewN m) os) os' = _
  rw [grow_grow, World.drewN_drewN]
theorem grow_below (w : World) (n : Nat) (os : Array Obj) : RowKit.Below w.heap.size w (grow (w.drewN n) os) :=
  ⟨rfl, rfl, rfl, by rw [size_grow]; exact Nat.le_add_right _ _, fun k hk => heap_grow_old _ _ hk⟩
/-- how many are less -/
def lessT (K : List T3) (t : T3) : Nat := K.countP fun x => lexL (tl x) (tl t)
theorem lessT_at {K : List T3} {t : T3} {i : Nat} (h1 : ∀ k (hk : k < K.length), k < i → lexL (tl K[k]) (tl t) = true) (h2 : ∀ k (hk : k < K.length), i ≤ k → lexL (tl K[k]) (tl t) = false) (hi : i ≤ K.length) : lessT K t = i := by
  unfold lessT
  have e : K = K.take i ++ K.drop i := (List.take_append_drop i K).symm
  rw [e, List.countP_append]
  have a : (K.take i).countP (fun x => lexL (tl x) (tl t)) = i := by
    have : (K.take i).countP (fun x => lexL (tl x) (tl t)) = (K.take i).length := by
      rw [List.countP_eq_length]
      intro x hx
      obtain ⟨j, hj, rfl⟩ := List.mem_iff_getElem.1 hx
      rw [List.length_take] at hj
      rw [List.getElem_take]
      exact h1 j (by omega) (by omega)
    rw [this, List.length_take]; omega
  have b : (K.drop i).countP (fun x => lexL (tl x) (tl t)) = 0 := by
    rw [List.countP_eq_zero]
    intro x hx
    obtain ⟨j, hj, rfl⟩ := List.mem_iff_getElem.1 hx
    rw [List.length_drop] at hj
    rw [List.getElem_drop, h2 (i + j) (by omega) (by omega)]
    simp
  rw [a, b]; rfl
theorem lexC_lt (x y : List Nat) : decide (lexC x y < 0) = lexL x y := by
  unfold lexC
  by_cases h : lexL x y = true
  · rw [if_pos h, h]; rfl
  · rw [if_neg h]
    have h2 : lexL x y = false := by simpa using h
    rw [h2]
    by_cases h3 : lexL y x = true
    · rw [if_pos h3]; rfl
    · rw [if_neg h3]; rfl
/-- what BinarySearchFunc answers -/
def BfP (w : World) (m : Nat) (e : Ending) (w' : World) : Prop := ∃ b, e = .returned (.tuple #[.int .i64 (m : Nat), .bool b]) ∧ RowKit.Below w.heap.size w w'
set_option maxHeartbeats 8000000 in
set_option maxRecDepth 100000 in
theorem bsf_any (K : List T3) (hs : K.Pairwise (fun a b => lexL (tl b) (tl a) = false)) (t : T3) (q : Option Addr) (c n : Nat) (w : World) (hn : n = K.length) (hl : n ≤ 1000000000) (hr : Rd w q (fT K)) :
    Calls Try.prog 46 #[.slice q n c, .agg (encT t).toArray, .func (.func 45) #[] #[]] w (BfP w (lessT K t)) := by
  obtain ⟨r, hr0⟩ : ∃ r, r = lessT K t := ⟨_, rfl⟩
  rw [← hr0]
  have HN := Lib.hid hn; have HS := Lib.hid hs; have H0 := Lib.hid hr0
  have mixed : Try.prog.follows Departure.mixedOrders = true := by kernel_rfl
  obtain ⟨w0, hw0⟩ : ∃ w0, w0 = w.alloc (.cells (encT t).toArray 50) := ⟨_, rfl⟩
  have HR : Hid (Rd w0 q (fT K)) := Lib.hid (by rw [hw0]; exact hr.alloc _)
  have HX : Hid (w0.heap[w.heap.size]? = some (.cells (encT t).toArray 50 (0, 0))) := Lib.hid (by rw [hw0]; exact World.alloc_heap_new _ _)
  have HB : Hid (RowKit.Below w.heap.size w w0) := Lib.hid (by rw [hw0]; exact (RowKit.Below.refl _ w).alloc (Nat.le_refl _) _)
  have HSZ : Hid (w.heap.size < w0.heap.size) := Lib.hid (by rw [hw0, World.size_alloc]; omega)
  have HCM := Lib.hid (fun x W => compare_any x t W)
  have HL : Hid (∀ x, decide (lexC (tl x) (tl t) < 0) = lexL (tl x) (tl t)) := Lib.hid (fun x => lexC_lt _ _)
  obtain ⟨s, hsz⟩ : ∃ s, s = w.heap.size := ⟨_, rfl⟩
  have HS0 := Lib.hid hsz
  have HW0 := Lib.hid hw0
  have HLX : Hid (∀ x, lexL (tl x) (tl t) = lexL (tl x) (tl t)) := Lib.hid (fun _ => rfl)
  clear hn hs hr0 hr
  obtain ⟨t1, t2, t3⟩ := t
  simp only [encT] at HCM HX HW0 hw0 ⊢
  go_enter Try.func46, Try.ntmps46
  go_wp2_with fail
  rw [← hw0, ← hsz]
  rw [← hsz] at HX HB HSZ
  clear hw0 hsz
  go_loopg [9, 10] n (fun g vi vj wr => ∃ (i j z : Nat) (os : Array Obj), vi = .int .i64 i ∧ vj = .int .i64 j ∧ i ≤ j ∧ j ≤ n ∧ j - i ≤ g ∧ Hid (∀ k (hk : k < K.length), k < i → lexL (tl K[k]) (tl (t1, t2, t3)) = true) ∧ Hid (∀ k (hk : k < K.length), j ≤ k → lexL (tl K[k]) (tl (t1, t2, t3)) = false) ∧ wr = grow (w0.drewN z) os)
  case atStart => exact ⟨0, n, 0, #[], rfl, rfl, Nat.zero_le _, Nat.le_refl _, Nat.le_refl _, Lib.hid (fun k _ h => absurd h (by omega)), Lib.hid (fun k h h2 => absurd h (by rw [← HN.out]; omega)), (grow_empty _).symm⟩
  case round =>
    obtain ⟨i, j, z, os, rfl, rfl, hij, hjn, hg, HA, HJ, hw⟩ := hrel
    have HW := Lib.hid hw
    clear hw
    by_cases hlt : i < j
    · obtain ⟨h, hh⟩ : ∃ h, h = (i + j) / 2 := ⟨_, rfl⟩
      have e1 : ((i : Int) + (j : Int)) / 2 = (h : Int) := by omega
      have e2 : ((i : Int) + (j : Int)).tdiv 2 = (h : Int) := by rw [Int.tdiv_eq_ediv_of_nonneg (by omega)]; exact e1
      have hb1 : i ≤ h := by omega
      have hb2 : h < j := by omega
      have hhn : (h : Int) < (n : Int) := by omega
      have hh0 : (0 : Int) ≤ (h : Int) := by omega
      have hz : (i : Int) < (j : Int) := by omega
      have hhl : h < K.length := by rw [← HN.out]; omega
      obtain ⟨a, rfl, hab, hcx⟩ := rdT_at (show Rd wr q (fT K) by rw [HW.out]; exact rd_grow HR.out z os) hhl
      obtain ⟨x, hx⟩ : ∃ x, x = K[h] := ⟨_, rfl⟩
      rw [← hx] at hcx
      have HXX := Lib.hid hx
      have hsw : s < wr.heap.size := by rw [HW.out, size_grow]; exact Nat.lt_of_lt_of_le HSZ.out (Nat.le_add_right _ _)
      have hxb : wr.heap[s]? = some (.cells #[.int .u64 (t1 : Nat), .int .u64 (t2 : Nat), .int .u64 (t3 : Nat)] 50 (0, 0)) := by
        rw [HW.out, (grow_below w0 z os).block s HSZ.out]; exact HX.out
      have l0 := fun n os => cell_grown (by rw [add_block]; exact hab) hcx.1 n os
      have l1 := fun n os => cell_grown (a := ⟨(a.add (h * 3)).block, (a.add (h * 3)).off + 1, none⟩) (by show (a.add (h * 3)).block < _; rw [add_block]; exact hab) hcx.2.1 n os
      have l2 := fun n os => cell_grown (a := ⟨(a.add (h * 3)).block, (a.add (h * 3)).off + 2, none⟩) (by show (a.add (h * 3)).block < _; rw [add_block]; exact hab) hcx.2.2 n os
      have b0 := fun n os => cell_grown (w := wr) (a := ⟨s, 0, none⟩) (v := .int .u64 (t1 : Nat)) hsw (by simp [World.cell?, hxb]) n os
      have b1 := fun n os => cell_grown (w := wr) (a := ⟨s, 1, none⟩) (v := .int .u64 (t2 : Nat)) hsw (by simp [World.cell?, hxb]) n os
      have b2 := fun n os => cell_grown (w := wr) (a := ⟨s, 2, none⟩) (v := .int .u64 (t3 : Nat)) hsw (by simp [World.cell?, hxb]) n os
      have hc := fun n os => HCM.out x (grow (wr.drewN n) os)
      have hlx := HL.out x
      obtain ⟨cv, hcv⟩ : ∃ cv, cv = lexC (tl x) (tl (t1, t2, t3)) := ⟨_, rfl⟩
      rw [← hcv] at hlx
      simp only [← hcv] at hc
      have HLX2 : Hid (lexL (tl K[h]) (tl (t1, t2, t3)) = decide (cv < 0)) := Lib.hid (by rw [← HXX.out, hlx])
      obtain ⟨x1, x2, x3⟩ := x
      clear hh hx hcv hlx hcx hxb hab hsw HL HLX
      by_cases hneg : cv < 0
      · have d1 : decide (cv < 0) = true := decide_eq_true hneg
        have HA2 : Hid (∀ k (hk : k < K.length), k < h + 1 → lexL (tl K[k]) (tl (t1, t2, t3)) = true) := Lib.hid (fun k hk hkh => by
          by_cases e : k = h
          · subst e; rw [HLX2.out]; exact d1
          · have h1 := List.pairwise_iff_getElem.1 HS.out k h hk hhl (by omega)
            have h2 : lexL (tl K[h]) (tl (t1, t2, t3)) = true := by rw [HLX2.out]; exact d1
            by_cases h3 : lexL (tl K[k]) (tl (t1, t2, t3)) = true
            · exact h3
            · have h4 := lexL_ntrans (by simpa using h1) (by simpa using h3)
              rw [h2] at h4; cases h4)
        go_wp2_with fail
        go_quiet_grown (first | (go_at_call 45; refine Calls.grown_of (hc _ _)))
        go_wp2_with fail
        go_roundg (j - (h + 1))
        case measure => omega
        case rel => exact ⟨h + 1, j, _, _, by first | rfl | go_num | (congr 1; omega), rfl, by omega, hjn, Nat.le_refl _, HA2, HJ, by rw [HW.out, grow_drew]⟩
      · have d1 : decide (cv < 0) = false := decide_eq_false hneg
        have HJ2 : Hid (∀ k (hk : k < K.length), h ≤ k → lexL (tl K[k]) (tl (t1, t2, t3)) = false) := Lib.hid (fun k hk hkh => by
          have h2 : lexL (tl K[h]) (tl (t1, t2, t3)) = false := by rw [HLX2.out]; exact d1
          by_cases e : k = h
          · subst e; exact h2
          · have h1 := List.pairwise_iff_getElem.1 HS.out h k hhl hk (by omega)
            exact lexL_ntrans h1 h2)
        go_wp2_with fail
        go_quiet_grown (first | (go_at_call 45; refine Calls.grown_of (hc _ _)))
        go_wp2_with fail
        go_roundg (h - i)
        case measure => omega
        case rel => exact ⟨i, h, _, _, rfl, rfl, hb1, by omega, Nat.le_refl _, HA, HJ2, by rw [HW.out, grow_drew]⟩
    · obtain rfl : i = j := by omega
      have hr1 : r = i := by rw [H0.out]; exact lessT_at HA.out HJ.out (by rw [← HN.out]; exact hjn)
      have HR1 := Lib.hid hr1
      have hz : ¬ (i : Int) < (i : Int) := by omega
      clear hr1
      have FIN : Hid (∀ b n os, BfP w r (.returned (.tuple #[.int .i64 (i : Nat), .bool b])) (grow (wr.drewN n) os)) := Lib.hid (fun b n os => by
        rw [HR1.out]
        refine ⟨b, rfl, ?_⟩
        rw [HW.out, grow_drew]
        rw [← HS0.out]
        exact HB.out.trans ((grow_below w0 _ _).mono (Nat.le_of_lt HSZ.out)))
      by_cases hin : i < n
      · have iz : (i : Int) < (n : Int) := by omega
        have izd : decide ((i : Int) < (n : Int)) = true := decide_eq_true iz
        have izn : decide (i < n) = true := decide_eq_true hin
        have hil : i < K.length := by rw [← HN.out]; exact hin
        have hi0 : (0 : Int) ≤ (i : Int) := by omega
        obtain ⟨a, rfl, hab, hcx⟩ := rdT_at (show Rd wr q (fT K) by rw [HW.out]; exact rd_grow HR.out z os) hil
        obtain ⟨x, hx⟩ : ∃ x, x = K[i] := ⟨_, rfl⟩
        rw [← hx] at hcx
        have hsw : s < wr.heap.size := by rw [HW.out, size_grow]; exact Nat.lt_of_lt_of_le HSZ.out (Nat.le_add_right _ _)
        have hxb : wr.heap[s]? = some (.cells #[.int .u64 (t1 : Nat), .int .u64 (t2 : Nat), .int .u64 (t3 : Nat)] 50 (0, 0)) := by
          rw [HW.out, (grow_below w0 z os).block s HSZ.out]; exact HX.out
        have l0 := fun n os => cell_grown (by rw [add_block]; exact hab) hcx.1 n os
        have l1 := fun n os => cell_grown (a := ⟨(a.add (i * 3)).block, (a.add (i * 3)).off + 1, none⟩) (by show (a.add (i * 3)).block < _; rw [add_block]; exact hab) hcx.2.1 n os
        have l2 := fun n os => cell_grown (a := ⟨(a.add (i * 3)).block, (a.add (i * 3)).off + 2, none⟩) (by show (a.add (i * 3)).block < _; rw [add_block]; exact hab) hcx.2.2 n os
        have b0 := fun n os => cell_grown (w := wr) (a := ⟨s, 0, none⟩) (v := .int .u64 (t1 : Nat)) hsw (by simp [World.cell?, hxb]) n os
        have b1 := fun n os => cell_grown (w := wr) (a := ⟨s, 1, none⟩) (v := .int .u64 (t2 : Nat)) hsw (by simp [World.cell?, hxb]) n os
        have b2 := fun n os => cell_grown (w := wr) (a := ⟨s, 2, none⟩) (v := .int .u64 (t3 : Nat)) hsw (by simp [World.cell?, hxb]) n os
        have hc := fun n os => HCM.out x (grow (wr.drewN n) os)
        obtain ⟨cv, hcv⟩ : ∃ cv, cv = lexC (tl x) (tl (t1, t2, t3)) := ⟨_, rfl⟩
        simp only [← hcv] at hc
        obtain ⟨x1, x2, x3⟩ := x
        clear hx hcv hcx hxb hab hsw HL HLX hin
        obtain ⟨bv, hbv⟩ : ∃ bv, bv = (cv == 0) := ⟨_, rfl⟩
        have hbv2 := hbv.symm
        clear hbv
        go_wp2_with fail
        go_quiet_grown (first | (go_at_call 45; refine Calls.grown_of (hc _ _)))
        go_wp2_with fail
        refine bodyPost_ret (v := .tuple #[.int .i64 i, .bool bv]) (by simp [results, Try.results46, go_sem]) rfl ?_
        exact FIN.out bv nq osq
      · have iz : ¬ (i : Int) < (n : Int) := by omega
        have izd : decide ((i : Int) < (n : Int)) = false := decide_eq_false iz
        have izn : decide (i < n) = false := decide_eq_false hin
        clear hin
        go_wp2_with fail
        go_big_quiet (fail)
        go_wp2_with fail
        refine bodyPost_ret (v := .tuple #[.int .i64 i, .bool false]) (by simp [results, Try.results46, go_sem]) rfl ?_
        have := FIN.out false nq #[]
        rw [grow_empty] at this
        exact this
end Go.Proofs.Ytonlbcibfbbpgaa.Sk

/- The document's both and tree. -/
import Derived.Test.YthkgdjclgphodaaLsLawA
namespace Go.Proofs.Ythkgdjclgphodaa.Ls
open Go.RowKit Rw Nm

section
variable {K : Keys} {p : Option Addr} {c : Nat} {w : World}
set_option maxHeartbeats 2000000 in
set_option maxRecDepth 100000 in
theorem both_any {B g n j a b : Nat} {L : List Nat} (h : RecsAt w p K) (h2 : K.length ≤ 256) (hn : n = 2 * K.length) (hN : Nums w B g n L) (hj : 2 * j + 1 < n) (ea : a = L.getD (2 * j) 0) (eb : b = L.getD (2 * j + 1) 0) (ha : a < K.length) (hb : b < K.length) :
    Calls Try.prog 41 #[.slice (some ⟨g, 0, none⟩) n n, .slice p K.length c, .int .i64 j] w fun e w' => e = .returned (.tuple #[.int .i64 ((if bt K a b = true then a else b : Nat)), .int .i64 ((if bt K a b = true then b else a : Nat))]) ∧ ∃ m, w' = w.drewN m := by
  have c1 := hN.cell (k := 2 * j) (by omega)
  have c2 := hN.cell (k := 2 * j + 1) (by omega)
  rw [← ea] at c1
  rw [← eb] at c2
  obtain ⟨t, ht⟩ : ∃ t, t = bt K a b := ⟨_, rfl⟩
  obtain ⟨k, hk⟩ : ∃ k, k = K.length := ⟨_, rfl⟩
  have HB : Hid (∀ z, Calls Try.prog 45 #[.slice p k c, .int .i64 a, .int .i64 b] (w.drewN z) fun e w' => e = .returned (.bool t) ∧ ∃ m, w' = (w.drewN z).drewN m) := Lib.hid fun z => by rw [ht, hk]; exact rbeats_any ha hb (h.drewN z)
  have e1 : (2 * (j : Int)).toNat = 2 * j := by omega
  have e2 : (2 * (j : Int) + 1).toNat = 2 * j + 1 := by omega
  have j0 : (0 : Int) ≤ (j : Int) := by omega
  have j1 : 2 * (j : Int) < (n : Int) := by omega
  have j2 : 2 * (j : Int) + 1 < (n : Int) := by omega
  have j3 : (j : Int) ≤ 256 := by omega
  rw [← ht, ← hk]
  clear h hN hj ea eb ha hb ht hk hn h2
  cases t with
  | true =>
    go_enter Try.func41, Try.ntmps41
    go_wp2_with fail
    go_quiet (fail)
    go_wp2_with fail
    refine (HB.out _).mono ?_
    rintro e w' ⟨rfl, m, rfl⟩
    go_wp2_with fail
    refine bodyPost_ret (v := .tuple #[.int .i64 a, .int .i64 b]) (by simp [results, Try.results41, go_sem]) rfl ?_
    exact ⟨rfl, _, rfl⟩
  | false =>
    go_enter Try.func41, Try.ntmps41
    go_wp2_with fail
    go_quiet (fail)
    go_wp2_with fail
    refine (HB.out _).mono ?_
    rintro e w' ⟨rfl, m, rfl⟩
    go_wp2_with fail
    refine bodyPost_ret (v := .tuple #[.int .i64 b, .int .i64 a]) (by simp [results, Try.results41, go_sem]) rfl ?_
    exact ⟨rfl, _, rfl⟩

set_option maxHeartbeats 4000000 in
set_option maxRecDepth 100000 in
theorem rtree_any (h1 : 1 ≤ K.length) (h2 : K.length ≤ 256) (h : RecsAt w p K) :
    Calls Try.prog 27 #[.slice p K.length c] w fun e w' => ∃ g, e = .returned (.slice (some ⟨g, 0, none⟩) K.length K.length) ∧ Nums w' w.heap.size g K.length (build K) ∧ Below w.heap.size w w' := by
  obtain ⟨i0, hi, hz0, hz1, hz2⟩ := info_parts info_int
  obtain ⟨n, hn⟩ : ∃ n, n = K.length := ⟨_, rfl⟩
  have HR : Hid (∀ W, Below w.heap.size w W → ∀ g L j a b, j < n → Nums W w.heap.size g (2 * n) L → a = L.getD (2 * j) 0 → b = L.getD (2 * j + 1) 0 → a < n → b < n →
      Calls Try.prog 41 #[.slice (some ⟨g, 0, none⟩) (2 * n) (2 * n), .slice p n c, .int .i64 j] W fun e w' => e = .returned (.tuple #[.int .i64 ((if bt K a b = true then a else b : Nat)), .int .i64 ((if bt K a b = true then b else a : Nat))]) ∧ ∃ m, w' = W.drewN m) :=
    Lib.hid fun W hW g L j a b hj hN ea eb ha hb => by
      rw [hn] at hN ha hb hj ⊢
      exact both_any (h.below hW) h2 rfl hN (by omega) ea eb ha hb
  rw [← hn] at h1 h2 ⊢
  obtain ⟨M, hM⟩ : ∃ M : Nat → Array Value, ∀ m, (M m).size = m ∧ (M m).toList = zs (up (List.replicate m 0)) ∧ (m ≤ 512 → ∀ W : World, (Instr.makeSlice 23 (.int .i64 (m : Int)) (.int .i64 (m : Int))).run Try.prog W = .ok (.slice (some ⟨W.heap.size, 0, none⟩) m m) (W.alloc (.cells (M m) 3))) := by
    refine ⟨fun m => madeCells (Value.int .i64 0).cells (m * 1), fun m => ⟨by rw [size_madeCells]; omega, up_zeros m, fun hm W => ?_⟩⟩
    have := run_make (P := Try.prog) W 23 3 i0 (.int .i64 0) Try.underlying23 hi hz0 .i64 .i64 (m : Int) (m : Int) (by omega) (by omega) (by rw [hz2]; omega) (by omega)
    rw [hz1] at this
    simpa using this
  have hmk1 := (hM n).2.2 (by omega)
  have hmk2 : ∀ W : World, (Instr.makeSlice 23 (.int .i64 (2 * (n : Int))) (.int .i64 (2 * (n : Int)))).run Try.prog W = .ok (.slice (some ⟨W.heap.size, 0, none⟩) (2 * n) (2 * n)) (W.alloc (.cells (M (2 * n)) 3)) := by
    have := (hM (2 * n)).2.2 (by omega)
    rwa [show ((2 * n : Nat) : Int) = 2 * (n : Int) by omega] at this
  have T2 := two_new w (hM (2 * n)).1 (hM (2 * n)).2.1 (hM n).1 (hM n).2.1 (by omega) (by omega)
  have HM := Lib.hid hM; have HN := Lib.hid hn
  obtain ⟨WA, hWA⟩ : ∃ WA, WA = w.alloc (.cells (M (2 * n)) 3) := ⟨_, rfl⟩
  obtain ⟨W0, hW0⟩ : ∃ W0, W0 = WA.alloc (.cells (M n) 3) := ⟨_, rfl⟩
  have sA : WA.heap.size = w.heap.size + 1 := by rw [hWA]; simp
  rw [← hWA, ← hW0] at T2
  have RW : Hid (Nums W0 w.heap.size w.heap.size (2 * n) (List.replicate (2 * n) 0)) := Lib.hid (by have := T2.1; exact own_below this ⟨rfl, rfl, rfl, Nat.le_refl _, fun _ _ => rfl⟩)
  have RT : Hid (Nums W0 w.heap.size (w.heap.size + 1) n (List.replicate n 0)) := Lib.hid (by have := T2.2.1; exact own_below this ⟨rfl, rfl, rfl, Nat.le_refl _, fun _ _ => rfl⟩)
  have RB : Hid (Below w.heap.size w W0) := Lib.hid (T2.2.2.trans ⟨rfl, rfl, rfl, Nat.le_refl _, fun _ _ => rfl⟩)
  have HWA := Lib.hid hWA; have HW0 := Lib.hid hW0; have SA := Lib.hid sA
  clear hn h hM hi hz0 hz1 hz2 T2 hWA hW0 sA
  go_enter Try.func27, Try.ntmps27
  go_wp2_with fail
  rw [← HWA.out, ← SA.out, ← HW0.out, SA.out]
  clear hmk1 hmk2 HM HWA SA
  have hne : w.heap.size ≠ w.heap.size + 1 := by omega
  obtain ⟨gW, hgW⟩ : ∃ gW, gW = w.heap.size := ⟨_, rfl⟩
  obtain ⟨gT, hgT⟩ : ∃ gT, gT = w.heap.size + 1 := ⟨_, rfl⟩
  go_loopw [6] (fun i wr => ∃ (k : Nat) (L : List Nat), k ≤ n ∧ i = .int .i64 k ∧ (∀ x, n ≤ x → x < n + k → L.getD x 0 = x - n) ∧ Nums wr w.heap.size w.heap.size (2 * n) L ∧ Nums wr w.heap.size (w.heap.size + 1) n (List.replicate n 0) ∧ Below w.heap.size w wr) (fun i _ => n - (intOf i).toNat)
  case atStart => exact ⟨0, _, by omega, rfl, fun x h1 h2 => by omega, RW.out, RT.out, RB.out⟩
  case round =>
    obtain ⟨k, L, hk, rfl, hL, hW, hT, hB⟩ := hrel
    by_cases hlt : k < n
    · have hW2 := hW.set (n + k) k
      have hT2 := hT.other (a := ⟨w.heap.size, n + k, none⟩) hne (.int .i64 (k : Nat))
      have hB2 := below_put hB (a := ⟨w.heap.size, n + k, none⟩) hW.lt.1 (.int .i64 (k : Nat))
      have c1 := hW.cell (k := n + k) (by omega)
      have f1 := hW.free (n + k)
      have l1 := hW.len
      have F : Hid (∀ x, n ≤ x → x < n + (k + 1) → (L.set (n + k) k).getD x 0 = x - n) := Lib.hid (by
        intro x h3 h4
        by_cases e : x = n + k
        · subst e
          rw [getD_set_self k (by omega)]; omega
        · rw [getD_set_other k (by omega)]; exact hL x h3 (by omega))
      have A1 := Lib.hid hW2; have A2 := Lib.hid hT2; have A3 := Lib.hid hB2
      have e1 : ((n : Int) + (k : Int)).toNat = n + k := by omega
      clear hL hW hT hB hW2 hT2 hB2 l1
      go_wp2_with fail
      go_roundw
      case rel => exact ⟨k + 1, _, by omega, by go_num, F.out, A1.out, A2.out, A3.out⟩
      case measure => simp [intOf]; omega
    · obtain rfl : k = n := by omega
      have hWn : Won K (k - 1) L := fun x h3 h4 => by
        have e := HN.out
        rw [hL x (by omega) (by omega), wn_leaf (by omega), e]
      have hTn : Lost K (k - 1) (List.replicate k 0) := fun x h3 h4 => by have e := HN.out; omega
      have HWN := Lib.hid hWn; have HTN := Lib.hid hTn; have RW2 := Lib.hid hW; have RT2 := Lib.hid hT; have RB2 := Lib.hid hB
      have hZ : Hid ((List.replicate k 0).getD 0 0 = 0) := Lib.hid (by simp [List.getD_eq_getElem?_getD]; cases k <;> simp)
      clear hL hW hT hB hWn hTn RW RT RB
      have k1 : ((k : Int) - 1) = ((k - 1 : Nat) : Int) := by omega
      go_wp2_with fail
      go_loopw [7] (fun i wr => ∃ (j : Nat) (L T : List Nat), j < k ∧ i = .int .i64 j ∧ Won K j L ∧ Lost K j T ∧ T.getD 0 0 = 0 ∧ Nums wr w.heap.size w.heap.size (2 * k) L ∧ Nums wr w.heap.size (w.heap.size + 1) k T ∧ Below w.heap.size w wr) (fun i _ => (intOf i).toNat)
      case atStart => exact ⟨k - 1, L, _, by omega, by go_num, HWN.out, HTN.out, hZ.out, RW2.out, RT2.out, RB2.out⟩
      case round =>
        obtain ⟨j, L, T, hj, rfl, hL, hT, hT0, hrW, hrT, hB⟩ := hrel
        have j0 : (0 : Int) ≤ (j : Int) := by omega
        by_cases hj1 : 1 ≤ j
        · have hn2 : j < K.length := by rw [← HN.out]; exact hj
          obtain ⟨a, ha⟩ : ∃ a, a = wn K (2 * j) := ⟨_, rfl⟩
          obtain ⟨b, hb⟩ : ∃ b, b = wn K (2 * j + 1) := ⟨_, rfl⟩
          have ak : a < k := by rw [ha, HN.out]; exact wn_lt (by omega) (by omega)
          have bk : b < k := by rw [hb, HN.out]; exact wn_lt (by omega) (by omega)
          have ea : a = L.getD (2 * j) 0 := by rw [hL _ (by omega) (by rw [← HN.out]; omega), ← ha]
          have eb : b = L.getD (2 * j + 1) 0 := by rw [hL _ (by omega) (by rw [← HN.out]; omega), ← hb]
          have HC := Lib.hid (HR.out wr hB w.heap.size L j a b hj hrW ea eb ak bk)
          have hnd := wn_node (K := K) hj1 hn2
          have hlo : lo K j = if bt K (wn K (2 * j + 1)) (wn K (2 * j)) = true then wn K (2 * j) else wn K (2 * j + 1) := rfl
          rw [← ha, ← hb] at hnd hlo
          rw [(two_ways K a b).1] at hnd
          rw [(two_ways K a b).2] at hlo
          obtain ⟨v, hv⟩ : ∃ v, v = if bt K a b = true then a else b := ⟨_, rfl⟩
          obtain ⟨u, hu⟩ : ∃ u, u = if bt K a b = true then b else a := ⟨_, rfl⟩
          rw [← hv, ← hu] at HC
          rw [← hv] at hnd
          rw [← hu] at hlo
          have hlW := hrW.len
          have hlT := hrT.len
          have q1 := hrW.cell (k := j) (by omega)
          have q2 := hrW.free j
          have q3 := hrT.cell (k := j) hj
          have q4 := hrT.free j
          have F1 := Lib.hid (won_step hL (by omega))
          have F2 := Lib.hid (lost_step hT (by omega))
          rw [hnd] at F1
          rw [hlo] at F2
          have F3 : Hid ((T.set j u).getD 0 0 = 0) := Lib.hid (by rw [getD_set_other _ (by omega)]; exact hT0)
          have ND : Hid (∀ m, _) := Lib.hid (fun m => node_rows (v := v) (u := u) hne hrW hrT hB (below_drewN (Below.refl _ _) m) hj)
          have j1 : (1 : Int) ≤ (j : Int) := by omega
          have j2 : (j : Int) < (k : Int) := by omega
          have j3 : (j : Int) < 2 * (k : Int) := by omega
          have hne2 : ¬ (w.heap.size + 1 = w.heap.size) := by omega
          clear hL hT hrW hrT hB ha hb hlW hlT hn2 hj1 hv hu hnd hlo ea eb hT0
          go_wp2_with fail
          refine HC.out.mono ?_
          rintro e w' ⟨rfl, m, rfl⟩
          have nd := ND.out m
          obtain ⟨_, n1, n2, n3⟩ := nd
          have N1 := Lib.hid n1; have N2 := Lib.hid n2; have N3 := Lib.hid n3
          clear n1 n2 n3
          go_wp2_with fail
          go_roundw
          case rel => exact ⟨j - 1, _, _, by omega, by go_num, F1.out, F2.out, F3.out, N1.out, N2.out, N3.out⟩
          case measure => simp [intOf]; omega
        · obtain rfl : j = 0 := by omega
          have hl := hrT.len
          by_cases hk1 : 1 < k
          · have c1 := hrW.cell (k := 1) (by omega)
            rw [hL 1 (by omega) (by rw [← HN.out]; omega)] at c1
            have c0 := hrT.cell (k := 0) (by omega)
            have f0 := hrT.free 0
            have r1 := hrT.set 0 (wn K 1)
            have b1 := below_put hB (a := ⟨w.heap.size + 1, 0, none⟩) hrT.lt.1 (.int .i64 (wn K 1 : Nat))
            have e : T.set 0 (wn K 1) = build K := build_of (by rw [List.length_set, hl, HN.out]) (getD_set_self _ (by omega)) (fun x h1 h2 => by rw [getD_set_other _ (by omega)]; exact hT x h1 h2)
            rw [e] at r1
            have R1 := Lib.hid r1; have B1 := Lib.hid b1
            have k2 : (1 : Int) < 2 * (k : Int) := by omega
            have k3 : (0 : Int) < (k : Int) := by omega
            clear hL hT hrW hrT hB hj1 r1 b1 hl e hT0
            go_wp2_with fail
            go_ret
            exact ⟨w.heap.size + 1, rfl, R1.out, B1.out⟩
          · obtain rfl : k = 1 := by omega
            have hw1 : wn K 1 = 0 := by rw [wn_leaf (by rw [← HN.out]; omega), ← HN.out]
            have e : T = build K := build_of (by rw [hl, HN.out]) (by rw [hT0, hw1]) hT
            rw [e] at hrT
            have R1 := Lib.hid hrT; have B1 := Lib.hid hB
            clear hL hT hrW hrT hB hj1 hl e hT0 hw1
            go_wp2_with fail
            go_ret
            exact ⟨w.heap.size + 1, rfl, R1.out, B1.out⟩
end
end Go.Proofs.Ythkgdjclgphodaa.Ls

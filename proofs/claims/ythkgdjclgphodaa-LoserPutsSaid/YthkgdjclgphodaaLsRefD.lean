/- The document's SameNumbers, Check, Top. -/
import Derived.Test.YthkgdjclgphodaaLsRefC
namespace Go.Proofs.Ythkgdjclgphodaa.Ls
open Go.RowKit Rw Nm

set_option maxHeartbeats 2000000 in
set_option maxRecDepth 100000 in
theorem samenum_any (M N : List Int) (p q : Option Addr) (c d : Nat) (w : World) (hp : Rd w p (zs M)) (hq : Rd w q (zs N)) (hx : M.length ≤ 9223372036854775807) (hy : N.length ≤ 9223372036854775807) :
    Calls Try.prog 20 #[.slice p M.length c, .slice q N.length d] w fun e w' => e = .returned (.bool (decide (M = N))) ∧ ∃ n, w' = w.drewN n := by
  have HP := Lib.hid hp; have HQ := Lib.hid hq
  clear hp hq
  obtain ⟨n, hn⟩ : ∃ n, n = M.length := ⟨_, rfl⟩
  obtain ⟨m, hm⟩ : ∃ m, m = N.length := ⟨_, rfl⟩
  rw [← hn, ← hm]
  rw [← hn] at hx; rw [← hm] at hy
  by_cases hnm : n = m
  case neg =>
    have F : Hid (false = decide (M = N)) := Lib.hid (decide_eq_false (fun h => hnm (by rw [hn, hm, h]))).symm
    have t : ((n : Int) != (m : Int)) = true := by rw [bne_iff_ne]; omega
    clear hn hm hnm
    go_enter Try.func20, Try.ntmps20
    go_wp2_with fail
    go_ret
    exact ⟨ret_bool F.out, 0, rfl⟩
  subst hnm
  have HN := Lib.hid hn; have HM := Lib.hid hm
  clear hn hm
  go_enter Try.func20, Try.ntmps20
  go_wp2_with fail
  go_loopw [4, 5, 13] (fun _ _ i wr => ∃ k j : Nat, k ≤ n ∧ i = .int .i64 k ∧ M.take k = N.take k ∧ wr = w.drewN j) (fun _ _ i _ => n - (intOf i).toNat)
  case atStart => exact ⟨0, 0, by omega, rfl, rfl, rfl⟩
  case round =>
    obtain ⟨k, j, hk, rfl, hl, rfl⟩ := hrel
    by_cases hlt : k < n
    · have hst := ints_step M N k (by rw [← HN.out]; exact hlt) (by rw [← HM.out]; exact hlt) hl
      obtain ⟨a, rfl, ca⟩ := rd_z HP.out k (by rw [← HN.out]; exact hlt)
      obtain ⟨b, rfl, cb⟩ := rd_z HQ.out k (by rw [← HM.out]; exact hlt)
      obtain ⟨X, hX⟩ : ∃ X, X = M.getD k 0 := ⟨_, rfl⟩
      obtain ⟨Y, hY⟩ : ∃ Y, Y = N.getD k 0 := ⟨_, rfl⟩
      rw [← hX] at hst ca
      rw [← hY] at hst cb
      have k0 : (0 : Int) ≤ (k : Int) := by omega
      have k1 : (k : Int) < (n : Int) := by omega
      by_cases he : X = Y
      · have HL := Lib.hid (hst.1 he)
        have t : (X != Y) = false := by rw [bne_eq_false_iff_eq]; exact he
        clear hX hY hst hl he
        go_wp2_with fail
        go_quiet (fail)
        go_wp2_with fail
        go_roundw
        case rel => exact ⟨k + 1, _, by omega, by go_num, HL.out, rfl⟩
        case measure => simp [intOf]; omega
      · have F2 : Hid (false = decide (M = N)) := Lib.hid (decide_eq_false (fun h => he (hst.2 (by rw [h])))).symm
        have t : (X != Y) = true := by rw [bne_iff_ne]; exact he
        clear hX hY hst hl he
        go_wp2_with fail
        go_quiet (fail)
        go_wp2_with fail
        go_ret
        exact ⟨ret_bool F2.out, by rw [World.drewN_drewN]; exact ⟨_, rfl⟩⟩
    · obtain rfl : k = n := by omega
      have F2 : Hid (true = decide (M = N)) := Lib.hid (by
        rw [decide_eq_true]
        rwa [List.take_of_length_le (by rw [← HN.out]; omega), List.take_of_length_le (by rw [← HM.out]; omega)] at hl)
      clear hl
      go_wp2_with fail
      go_ret
      exact ⟨ret_bool F2.out, j, rfl⟩

section
variable {K : Keys} {T : List Int} {p q : Option Addr} {c d : Nat} {w : World}
set_option maxHeartbeats 8000000 in
set_option maxRecDepth 100000 in
theorem rcheck_any (h : LsAt w p K q T) :
    Calls Try.prog 22 #[.agg #[.slice p K.length c, .slice q T.length d]] w fun e w' => e = .returned (.int .i64 (chk K T)) ∧ Below w.heap.size w w' := by
  obtain ⟨n, hn⟩ : ∃ n, n = K.length := ⟨_, rfl⟩
  obtain ⟨m, hm⟩ : ∃ m, m = T.length := ⟨_, rfl⟩
  obtain ⟨W0, hW0⟩ : ∃ W0, W0 = w.alloc (.cells #[.slice p n c, .slice q m d] 25) := ⟨_, rfl⟩
  have t0 : Below w.heap.size w W0 := by rw [hW0]; exact (Below.refl _ _).alloc (Nat.le_refl _) _
  have bx := Bx.new w #[.slice p n c, .slice q m d] 25
  rw [← hW0] at bx
  have hnK : n ≤ 9223372036854775807 := by rw [hn]; exact h.many
  have hmT : m ≤ 9223372036854775807 := by rw [hm]; exact h.long
  have u0 : W0.cell? ⟨w.heap.size, 0, none⟩ = some (.slice p n c) := bx.cell 0 (by simp)
  have u1 : W0.cell? ⟨w.heap.size, 1, none⟩ = some (.slice q m d) := bx.cell 1 (by simp)
  have HT := Lib.hid t0; have HW0 := Lib.hid hW0; have HBX := Lib.hid bx
  rw [← hn, ← hm]
  by_cases hmany : (1 ≤ n ∧ n ≤ 256) ∧ m = n
  case neg =>
    have F : Hid (2 = chk K T) := Lib.hid (by
      unfold chk
      rw [if_neg]
      rintro ⟨h1, h2⟩
      refine hmany ⟨by rw [hn]; exact h1, ?_⟩
      rw [hm, hn, h2, up_length, build_length])
    clear t0 hn hm h bx hW0
    by_cases a1 : n < 1
    · obtain rfl : n = 0 := by omega
      clear hmany
      go_enter Try.func22, Try.ntmps22
      go_wp2_with fail
      rw [← HW0.out]
      go_ret
      exact ⟨ret_i F.out, HT.out⟩
    · by_cases a2 : 256 < n
      · clear hmany
        go_enter Try.func22, Try.ntmps22
        go_wp2_with fail
        rw [← HW0.out]
        go_ret
        exact ⟨ret_i F.out, HT.out⟩
      · have t : ((m : Int) != (n : Int)) = true := by rw [bne_iff_ne]; omega
        clear hmany
        go_enter Try.func22, Try.ntmps22
        go_wp2_with fail
        rw [← HW0.out]
        go_ret
        exact ⟨ret_i F.out, HT.out⟩
  case pos =>
    obtain ⟨⟨h1, h2⟩, rfl⟩ := hmany
    have HB : Hid (Calls Try.prog 27 #[.slice p m c] W0 fun e w' => ∃ g, e = .returned (.slice (some ⟨g, 0, none⟩) m m) ∧ Nums w' W0.heap.size g m (build K) ∧ Below W0.heap.size W0 w') := Lib.hid (by
      have := rtree_any (c := c) (by omega : 1 ≤ K.length) (by omega) (h.keys.below t0)
      rw [← hn] at this
      exact this)
    have HRT := Lib.hid (h.tree.below t0)
    have HN := Lib.hid hn; have HM := Lib.hid hm
    have t : ((m : Int) != (m : Int)) = false := by simp
    clear t0 hn hm h bx hW0
    go_enter Try.func22, Try.ntmps22
    go_wp2_with fail
    rw [← HW0.out]
    refine HB.out.mono ?_
    rintro e w1 ⟨g, rfl, hnu, b1⟩
    have v1 : w1.cell? ⟨w.heap.size, 1, none⟩ = some (.slice q m d) := (HBX.out.below b1).cell 1 (by simp)
    have hr1 := HRT.out.below b1
    have B1 := Lib.hid (HT.out.trans (b1.mono HT.out.size))
    have NU := Lib.hid hnu; have R1 := Lib.hid hr1
    clear b1 hnu hr1 u0 u1 HB HRT
    go_wp2_with fail
    go_loopw [2, 3, 4, 28] (fun _ _ _ i wr => ∃ k : Nat, k ≤ m ∧ i = .int .i64 k ∧ T.take k = (up (build K)).take k ∧ wr = w1) (fun _ _ _ i _ => m - (intOf i).toNat)
    case atStart => exact ⟨0, by omega, rfl, rfl, rfl⟩
    case round =>
      obtain ⟨k, hk, rfl, hl, rfl⟩ := hrel
      by_cases hlt : k < m
      · have hbl : (build K).length = m := by rw [build_length, ← HN.out]
        have hst := ints_step T (up (build K)) k (by rw [← HM.out]; exact hlt) (by rw [up_length, hbl]; exact hlt) hl
        obtain ⟨a, rfl, ca⟩ := rd_z R1.out k (by rw [← HM.out]; exact hlt)
        have cb := NU.out.cell hlt
        rw [up_getD _ _ (by rw [hbl]; exact hlt)] at hst
        obtain ⟨X, hX⟩ : ∃ X, X = T.getD k 0 := ⟨_, rfl⟩
        obtain ⟨Y, hY⟩ : ∃ Y : Int, Y = ((build K).getD k 0 : Nat) := ⟨_, rfl⟩
        rw [← hX] at hst ca
        rw [← hY] at hst cb
        have k0 : (0 : Int) ≤ (k : Int) := by omega
        have k1 : (k : Int) < (m : Int) := by omega
        by_cases he : X = Y
        · have HL := Lib.hid (hst.1 he)
          have t2 : (X != Y) = false := by rw [bne_eq_false_iff_eq]; exact he
          clear hX hY hst hl he hbl
          go_wp2_with fail
          go_roundw
          case rel => exact ⟨k + 1, by omega, by go_num, HL.out, by first | trivial | rfl⟩
          case measure => simp [intOf]; omega
        · have F2 : Hid (2 = chk K T) := Lib.hid (by
            unfold chk
            rw [if_neg]
            rintro ⟨_, h2⟩
            exact he (hst.2 (by rw [h2])))
          have t2 : (X != Y) = true := by rw [bne_iff_ne]; exact he
          clear hX hY hst hl he hbl
          go_wp2_with fail
          go_ret
          exact ⟨ret_i F2.out, B1.out⟩
      · obtain rfl : k = m := by omega
        have F2 : Hid (0 = chk K T) := Lib.hid (by
          unfold chk
          rw [if_pos]
          refine ⟨by rw [← HN.out]; exact ⟨h1, h2⟩, ?_⟩
          rwa [List.take_of_length_le (by rw [← HM.out]; omega), List.take_of_length_le (by rw [up_length, build_length, ← HN.out]; omega)] at hl)
        clear hl
        go_wp2_with fail
        go_ret
        exact ⟨ret_i F2.out, B1.out⟩
end
end Go.Proofs.Ythkgdjclgphodaa.Ls

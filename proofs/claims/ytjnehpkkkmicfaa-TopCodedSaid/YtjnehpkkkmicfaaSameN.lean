/- The walk of the document's SameNumbers. -/
import Derived.Test.YtjnehpkkkmicfaaLsWalkA
namespace Go.Proofs.Ytjnehpkkkmicfaa.Ls
open Go.RowKit Rw Nm

set_option maxHeartbeats 2000000 in
set_option maxRecDepth 100000 in
theorem samenum_any (M N : List Int) (p q : Option Addr) (c d : Nat) (w : World) (hp : Rd w p (zs M)) (hq : Rd w q (zs N)) (hx : M.length ≤ 9223372036854775807) (hy : N.length ≤ 9223372036854775807) :
    Calls Try.prog 29 #[.slice p M.length c, .slice q N.length d] w fun e w' => e = .returned (.bool (decide (M = N))) ∧ ∃ n, w' = w.drewN n := by
  have HP := Lib.hid hp; have HQ := Lib.hid hq
  clear hp hq
  obtain ⟨n, hn⟩ : ∃ n, n = M.length := ⟨_, rfl⟩
  obtain ⟨m, hm⟩ : ∃ m, m = N.length := ⟨_, rfl⟩
  rw [← hn, ← hm]
  rw [← hn] at hx; rw [← hm] at hy
  by_cases hnm : n = m
  case neg =>
    have F : Hid (false = decide (M = N)) := Lib.hid (decide_eq_false (fun h => hnm (by rw [hn, hm, h]))).symm
    have t : ((n : Int) != (m : Int)) = true := by rw [bne_iff_ne]; omega
    clear hn hm hnm
    go_enter Try.func29, Try.ntmps29
    go_wp2_with fail
    go_ret
    exact ⟨ret_bool F.out, 0, rfl⟩
  subst hnm
  have HN := Lib.hid hn; have HM := Lib.hid hm
  clear hn hm
  go_enter Try.func29, Try.ntmps29
  go_wp2_with fail
  go_loopw [4, 5, 13] (fun _ _ i wr => ∃ k j : Nat, k ≤ n ∧ i = .int .i64 k ∧ M.take k = N.take k ∧ wr = w.drewN j) (fun _ _ i _ => n - (intOf i).toNat)
  case atStart => exact ⟨0, 0, by omega, rfl, rfl, rfl⟩
  case round =>
    obtain ⟨k, j, hk, rfl, hl, rfl⟩ := hrel
    by_cases hlt : k < n
    · have hst := ints_step M N k (by rw [← HN.out]; exact hlt) (by rw [← HM.out]; exact hlt) hl
      obtain ⟨a, rfl, ca⟩ := rd_z HP.out k (by rw [← HN.out]; exact hlt)
      obtain ⟨b, rfl, cb⟩ := rd_z HQ.out k (by rw [← HM.out]; exact hlt)
      obtain ⟨X, hX⟩ : ∃ X, X = M.getD k 0 := ⟨_, rfl⟩
      obtain ⟨Y, hY⟩ : ∃ Y, Y = N.getD k 0 := ⟨_, rfl⟩
      rw [← hX] at hst ca
      rw [← hY] at hst cb
      have k0 : (0 : Int) ≤ (k : Int) := by omega
      have k1 : (k : Int) < (n : Int) := by omega
      by_cases he : X = Y
      · have HL := Lib.hid (hst.1 he)
        have t : (X != Y) = false := by rw [bne_eq_false_iff_eq]; exact he
        clear hX hY hst hl he
        go_wp2_with fail
        go_quiet (fail)
        go_wp2_with fail
        go_roundw
        case rel => exact ⟨k + 1, _, by omega, by go_num, HL.out, rfl⟩
        case measure => simp [intOf]; omega
      · have F2 : Hid (false = decide (M = N)) := Lib.hid (decide_eq_false (fun h => he (hst.2 (by rw [h])))).symm
        have t : (X != Y) = true := by rw [bne_iff_ne]; exact he
        clear hX hY hst hl he
        go_wp2_with fail
        go_quiet (fail)
        go_wp2_with fail
        go_ret
        exact ⟨ret_bool F2.out, by rw [World.drewN_drewN]; exact ⟨_, rfl⟩⟩
    · obtain rfl : k = n := by omega
      have F2 : Hid (true = decide (M = N)) := Lib.hid (by
        rw [decide_eq_true]
        rwa [List.take_of_length_le (by rw [← HN.out]; omega), List.take_of_length_le (by rw [← HM.out]; omega)] at hl)
      clear hl
      go_wp2_with fail
      go_ret
      exact ⟨ret_bool F2.out, j, rfl⟩

end Go.Proofs.Ytjnehpkkkmicfaa.Ls

/- The walk of wringerref02.More. -/
import Derived.Test.YtbbokhelmhmgfaaDoorCrcWalkA
namespace Go.Proofs.YtbbokhelmhmgfaaDoor.Crc
open Go.RowKit

theorem bit_fact (r : Nat) (hr : r < 4294967296) (c : UInt8) (j : Nat) : ∃ m : Nat, m = r ^^^ (c.toNat / 2 ^ j) ∧ bits .xor .u32 (r : Int) ((c.toNat : Int) / 2 ^ j % 4294967296) = m := by
  refine ⟨_, rfl, ?_⟩
  have hc := c.toNat_lt
  have h1 : c.toNat / 2 ^ j ≤ c.toNat := Nat.div_le_self _ _
  have h2 : ((c.toNat : Int) / 2 ^ j % 4294967296) = ((c.toNat / 2 ^ j : Nat) : Int) := by
    have : ((c.toNat / 2 ^ j : Nat) : Int) = (c.toNat : Int) / 2 ^ j := by simp
    rw [← this]
    generalize c.toNat / 2 ^ j = x at h1
    omega
  rw [h2]
  exact x32 hr (by omega)
theorem half_fact (r : Nat) (hr : r < 4294967296) : ∃ m : Nat, m = (r / 2) ^^^ 3988292384 ∧ m < 4294967296 ∧ bits .xor .u32 ((r : Int) / 2) 3988292384 = m :=
  ⟨_, rfl, xor_lt (by omega) (by decide), x32 (a := r / 2) (b := 3988292384) (by omega) (by decide)⟩
theorem odd_beq (m : Nat) : ((m : Int) % 2 == 1) = decide (m % 2 = 1) := by
  have h : (m : Int) % 2 = ((m % 2 : Nat) : Int) := rfl
  rw [h, Bool.eq_iff_iff, beq_iff_eq, decide_eq_true_iff]
  omega
theorem bitsR_step (r c j k : Nat) : bitsR r c j (k + 1) = bitsR (if (r ^^^ (c / 2 ^ j)) % 2 = 1 then (r / 2) ^^^ 3988292384 else r / 2) c (j + 1) k := rfl

set_option maxHeartbeats 400000 in
theorem rmore_any (sum : Nat) (h1 : sum < 4294967296) (s : ByteArray) (w : World) (hs : s.size ≤ maxLen) :
    Calls Tryd.prog 13 #[.int .u32 sum, .string s] w fun e w' => e = .returned (.int .u32 (more sum (bytes s) : Nat)) ∧ w = w' := by
  unfold maxLen at hs
  obtain ⟨n0, hn0⟩ : ∃ n0, neg sum = n0 := ⟨_, rfl⟩
  have hn1 : n0 < 4294967296 := by rw [← hn0]; exact neg_lt _
  have hn : (4294967295 - (sum : Int)) = ↑n0 := by rw [← hn0]; unfold neg; omega
  have HN := Lib.hid hn0; clear hn0
  go_enter Tryd.func13, Tryd.ntmps13
  go_wp2
  go_loop [5, 6, 7, 8] (fun r i _ _ => ∃ (k : Nat) (r' : Nat), k ≤ s.size ∧ i = .int .i64 k ∧ r' < 4294967296 ∧ r' = run n0 ((bytes s).take k) ∧ r = .int .u32 r') (fun _ i _ _ => s.size - (intOf i).toNat)
  case atStart => exact ⟨0, n0, by omega, rfl, hn1, rfl, rfl⟩
  case round =>
    obtain ⟨k, r, hk, rfl, hr, hrun, rfl⟩ := hrel
    have HR := Lib.hid hrun; clear hrun
    by_cases hlt : k < s.size
    · go_wp2
      go_loop [5, 7, 8] (fun r2 i _ => ∃ (j : Nat) (r' : Nat), j ≤ 8 ∧ i = .int .i64 j ∧ r' < 4294967296 ∧ bitsR r' s[k].toNat j (8 - j) = stepR r s[k].toNat ∧ r2 = .int .u32 r') (fun _ i _ => 8 - (intOf i).toNat)
      case atStart => exact ⟨0, r, by omega, rfl, hr, rfl, rfl⟩
      case round =>
        obtain ⟨j, r', hj, rfl, hr', hbr, rfl⟩ := hrel
        have HB := Lib.hid hbr; clear hbr
        by_cases hj8 : j < 8
        · obtain ⟨m, hm, e1⟩ := bit_fact r' hr' s[k] j
          obtain ⟨r2, hr2, l2, e2⟩ := half_fact r' hr'
          have hst : bitsR r' s[k].toNat j (8 - j) = bitsR (if m % 2 = 1 then r2 else r' / 2) s[k].toNat (j + 1) (8 - (j + 1)) := by
            rw [show 8 - j = (8 - (j + 1)) + 1 from by omega, bitsR_step, hm, hr2]
          have HS := Lib.hid hst; clear hst hm hr2
          by_cases ho : m % 2 = 1
          · have e3 : ((m : Int) % 2 == 1) = true := by rw [odd_beq]; exact decide_eq_true ho
            have HF : Hid (bitsR r2 s[k].toNat (j + 1) (8 - (j + 1)) = stepR r s[k].toNat) := Lib.hid (by rw [← HB.out, HS.out, if_pos ho])
            clear ho
            go_wp2
            go_round
            case rel => exact ⟨j + 1, r2, by omega, by go_num, l2, HF.out, rfl⟩
            case measure => simp [intOf]; omega
          · have e3 : ((m : Int) % 2 == 1) = false := by rw [odd_beq]; exact decide_eq_false ho
            have HF : Hid (bitsR (r' / 2) s[k].toNat (j + 1) (8 - (j + 1)) = stepR r s[k].toNat) := Lib.hid (by rw [← HB.out, HS.out, if_neg ho])
            clear ho
            go_wp2
            go_round
            case rel => exact ⟨j + 1, r' / 2, by omega, by go_num, by omega, HF.out, by go_num⟩
            case measure => simp [intOf]; omega
        · obtain rfl : j = 8 := by omega
          have hfin : r' = run n0 ((bytes s).take (k + 1)) := by
            have h := HB.out
            rw [step_eq s[k].toNat_lt] at h
            rw [take_snoc s k hlt, run_snoc, ← HR.out, ← h]; rfl
          have HF := Lib.hid hfin; clear hfin
          go_wp2
          go_round
          case rel => exact ⟨k + 1, r', by omega, by go_num, hr', HF.out, rfl⟩
          case measure => simp [intOf]; omega
    · have hfin : (bytes s).take k = bytes s := List.take_of_length_le (by simp [bytes]; omega)
      have hx : (4294967295 - (r : Int)) = ((neg r : Nat) : Int) := by unfold neg; omega
      have HF : Hid ((neg r : Nat) = more sum (bytes s)) := Lib.hid (by rw [HR.out, hfin]; unfold more; rw [HN.out])
      clear hfin
      go_wp2
      go_ret
      exact ⟨ret_u32 (by rw [HF.out]), rfl⟩
end Go.Proofs.YtbbokhelmhmgfaaDoor.Crc

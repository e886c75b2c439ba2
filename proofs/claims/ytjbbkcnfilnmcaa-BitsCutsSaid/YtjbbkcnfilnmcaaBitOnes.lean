/- The walk of Ones. -/
import Derived.Test.YtjbbkcnfilnmcaaBitCount
namespace Go.Proofs.Ytjbbkcnfilnmcaa.Bt
open Go.RowKit

set_option maxHeartbeats 1000000 in
theorem ones_any (s : ByteArray) (n : Int) (w : World) (hs : s.size ≤ maxLen) :
    Calls Try.prog 16 #[.agg #[.string s, .int .i64 n]] w fun e w' => e = .returned (.tuple #[.int .i64 (onesN s n), .int .i64 (chk s n)]) ∧ Below w.heap.size w w' := by
  have hbx : Below w.heap.size w (w.alloc (.cells #[.string s, .int .i64 n] 23)) := (Below.refl _ _).alloc (Nat.le_refl _) _
  rcases chk_cases s n with hc | hc
  case inr =>
    have FS : Hid (onesN s n = 0 ∧ chk s n = 2) := Lib.hid ⟨if_neg (by omega), hc⟩
    go_enter Try.func16, Try.ntmps16
    go_wp2_with fail
    refine (check_any _ _ _ hs).mono ?_
    rintro e w1 ⟨rfl, b1⟩
    have b2 := hbx.trans (b1.mono (by simp))
    rw [hc]
    clear b1
    go_wp2_with fail
    go_ret2
    exact ⟨ret_ii (by rw [FS.out.1]; rfl) FS.out.2.symm, b2⟩
  have hR := chk_zero hc
  have hsm := size_small hR
  have hpk := packs_cnt hR.packs
  rw [bytes_len] at hpk
  have HC := Lib.hid hc
  have FS : Hid (onesN s n = bsum (bitAt (bytes s)) (8 * s.size)) := Lib.hid (by rw [hpk]; exact if_pos hc)
  clear hpk hR
  go_enter Try.func16, Try.ntmps16
  go_wp2_with fail
  refine (check_any _ _ _ hs).mono ?_
  rintro e w1 ⟨rfl, b1⟩
  have x1 := (Box.new w s n).below b1
  have c0 := x1.c0; have c1 := x1.c1
  have B2 := Lib.hid (hbx.trans (b1.mono (by simp)))
  have X1 := Lib.hid x1
  rw [hc]
  clear b1 x1
  go_wp2_with fail
  go_loopw [5, 6, 15] (fun acc _ i wr => ∃ k : Nat, k ≤ s.size ∧ i = .int .i64 k ∧ acc = .int .i64 (bsum (bitAt (bytes s)) (8 * k) : Nat) ∧ Box wr w.heap.size s n ∧ Below w.heap.size w wr) (fun _ _ i _ => s.size - (intOf i).toNat)
  case atStart => exact ⟨0, by omega, rfl, rfl, X1.out, B2.out⟩
  case round =>
    obtain ⟨k, hk, rfl, rfl, hb, hbl⟩ := hrel
    have c0 := hb.c0; have c1 := hb.c1
    by_cases hlt : k < s.size
    · have hle := bsum_le (bitAt (bytes s)) (8 * k)
      have hst := bsum_byte (bytes s) k
      rw [getD_bytes s k hlt] at hst
      have hp8 := Lib.onesCount_le8 ⟨(s[k]'hlt).toNat, (s[k]'hlt).toNat_lt⟩
      dsimp only at hp8
      obtain ⟨A, hA⟩ : ∃ A, A = bsum (bitAt (bytes s)) (8 * k) := ⟨_, rfl⟩
      rw [← hA] at hst hle ⊢
      have hpop : ∀ W : World, Calls Try.prog 44 #[.int .u8 ((s[k]'hlt).toNat : Int)] W fun e w' => e = .returned (.int .i64 (Lib.onesCount (s[k]'hlt).toNat : Nat)) ∧ W = w' := by
        intro W
        have h := pop_any ((s[k]'hlt).toNat : Int) W (by omega) (by have := (s[k]'hlt).toNat_lt; omega)
        rw [Int.toNat_natCast] at h
        exact h.mono fun e w' ⟨h1, h2⟩ => ⟨h1, h2.symm⟩
      generalize Lib.onesCount (s[k]'hlt).toNat = P at hst hp8 hpop
      have i1 : (k : Int) < (s.size : Int) := by omega
      have hA9 : A ≤ 1600000 := by omega
      have HPOP := Lib.hid hpop; have HST := Lib.hid hst; have HB := Lib.hid hb; have HBL := Lib.hid hbl
      clear hst hpop hb hbl hle hA
      go_wp2_with fail
      refine (HPOP.out _).mono ?_
      rintro e w2 ⟨rfl, rfl⟩
      go_wp2_with fail
      go_roundw
      case rel => exact ⟨k + 1, by omega, by go_num, by rw [HST.out]; go_num, HB.out, HBL.out⟩
      case measure => simp [intOf]; omega
    · obtain rfl : k = s.size := by omega
      have HB := Lib.hid hbl
      clear hb hbl
      go_wp2_with fail
      go_ret2
      exact ⟨ret_ii (by rw [FS.out]) HC.out.symm, HB.out⟩
end Go.Proofs.Ytjbbkcnfilnmcaa.Bt

/- The walk of the document's Ones. -/
import Derived.Test.YtjbbkcnfilnmcaaBitPutR
import Derived.Test.YtjbbkcnfilnmcaaBitOnes
namespace Go.Proofs.Ytjbbkcnfilnmcaa.Bt
open Go.RowKit

theorem cnt_snoc (X : List Bool) (b : Bool) : cnt (X ++ [b]) = cnt X + b.toNat := by
  unfold cnt
  rw [List.count_append]
  cases b <;> simp
theorem cnt_le (X : List Bool) : cnt X ≤ X.length := List.count_le_length
set_option maxHeartbeats 4000000 in
theorem rones_any (s : ByteArray) (n : Int) (w : World) (hs : s.size ≤ maxLen) :
    Calls Try.prog 17 #[.agg #[.string s, .int .i64 n]] w fun e w' => e = .returned (.tuple #[.int .i64 (onesN s n), .int .i64 (chk s n)]) ∧ Below w.heap.size w w' := by
  have hbx : Below w.heap.size w (w.alloc (.cells #[.string s, .int .i64 n] 23)) := (Below.refl _ _).alloc (Nat.le_refl _) _
  rcases chk_cases s n with hc | hc
  case inr =>
    have FS : Hid (onesN s n = 0 ∧ chk s n = 2) := Lib.hid ⟨if_neg (by omega), hc⟩
    go_enter Try.func17, Try.ntmps17
    go_wp2_with fail
    refine (rcheck_any _ _ _ hs).mono ?_
    rintro e w1 ⟨rfl, b1⟩
    have b2 := hbx.trans (b1.mono (by simp))
    rw [hc]
    clear b1
    go_wp2_with fail
    go_ret2
    exact ⟨ret_ii (by rw [FS.out.1]; rfl) FS.out.2.symm, b2⟩
  have hR := chk_zero hc
  have hpk := hR.packs
  have HC := Lib.hid hc
  obtain ⟨m, rfl⟩ := Int.eq_ofNat_of_zero_le hR.1
  have hm : m ≤ 1048576 := by have := hR.2.1; omega
  have FS : Hid (onesN s m = cnt (bl (bytes s) m)) := Lib.hid (if_pos hc)
  rw [Int.toNat_natCast] at hpk
  have hl := bl_length (bytes s) m
  generalize bl (bytes s) m = X at hpk hl FS
  have HPK := Lib.hid hpk; have HXM := Lib.hid hl
  clear hpk hl hR
  go_enter Try.func17, Try.ntmps17
  go_wp2_with fail
  refine (rcheck_any _ _ _ hs).mono ?_
  rintro e w1 ⟨rfl, b1⟩
  have x1 := (Box.new w s m).below b1
  have c0 := x1.c0; have c1 := x1.c1
  have B2 := Lib.hid (hbx.trans (b1.mono (by simp)))
  rw [hc]
  clear b1 x1 hc
  go_wp2_with fail
  refine (all_of s X m HXM.out HPK.out hm _ w1.heap.size (Nat.le_refl _)).mono ?_
  rintro e w2 ⟨v0, rfl, hown, b3⟩
  obtain ⟨p, cap, rfl, hat⟩ := row_bools hown HXM.out
  have B3 := Lib.hid (B2.out.trans (b3.mono B2.out.size))
  have HAT := Lib.hid hat
  clear hown hat b3 c0 c1
  go_wp2_with fail
  go_loopw [4, 6, 13] (fun acc _ i wr => ∃ k : Nat, k ≤ m ∧ i = .int .i64 k ∧ acc = .int .i64 (cnt (X.take k) : Nat) ∧ wr = w2) (fun _ _ i _ => m - (intOf i).toNat)
  case atStart => exact ⟨0, by omega, rfl, rfl, rfl⟩
  case round =>
    obtain ⟨k, hk, rfl, rfl, rfl⟩ := hrel
    by_cases hlt : k < m
    · obtain ⟨g, o, rfl, hg, hcell⟩ := HAT.out k (by rw [HXM.out]; exact hlt)
      have hsn := cnt_snoc (X.take k) (X.getD k false)
      rw [← take_snoc_bool X k (by rw [HXM.out]; exact hlt)] at hsn
      have hle := cnt_le (X.take k)
      rw [List.length_take] at hle
      obtain ⟨A, hA⟩ : ∃ A, A = cnt (X.take k) := ⟨_, rfl⟩
      rw [← hA] at hsn hle ⊢
      have hA9 : A ≤ 1048576 := by omega
      cases hx : X.getD k false with
      | false =>
        rw [hx] at hcell hsn
        have HSN := Lib.hid hsn
        clear hsn hA hle hx
        go_wp2_with fail
        exact ⟨⟨k + 1, by omega, by go_num, by rw [HSN.out]; rfl, trivial⟩, by simp [intOf]; omega⟩
      | true =>
        rw [hx] at hcell hsn
        have HSN := Lib.hid hsn
        clear hsn hA hle hx
        go_wp2_with fail
        exact ⟨⟨k + 1, by omega, by go_num, by rw [HSN.out]; rfl, trivial⟩, by simp [intOf]; omega⟩
    · obtain rfl : k = m := by omega
      have hfin : X.take k = X := List.take_of_length_le (by rw [HXM.out]; exact Nat.le_refl _)
      rw [hfin]
      clear hfin
      generalize hA : cnt X = A
      have HA := Lib.hid hA
      clear hA
      go_wp2_with fail
      go_ret2
      exact ⟨ret_ii (by rw [FS.out, HA.out]) HC.out.symm, B3.out⟩
end Go.Proofs.Ytjbbkcnfilnmcaa.Bt

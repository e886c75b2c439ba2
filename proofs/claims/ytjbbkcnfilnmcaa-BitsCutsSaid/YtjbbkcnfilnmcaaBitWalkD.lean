/- The walks of the document's Is, Check, Get. -/
import Derived.Test.YtjbbkcnfilnmcaaBitWalkC
namespace Go.Proofs.Ytjbbkcnfilnmcaa.Bt
open Go.RowKit

theorem bit_beq (c k : Nat) : ((c : Int) / 2 ^ k % 2 == 1) = c.testBit k := by
  have e : (c : Int) / 2 ^ k % 2 = ((c / 2 ^ k % 2 : Nat) : Int) := by simp
  rw [e, Nat.testBit_eq_decide_div_mod_eq, Bool.eq_iff_iff, beq_iff_eq, decide_eq_true_iff]
  omega
theorem bit_tmod (c k : Nat) : (((c : Int) / 2 ^ k).tmod 2 == 1) = c.testBit k := by
  rw [Int.tmod_eq_emod_of_nonneg (Int.ediv_nonneg (by omega) (Int.pow_nonneg (by decide)))]; exact bit_beq c k

set_option maxHeartbeats 1000000 in
theorem is_any (s : ByteArray) (n i : Int) (h0 : 0 ≤ i) (h1 : i < 8 * s.size) (hs : s.size ≤ 1000000) (w : World) :
    Calls Try.prog 60 #[.agg #[.string s, .int .i64 n], .int .i64 i] w fun e w' => e = .returned (.bool (bitAt (bytes s) i.toNat)) ∧ Below w.heap.size w w' := by
  obtain ⟨i, rfl⟩ := Int.eq_ofNat_of_zero_le h0
  rw [Int.toNat_natCast]
  have hbx : Below w.heap.size w (w.alloc (.cells #[.string s, .int .i64 n] 23)) := (Below.refl _ _).alloc (Nat.le_refl _) _
  obtain ⟨m, hm⟩ : ∃ m, m = i / 8 := ⟨_, rfl⟩
  have hl : m < s.size := by omega
  obtain ⟨k, hk⟩ : ∃ k, k = 7 - i % 8 := ⟨_, rfl⟩
  have hk8 : k ≤ 7 := by omega
  have e1 : (i : Int) / 8 = (m : Int) := by omega
  have e2 : (7 : Int) - (i : Int) % 8 = (k : Int) := by omega
  have i0 : (0 : Int) ≤ (m : Int) := by omega
  have i1 : (m : Int) < (s.size : Int) := by omega
  have hb : (((s[m].toNat : Int) / 2 ^ k).tmod 2 == 1) = bitAt (bytes s) i := by
    rw [bit_tmod]; unfold bitAt; rw [← hm, ← hk, getD_bytes s m hl]
  have F : Hid ((((s[m].toNat : Int) / 2 ^ k).tmod 2 == 1) = bitAt (bytes s) i) := Lib.hid hb
  clear h0 h1 hb hk hm
  go_enter Try.func60, Try.ntmps60
  go_wp2_with fail
  go_ret
  exact ⟨by rw [← F.out]; rfl, hbx⟩

set_option maxHeartbeats 2000000 in
theorem rcheck_any (s : ByteArray) (n : Int) (w : World) (hs : s.size ≤ maxLen) :
    Calls Try.prog 40 #[.agg #[.string s, .int .i64 n]] w fun e w' => e = .returned (.int .i64 (chk s n)) ∧ Below w.heap.size w w' := by
  unfold maxLen at hs
  have hbx : Below w.heap.size w (w.alloc (.cells #[.string s, .int .i64 n] 23)) := (Below.refl _ _).alloc (Nat.le_refl _) _
  by_cases h1 : n < 0
  · have F : Hid (2 = chk s n) := Lib.hid (if_neg (fun h => by have := h.1; omega)).symm
    go_enter Try.func40, Try.ntmps40
    go_wp2_with fail
    go_ret
    exact ⟨ret_int F.out, hbx⟩
  by_cases h2 : 1048576 < n
  · have F : Hid (2 = chk s n) := Lib.hid (if_neg (fun h => by have := h.2.1; omega)).symm
    go_enter Try.func40, Try.ntmps40
    go_wp2_with fail
    go_ret
    exact ⟨ret_int F.out, hbx⟩
  obtain ⟨m, rfl⟩ := Int.eq_ofNat_of_zero_le (show 0 ≤ n by omega)
  have hm : m ≤ 1048576 := by omega
  by_cases h3 : s.size = (m + 7) / 8
  case neg =>
    have F : Hid (2 = chk s m) := Lib.hid (if_neg (fun h => by have := h.2.2.1; rw [bytes_len] at this; simp at this; exact h3 this)).symm
    have d3 : ((s.size : Int) != ((m : Int) + 7) / 8) = true := by rw [bne_iff_ne]; omega
    clear h3
    go_enter Try.func40, Try.ntmps40
    go_wp2_with fail
    go_ret
    exact ⟨ret_int F.out, hbx⟩
  have d3 : ((s.size : Int) != ((m : Int) + 7) / 8) = false := by rw [bne_eq_false_iff_eq]; omega
  have hsz : s.size ≤ 1000000 := by omega
  have hmn : m ≤ 8 * s.size := by omega
  have H3 := Lib.hid h3
  clear h3 h1 h2
  go_enter Try.func40, Try.ntmps40
  go_wp2_with fail
  go_loopw [3] (fun i wr => ∃ k : Nat, m ≤ k ∧ k ≤ 8 * s.size ∧ i = .int .i64 k ∧ (∀ j, m ≤ j → j < k → bitAt (bytes s) j = false) ∧ wr.cell? ⟨w.heap.size, 0, none⟩ = some (.string s) ∧ wr.cell? ⟨w.heap.size, 1, none⟩ = some (.int .i64 m) ∧ w.heap.size < wr.heap.size ∧ Below w.heap.size w wr) (fun i _ => 8 * s.size - (intOf i).toNat)
  case atStart => exact ⟨m, by omega, hmn, rfl, fun j _ _ => by omega, by simp, by simp, by simp, hbx⟩
  case round =>
    obtain ⟨k, hk1, hk2, rfl, hz, hc0, hc1, hsz2, hbl⟩ := hrel
    have HZ := Lib.hid hz; clear hz
    by_cases hlt : k < 8 * s.size
    · go_wp2_with fail
      refine (is_any s m k (by omega) (by omega) hsz _).mono ?_
      rw [Int.toNat_natCast]
      rintro e w1 ⟨rfl, b1⟩
      have b2 := hbl.trans (b1.mono hbl.size)
      have c0 : w1.cell? ⟨w.heap.size, 0, none⟩ = some (.string s) := by rw [b1.cell hsz2]; exact hc0
      have c1 : w1.cell? ⟨w.heap.size, 1, none⟩ = some (.int .i64 m) := by rw [b1.cell hsz2]; exact hc1
      have hsz3 := Nat.lt_of_lt_of_le hsz2 b1.size
      cases hb : bitAt (bytes s) k
      · have HN : Hid (∀ j, m ≤ j → j < k + 1 → bitAt (bytes s) j = false) := Lib.hid (fun j h1 h2 => by
          by_cases e : j = k
          · subst e; exact hb
          · exact HZ.out j h1 (by omega))
        clear hc0 hc1 hbl b1 hb
        go_wp2_with fail
        go_roundw
        case rel => exact ⟨k + 1, by omega, by omega, by go_num, HN.out, c0, c1, hsz3, b2⟩
        case measure => simp [intOf]; omega
      · have F : Hid (2 = chk s m) := Lib.hid (if_neg (fun h => by
          have := h.2.2.2 k (by rw [bytes_len]; omega) (by simp; omega)
          rw [hb] at this; cases this)).symm
        clear hc0 hc1 hbl b1 hb
        go_wp2_with fail
        go_ret
        exact ⟨ret_int F.out, b2⟩
    · have F : Hid (0 = chk s m) := Lib.hid (if_pos ⟨by omega, by omega, by rw [bytes_len, H3.out]; simp, fun i hi hmi => HZ.out i (by simpa using hmi) (by rw [bytes_len] at hi; omega)⟩).symm
      go_wp2_with fail
      go_ret
      exact ⟨ret_int F.out, hbl⟩
end Go.Proofs.Ytjbbkcnfilnmcaa.Bt

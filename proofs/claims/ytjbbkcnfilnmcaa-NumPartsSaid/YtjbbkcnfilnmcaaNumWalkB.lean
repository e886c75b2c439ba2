/- The walks of the document's Five, Put, Of, Get; Short, the program's and the document's. -/
import Derived.Test.YtjbbkcnfilnmcaaNumWalkA
namespace Go.Proofs.Ytjbbkcnfilnmcaa.Nm
open Go.RowKit

theorem byte_val0 (n : Nat) : (n : Int) % 256 = ((UInt8.ofNat n).toNat : Int) := by
  rw [UInt8.toNat_ofNat']; omega
theorem byte_div (n k : Nat) (hn : n < 18446744073709551616) : IntKind.u64.wrap ((n : Int) / k) % 256 = ((UInt8.ofNat (n / k)).toNat : Int) := by
  have h := byte_val0 (n / k)
  have hd := Nat.div_le_self n k
  have e : (n : Int) / k = ((n / k : Nat) : Int) := by simp
  rw [e, wrap_nat (by omega), ← h]

set_option maxHeartbeats 1000000 in
set_option maxRecDepth 100000 in
theorem rfive_any (n : Nat) (hn : n < 18446744073709551616) (w : World) : Calls Try.prog 46 #[.int .u64 n] w fun e w' => e = .returned (.string (ofB (fiveL n))) ∧ Below w.heap.size w w' := by
  have h1 : IntKind.u64.wrap ((n : Int) / 4294967296) % 256 = ((UInt8.ofNat (n / 4294967296)).toNat : Int) := byte_div n 4294967296 hn
  have h2 : IntKind.u64.wrap ((n : Int) / 16777216) % 256 = ((UInt8.ofNat (n / 16777216)).toNat : Int) := byte_div n 16777216 hn
  have h3 : IntKind.u64.wrap ((n : Int) / 65536) % 256 = ((UInt8.ofNat (n / 65536)).toNat : Int) := byte_div n 65536 hn
  have h4 : IntKind.u64.wrap ((n : Int) / 256) % 256 = ((UInt8.ofNat (n / 256)).toNat : Int) := byte_div n 256 hn
  have h5 : (n : Int) % 256 = ((UInt8.ofNat n).toNat : Int) := byte_val0 n
  have hF : Hid (fiveL n = [UInt8.ofNat (n / 4294967296), UInt8.ofNat (n / 16777216), UInt8.ofNat (n / 65536), UInt8.ofNat (n / 256), UInt8.ofNat n]) := Lib.hid rfl
  obtain ⟨x1, e1⟩ : ∃ x, x = UInt8.ofNat (n / 4294967296) := ⟨_, rfl⟩
  obtain ⟨x2, e2⟩ : ∃ x, x = UInt8.ofNat (n / 16777216) := ⟨_, rfl⟩
  obtain ⟨x3, e3⟩ : ∃ x, x = UInt8.ofNat (n / 65536) := ⟨_, rfl⟩
  obtain ⟨x4, e4⟩ : ∃ x, x = UInt8.ofNat (n / 256) := ⟨_, rfl⟩
  obtain ⟨x5, e5⟩ : ∃ x, x = UInt8.ofNat n := ⟨_, rfl⟩
  rw [← e1] at h1 hF; rw [← e2] at h2 hF; rw [← e3] at h3 hF; rw [← e4] at h4 hF; rw [← e5] at h5 hF
  clear e1 e2 e3 e4 e5 hn
  have hrow := World.ownsRow_lit (base := w.heap.size) (e := 5) (size := 1) w #[.int .u8 (x1.toNat : Int), .int .u8 (x2.toNat : Int), .int .u8 (x3.toNat : Int), .int .u8 (x4.toNat : Int), .int .u8 (x5.toNat : Int)] 5 (Nat.le_refl _) (by unfold maxLen; omega) rfl
  have hbk := run_own (L := [x1, x2, x3, x4, x5]) hrow (by rfl)
  clear hrow
  go_enter Try.func46, Try.ntmps46
  go_wp2_with fail
  go_ret
  exact ⟨by rw [hF.out]; rfl, (Below.refl _ _).alloc (Nat.le_refl _) _⟩

theorem rput_any (n : Nat) (w : World) : Calls Try.prog 20 #[.int .u64 n] w fun e w' => e = .returned (.tuple #[.string (putS n), .int .i64 (putE n)]) ∧ Below w.heap.size w w' := by
  by_cases h : n < 1099511627776
  · have F : Hid (ofB (fiveL n) = putS n ∧ 0 = putE n) := Lib.hid ⟨(if_pos h).symm, (if_pos h).symm⟩
    have t : decide ((1099511627776 : Int) ≤ (n : Int)) = false := decide_eq_false (by omega)
    have H := Lib.hid h
    clear h
    go_enter Try.func20, Try.ntmps20
    go_wp2_with fail
    refine (rfive_any n (by have := H.out; omega) _).mono ?_
    rintro e w1 ⟨rfl, hb⟩
    have HB := Lib.hid hb
    clear hb
    go_wp2_with fail
    go_ret2
    exact ⟨ret_str F.out.1 F.out.2, HB.out⟩
  · have F : Hid (⟨#[]⟩ = putS n ∧ 1 = putE n) := Lib.hid ⟨(if_neg h).symm, (if_neg h).symm⟩
    have t : decide ((1099511627776 : Int) ≤ (n : Int)) = true := decide_eq_true (by omega)
    clear h
    go_enter Try.func20, Try.ntmps20
    go_wp2_with fail
    go_ret2
    exact ⟨ret_str F.out.1 F.out.2, Below.refl _ _⟩

set_option maxHeartbeats 1000000 in
theorem rof_any (s : ByteArray) (hs : s.size = 5) (w : World) :
    Calls Try.prog 48 #[.string s] w fun e w' => e = .returned (.int .u64 (ofL s.data.toList : Nat)) ∧ w = w' := by
  have HS := Lib.hid hs
  have hs5 : s.size ≤ 5 := by omega
  clear hs
  go_enter Try.func48, Try.ntmps48
  go_wp2_with fail
  go_loop [3, 4] (fun v i => ∃ k : Nat, k ≤ s.size ∧ i = .int .i64 k ∧ v = .int .u64 (ofL (s.data.toList.take k) : Nat)) (fun _ i => s.size - (intOf i).toNat)
  case atStart => exact ⟨0, by omega, rfl, rfl⟩
  case round =>
    obtain ⟨k, hk, rfl, rfl⟩ := hrel
    by_cases hlt : k < s.size
    · have hl := ofL_take_lt s.data.toList k (by omega)
      have ht := ofL_take s k hlt
      obtain ⟨v, hv⟩ : ∃ v, v = ofL (s.data.toList.take k) := ⟨_, rfl⟩
      obtain ⟨v2, hv2⟩ : ∃ v, v = ofL (s.data.toList.take (k + 1)) := ⟨_, rfl⟩
      rw [← hv, ← hv2] at ht
      rw [← hv] at hl ⊢
      have hc := (s[k]'hlt).toNat_lt
      have HT := Lib.hid ht; have HV := Lib.hid hv; have HV2 := Lib.hid hv2
      clear ht hv hv2
      go_wp2_with fail
      go_round
      case rel => exact ⟨k + 1, by omega, by go_num, by rw [← HV2.out, HT.out]; go_num⟩
      case measure => simp [intOf]; omega
    · obtain rfl : k = s.size := by omega
      go_wp2_with fail
      go_ret
      exact ⟨ret_int (by rw [List.take_of_length_le (by simp)]), rfl⟩

theorem rget_any (s : ByteArray) (w : World) : Calls Try.prog 22 #[.string s] w fun e w' => e = .returned (.tuple #[.int .u64 (getN s : Nat), .int .i64 (getE s)]) ∧ w = w' := by
  by_cases h : s.size = 5
  · have F : Hid (((ofL s.data.toList : Nat) : Int) = (getN s : Nat) ∧ 0 = getE s) := Lib.hid ⟨by unfold getN; rw [if_pos h], (if_pos h).symm⟩
    have t : ((s.size : Int) != 5) = false := by rw [bne_eq_false_iff_eq]; omega
    have H := Lib.hid h
    clear h
    go_enter Try.func22, Try.ntmps22
    go_wp2_with fail
    refine (rof_any s H.out _).mono ?_
    rintro e w1 ⟨rfl, rfl⟩
    go_wp2_with fail
    go_ret2
    exact ⟨ret_num F.out.1 F.out.2, rfl⟩
  · have F : Hid ((0 : Int) = (getN s : Nat) ∧ 5 = getE s) := Lib.hid ⟨by unfold getN; rw [if_neg h]; rfl, (if_neg h).symm⟩
    have t : ((s.size : Int) != 5) = true := by rw [bne_iff_ne]; omega
    clear h
    go_enter Try.func22, Try.ntmps22
    go_wp2_with fail
    go_ret2
    exact ⟨ret_num F.out.1 F.out.2, rfl⟩
end Go.Proofs.Ytjbbkcnfilnmcaa.Nm

/- The walks of the laws NumFives, NumShorts. -/
import Derived.Test.YtjbbkcnfilnmcaaNumLives
namespace Go.Proofs.Ytjbbkcnfilnmcaa.Nm
open Go.RowKit Rw

set_option maxHeartbeats 8000000 in
set_option maxRecDepth 100000 in
theorem fives_law (n : Nat) (s : ByteArray) (w : World) :
    Calls Try.prog 4 #[.int .u64 n, .string s] w fun e w' => e = .returned (.bool true) ∧ Below w.heap.size w w' := by
  obtain ⟨S, hS⟩ : ∃ S, S = putS n := ⟨_, rfl⟩
  obtain ⟨E, hE⟩ : ∃ E, E = putE n := ⟨_, rfl⟩
  obtain ⟨N, hN⟩ : ∃ N, N = getN s := ⟨_, rfl⟩
  obtain ⟨F, hF⟩ : ∃ F, F = getE s := ⟨_, rfl⟩
  have HS := Lib.hid hS; have HE := Lib.hid hE; have HN := Lib.hid hN; have HF := Lib.hid hF
  clear hS hE hN hF
  go_enter Try.func4, Try.ntmps4
  go_wp2_with fail
  refine (put_any n _).mono ?_
  rw [← HS.out, ← HE.out]
  rintro e w1 ⟨rfl, b⟩
  have B1 := Lib.hid b; clear b
  go_wp2_with fail
  refine (rput_any n _).mono ?_
  rw [← HS.out, ← HE.out]
  rintro e w2 ⟨rfl, b⟩
  have B2 := Lib.hid (B1.out.trans (b.mono B1.out.size)); clear b B1
  go_wp2_with fail
  refine (get_any s _).mono ?_
  rw [← HN.out, ← HF.out]
  rintro e w3 ⟨rfl, rfl⟩
  go_wp2_with fail
  refine (rget_any s _).mono ?_
  rw [← HN.out, ← HF.out]
  rintro e w3 ⟨rfl, rfl⟩
  go_wp2_with fail
  refine (lives_any _).mono ?_
  rintro e w3 ⟨rfl, b⟩
  have B3 := Lib.hid (B2.out.trans (b.mono B2.out.size)); clear b B2
  go_wp2_with fail
  go_ret
  exact ⟨rfl, B3.out⟩

set_option maxHeartbeats 8000000 in
set_option maxRecDepth 100000 in
theorem shorts_law (n : Nat) (s : ByteArray) (w : World) (hs : s.size ≤ 200000000000000) :
    Calls Try.prog 5 #[.int .u64 n, .string s] w fun e w' => e = .returned (.bool true) ∧ Below w.heap.size w w' := by
  obtain ⟨S, hS⟩ : ∃ S, S = shoS n := ⟨_, rfl⟩
  obtain ⟨E, hE⟩ : ∃ E, E = putE n := ⟨_, rfl⟩
  obtain ⟨N, hN⟩ : ∃ N, N = rdN s.data.toList := ⟨_, rfl⟩
  obtain ⟨F, hF⟩ : ∃ F, F = rdE s.data.toList := ⟨_, rfl⟩
  obtain ⟨R, hR⟩ : ∃ R, R = ofB (rdR s.data.toList) := ⟨_, rfl⟩
  have HS := Lib.hid hS; have HE := Lib.hid hE; have HN := Lib.hid hN; have HF := Lib.hid hF; have HR := Lib.hid hR; have HZ := Lib.hid hs
  clear hS hE hN hF hR hs
  go_enter Try.func5, Try.ntmps5
  go_wp2_with fail
  refine (short_any n _).mono ?_
  rw [← HS.out, ← HE.out]
  rintro e w1 ⟨rfl, b⟩
  have B1 := Lib.hid b; clear b
  go_wp2_with fail
  refine (rshort_any n _).mono ?_
  rw [← HS.out, ← HE.out]
  rintro e w2 ⟨rfl, b⟩
  have B2 := Lib.hid (B1.out.trans (b.mono B1.out.size)); clear b B1
  go_wp2_with fail
  refine (read_any s HZ.out _).mono ?_
  rw [← HN.out, ← HF.out, ← HR.out]
  rintro e w3 ⟨rfl, b⟩
  have B3 := Lib.hid (B2.out.trans (b.mono B2.out.size)); clear b B2
  go_wp2_with fail
  refine (rread_any s HZ.out _).mono ?_
  rw [← HN.out, ← HF.out, ← HR.out]
  rintro e w4 ⟨rfl, b⟩
  have B4 := Lib.hid (B3.out.trans (b.mono B3.out.size)); clear b B3
  go_wp2_with fail
  refine (lives_any _).mono ?_
  rintro e w5 ⟨rfl, b⟩
  have B5 := Lib.hid (B4.out.trans (b.mono B4.out.size)); clear b B4
  go_wp2_with fail
  go_ret
  exact ⟨rfl, B5.out⟩
end Go.Proofs.Ytjbbkcnfilnmcaa.Nm

/- The walk of Put. -/
import Derived.Test.YtjbbkcnfilnmcaaBitPutT
namespace Go.Proofs.Ytjbbkcnfilnmcaa.Bt
open Go.RowKit

theorem size_small {s : ByteArray} {n : Int} (h : Right (bytes s) n) : s.size ≤ 200000 := by
  have h1 := h.2.2.1
  have h2 := h.2.1
  have h3 := h.1
  rw [bytes_len] at h1
  omega
theorem div_zero_iff (v r : Nat) : v / 2 ^ r = 0 ↔ v < 2 ^ r := by
  constructor
  · intro h
    rcases Nat.lt_or_ge v (2 ^ r) with h1 | h1
    · exact h1
    · have := Nat.div_pos h1 (Nat.two_pow_pos r); omega
  · exact Nat.div_eq_of_lt

end Go.Proofs.Ytjbbkcnfilnmcaa.Bt

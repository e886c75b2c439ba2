/- The walks of bits.Get, and of the document's Is, Check, Get. -/
import Derived.Test.YtjbbkcnfilnmcaaBitWalkB
namespace Go.Proofs.Ytjbbkcnfilnmcaa.Bt
open Go.RowKit

def getE (s : ByteArray) (n a r : Int) : Int := if chk s n ≠ 0 then 2 else if r < 0 ∨ 64 < r ∨ a < 0 ∨ n < a then 1 else if n - a < r then 5 else 0
def getV (s : ByteArray) (n a r : Int) : Nat := if getE s n a r = 0 then num (((bl (bytes s) n.toNat).drop a.toNat).take r.toNat) else 0
theorem chk_zero {s : ByteArray} {n : Int} (h : chk s n = 0) : Right (bytes s) n := by
  unfold chk at h; split at h
  · assumption
  · omega
theorem chk_cases (s : ByteArray) (n : Int) : chk s n = 0 ∨ chk s n = 2 := by unfold chk; split <;> simp
theorem ret_vi {a b c d : Int} (h : a = c) (k : b = d) : Ending.returned (.tuple #[.int .u64 a, .int .i64 b]) = .returned (.tuple #[.int .u64 c, .int .i64 d]) := by rw [h, k]

end Go.Proofs.Ytjbbkcnfilnmcaa.Bt

/- The walks of the document's Is, Check, Get. -/
import Derived.Test.YtjbbkcnfilnmcaaDoorBitWalkC
namespace Go.Proofs.YtjbbkcnfilnmcaaDoor.Bt
open Go.RowKit

theorem bit_beq (c k : Nat) : ((c : Int) / 2 ^ k % 2 == 1) = c.testBit k := by
  have e : (c : Int) / 2 ^ k % 2 = ((c / 2 ^ k % 2 : Nat) : Int) := by simp
  rw [e, Nat.testBit_eq_decide_div_mod_eq, Bool.eq_iff_iff, beq_iff_eq, decide_eq_true_iff]
  omega
theorem bit_tmod (c k : Nat) : (((c : Int) / 2 ^ k).tmod 2 == 1) = c.testBit k := by
  rw [Int.tmod_eq_emod_of_nonneg (Int.ediv_nonneg (by omega) (Int.pow_nonneg (by decide)))]; exact bit_beq c k

end Go.Proofs.YtjbbkcnfilnmcaaDoor.Bt

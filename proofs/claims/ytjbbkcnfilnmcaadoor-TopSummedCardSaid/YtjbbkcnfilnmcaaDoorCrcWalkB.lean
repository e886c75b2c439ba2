/- The walk of wringerref02.More. -/
import Derived.Test.YtjbbkcnfilnmcaaDoorCrcWalkA
namespace Go.Proofs.YtjbbkcnfilnmcaaDoor.Crc
open Go.RowKit

theorem bit_fact (r : Nat) (hr : r < 4294967296) (c : UInt8) (j : Nat) : ∃ m : Nat, m = r ^^^ (c.toNat / 2 ^ j) ∧ bits .xor .u32 (r : Int) ((c.toNat : Int) / 2 ^ j % 4294967296) = m := by
  refine ⟨_, rfl, ?_⟩
  have hc := c.toNat_lt
  have h1 : c.toNat / 2 ^ j ≤ c.toNat := Nat.div_le_self _ _
  have h2 : ((c.toNat : Int) / 2 ^ j % 4294967296) = ((c.toNat / 2 ^ j : Nat) : Int) := by
    have : ((c.toNat / 2 ^ j : Nat) : Int) = (c.toNat : Int) / 2 ^ j := by simp
    rw [← this]
    generalize c.toNat / 2 ^ j = x at h1
    omega
  rw [h2]
  exact x32 hr (by omega)
theorem half_fact (r : Nat) (hr : r < 4294967296) : ∃ m : Nat, m = (r / 2) ^^^ 3988292384 ∧ m < 4294967296 ∧ bits .xor .u32 ((r : Int) / 2) 3988292384 = m :=
  ⟨_, rfl, xor_lt (by omega) (by decide), x32 (a := r / 2) (b := 3988292384) (by omega) (by decide)⟩
theorem odd_beq (m : Nat) : ((m : Int) % 2 == 1) = decide (m % 2 = 1) := by
  have h : (m : Int) % 2 = ((m % 2 : Nat) : Int) := rfl
  rw [h, Bool.eq_iff_iff, beq_iff_eq, decide_eq_true_iff]
  omega
theorem bitsR_step (r c j k : Nat) : bitsR r c j (k + 1) = bitsR (if (r ^^^ (c / 2 ^ j)) % 2 = 1 then (r / 2) ^^^ 3988292384 else r / 2) c (j + 1) k := rfl

end Go.Proofs.YtjbbkcnfilnmcaaDoor.Crc

/- The walk of the law BitsLong. -/
import Derived.Test.YtjbbkcnfilnmcaaDoorBitLives
namespace Go.Proofs.YtjbbkcnfilnmcaaDoor.Bt
open Go.RowKit

theorem get_zero {s : ByteArray} {n a r : Int} (h : getE s n a r = 0) : chk s n = 0 ∧ 0 ≤ r ∧ r ≤ 64 ∧ 0 ≤ a ∧ a ≤ n ∧ r ≤ n - a ∧ n ≤ 1048576 := by
  unfold getE at h
  split at h
  · cases h
  · rename_i h1
    have h1' : chk s n = 0 := by omega
    have h2 := (chk_zero h1').2.1
    split at h
    · cases h
    · split at h
      · cases h
      · omega
theorem get_of {s : ByteArray} {n a r : Int} (h1 : chk s n = 0) (h2 : 0 ≤ r) (h3 : r ≤ 64) (h4 : 0 ≤ a) (h5 : a ≤ n) (h6 : r ≤ n - a) : getE s n a r = 0 := by
  unfold getE; rw [if_neg (by omega), if_neg (by omega), if_neg (by omega)]
theorem getV_zero {s : ByteArray} {n a r : Int} (h : getE s n a r ≠ 0) : getV s n a r = 0 := if_neg h
theorem getV_lt (s : ByteArray) (n a r : Int) : getV s n a r < 2 ^ r.toNat := by
  unfold getV
  split
  · exact num_take_lt _ _ _
  · exact Nat.two_pow_pos _
theorem getV_split {s : ByteArray} {n a p q : Int} (h : getE s n a (p + q) = 0) (hp : 0 ≤ p) (hq : 0 ≤ q) :
    getV s n a (p + q) = getV s n a p * 2 ^ q.toNat + getV s n (a + p) q := by
  obtain ⟨h1, h2, h3, h4, h5, h6, _⟩ := get_zero h
  have e2 : getE s n a p = 0 := get_of h1 hp (by omega) h4 h5 (by omega)
  have e3 : getE s n (a + p) q = 0 := get_of h1 hq (by omega) (by omega) (by omega) (by omega)
  unfold getV
  rw [if_pos h, if_pos e2, if_pos e3]
  rw [show (p + q).toNat = p.toNat + q.toNat from by omega, show (a + p).toNat = a.toNat + p.toNat from by omega, take_add, num_append]
  congr 2
  have hl := bl_length (bytes s) n.toNat
  rw [List.length_take, List.length_drop, hl]
  congr 1; omega
theorem join_val (x y q : Nat) (hx : x < 4294967296) (hy : y < 2 ^ q) (hq : q ≤ 32) :
    bits .or .u64 (IntKind.u64.wrap ((x : Int) * 2 ^ q)) (y : Int) = ((x * 2 ^ q + y : Nat) : Int) := by
  have h1 : (2 : Nat) ^ q ≤ 2 ^ 32 := Nat.pow_le_pow_right (by decide) hq
  have h2 : (2 : Nat) ^ 32 = 4294967296 := by decide
  have h3 : x * 2 ^ q ≤ 4294967295 * 4294967296 := Nat.mul_le_mul (by omega) (by omega)
  have e1 : ((x : Int) * 2 ^ q) = ((x * 2 ^ q : Nat) : Int) := by simp
  rw [e1, wrap_nat (by omega), u64_or_nat _ _ (by omega) (by omega), nat_join q _ _ (Nat.mul_mod_left _ _) hy]

end Go.Proofs.YtjbbkcnfilnmcaaDoor.Bt

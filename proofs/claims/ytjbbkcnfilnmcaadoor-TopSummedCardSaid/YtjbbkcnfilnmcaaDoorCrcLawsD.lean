/- The walk of the law CrcBursts. -/
import Derived.Test.YtjbbkcnfilnmcaaDoorCrcLawsC
import Derived.Test.YtjbbkcnfilnmcaaDoorBytesRow
namespace Go.Proofs.YtjbbkcnfilnmcaaDoor.Crc
open Go.RowKit

/-- k of the four bytes from n on are turned -/
def turned (l : List UInt8) (n v : Nat) : Nat → List UInt8
  | 0 => l
  | k + 1 => (turned l n v k).set (n + k) (xb ((turned l n v k).getD (n + k) 0) (v / 2 ^ (8 * k)))
theorem turned_length (l : List UInt8) (n v k : Nat) : (turned l n v k).length = l.length := by
  induction k with
  | zero => rfl
  | succ k ih => simp only [turned, List.length_set, ih]
theorem four_of (l : List UInt8) (n : Nat) (h : n + 4 ≤ l.length) : ∃ (p t : List UInt8) (a b c d : UInt8), p.length = n ∧ l = p ++ [a, b, c, d] ++ t := by
  have e : l = l.take n ++ (l.drop n) := (List.take_append_drop n l).symm
  have h4 : 4 ≤ (l.drop n).length := by rw [List.length_drop]; omega
  match hm : l.drop n, h4 with
  | a :: b :: c :: d :: t, _ => exact ⟨l.take n, t, a, b, c, d, by rw [List.length_take]; omega, by rw [hm] at e; simpa using e⟩
theorem turned_four (p t : List UInt8) (a b c d : UInt8) (v : Nat) : turned (p ++ [a, b, c, d] ++ t) p.length v 4 = p ++ [xb a v, xb b (v / 256), xb c (v / 65536), xb d (v / 16777216)] ++ t := by
  simp [turned]
theorem xb_bits (c : UInt8) (m : Nat) : bits .xor .u8 (c.toNat : Int) ((m : Int) % 256) = ((xb c m).toNat : Int) := by
  rw [xb_nat]
  have := u8_xor_nat c.toNat (m % 256) c.toNat_lt (by omega)
  rw [← this]; simp

end Go.Proofs.YtjbbkcnfilnmcaaDoor.Crc

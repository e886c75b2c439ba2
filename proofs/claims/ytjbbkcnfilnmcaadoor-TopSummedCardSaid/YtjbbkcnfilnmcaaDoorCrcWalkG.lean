/- The walk of Apart as the document has it. -/
import Derived.Test.YtjbbkcnfilnmcaaDoorCrcWalkF
namespace Go.Proofs.YtjbbkcnfilnmcaaDoor.Crc
open Go.RowKit

/-- how many of the first k places of the longer one part; m: the shorter one's bytes -/
def rN (a b : List UInt8) (m k : Nat) : Nat := apN a b (min k m) + (k - m)
/-- the first of them, or -1 -/
def rF (a b : List UInt8) (m k : Nat) : Int := if rN a b m k = 0 then -1 else (apF a b m (min k m) : Nat)
theorem rN_le (a b : List UInt8) (m k : Nat) : rN a b m k ≤ k := by
  unfold rN; have := apN_le a b (min k m); omega
theorem rN_eq (a b : List UInt8) (m k : Nat) (h : k < m) (he : a.getD k 0 = b.getD k 0) : rN a b m (k + 1) = rN a b m k := by
  unfold rN
  rw [show min (k + 1) m = k + 1 from by omega, show min k m = k from by omega]
  simp only [apN, if_pos he]; omega
theorem rF_eq (a b : List UInt8) (m k : Nat) (h : k < m) (he : a.getD k 0 = b.getD k 0) : rF a b m (k + 1) = rF a b m k := by
  unfold rF
  rw [rN_eq a b m k h he, show min (k + 1) m = k + 1 from by omega, show min k m = k from by omega]
  simp only [apF]
  rw [if_neg (fun (x : apN a b k = 0 ∧ a.getD k 0 ≠ b.getD k 0) => x.2 he)]
theorem rN_ne (a b : List UInt8) (m k : Nat) (h : k < m → a.getD k 0 ≠ b.getD k 0) : rN a b m (k + 1) = rN a b m k + 1 := by
  unfold rN
  by_cases hk : k < m
  · rw [show min (k + 1) m = k + 1 from by omega, show min k m = k from by omega]
    simp only [apN, if_neg (h hk)]; omega
  · rw [show min (k + 1) m = m from by omega, show min k m = m from by omega]; omega
theorem rF_new (a b : List UInt8) (m k : Nat) (h : k < m → a.getD k 0 ≠ b.getD k 0) (h0 : rN a b m k = 0) : rF a b m (k + 1) = k := by
  have h1 := rN_ne a b m k h
  unfold rF
  rw [h1, if_neg (by omega)]
  unfold rN at h0
  by_cases hk : k < m
  · rw [show min k m = k from by omega] at h0
    rw [show min (k + 1) m = k + 1 from by omega]
    simp only [apF]
    rw [if_pos ⟨by omega, h hk⟩]
  · rw [show min k m = m from by omega] at h0
    rw [show min (k + 1) m = m from by omega, apF_none a b m m (by omega)]; omega
theorem rF_old (a b : List UInt8) (m k : Nat) (h : k < m → a.getD k 0 ≠ b.getD k 0) (h0 : rN a b m k ≠ 0) : rF a b m (k + 1) = rF a b m k := by
  have h1 := rN_ne a b m k h
  unfold rF
  rw [h1, if_neg (by omega), if_neg h0]
  unfold rN at h0
  by_cases hk : k < m
  · rw [show min k m = k from by omega] at h0 ⊢
    rw [show min (k + 1) m = k + 1 from by omega]
    simp only [apF]
    rw [if_neg (fun x => by have := x.1; omega)]
  · rw [show min k m = m from by omega, show min (k + 1) m = m from by omega]
theorem rF_neg (a b : List UInt8) (m k : Nat) (h : rN a b m k = 0) : rF a b m k < 0 := by unfold rF; rw [if_pos h]; omega
theorem rF_pos (a b : List UInt8) (m k : Nat) (h : rN a b m k ≠ 0) : 0 ≤ rF a b m k := by unfold rF; rw [if_neg h]; omega
theorem rN_end (a b : List UInt8) (m k : Nat) (h : m ≤ k) : rN a b m k = apN a b m + (k - m) := by unfold rN; rw [show min k m = m from by omega]
theorem rF_end (a b : List UInt8) (m k : Nat) (h : m ≤ k) (h0 : rN a b m k ≠ 0) : rF a b m k = (apF a b m m : Nat) := by unfold rF; rw [if_neg h0, show min k m = m from by omega]
theorem eqb_bytes {a b : UInt8} (h : a = b) : ((a.toNat : Int) == (b.toNat : Int)) = true := by subst h; simp
theorem neb_bytes {a b : UInt8} (h : a ≠ b) : ((a.toNat : Int) == (b.toNat : Int)) = false := by
  rw [beq_eq_false_iff_ne]; intro e; apply h; apply UInt8.toNat_inj.1; omega

end Go.Proofs.YtjbbkcnfilnmcaaDoor.Crc

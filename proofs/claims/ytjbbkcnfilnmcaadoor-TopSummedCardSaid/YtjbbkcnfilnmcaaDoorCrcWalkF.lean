/- The walks of Apart, the program's and the document's. -/
import Derived.Test.YtjbbkcnfilnmcaaDoorCrcWalkE
import Derived.Deep.QuietTactic
import Derived.BigQuiet
namespace Go.Proofs.YtjbbkcnfilnmcaaDoor.Crc
open Go.RowKit

/-- at how many of the first k places two lists part -/
def apN (a b : List UInt8) : Nat → Nat
  | 0 => 0
  | k + 1 => apN a b k + if a.getD k 0 = b.getD k 0 then 0 else 1
/-- the first place below k at which they part, or d -/
def apF (a b : List UInt8) (d : Nat) : Nat → Nat
  | 0 => d
  | k + 1 => if apN a b k = 0 ∧ a.getD k 0 ≠ b.getD k 0 then k else apF a b d k
theorem apN_le (a b : List UInt8) (k : Nat) : apN a b k ≤ k := by
  induction k with
  | zero => simp [apN]
  | succ k ih => simp only [apN]; split <;> omega
theorem apN_comm (a b : List UInt8) (k : Nat) : apN a b k = apN b a k := by
  induction k with
  | zero => rfl
  | succ k ih =>
    simp only [apN, ih]
    by_cases h : a.getD k 0 = b.getD k 0
    · rw [if_pos h, if_pos h.symm]
    · rw [if_neg h, if_neg (fun e => h e.symm)]
theorem apF_comm (a b : List UInt8) (d k : Nat) : apF a b d k = apF b a d k := by
  induction k with
  | zero => rfl
  | succ k ih =>
    simp only [apF, ih, apN_comm a b]
    by_cases h : apN b a k = 0 ∧ a.getD k 0 ≠ b.getD k 0
    · rw [if_pos h, if_pos ⟨h.1, fun e => h.2 e.symm⟩]
    · rw [if_neg h, if_neg (fun e => h ⟨e.1, fun x => e.2 x.symm⟩)]
/-- none parts: the first place is d -/
theorem apF_none (a b : List UInt8) (d k : Nat) (h : apN a b k = 0) : apF a b d k = d := by
  induction k with
  | zero => rfl
  | succ k ih =>
    simp only [apN] at h
    have h1 : apN a b k = 0 := by omega
    have h2 : a.getD k 0 = b.getD k 0 := by
      by_cases e : a.getD k 0 = b.getD k 0
      · exact e
      · rw [if_neg e] at h; omega
    simp only [apF]
    rw [if_neg (fun x => x.2 h2), ih h1]
theorem apF_lt (a b : List UInt8) (d k : Nat) (h : apN a b k ≠ 0) : apF a b d k < k := by
  induction k with
  | zero => simp [apN] at h
  | succ k ih =>
    simp only [apF]
    split
    · omega
    · rename_i hn
      have : apN a b k ≠ 0 := by
        intro e
        apply hn
        refine ⟨e, fun e2 => h ?_⟩
        simp only [apN, e, if_pos e2]
      have := ih this; omega
def apartN (a b : ByteArray) : Nat := let m := min a.size b.size; (max a.size b.size - m) + apN (bytes a) (bytes b) m
def apartF (a b : ByteArray) : Nat := let m := min a.size b.size; apF (bytes a) (bytes b) m m
theorem getD_bytes (s : ByteArray) (k : Nat) (h : k < s.size) : (bytes s).getD k 0 = s[k] := by
  unfold bytes
  rw [List.getD_eq_getElem?_getD, List.getElem?_eq_getElem (by simpa using h)]; rfl
theorem ret2 {a b c d : Int} (h : a = c) (k : b = d) : Ending.returned (.tuple #[.int .i64 a, .int .i64 b]) = .returned (.tuple #[.int .i64 c, .int .i64 d]) := by rw [h, k]

theorem apF_step (a b : List UInt8) (d k : Nat) (hk : k < d) (hne : a.getD k 0 ≠ b.getD k 0) : min (apF a b d k) k = apF a b d (k + 1) := by
  simp only [apF]
  by_cases h : apN a b k = 0
  · rw [if_pos ⟨h, hne⟩, apF_none a b d k h]; omega
  · rw [if_neg (fun x => h x.1)]
    have := apF_lt a b d k h; omega
theorem ne_bytes {a b : UInt8} (h : a ≠ b) : ((a.toNat : Int) != (b.toNat : Int)) = true := by
  rw [bne_iff_ne]; intro e; apply h; apply UInt8.toNat_inj.1; omega
theorem eq_bytes {a b : UInt8} (h : a = b) : ((a.toNat : Int) != (b.toNat : Int)) = false := by subst h; simp

end Go.Proofs.YtjbbkcnfilnmcaaDoor.Crc

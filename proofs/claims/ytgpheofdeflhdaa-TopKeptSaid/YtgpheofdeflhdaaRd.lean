/- A slice as it is read: its cells, wherever it begins. -/
import Derived.Test.YtgpheofdeflhdaaRow
import Derived.Deep.Fields
import Derived.Deep.Slices
import Derived.Deep.QuietTactic
import Derived.BigQuiet
import Derived.Lib.Hide
namespace Go.Proofs.Ytgpheofdeflhdaa.Rw
open Go.RowKit

theorem add_block (a : Addr) (n : Nat) : (a.add n).block = a.block := by unfold Addr.add; split <;> rfl
/-- from the address on there are the cells xs (of no cells nothing is said) -/
def Rd (w : World) (A : Option Addr) (xs : List Value) : Prop :=
  ∀ i, i < xs.length → ∃ a : Addr, A = some a ∧ a.block < w.heap.size ∧ w.cell? (a.add i) = some (xs.getD i (.bool false))

section
variable {w w' : World} {A : Option Addr} {xs : List Value}
theorem Rd.nil (w : World) (A : Option Addr) : Rd w A [] := fun i hi => absurd hi (by simp)
theorem Rd.form (h : Rd w A xs) (hn : 0 < xs.length) : ∃ a : Addr, A = some a ∧ a.block < w.heap.size := by
  obtain ⟨a, e, hb, _⟩ := h 0 hn
  exact ⟨a, e, hb⟩
theorem Rd.at {a : Addr} (h : Rd w (some a) xs) {i : Nat} (hi : i < xs.length) : w.cell? (a.add i) = some (xs.getD i (.bool false)) := by
  obtain ⟨a', e, _, hc⟩ := h i hi
  cases e
  exact hc
theorem Rd.below (h : Rd w A xs) (hb : Below w.heap.size w w') : Rd w' A xs := fun i hi => by
  obtain ⟨a, e, hl, hc⟩ := h i hi
  exact ⟨a, e, Nat.lt_of_lt_of_le hl hb.size, by rw [hb.cell (by rw [add_block]; exact hl)]; exact hc⟩
theorem Rd.drewN (h : Rd w A xs) (n : Nat) : Rd (w.drewN n) A xs := h.below ⟨rfl, rfl, rfl, Nat.le_refl _, fun _ _ => rfl⟩
theorem Rd.alloc (h : Rd w A xs) (o : Obj) : Rd (w.alloc o) A xs := h.below ((Below.refl _ _).alloc (Nat.le_refl _) o)
theorem Rd.pre {ys : List Value} (h : Rd w A (xs ++ ys)) : Rd w A xs := fun i hi => by
  obtain ⟨a, e, hl, hc⟩ := h i (by rw [List.length_append]; omega)
  refine ⟨a, e, hl, ?_⟩
  rw [hc]
  simp [List.getD_eq_getElem?_getD, List.getElem?_append_left hi]
theorem Rd.take (h : Rd w A xs) (k : Nat) : Rd w A (xs.take k) := by
  have e := List.take_append_drop k xs
  rw [← e] at h
  exact h.pre
theorem Rd.cut (h : Rd w A xs) (k : Nat) (hk : k < xs.length) : Rd w (A.map (·.add k)) (xs.drop k) := fun i hi => by
  rw [List.length_drop] at hi
  obtain ⟨a, rfl, hl, hc⟩ := h (k + i) (by omega)
  refine ⟨a.add k, rfl, by rw [add_block]; exact hl, ?_⟩
  rw [Go.Deep.add_add, hc]
  simp [List.getD_eq_getElem?_getD, List.getElem?_drop]
/-- the spelling of s[k:] -/
theorem Rd.cutIf (h : Rd w A xs) (k cap : Nat) (hk : k ≤ xs.length) (hc : xs.length ≤ cap) : Rd w (if cap = k then A else A.map (·.add k)) (xs.drop k) := by
  by_cases hl : k < xs.length
  · rw [if_neg (by omega)]; exact h.cut k hl
  · rw [List.drop_eq_nil_of_le (by omega)]; exact Rd.nil _ _
theorem Rd.of_own {B : Nat} {e : TypeId} {s n cap : Nat} (h : w.ownsRow B e s (.slice A n cap) n xs) : Rd w A xs := fun i hi => by
  rcases h.2 with ⟨h2, h3⟩ | ⟨g, cap', cur, hv, hg, hh, h4, h5, h6, h7⟩
  · have := h.1; subst h3; rw [Nat.zero_mul] at this; omega
  · injection hv with hA _ hc
    subst hA hc
    refine ⟨⟨g, 0, none⟩, rfl, (Array.getElem?_eq_some_iff.1 hh).1, ?_⟩
    have e1 : ((⟨g, 0, none⟩ : Addr).add i) = ⟨g, i, none⟩ := by simp [Addr.add] <;> omega
    have hl := h.1
    rw [e1, cell_of_row _ g i _ e (0, 0) hh]
    rw [← h7]
    simp only [List.getD_eq_getElem?_getD]
    rw [List.getElem?_take, if_pos (by omega)]
    have hlt : i < cur.size := by rw [h6]; exact Nat.lt_of_lt_of_le (by omega) (Nat.mul_le_mul_right s h4)
    simp [hlt]
/-- just made -/
theorem Rd.new (w : World) (cs : Array Value) (t : TypeId) : Rd (w.alloc (.cells cs t)) (some ⟨w.heap.size, 0, none⟩) cs.toList := fun i hi => by
  refine ⟨_, rfl, by simp, ?_⟩
  have e1 : ((⟨w.heap.size, 0, none⟩ : Addr).add i) = ⟨w.heap.size, i, none⟩ := by simp [Addr.add] <;> omega
  rw [e1, cell_of_row _ _ i _ t (0, 0) (heap_alloc_new w _)]
  rw [Array.length_toList] at hi
  simp [List.getD_eq_getElem?_getD, hi]
end
end Go.Proofs.Ytgpheofdeflhdaa.Rw

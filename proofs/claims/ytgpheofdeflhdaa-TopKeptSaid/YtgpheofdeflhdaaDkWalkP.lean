/- The walk of slices.IndexFunc over extents. -/
import Derived.Test.YtgpheofdeflhdaaDkWalkJ
namespace Go.Proofs.Ytgpheofdeflhdaa.Dk
open Go.RowKit Go.Op

/-- the first of which it holds -/
def ixE (P : Ext → Bool) (E : List Ext) : Int := if E.findIdx P < E.length then (E.findIdx P : Nat) else -1
theorem findIdx_at {P : Ext → Bool} {E : List Ext} {k : Nat} (hk : k < E.length) (h : ∀ j, j < k → P (E.getD j default) = false) (hp : P (E.getD k default) = true) : E.findIdx P = k := by
  have hg : ∀ j, (hj : j < E.length) → E.getD j default = E[j] := fun j hj => by simp [List.getD_eq_getElem?_getD, List.getElem?_eq_getElem hj]
  rw [List.findIdx_eq hk]
  exact ⟨by rw [← hg k hk]; exact hp, fun j hj => by have := h j hj; rw [hg j (by omega)] at this; exact this⟩
theorem findIdx_none {P : Ext → Bool} {E : List Ext} (h : ∀ j, j < E.length → P (E.getD j default) = false) : E.findIdx P = E.length := by
  rw [List.findIdx_eq_length]
  intro x hx
  obtain ⟨i, hi, rfl⟩ := List.mem_iff_getElem.1 hx
  have := h i hi
  simpa [List.getD_eq_getElem?_getD, List.getElem?_eq_getElem hi] using this

end Go.Proofs.Ytgpheofdeflhdaa.Dk

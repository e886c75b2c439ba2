/- The walk of slices.DeleteFunc over extents. -/
import Derived.Test.YtgpheofdeflhdaaDkWalkP
import Derived.Test.YtgpheofdeflhdaaDkDel
import Derived.Test.YtgpheofdeflhdaaDkWalkN
namespace Go.Proofs.Ytgpheofdeflhdaa.Dk
open Go.RowKit Go.Op

def keptE (P : Ext → Bool) (E : List Ext) : List Ext := E.filter fun x => !P x
theorem keptE_all {P : Ext → Bool} {E : List Ext} (h : ixE P E = -1) : keptE P E = E := by
  unfold ixE at h
  split at h
  · omega
  · rename_i hi
    unfold keptE
    rw [List.filter_eq_self]
    intro x hx
    have e : E.findIdx P = E.length := by have := List.findIdx_le_length (p := P) (xs := E); omega
    have := List.findIdx_eq_length.1 e x hx
    simp [this]
theorem keptE_to {P : Ext → Bool} {E : List Ext} {k : Nat} (h : ixE P E = (k : Int)) : k < E.length ∧ keptE P (E.take k) = E.take k ∧ P (E.getD k default) = true := by
  unfold ixE at h
  split at h
  · rename_i hi
    have hk : E.findIdx P = k := by omega
    rw [hk] at hi
    have h2 := (List.findIdx_eq hi).1 hk
    refine ⟨hi, ?_, by simp [List.getD_eq_getElem?_getD, List.getElem?_eq_getElem hi]; exact h2.1⟩
    unfold keptE
    rw [List.filter_eq_self]
    intro x hx
    obtain ⟨i, hil, rfl⟩ := List.mem_iff_getElem.1 hx
    rw [List.length_take] at hil
    have := h2.2 i (by omega)
    rw [List.getElem_take]
    simp [this]
  · omega
theorem keptE_snoc {P : Ext → Bool} {E : List Ext} {j : Nat} (h : j < E.length) : keptE P (E.take (j + 1)) = keptE P (E.take j) ++ (if P (E.getD j default) = true then [] else [E.getD j default]) := by
  unfold keptE
  have e : E.getD j default = E[j] := by simp [List.getD_eq_getElem?_getD, List.getElem?_eq_getElem h]
  rw [List.take_succ_eq_append_getElem h, List.filter_append, e]
  congr 1
  cases hp : P E[j] <;> simp [hp]
theorem getD_drop {R E : List Ext} {j k : Nat} (h : R.drop j = E.drop j) (hk : j ≤ k) : R.getD k default = E.getD k default := by
  have h1 : (R.drop j)[k - j]? = (E.drop j)[k - j]? := by rw [h]
  rw [List.getElem?_drop, List.getElem?_drop, show j + (k - j) = k by omega] at h1
  rw [List.getD_eq_getElem?_getD, List.getD_eq_getElem?_getD, h1]

theorem own_free {w : World} {B : Nat} {e : TypeId} {s g n cap : Nat} {xs : List Value} (h : w.ownsRow B e s (.slice (some ⟨g, 0, none⟩) n cap) n xs) (o : Nat) : w.frozen? ⟨g, o, none⟩ = false := by
  rcases h.2 with ⟨h2, _⟩ | ⟨g', cap', cur, hv, hg, hh, _⟩
  · cases h2
  · cases hv
    unfold World.frozen?
    rw [hh]
    simp
def DelP (w : World) (B gE c : Nat) (R : List Ext) (e : Ending) (w' : World) : Prop := e = .returned (.slice (some ⟨gE, 0, none⟩) R.length c) ∧ w'.ownsRow B 86 2 (.slice (some ⟨gE, 0, none⟩) R.length c) R.length (eRow R) ∧ Bar w w' (fun k => k = gE)

end Go.Proofs.Ytgpheofdeflhdaa.Dk

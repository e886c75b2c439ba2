/- The walk of slices.DeleteFunc over writes. -/
import Derived.Test.YtgpheofdeflhdaaDkWalkQ
import Derived.Test.YtgpheofdeflhdaaDkWalkR
import Derived.Test.YtgpheofdeflhdaaDkDel
import Derived.Test.YtgpheofdeflhdaaDkWalkN
namespace Go.Proofs.Ytgpheofdeflhdaa.Dk
open Go.RowKit Go.Op

def keptW (P : Wr → Bool) (E : List Wr) : List Wr := E.filter fun x => !P x
theorem keptW_all {P : Wr → Bool} {E : List Wr} (h : ixW P E = -1) : keptW P E = E := by
  unfold ixW at h
  split at h
  · omega
  · rename_i hi
    unfold keptW
    rw [List.filter_eq_self]
    intro x hx
    have e : E.findIdx P = E.length := by have := List.findIdx_le_length (p := P) (xs := E); omega
    have := List.findIdx_eq_length.1 e x hx
    simp [this]
theorem keptW_to {P : Wr → Bool} {E : List Wr} {k : Nat} (h : ixW P E = (k : Int)) : k < E.length ∧ keptW P (E.take k) = E.take k ∧ P (E.getD k default) = true := by
  unfold ixW at h
  split at h
  · rename_i hi
    have hk : E.findIdx P = k := by omega
    rw [hk] at hi
    have h2 := (List.findIdx_eq hi).1 hk
    refine ⟨hi, ?_, by simp [List.getD_eq_getElem?_getD, List.getElem?_eq_getElem hi]; exact h2.1⟩
    unfold keptW
    rw [List.filter_eq_self]
    intro x hx
    obtain ⟨i, hil, rfl⟩ := List.mem_iff_getElem.1 hx
    rw [List.length_take] at hil
    have := h2.2 i (by omega)
    rw [List.getElem_take]
    simp [this]
  · omega
theorem keptW_snoc {P : Wr → Bool} {E : List Wr} {j : Nat} (h : j < E.length) : keptW P (E.take (j + 1)) = keptW P (E.take j) ++ (if P (E.getD j default) = true then [] else [E.getD j default]) := by
  unfold keptW
  have e : E.getD j default = E[j] := by simp [List.getD_eq_getElem?_getD, List.getElem?_eq_getElem h]
  rw [List.take_succ_eq_append_getElem h, List.filter_append, e]
  congr 1
  cases hp : P E[j] <;> simp [hp]
theorem getDW_drop {R E : List Wr} {j k : Nat} (h : R.drop j = E.drop j) (hk : j ≤ k) : R.getD k default = E.getD k default := by
  have h1 : (R.drop j)[k - j]? = (E.drop j)[k - j]? := by rw [h]
  rw [List.getElem?_drop, List.getElem?_drop, show j + (k - j) = k by omega] at h1
  rw [List.getD_eq_getElem?_getD, List.getD_eq_getElem?_getD, h1]

theorem wOk_mem {E : List Wr} : WOk E ↔ ∀ x ∈ E, x.1.size ≤ 140737488355328 ∧ x.2.2.size ≤ 140737488355328 := by
  constructor
  · intro h x hx
    obtain ⟨i, hi, rfl⟩ := List.mem_iff_getElem.1 hx
    have := h i hi
    simpa [List.getD_eq_getElem?_getD, List.getElem?_eq_getElem hi] using this
  · intro h i hi
    have := h _ (List.getElem_mem hi)
    simpa [List.getD_eq_getElem?_getD, List.getElem?_eq_getElem hi] using this
theorem wRow_split : ∀ (E : List Wr) (k : Nat), (wRow E).take (k * 3) = wRow (E.take k) ∧ (wRow E).drop (k * 3) = wRow (E.drop k)
  | E, 0 => by simp [wRow]
  | [], k + 1 => by simp [wRow]
  | x :: E, k + 1 => by
    have e : wRow (x :: E) = .string x.1 :: .int .i64 x.2.1 :: .string x.2.2 :: wRow E := rfl
    have h := wRow_split E k
    rw [e, show (k + 1) * 3 = k * 3 + 1 + 1 + 1 by omega]
    simp only [List.take_succ_cons, List.drop_succ_cons]
    rw [h.1, h.2]
    exact ⟨rfl, rfl⟩
def DelWP (w : World) (B gE c : Nat) (R : List Wr) (e : Ending) (w' : World) : Prop := e = .returned (.slice (some ⟨gE, 0, none⟩) R.length c) ∧ w'.ownsRow B 39 3 (.slice (some ⟨gE, 0, none⟩) R.length c) R.length (wRow R) ∧ Bar w w' (fun k => k = gE)

end Go.Proofs.Ytgpheofdeflhdaa.Dk

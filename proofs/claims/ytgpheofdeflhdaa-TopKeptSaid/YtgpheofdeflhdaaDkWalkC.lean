/- The walks of waitsRight, Check, ready. -/
import Derived.Test.YtgpheofdeflhdaaDkWalkB
namespace Go.Proofs.Ytgpheofdeflhdaa.Dk
open Go.RowKit Go.Op

def wrOk (E : List Ext) (x : Wr) : Bool := (decide (0 ≤ x.2.1) && decide (x.2.1 < (lookN E x.1 : Nat))) && decide (x.2.2.size = 64)
def wtR (E : List Ext) (L : List Wr) : Bool := decide (L.length ≤ 16384) && L.all (wrOk E)
theorem lookN_none {E : List Ext} (h : ∀ x ∈ E, named x.1 = true) : lookN E ⟨#[]⟩ = 0 := by
  unfold lookN
  cases hi : isAt E ⟨#[]⟩ with
  | false => rfl
  | true =>
    have hl := isAt_lt hi
    unfold isAt at hi
    rw [Bool.and_eq_true] at hi
    have e := of_decide_eq_true hi.2
    have hm : E.getD (pos E ⟨#[]⟩) default ∈ E := by rw [List.getD_eq_getElem?_getD, List.getElem?_eq_getElem hl]; exact List.getElem_mem hl
    have := h _ hm
    rw [e] at this
    exact absurd this (by decide)
theorem exR_named : ∀ {a : ByteArray} {l : Int} {E : List Ext}, exR a l E = true → ∀ x ∈ E, named x.1 = true
  | _, _, [], _, x, hx => absurd hx (by simp)
  | a, l, y :: r, h, x, hx => by
    simp only [exR, Bool.and_eq_true] at h
    rcases List.mem_cons.1 hx with rfl | hx
    · exact h.1.1.1
    · exact exR_named h.2 x hx
theorem drop_wr (L : List Wr) (k : Nat) (h : k < L.length) : L.drop k = L.getD k default :: L.drop (k + 1) := by
  rw [List.drop_eq_getElem_cons h]
  simp [List.getD_eq_getElem?_getD, List.getElem?_eq_getElem h]
theorem lookN_small (E : List Ext) (b : ByteArray) (h : ∀ i, i < E.length → (E.getD i default).2.size ≤ 140737488355328) : lookN E b ≤ 140737488355328 := by
  unfold lookN
  split
  · rename_i hi
    exact Nat.le_trans (Nat.div_le_self _ _) (h _ (isAt_lt hi))
  · omega

end Go.Proofs.Ytgpheofdeflhdaa.Dk

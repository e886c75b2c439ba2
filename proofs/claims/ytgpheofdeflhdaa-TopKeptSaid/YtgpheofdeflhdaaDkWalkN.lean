/- The walk of add. -/
import Derived.Test.YtgpheofdeflhdaaDkWalkM
import Derived.Test.YtgpheofdeflhdaaDkWalkK
import Derived.Test.YtgpheofdeflhdaaBytesRow
namespace Go.Proofs.Ytgpheofdeflhdaa.Dk
open Go.RowKit Go.Op

def zer (n : Nat) : ByteArray := ⟨(List.replicate n (0 : UInt8)).toArray⟩
theorem zer_size (n : Nat) : (zer n).size = n := by unfold zer; simp [ByteArray.size]
def adE (z : Int) (E : List Ext) (nm : ByteArray) (s : Int) : Int := if named nm && decide (1 ≤ s) then (if isAt E nm = true then 4 else if z - sumN E < s then 8 else 0) else 1
def adD (z : Int) (E : List Ext) (L : List Wr) (fz : Int) (dn : Bool) (nm : ByteArray) (s : Int) : Dsk := if adE z E nm s = 0 then ⟨z, insE E (pos E nm) nm (zer (s.toNat * 64)), L, fz, dn⟩ else ⟨z, E, L, fz, dn⟩
theorem zeros_made (w : World) (n : Nat) (M : Array Value) (hM : M = madeCells #[Value.int .u8 0] n) : Row.Bytes (w.alloc (.cells M 5)) w.heap.size (List.replicate n 0) := by
  have hg := heap_alloc_new w (.cells M 5)
  refine ⟨by simp, fun j hj => ?_, fun j hj => ?_⟩
  · rw [List.length_replicate] at hj
    rw [cell_of_row _ _ j _ 5 (0, 0) hg, ← Array.getElem?_toList, hM, toList_madeCells_one]
    simp [hj, List.getD_eq_getElem?_getD]
  · unfold World.frozen?
    rw [hg]
    simp
theorem eOk_mem {E : List Ext} : EOk E ↔ ∀ x ∈ E, x.1.size ≤ 140737488355328 ∧ x.2.size ≤ 140737488355328 := by
  constructor
  · intro h x hx
    obtain ⟨i, hi, rfl⟩ := List.mem_iff_getElem.1 hx
    have := h i hi
    simpa [List.getD_eq_getElem?_getD, List.getElem?_eq_getElem hi] using this
  · intro h i hi
    have := h _ (List.getElem_mem hi)
    simpa [List.getD_eq_getElem?_getD, List.getElem?_eq_getElem hi] using this
theorem eOk_ins {E : List Ext} {k : Nat} {x y : ByteArray} (h : EOk E) (h1 : x.size ≤ 140737488355328) (h2 : y.size ≤ 140737488355328) : EOk (insE E k x y) := by
  rw [eOk_mem] at h ⊢
  intro u hu
  unfold insE at hu
  simp only [List.mem_append, List.mem_singleton] at hu
  rcases hu with (hu | rfl) | hu
  · exact h u (List.mem_of_mem_take hu)
  · exact ⟨h1, h2⟩
  · exact h u (List.mem_of_mem_drop hu)

end Go.Proofs.Ytgpheofdeflhdaa.Dk

/- The walk of free (of a disk at work). -/
import Derived.Test.YtgpheofdeflhdaaDkWalkU
import Derived.Test.YtgpheofdeflhdaaDkTold
import Derived.Test.YtgpheofdeflhdaaRd
namespace Go.Proofs.Ytgpheofdeflhdaa.Dk
open Go.RowKit Go.Op

def strs (N : List ByteArray) : List Value := N.map Value.string
theorem strs_getD (N : List ByteArray) (i : Nat) (h : i < N.length) : (strs N).getD i (.bool false) = .string (N.getD i default) := by
  simp [strs, List.getD_eq_getElem?_getD, List.getElem?_eq_getElem h]
/-- names that may be freed, behind others -/
def frOk (E : List Ext) : List ByteArray → List ByteArray → Bool
  | _, [] => true
  | s, x :: r => isAt E x && (decide (cnt s x = 0) && frOk E (s ++ [x]) r)
def frP (N : List ByteArray) (x : ByteArray) : Bool := decide (0 < cnt N x)
def freE (E : List Ext) (N : List ByteArray) : Int := if frOk E [] N = true then 0 else 3
def freD (z : Int) (E : List Ext) (L : List Wr) (fz : Int) (dn : Bool) (N : List ByteArray) : Dsk := if frOk E [] N = true then ⟨z, keptEn (frP N) E, keptWn (frP N) L, fz, dn⟩ else ⟨z, E, L, fz, dn⟩
theorem frOk_from (E : List Ext) (N : List ByteArray) (k : Nat) (h : k < N.length) : frOk E (N.take k) (N.drop k) = (isAt E (N.getD k default) && (decide (cnt (N.take k) (N.getD k default) = 0) && frOk E (N.take (k + 1)) (N.drop (k + 1)))) := by
  have e : N.getD k default = N[k] := by simp [List.getD_eq_getElem?_getD, List.getElem?_eq_getElem h]
  rw [List.drop_eq_getElem_cons h, List.take_succ_eq_append_getElem h, e]
  rfl
theorem take_snoc (N : List ByteArray) (k : Nat) (h : k < N.length) : N.take (k + 1) = N.take k ++ [N.getD k default] := by
  rw [List.take_succ_eq_append_getElem h]; simp [List.getD_eq_getElem?_getD, List.getElem?_eq_getElem h]

end Go.Proofs.Ytgpheofdeflhdaa.Dk

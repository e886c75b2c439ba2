/- The walks of the document's All and Of. -/
import Derived.Test.YtjbbkcnfilnmcaaDoorBitBack
namespace Go.Proofs.YtjbbkcnfilnmcaaDoor.Bt
open Go.RowKit

theorem info_bool : (Tryd.prog.info? 4).map (fun i => (i.zero, i.size, i.bytes)) = some (some (.bool false), 1, 1) := by kernel_rfl
def bools (X : List Bool) : List Value := X.map Value.bool
theorem grown_of {w w' : World} (h : Below w.heap.size w w') : w.grownBy w' none := ⟨h.os, h.tape, h.output, h.size, fun k hk _ => h.block k hk⟩
theorem owns_below {w w' : World} {B : Nat} {e : TypeId} {v : Value} {n : Nat} {xs : List Value} (h : w.ownsRow B e 1 v n xs) (hb : Below w.heap.size w w') : w'.ownsRow B e 1 v n xs :=
  h.kept (grown_of hb) (by cases hv : v.ownBlock <;> simp)
theorem owns_base {w : World} {B B' : Nat} {e : TypeId} {v : Value} {n : Nat} {xs : List Value} (h : w.ownsRow B e 1 v n xs) (hb : B' ≤ B) : w.ownsRow B' e 1 v n xs := by
  refine ⟨h.1, ?_⟩
  rcases h.2 with h2 | ⟨g, cap, cur, hv, hg, r⟩
  · exact .inl h2
  · exact .inr ⟨g, cap, cur, hv, Nat.le_trans hb hg, r⟩
theorem bools_length (X : List Bool) : (bools X).length = X.length := by simp [bools]
theorem bools_snoc (X : List Bool) (b : Bool) : bools (X ++ [b]) = bools X ++ [.bool b] := by simp [bools]
theorem take_snoc_bool (X : List Bool) (k : Nat) (h : k < X.length) : X.take (k + 1) = X.take k ++ [X.getD k false] := by
  rw [List.take_succ_eq_append_getElem h]; simp [List.getD_eq_getElem?_getD, List.getElem?_eq_getElem h]

end Go.Proofs.YtjbbkcnfilnmcaaDoor.Bt

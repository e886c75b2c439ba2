/- The walk of the document's Get. -/
import Derived.Test.YtjbbkcnfilnmcaaDoorBitWalkD
namespace Go.Proofs.YtjbbkcnfilnmcaaDoor.Bt
open Go.RowKit

theorem getD_take_drop (X : List Bool) (a d : Nat) (h : a + d < X.length) : (X.drop a).take (d + 1) = (X.drop a).take d ++ [X.getD (a + d) false] := by
  have hl : d < (X.drop a).length := by rw [List.length_drop]; omega
  rw [List.take_succ_eq_append_getElem hl]
  simp [List.getD_eq_getElem?_getD, List.getElem?_eq_getElem h]

end Go.Proofs.YtjbbkcnfilnmcaaDoor.Bt

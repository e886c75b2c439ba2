/- The walk of the document's Put. -/
import Derived.Test.YtjbbkcnfilnmcaaDoorBitOf
import Derived.Test.YtjbbkcnfilnmcaaDoorBitPutZ
namespace Go.Proofs.YtjbbkcnfilnmcaaDoor.Bt
open Go.RowKit

/-- what a row of bools is to Of -/
theorem row_bools {w : World} {B : Nat} {v : Value} {n : Nat} {Y : List Bool} (h : w.ownsRow B 4 1 v n (bools Y)) (hn : Y.length = n) : ∃ p cap, v = .slice p n cap ∧ BoolsAt w p Y := by
  have h0 := h
  rcases h.2 with ⟨rfl, rfl⟩ | ⟨g, cap, cur, rfl, hb, hh, _⟩
  · exact ⟨none, 0, rfl, fun i hi => by omega⟩
  · refine ⟨_, cap, rfl, fun i hi => ⟨g, 0, rfl, (Array.getElem?_eq_some_iff.1 hh).1, ?_⟩⟩
    rw [Nat.zero_add, h0.cellAt i (by omega)]
    simp [bools, List.getD_eq_getElem?_getD, List.getElem?_eq_getElem hi]
theorem nbits_snoc (X : List Bool) (v r u : Nat) (h : u < r) : X ++ (nbits v r).take (r - u) = (X ++ (nbits v r).take (r - (u + 1))) ++ [v.testBit u] := by
  rw [show r - u = (r - (u + 1)) + 1 from by omega, take_snoc_bool _ _ (by rw [nbits_length]; omega), nbits_getD, if_pos (by omega), show r - 1 - (r - (u + 1)) = u from by omega, List.append_assoc]
theorem box_end {w w1 : World} {s : ByteArray} {n : Int} (b1 : Below ((w.alloc (.cells #[.string s, .int .i64 n] 25)).alloc (.cells #[.string ⟨#[]⟩, .int .i64 0] 25)).heap.size ((w.alloc (.cells #[.string s, .int .i64 n] 25)).alloc (.cells #[.string ⟨#[]⟩, .int .i64 0] 25)) w1) : Box w1 w.heap.size s n ∧ Box w1 (w.heap.size + 1) ⟨#[]⟩ 0 := by
  refine ⟨((Box.new w s n).alloc (.cells #[.string ⟨#[]⟩, .int .i64 0] 25)).below b1, ?_⟩
  have h := (Box.new (w.alloc (.cells #[.string s, .int .i64 n] 25)) ⟨#[]⟩ 0).below b1
  simpa using h

end Go.Proofs.YtjbbkcnfilnmcaaDoor.Bt

/- The walk of the document's Put. -/
import Derived.Test.YtjbbkcnfilnmcaaBitOf
import Derived.Test.YtjbbkcnfilnmcaaBitPutZ
namespace Go.Proofs.Ytjbbkcnfilnmcaa.Bt
open Go.RowKit

/-- what a row of bools is to Of -/
theorem row_bools {w : World} {B : Nat} {v : Value} {n : Nat} {Y : List Bool} (h : w.ownsRow B 4 1 v n (bools Y)) (hn : Y.length = n) : ∃ p cap, v = .slice p n cap ∧ BoolsAt w p Y := by
  have h0 := h
  rcases h.2 with ⟨rfl, rfl⟩ | ⟨g, cap, cur, rfl, hb, hh, _⟩
  · exact ⟨none, 0, rfl, fun i hi => by omega⟩
  · refine ⟨_, cap, rfl, fun i hi => ⟨g, 0, rfl, (Array.getElem?_eq_some_iff.1 hh).1, ?_⟩⟩
    rw [Nat.zero_add, h0.cellAt i (by omega)]
    simp [bools, List.getD_eq_getElem?_getD, List.getElem?_eq_getElem hi]
theorem all_of (s : ByteArray) (X : List Bool) (m : Nat) (hm : X.length = m) (hX : Packs (bytes s) X) (hn : m ≤ 1048576) (w : World) (B : Nat) (hB : B ≤ w.heap.size) :
    Calls Try.prog 41 #[.agg #[.string s, .int .i64 m]] w fun e w' => ∃ v, e = .returned v ∧ w'.ownsRow B 4 1 v m (bools X) ∧ Below w.heap.size w w' := by
  subst hm
  exact all_any s X hX hn w B hB
theorem of_of (v : Value) (B n : Nat) (Y : List Bool) (w : World) (h : w.ownsRow B 4 1 v n (bools Y)) (hY : Y.length = n) (hn : n ≤ 2000000) :
    Calls Try.prog 42 #[v] w fun e w' => e = .returned (.agg #[.string (packS Y), .int .i64 n]) ∧ Below w.heap.size w w' := by
  obtain ⟨p, cap, rfl, hb⟩ := row_bools h hY
  subst hY
  exact of_any p cap Y w hb hn
theorem nbits_snoc (X : List Bool) (v r u : Nat) (h : u < r) : X ++ (nbits v r).take (r - u) = (X ++ (nbits v r).take (r - (u + 1))) ++ [v.testBit u] := by
  rw [show r - u = (r - (u + 1)) + 1 from by omega, take_snoc_bool _ _ (by rw [nbits_length]; omega), nbits_getD, if_pos (by omega), show r - 1 - (r - (u + 1)) = u from by omega, List.append_assoc]
theorem box_end {w w1 : World} {s : ByteArray} {n : Int} (b1 : Below ((w.alloc (.cells #[.string s, .int .i64 n] 23)).alloc (.cells #[.string ⟨#[]⟩, .int .i64 0] 23)).heap.size ((w.alloc (.cells #[.string s, .int .i64 n] 23)).alloc (.cells #[.string ⟨#[]⟩, .int .i64 0] 23)) w1) : Box w1 w.heap.size s n ∧ Box w1 (w.heap.size + 1) ⟨#[]⟩ 0 := by
  refine ⟨((Box.new w s n).alloc (.cells #[.string ⟨#[]⟩, .int .i64 0] 23)).below b1, ?_⟩
  have h := (Box.new (w.alloc (.cells #[.string s, .int .i64 n] 23)) ⟨#[]⟩ 0).below b1
  simpa using h

end Go.Proofs.Ytjbbkcnfilnmcaa.Bt

/- The walk of the law's own examples. -/
import Derived.Test.YtjbbkcnfilnmcaaDoorCrcWalkG
namespace Go.Proofs.YtjbbkcnfilnmcaaDoor.Crc
open Go.RowKit

theorem text_at {w : World} {x : ByteArray} (t : TypeId) {n : Nat} (hn : n = w.heap.size) : StrsAt (w.alloc (.cells #[.string x] t)) (some ⟨n, 0, none⟩) [x] := by subst hn; exact one_text t
theorem ex1 : frameS ⟨#[97]⟩ = ⟨#[97, 67, 190, 183, 232]⟩ ∧ frameE ⟨#[97]⟩ = 0 := by decide +kernel
theorem ex2 : openS ⟨#[97, 67, 190, 183, 232]⟩ = ⟨#[97]⟩ ∧ openE ⟨#[97, 67, 190, 183, 232]⟩ = 0 := by decide +kernel
theorem ex3 : openE ⟨#[97, 98, 99]⟩ = 5 := by decide +kernel
theorem ex4 : openE ⟨#[97, 98, 99, 100, 101]⟩ = 6 := by decide +kernel
theorem ex5 : apartN ⟨#[97, 98, 99]⟩ ⟨#[97, 98, 100, 33]⟩ = 2 ∧ apartF ⟨#[97, 98, 99]⟩ ⟨#[97, 98, 100, 33]⟩ = 2 := by decide +kernel
theorem ex6 : sums [⟨#[49, 50, 51, 52, 53, 54, 55, 56, 57]⟩] = 3421780262 := by decide +kernel
theorem ex7 : sums [] = 0 := by decide +kernel
theorem ex8 : more (sums [⟨#[49, 50, 51, 52]⟩]) (bytes ⟨#[53, 54, 55, 56, 57]⟩) = 3421780262 := by decide +kernel
theorem small {n : Nat} (h : n ≤ 1000) : n ≤ maxLen := by unfold maxLen; omega

end Go.Proofs.YtjbbkcnfilnmcaaDoor.Crc

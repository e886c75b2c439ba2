/- The walks of the laws CrcSums, CrcFrames, CrcParts. -/
import Derived.Test.YtjbbkcnfilnmcaaDoorCrcLives
namespace Go.Proofs.YtjbbkcnfilnmcaaDoor.Crc
open Go.RowKit

theorem cell_lt {w : World} {a : Addr} {v : Value} (h : w.cell? a = some v) : a.block < w.heap.size := by
  rcases Nat.lt_or_ge a.block w.heap.size with h' | h'
  · exact h'
  · simp [World.cell?, Array.getElem?_eq_none h'] at h
theorem StrsAt.below {w w' : World} {ao : Option Addr} {ss : List ByteArray} (h : StrsAt w ao ss) (hb : Below w.heap.size w w') : StrsAt w' ao ss := by
  rcases h with h | ⟨b, off, rfl, hc⟩
  · exact .inl h
  · refine .inr ⟨b, off, rfl, fun i hi => ?_⟩
    rw [hb.cell (cell_lt (hc i hi))]; exact hc i hi

end Go.Proofs.YtjbbkcnfilnmcaaDoor.Crc

/- The walk of Write. -/
import Derived.Test.YtgpheofdeflhdaaDkWalkK
import Derived.Conc.MuLone
namespace Go.Proofs.Ytgpheofdeflhdaa.Dk
open Go.RowKit Go.Op

theorem lim_of {z : Int} {E : List Ext} {L : List Wr} {fz : Int} {dn : Bool} (h : readyE z E L fz dn = 0) : Sorted E ∧ E.length ≤ 1000000 ∧ L.length ≤ 16384 ∧ -1 ≤ fz := by
  obtain ⟨hc, _⟩ := ready_good h
  have hg := chk_good hc
  have hEb := exR_length hg.1 hg.2.2.2.1
  exact ⟨exR_sorted hg.2.2.2.1, by omega, wtR_length hg.2.2.2.2, hg.2.2.1⟩

end Go.Proofs.Ytgpheofdeflhdaa.Dk

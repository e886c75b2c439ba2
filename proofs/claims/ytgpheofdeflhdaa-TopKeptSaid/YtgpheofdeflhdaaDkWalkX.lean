/- The walk of Sync. -/
import Derived.Test.YtgpheofdeflhdaaDkWalkL
import Derived.Test.YtgpheofdeflhdaaDkWalkW
import Derived.Conc.MuLone
namespace Go.Proofs.Ytgpheofdeflhdaa.Dk
open Go.RowKit Go.Op

theorem wtR_all {E : List Ext} {L : List Wr} (h : wtR E L = true) : L.all (wrOk E) = true := by
  unfold wtR at h
  rw [Bool.and_eq_true] at h
  exact h.2
theorem all_ready {z : Int} {E : List Ext} {L : List Wr} {fz : Int} {dn : Bool} (h : readyE z E L fz dn = 0) : L.all (wrOk E) = true := wtR_all (chk_good (ready_good h).1).2.2.2.2
def synD (z : Int) (E : List Ext) (L : List Wr) (fz : Int) (dn : Bool) : Dsk := ⟨z, setlE (fun _ => true) 0 L E, [], fz, dn⟩
theorem sync11_any (i : Nat) (w : World) : Calls Try.prog 25 #[.int .i64 i] w fun e w' => e = .returned (.bool true) ∧ Below w.heap.size w w' := by
  go_enter Try.func25, Try.ntmps25
  go_wp2
  go_ret
  exact ⟨rfl, Below.refl _ _⟩
end Go.Proofs.Ytgpheofdeflhdaa.Dk

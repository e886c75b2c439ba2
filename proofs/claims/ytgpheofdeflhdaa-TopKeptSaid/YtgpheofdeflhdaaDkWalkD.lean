/- The walks of Check, ready, room. -/
import Derived.Test.YtgpheofdeflhdaaDkWalkC
namespace Go.Proofs.Ytgpheofdeflhdaa.Dk
open Go.RowKit Go.Op

/-- a disk is right -/
def chkB (z : Int) (E : List Ext) (L : List Wr) (fz : Int) : Bool := ((decide (0 ≤ z) && decide (z ≤ 16384)) && decide (-1 ≤ fz)) && (exR ⟨#[]⟩ z E && wtR E L)
def chkE (z : Int) (E : List Ext) (L : List Wr) (fz : Int) : Int := if chkB z E L fz = true then 0 else 2
theorem chk_good {z : Int} {E : List Ext} {L : List Wr} {fz : Int} (h : chkB z E L fz = true) : 0 ≤ z ∧ z ≤ 16384 ∧ -1 ≤ fz ∧ exR ⟨#[]⟩ z E = true ∧ wtR E L = true := by
  unfold chkB at h
  simp only [Bool.and_eq_true, decide_eq_true_eq] at h
  exact ⟨h.1.1.1, h.1.1.2, h.1.2, h.2.1, h.2.2⟩
theorem chk_bad {z : Int} {E : List Ext} {L : List Wr} {fz : Int} (h : chkB z E L fz = false) : 2 = chkE z E L fz := by unfold chkE; rw [h]; rfl
theorem wtR_length {E : List Ext} {L : List Wr} (h : wtR E L = true) : L.length ≤ 16384 := by
  unfold wtR at h
  rw [Bool.and_eq_true] at h
  exact of_decide_eq_true h.1

/-- why nothing can be done -/
def readyE (z : Int) (E : List Ext) (L : List Wr) (fz : Int) (dn : Bool) : Int := if chkB z E L fz = true then (if dn = true then 10 else 0) else 2
end Go.Proofs.Ytgpheofdeflhdaa.Dk

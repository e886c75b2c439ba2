/- The walks of Check, ready, room. -/
import Derived.Test.YtgpheofdeflhdaaDkWalkC
namespace Go.Proofs.Ytgpheofdeflhdaa.Dk
open Go.RowKit Go.Op

/-- a disk is right -/
def chkB (z : Int) (E : List Ext) (L : List Wr) (fz : Int) : Bool := ((decide (0 ≤ z) && decide (z ≤ 16384)) && decide (-1 ≤ fz)) && (exR ⟨#[]⟩ z E && wtR E L)
def chkE (z : Int) (E : List Ext) (L : List Wr) (fz : Int) : Int := if chkB z E L fz = true then 0 else 2
theorem chk_good {z : Int} {E : List Ext} {L : List Wr} {fz : Int} (h : chkB z E L fz = true) : 0 ≤ z ∧ z ≤ 16384 ∧ -1 ≤ fz ∧ exR ⟨#[]⟩ z E = true ∧ wtR E L = true := by
  unfold chkB at h
  simp only [Bool.and_eq_true, decide_eq_true_eq] at h
  exact ⟨h.1.1.1, h.1.1.2, h.1.2, h.2.1, h.2.2⟩
theorem chk_bad {z : Int} {E : List Ext} {L : List Wr} {fz : Int} (h : chkB z E L fz = false) : 2 = chkE z E L fz := by unfold chkE; rw [h]; rfl
theorem wtR_length {E : List Ext} {L : List Wr} (h : wtR E L = true) : L.length ≤ 16384 := by
  unfold wtR at h
  rw [Bool.and_eq_true] at h
  exact of_decide_eq_true h.1

set_option maxHeartbeats 4000000 in
set_option maxRecDepth 100000 in
theorem check_any (z : Int) (pE pW : Option Addr) (nE cE nW cW : Nat) (fz : Int) (dn : Bool) (E : List Ext) (L : List Wr) (w : World) (hn : nE = E.length) (h : ExtAt w pE E) (hE : nE ≤ 9223372036854775807) (hnW : nW = L.length) (hW : WrsAt w pW L) (hLl : nW ≤ 9223372036854775807) :
    Calls Try.prog 17 #[.agg #[.int .i64 z, .slice pE nE cE, .slice pW nW cW, .int .i64 fz, .bool dn]] w fun e w' => e = .returned (.int .i64 (chkE z E L fz)) ∧ Below w.heap.size w w' := by
  have hbx : Below w.heap.size w (w.alloc (.cells #[.int .i64 z, .slice pE nE cE, .slice pW nW cW, .int .i64 fz, .bool dn] 31)) := (Below.refl _ _).alloc (Nat.le_refl _) _
  have HE := Lib.hid (h.below hbx); have HN := Lib.hid hn; have HW := Lib.hid (hW.below hbx); have HNW := Lib.hid hnW
  have HB := Lib.hid (Boxed.new w #[.int .i64 z, .slice pE nE cE, .slice pW nW cW, .int .i64 fz, .bool dn] 31)
  clear h hn hW hnW
  by_cases c1 : 0 ≤ z
  case neg =>
    have F : Hid (2 = chkE z E L fz) := Lib.hid (chk_bad (by unfold chkB; rw [decide_eq_false c1]; rfl))
    have t1 : decide (z < 0) = true := decide_eq_true (by omega)
    clear c1
    go_enter Try.func17, Try.ntmps17
    go_wp2_with fail
    go_ret
    exact ⟨ret_int F.out, hbx⟩
  have t1 : decide (z < 0) = false := decide_eq_false (by omega)
  by_cases c2 : z ≤ 16384
  case neg =>
    have F : Hid (2 = chkE z E L fz) := Lib.hid (chk_bad (by unfold chkB; rw [decide_eq_false c2]; simp))
    have t2 : decide (16384 < z) = true := decide_eq_true (by omega)
    clear c2
    go_enter Try.func17, Try.ntmps17
    go_wp2_with fail
    go_ret
    exact ⟨ret_int F.out, hbx⟩
  have t2 : decide (16384 < z) = false := decide_eq_false (by omega)
  by_cases c3 : -1 ≤ fz
  case neg =>
    have F : Hid (2 = chkE z E L fz) := Lib.hid (chk_bad (by unfold chkB; rw [decide_eq_false c3]; simp))
    have t3 : decide (fz < -1) = true := decide_eq_true (by omega)
    clear c3
    go_enter Try.func17, Try.ntmps17
    go_wp2_with fail
    go_ret
    exact ⟨ret_int F.out, hbx⟩
  have t3 : decide (fz < -1) = false := decide_eq_false (by omega)
  cases hx : exR ⟨#[]⟩ z E with
  | false =>
    have F : Hid (2 = chkE z E L fz) := Lib.hid (chk_bad (by unfold chkB; rw [hx]; simp))
    have HX := Lib.hid hx
    clear hx
    go_enter Try.func17, Try.ntmps17
    go_wp2_with fail
    refine (extentsRight_any z pE pW nE cE nW cW fz dn E _ HN.out HE.out hE c1 c2).mono ?_
    rw [HX.out]
    rintro e w1 ⟨rfl, b1⟩
    have B := Lib.hid (hbx.trans (b1.mono (by simp)))
    clear b1
    go_wp2_with fail
    go_ret
    exact ⟨ret_int F.out, B.out⟩
  | true =>
  have hEb := exR_length c1 hx
  have hE9 : nE ≤ 1000000000 := by rw [HN.out]; omega
  have HS := Lib.hid (exR_sorted hx); have HNM := Lib.hid (exR_named hx)
  have HX := Lib.hid hx
  have F : Hid ((if wtR E L = true then 0 else 2) = chkE z E L fz) := Lib.hid (by unfold chkE chkB; rw [hx, decide_eq_true c1, decide_eq_true c2, decide_eq_true c3]; simp)
  cases hw : wtR E L with
  | false =>
    have HWT := Lib.hid hw
    have F2 : Hid (2 = chkE z E L fz) := Lib.hid (by rw [← F.out, hw]; rfl)
    clear hx hw hEb
    go_enter Try.func17, Try.ntmps17
    go_wp2_with fail
    refine (extentsRight_any z pE pW nE cE nW cW fz dn E _ HN.out HE.out hE c1 c2).mono ?_
    rw [HX.out]
    rintro e w1 ⟨rfl, b1⟩
    have B := Lib.hid (hbx.trans (b1.mono (by simp)))
    have hb := HB.out.below b1
    have q0 : w1.cell? ⟨w.heap.size, 0, none⟩ = some (.int .i64 z) := hb.cell 0 (by simp)
    have q1 : w1.cell? ⟨w.heap.size, 1, none⟩ = some (.slice pE nE cE) := hb.cell 1 (by simp)
    have q2 : w1.cell? ⟨w.heap.size, 2, none⟩ = some (.slice pW nW cW) := hb.cell 2 (by simp)
    have q3 : w1.cell? ⟨w.heap.size, 3, none⟩ = some (.int .i64 fz) := hb.cell 3 (by simp)
    have q4 : w1.cell? ⟨w.heap.size, 4, none⟩ = some (.bool dn) := hb.cell 4 (by simp)
    have HE1 := Lib.hid (HE.out.below b1); have HW1 := Lib.hid (HW.out.below b1)
    clear b1 hb
    go_wp2_with fail
    refine (waitsRight_any z pE pW nE cE nW cW fz dn E L _ HN.out HE1.out hE9 HS.out HNM.out HNW.out HW1.out hLl).mono ?_
    rw [HWT.out]
    rintro e w2 ⟨rfl, b2⟩
    have B2 := Lib.hid (B.out.trans (b2.mono B.out.size))
    clear b2
    go_wp2_with fail
    go_ret
    exact ⟨ret_int F2.out, B2.out⟩
  | true =>
    have HWT := Lib.hid hw
    have F2 : Hid (0 = chkE z E L fz) := Lib.hid (by rw [← F.out, hw]; rfl)
    clear hx hw hEb
    go_enter Try.func17, Try.ntmps17
    go_wp2_with fail
    refine (extentsRight_any z pE pW nE cE nW cW fz dn E _ HN.out HE.out hE c1 c2).mono ?_
    rw [HX.out]
    rintro e w1 ⟨rfl, b1⟩
    have B := Lib.hid (hbx.trans (b1.mono (by simp)))
    have hb := HB.out.below b1
    have q0 : w1.cell? ⟨w.heap.size, 0, none⟩ = some (.int .i64 z) := hb.cell 0 (by simp)
    have q1 : w1.cell? ⟨w.heap.size, 1, none⟩ = some (.slice pE nE cE) := hb.cell 1 (by simp)
    have q2 : w1.cell? ⟨w.heap.size, 2, none⟩ = some (.slice pW nW cW) := hb.cell 2 (by simp)
    have q3 : w1.cell? ⟨w.heap.size, 3, none⟩ = some (.int .i64 fz) := hb.cell 3 (by simp)
    have q4 : w1.cell? ⟨w.heap.size, 4, none⟩ = some (.bool dn) := hb.cell 4 (by simp)
    have HE1 := Lib.hid (HE.out.below b1); have HW1 := Lib.hid (HW.out.below b1)
    clear b1 hb
    go_wp2_with fail
    refine (waitsRight_any z pE pW nE cE nW cW fz dn E L _ HN.out HE1.out hE9 HS.out HNM.out HNW.out HW1.out hLl).mono ?_
    rw [HWT.out]
    rintro e w2 ⟨rfl, b2⟩
    have B2 := Lib.hid (B.out.trans (b2.mono B.out.size))
    clear b2
    go_wp2_with fail
    go_ret
    exact ⟨ret_int F2.out, B2.out⟩

/-- why nothing can be done -/
def readyE (z : Int) (E : List Ext) (L : List Wr) (fz : Int) (dn : Bool) : Int := if chkB z E L fz = true then (if dn = true then 10 else 0) else 2
set_option maxHeartbeats 4000000 in
set_option maxRecDepth 100000 in
theorem ready_any (z : Int) (pE pW : Option Addr) (nE cE nW cW : Nat) (fz : Int) (dn : Bool) (E : List Ext) (L : List Wr) (w : World) (hn : nE = E.length) (h : ExtAt w pE E) (hE : nE ≤ 9223372036854775807) (hnW : nW = L.length) (hW : WrsAt w pW L) (hLl : nW ≤ 9223372036854775807) :
    Calls Try.prog 28 #[.agg #[.int .i64 z, .slice pE nE cE, .slice pW nW cW, .int .i64 fz, .bool dn]] w fun e w' => e = .returned (.int .i64 (readyE z E L fz dn)) ∧ Below w.heap.size w w' := by
  have hbx : Below w.heap.size w (w.alloc (.cells #[.int .i64 z, .slice pE nE cE, .slice pW nW cW, .int .i64 fz, .bool dn] 31)) := (Below.refl _ _).alloc (Nat.le_refl _) _
  have HE := Lib.hid (h.below hbx); have HN := Lib.hid hn; have HW := Lib.hid (hW.below hbx); have HNW := Lib.hid hnW
  have HB := Lib.hid (Boxed.new w #[.int .i64 z, .slice pE nE cE, .slice pW nW cW, .int .i64 fz, .bool dn] 31)
  clear h hn hW hnW
  cases hc : chkB z E L fz with
  | false =>
    have F : Hid (2 = readyE z E L fz dn) := Lib.hid (by unfold readyE; rw [hc]; rfl)
    have G : Hid (chkE z E L fz = 2) := Lib.hid (chk_bad hc).symm
    clear hc
    go_enter Try.func28, Try.ntmps28
    go_wp2_with fail
    refine (check_any z pE pW nE cE nW cW fz dn E L _ HN.out HE.out hE HNW.out HW.out hLl).mono ?_
    rw [G.out]
    rintro e w1 ⟨rfl, b1⟩
    have B := Lib.hid (hbx.trans (b1.mono (by simp)))
    clear b1
    go_wp2_with fail
    go_ret
    exact ⟨ret_int F.out, B.out⟩
  | true =>
    have F : Hid ((if dn = true then 10 else 0) = readyE z E L fz dn) := Lib.hid (by unfold readyE; rw [if_pos hc])
    have G : Hid (chkE z E L fz = 0) := Lib.hid (if_pos hc)
    clear hc
    cases dn with
    | true =>
      go_enter Try.func28, Try.ntmps28
      go_wp2_with fail
      refine (check_any z pE pW nE cE nW cW fz true E L _ HN.out HE.out hE HNW.out HW.out hLl).mono ?_
      rw [G.out]
      rintro e w1 ⟨rfl, b1⟩
      have B := Lib.hid (hbx.trans (b1.mono (by simp)))
      have q4 : w1.cell? ⟨w.heap.size, 4, none⟩ = some (.bool true) := (HB.out.below b1).cell 4 (by simp)
      clear b1
      go_wp2_with fail
      go_ret
      exact ⟨ret_int F.out, B.out⟩
    | false =>
      go_enter Try.func28, Try.ntmps28
      go_wp2_with fail
      refine (check_any z pE pW nE cE nW cW fz false E L _ HN.out HE.out hE HNW.out HW.out hLl).mono ?_
      rw [G.out]
      rintro e w1 ⟨rfl, b1⟩
      have B := Lib.hid (hbx.trans (b1.mono (by simp)))
      have q4 : w1.cell? ⟨w.heap.size, 4, none⟩ = some (.bool false) := (HB.out.below b1).cell 4 (by simp)
      clear b1
      go_wp2_with fail
      go_ret
      exact ⟨ret_int F.out, B.out⟩
end Go.Proofs.Ytgpheofdeflhdaa.Dk

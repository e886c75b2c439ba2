/- What the document gives: lives. -/
import Derived.Test.YtejmbbhbimgheaaDkSame
namespace Go.Proofs.Ytejmbbhbimgheaa.Dk
open Go.RowKit Go.Op

def lvA : ByteArray := ⟨#[97]⟩
def lvB : ByteArray := ⟨#[98]⟩
def lvC : ByteArray := ⟨#[99]⟩
def lvOne : ByteArray := zer 63 ++ ⟨#[49]⟩
def lvTwo : ByteArray := zer 63 ++ ⟨#[50]⟩
def lvD0 : Dsk := ⟨4, [], [], -1, false⟩
def lvD1 : Dsk := ⟨4, [(lvA, zer 128)], [], -1, false⟩
def lvD2 : Dsk := ⟨4, [(lvA, zer 128)], [(lvA, 0, lvOne)], -1, false⟩
def lvD3 : Dsk := ⟨4, [(lvA, zer 128)], [(lvA, 0, lvOne), (lvA, 1, lvTwo)], -1, false⟩
def lvD4 : Dsk := ⟨4, [(lvA, zer 64 ++ lvTwo)], [], -1, false⟩
def lvD5 : Dsk := ⟨4, [(lvA, lvOne ++ lvTwo)], [], -1, false⟩
def lvD6 : Dsk := ⟨4, [(lvB, lvOne ++ lvTwo)], [], -1, false⟩
theorem rd_boxed {W : World} {g : Nat} {cs : List Value} (h : Boxed W g cs) : Rw.Rd W (some ⟨g, 0, none⟩) cs := fun i hi => by
  refine ⟨_, rfl, h.lt, ?_⟩
  rw [Addr.add_lit, Nat.zero_add, h.cell i hi]
theorem lv_mk : mkD 4 = lvD0 := by kernel_rfl
theorem lv_mkE : mkE 4 = 0 := by kernel_rfl
theorem lv_nw : nwD lvD0 lvA 2 = lvD1 := by kernel_rfl
theorem lv_nwE : nwE lvD0 lvA 2 = 0 := by kernel_rfl
theorem lv_wt : wtD lvD1 lvA 0 lvOne = lvD2 := by kernel_rfl
theorem lv_wtE : wtE lvD1 lvA 0 lvOne = 0 := by kernel_rfl
theorem lv_wt2 : wtD lvD2 lvA 1 lvTwo = lvD3 := by kernel_rfl
theorem lv_wt2E : wtE lvD2 lvA 1 lvTwo = 0 := by kernel_rfl
theorem lv_rd : rdO lvD3 lvA 0 = lvOne := by kernel_rfl
theorem lv_rdE : rdE lvD3 lvA 0 = 0 := by kernel_rfl
theorem lv_cr : crD lvD3 [false, true] = lvD4 := by kernel_rfl
theorem lv_ck : ckE lvD3 = 0 := by kernel_rfl
theorem lv_rd4 : rdO lvD4 lvA 0 = zer 64 := by kernel_rfl
theorem lv_rd4E : rdE lvD4 lvA 0 = 0 := by kernel_rfl
theorem lv_rd5 : rdO lvD4 lvA 1 = lvTwo := by kernel_rfl
theorem lv_rd5E : rdE lvD4 lvA 1 = 0 := by kernel_rfl
theorem lv_sy : syD lvD3 = lvD5 := by kernel_rfl
theorem lv_syE : syE lvD3 = 0 := by kernel_rfl
theorem lv_rm : rmA lvD5 = 2 := by kernel_rfl
theorem lv_rmE : rdy lvD5 = 0 := by kernel_rfl
theorem lv_mv : mvD lvD5 lvA lvB = lvD6 := by kernel_rfl
theorem lv_mvE : mvE lvD5 lvA lvB = 0 := by kernel_rfl
theorem lv_sc : scA lvD6 lvB = 2 := by kernel_rfl
theorem lv_scE : scE lvD6 lvB = 0 := by kernel_rfl
theorem lv_fr : frD lvD6 [lvB] = lvD0 := by kernel_rfl
theorem lv_frE : frE lvD6 [lvB] = 0 := by kernel_rfl
theorem lv_nw5 : nwE lvD0 lvC 5 = 8 := by kernel_rfl
theorem lv_nwD5 : nwD lvD0 lvC 5 = lvD0 := by kernel_rfl
theorem zeros1 (W : World) : Calls Try.prog 37 #[.int .i64 1] W fun e w' => e = .returned (.string (zer 64)) ∧ Below W.heap.size W w' := Zeros_any 1 W (by omega)
theorem lv_ck5 : ckE lvD5 = 0 := by kernel_rfl
theorem lv_s1 : lvOne.size = 64 := by kernel_rfl
theorem lv_s2 : lvTwo.size = 64 := by kernel_rfl

set_option maxHeartbeats 16000000 in
set_option maxRecDepth 100000 in
theorem lives_any (w : World) : Calls Try.prog 16 #[] w fun e w' => e = .returned (.bool true) ∧ Below w.heap.size w w' := by
  obtain ⟨i0, hi0, hz0, hz1, hz2⟩ := info_parts Cln.info_u8
  obtain ⟨M, hM⟩ : ∃ M, M = madeCells #[Value.int .u8 0] 63 := ⟨_, rfl⟩
  have hmk : ∀ W : World, (Instr.makeSlice 68 (.int .i64 63) (.int .i64 63)).run Try.prog W = .ok (.slice (some ⟨W.heap.size, 0, none⟩) 63 63) (W.alloc (.cells M 5)) := by
    intro W
    have h := run_make (P := Try.prog) W 68 5 i0 (.int .u8 0) Try.underlying68 hi0 hz0 .i64 .i64 63 63 (by omega) (by omega) (by rw [hz2]; omega) (by omega)
    rw [h, hM]
    simp [hz1, Value.cells]
  obtain ⟨Z, hZ⟩ : ∃ Z, Z = zer 63 := ⟨_, rfl⟩
  have hcv : ∀ (W : World) (g : Nat), Row.Bytes W g (List.replicate 63 0) → (convert 68 9 (.slice (some ⟨g, 0, none⟩) 63 63)).run Try.prog W = .ok (.string Z) W := fun W g h => by
    have := Row.run_back h 63
    rw [List.length_replicate] at this
    rw [hZ]
    exact this
  have k1 := zeros_made w 63 M hM
  have k2 := zeros_made (w.alloc (.cells M 5)) 63 M hM
  have c1 := hcv _ _ k1.drew
  have c2 := hcv _ _ (k1.alloc (.cells M 5)).drew
  have c3 := hcv _ _ k2.drew
  have hs3 : (w.alloc (.cells M 5)).heap.size = w.heap.size + 1 := by simp
  rw [hs3] at c3
  obtain ⟨w0, hw0⟩ : ∃ w0, w0 = ((w.alloc (.cells M 5)).alloc (.cells M 5)).drew := ⟨_, rfl⟩
  have BB : Hid (Below w.heap.size w w0) := Lib.hid (by
    rw [hw0]
    exact Below.drew (((Below.refl _ w).alloc (by simp) _).alloc (by simp) _))
  have HW0 := Lib.hid hw0
  have o1 : Z ++ ⟨#[49]⟩ = lvOne := by rw [hZ]; rfl
  have o2 : Z ++ ⟨#[50]⟩ = lvTwo := by rw [hZ]; rfl
  have z1 : ¬ (9223372036854775807 < Z.size + 1) := by rw [hZ, zer_size]; omega
  have HO1 := Lib.hid o1; have HO2 := Lib.hid o2
  have ha : (⟨#[97]⟩ : ByteArray) = lvA := rfl
  have hb : (⟨#[98]⟩ : ByteArray) = lvB := rfl
  have hc : (⟨#[99]⟩ : ByteArray) = lvC := rfl
  have HLA := Lib.hid ha; have HLB := Lib.hid hb; have HLC := Lib.hid hc
  have l1 : lvA.size ≤ 140737488355328 := by decide
  have l2 : lvB.size ≤ 140737488355328 := by decide
  have l3 : lvC.size ≤ 140737488355328 := by decide
  have L1 := Lib.hid l1; have L2 := Lib.hid l2; have L3 := Lib.hid l3
  clear hM hi0 hz0 hz1 hz2 hcv k1 k2 hs3 hZ hw0 o1 o2 ha hb hc l1 l2 l3
  go_enter Try.func16, Try.ntmps16
  go_wp2_with fail
  go_region
  all_goals
    go_wp2_with fail
    rw [HO1.out, HO2.out, ← HW0.out]
    refine (mk_call 4 _).mono ?_
    rw [lv_mk, lv_mkE]
    rintro e w1 ⟨dv1, rfl, va1, _, b1⟩
    have bb := BB.out.trans (b1.mono BB.out.size)
    have G_d := Lib.hid bb.size
    obtain ⟨u1, hu1⟩ : ∃ u, u = (w1.alloc (.cells #[.int .i64 lvD0.size, .slice dv1.pE dv1.nE dv1.cE, .slice dv1.pW dv1.nW dv1.cW, .int .i64 lvD0.fuse, .bool lvD0.down] 25)) := ⟨_, rfl⟩
    have t1 : Below w1.heap.size w1 u1 := by rw [hu1]; exact (Below.refl _ _).alloc (Nat.le_refl _) _
    replace bb := bb.trans (t1.mono bb.size)
    have x_d : Boxed u1 w1.heap.size [.int .i64 lvD0.size, .slice dv1.pE dv1.nE dv1.cE, .slice dv1.pW dv1.nW dv1.cW, .int .i64 lvD0.fuse, .bool lvD0.down] := by rw [hu1]; exact Boxed.new w1 #[.int .i64 lvD0.size, .slice dv1.pE dv1.nE dv1.cE, .slice dv1.pW dv1.nW dv1.cW, .int .i64 lvD0.fuse, .bool lvD0.down] 25
    have v_d := va1.below t1
    have q2 : (w1.alloc (.cells #[.int .i64 lvD0.size, .slice dv1.pE dv1.nE dv1.cE, .slice dv1.pW dv1.nW dv1.cW, .int .i64 lvD0.fuse, .bool lvD0.down] 25)).cell? ⟨w1.heap.size, 0, none⟩ = some (.int .i64 lvD0.size) := by rw [← hu1]; exact x_d.cell 0 (by simp)
    have q3 : (w1.alloc (.cells #[.int .i64 lvD0.size, .slice dv1.pE dv1.nE dv1.cE, .slice dv1.pW dv1.nW dv1.cW, .int .i64 lvD0.fuse, .bool lvD0.down] 25)).cell? ⟨w1.heap.size, 1, none⟩ = some (.slice dv1.pE dv1.nE dv1.cE) := by rw [← hu1]; exact x_d.cell 1 (by simp)
    have q4 : (w1.alloc (.cells #[.int .i64 lvD0.size, .slice dv1.pE dv1.nE dv1.cE, .slice dv1.pW dv1.nW dv1.cW, .int .i64 lvD0.fuse, .bool lvD0.down] 25)).cell? ⟨w1.heap.size, 2, none⟩ = some (.slice dv1.pW dv1.nW dv1.cW) := by rw [← hu1]; exact x_d.cell 2 (by simp)
    have q5 : (w1.alloc (.cells #[.int .i64 lvD0.size, .slice dv1.pE dv1.nE dv1.cE, .slice dv1.pW dv1.nW dv1.cW, .int .i64 lvD0.fuse, .bool lvD0.down] 25)).cell? ⟨w1.heap.size, 3, none⟩ = some (.int .i64 lvD0.fuse) := by rw [← hu1]; exact x_d.cell 3 (by simp)
    have q6 : (w1.alloc (.cells #[.int .i64 lvD0.size, .slice dv1.pE dv1.nE dv1.cE, .slice dv1.pW dv1.nW dv1.cW, .int .i64 lvD0.fuse, .bool lvD0.down] 25)).cell? ⟨w1.heap.size, 4, none⟩ = some (.bool lvD0.down) := by rw [← hu1]; exact x_d.cell 4 (by simp)
    have HU1 := Lib.hid hu1
    have X_d := Lib.hid x_d; have V_d := Lib.hid v_d
    have BB := Lib.hid bb
    clear bb x_d v_d
    clear b1 t1 hu1 va1
    go_wp2_with fail
    rw [← HU1.out]
    rw [HLA.out]
    refine (nw_call V_d.out lvA 2 L1.out).mono ?_
    rw [lv_nw, lv_nwE]
    rintro e w7 ⟨dv7, rfl, va7, ab7, b7⟩
    have x_d := X_d.out.below b7; have v_d := V_d.out.below b7
    have bb := BB.out.trans (b7.mono BB.out.size)
    have p7_0 : w7.cell? ⟨w1.heap.size, 0, none⟩ = some (.int .i64 lvD0.size) := x_d.cell 0 (by simp)
    have f7_0 : w7.frozen? ⟨w1.heap.size, 0, none⟩ = false := x_d.free 0 (by simp)
    have p7_1 : w7.cell? ⟨w1.heap.size, 1, none⟩ = some (.slice dv1.pE dv1.nE dv1.cE) := x_d.cell 1 (by simp)
    have f7_1 : w7.frozen? ⟨w1.heap.size, 1, none⟩ = false := x_d.free 1 (by simp)
    have p7_2 : w7.cell? ⟨w1.heap.size, 2, none⟩ = some (.slice dv1.pW dv1.nW dv1.cW) := x_d.cell 2 (by simp)
    have f7_2 : w7.frozen? ⟨w1.heap.size, 2, none⟩ = false := x_d.free 2 (by simp)
    have p7_3 : w7.cell? ⟨w1.heap.size, 3, none⟩ = some (.int .i64 lvD0.fuse) := x_d.cell 3 (by simp)
    have f7_3 : w7.frozen? ⟨w1.heap.size, 3, none⟩ = false := x_d.free 3 (by simp)
    have p7_4 : w7.cell? ⟨w1.heap.size, 4, none⟩ = some (.bool lvD0.down) := x_d.cell 4 (by simp)
    have f7_4 : w7.frozen? ⟨w1.heap.size, 4, none⟩ = false := x_d.free 4 (by simp)
    obtain ⟨u7, hu7⟩ : ∃ u, u = (((((w7.setCell ⟨w1.heap.size, 0, none⟩ (.int .i64 lvD1.size)).setCell ⟨w1.heap.size, 1, none⟩ (.slice dv7.pE dv7.nE dv7.cE)).setCell ⟨w1.heap.size, 2, none⟩ (.slice dv7.pW dv7.nW dv7.cW)).setCell ⟨w1.heap.size, 3, none⟩ (.int .i64 lvD1.fuse)).setCell ⟨w1.heap.size, 4, none⟩ (.bool lvD1.down)) := ⟨_, rfl⟩
    have t7 : Bar w7 u7 (fun j => j = w1.heap.size) := by rw [hu7]; exact ((((((Bar.refl w7 (fun j => j = w1.heap.size)).setCell (q := ⟨w1.heap.size, 0, none⟩) rfl _).setCell (q := ⟨w1.heap.size, 1, none⟩) rfl _).setCell (q := ⟨w1.heap.size, 2, none⟩) rfl _).setCell (q := ⟨w1.heap.size, 3, none⟩) rfl _).setCell (q := ⟨w1.heap.size, 4, none⟩) rfl _)
    have lt7 : w1.heap.size < u1.heap.size := X_d.out.lt
    replace x_d : Boxed u7 w1.heap.size [.int .i64 lvD1.size, .slice dv7.pE dv7.nE dv7.cE, .slice dv7.pW dv7.nW dv7.cW, .int .i64 lvD1.fuse, .bool lvD1.down] := by rw [hu7]; exact (((((x_d.set (i := 0) (by simp) _).set (i := 1) (by simp) _).set (i := 2) (by simp) _).set (i := 3) (by simp) _).set (i := 4) (by simp) _)
    replace v_d := va7.bar ab7 t7 (fun j hj => by omega)
    replace bb := bb.trans (t7.below (fun j _ h => by have := G_d.out; omega) bb.size)
    have q8 : (((((w7.setCell ⟨w1.heap.size, 0, none⟩ (.int .i64 lvD1.size)).setCell ⟨w1.heap.size, 1, none⟩ (.slice dv7.pE dv7.nE dv7.cE)).setCell ⟨w1.heap.size, 2, none⟩ (.slice dv7.pW dv7.nW dv7.cW)).setCell ⟨w1.heap.size, 3, none⟩ (.int .i64 lvD1.fuse)).setCell ⟨w1.heap.size, 4, none⟩ (.bool lvD1.down)).cell? ⟨w1.heap.size, 0, none⟩ = some (.int .i64 lvD1.size) := by rw [← hu7]; exact x_d.cell 0 (by simp)
    have q9 : (((((w7.setCell ⟨w1.heap.size, 0, none⟩ (.int .i64 lvD1.size)).setCell ⟨w1.heap.size, 1, none⟩ (.slice dv7.pE dv7.nE dv7.cE)).setCell ⟨w1.heap.size, 2, none⟩ (.slice dv7.pW dv7.nW dv7.cW)).setCell ⟨w1.heap.size, 3, none⟩ (.int .i64 lvD1.fuse)).setCell ⟨w1.heap.size, 4, none⟩ (.bool lvD1.down)).cell? ⟨w1.heap.size, 1, none⟩ = some (.slice dv7.pE dv7.nE dv7.cE) := by rw [← hu7]; exact x_d.cell 1 (by simp)
    have q10 : (((((w7.setCell ⟨w1.heap.size, 0, none⟩ (.int .i64 lvD1.size)).setCell ⟨w1.heap.size, 1, none⟩ (.slice dv7.pE dv7.nE dv7.cE)).setCell ⟨w1.heap.size, 2, none⟩ (.slice dv7.pW dv7.nW dv7.cW)).setCell ⟨w1.heap.size, 3, none⟩ (.int .i64 lvD1.fuse)).setCell ⟨w1.heap.size, 4, none⟩ (.bool lvD1.down)).cell? ⟨w1.heap.size, 2, none⟩ = some (.slice dv7.pW dv7.nW dv7.cW) := by rw [← hu7]; exact x_d.cell 2 (by simp)
    have q11 : (((((w7.setCell ⟨w1.heap.size, 0, none⟩ (.int .i64 lvD1.size)).setCell ⟨w1.heap.size, 1, none⟩ (.slice dv7.pE dv7.nE dv7.cE)).setCell ⟨w1.heap.size, 2, none⟩ (.slice dv7.pW dv7.nW dv7.cW)).setCell ⟨w1.heap.size, 3, none⟩ (.int .i64 lvD1.fuse)).setCell ⟨w1.heap.size, 4, none⟩ (.bool lvD1.down)).cell? ⟨w1.heap.size, 3, none⟩ = some (.int .i64 lvD1.fuse) := by rw [← hu7]; exact x_d.cell 3 (by simp)
    have q12 : (((((w7.setCell ⟨w1.heap.size, 0, none⟩ (.int .i64 lvD1.size)).setCell ⟨w1.heap.size, 1, none⟩ (.slice dv7.pE dv7.nE dv7.cE)).setCell ⟨w1.heap.size, 2, none⟩ (.slice dv7.pW dv7.nW dv7.cW)).setCell ⟨w1.heap.size, 3, none⟩ (.int .i64 lvD1.fuse)).setCell ⟨w1.heap.size, 4, none⟩ (.bool lvD1.down)).cell? ⟨w1.heap.size, 4, none⟩ = some (.bool lvD1.down) := by rw [← hu7]; exact x_d.cell 4 (by simp)
    have HU7 := Lib.hid hu7
    have X_d := Lib.hid x_d; have V_d := Lib.hid v_d
    have BB := Lib.hid bb
    clear bb x_d v_d
    clear b7 t7 hu7 va7 ab7 lt7
    go_wp2_with fail
    rw [← HU7.out]
    rw [HLA.out]
    refine (wt_call V_d.out lvA 0 lvOne L1.out (by rw [lv_s1]; omega)).mono ?_
    rw [lv_wt, lv_wtE]
    rintro e w13 ⟨dv13, rfl, va13, ab13, b13⟩
    have x_d := X_d.out.below b13; have v_d := V_d.out.below b13
    have bb := BB.out.trans (b13.mono BB.out.size)
    have p13_0 : w13.cell? ⟨w1.heap.size, 0, none⟩ = some (.int .i64 lvD1.size) := x_d.cell 0 (by simp)
    have f13_0 : w13.frozen? ⟨w1.heap.size, 0, none⟩ = false := x_d.free 0 (by simp)
    have p13_1 : w13.cell? ⟨w1.heap.size, 1, none⟩ = some (.slice dv7.pE dv7.nE dv7.cE) := x_d.cell 1 (by simp)
    have f13_1 : w13.frozen? ⟨w1.heap.size, 1, none⟩ = false := x_d.free 1 (by simp)
    have p13_2 : w13.cell? ⟨w1.heap.size, 2, none⟩ = some (.slice dv7.pW dv7.nW dv7.cW) := x_d.cell 2 (by simp)
    have f13_2 : w13.frozen? ⟨w1.heap.size, 2, none⟩ = false := x_d.free 2 (by simp)
    have p13_3 : w13.cell? ⟨w1.heap.size, 3, none⟩ = some (.int .i64 lvD1.fuse) := x_d.cell 3 (by simp)
    have f13_3 : w13.frozen? ⟨w1.heap.size, 3, none⟩ = false := x_d.free 3 (by simp)
    have p13_4 : w13.cell? ⟨w1.heap.size, 4, none⟩ = some (.bool lvD1.down) := x_d.cell 4 (by simp)
    have f13_4 : w13.frozen? ⟨w1.heap.size, 4, none⟩ = false := x_d.free 4 (by simp)
    obtain ⟨u13, hu13⟩ : ∃ u, u = (((((w13.setCell ⟨w1.heap.size, 0, none⟩ (.int .i64 lvD2.size)).setCell ⟨w1.heap.size, 1, none⟩ (.slice dv13.pE dv13.nE dv13.cE)).setCell ⟨w1.heap.size, 2, none⟩ (.slice dv13.pW dv13.nW dv13.cW)).setCell ⟨w1.heap.size, 3, none⟩ (.int .i64 lvD2.fuse)).setCell ⟨w1.heap.size, 4, none⟩ (.bool lvD2.down)) := ⟨_, rfl⟩
    have t13 : Bar w13 u13 (fun j => j = w1.heap.size) := by rw [hu13]; exact ((((((Bar.refl w13 (fun j => j = w1.heap.size)).setCell (q := ⟨w1.heap.size, 0, none⟩) rfl _).setCell (q := ⟨w1.heap.size, 1, none⟩) rfl _).setCell (q := ⟨w1.heap.size, 2, none⟩) rfl _).setCell (q := ⟨w1.heap.size, 3, none⟩) rfl _).setCell (q := ⟨w1.heap.size, 4, none⟩) rfl _)
    have lt13 : w1.heap.size < u7.heap.size := X_d.out.lt
    replace x_d : Boxed u13 w1.heap.size [.int .i64 lvD2.size, .slice dv13.pE dv13.nE dv13.cE, .slice dv13.pW dv13.nW dv13.cW, .int .i64 lvD2.fuse, .bool lvD2.down] := by rw [hu13]; exact (((((x_d.set (i := 0) (by simp) _).set (i := 1) (by simp) _).set (i := 2) (by simp) _).set (i := 3) (by simp) _).set (i := 4) (by simp) _)
    replace v_d := va13.bar ab13 t13 (fun j hj => by omega)
    replace bb := bb.trans (t13.below (fun j _ h => by have := G_d.out; omega) bb.size)
    have q14 : (((((w13.setCell ⟨w1.heap.size, 0, none⟩ (.int .i64 lvD2.size)).setCell ⟨w1.heap.size, 1, none⟩ (.slice dv13.pE dv13.nE dv13.cE)).setCell ⟨w1.heap.size, 2, none⟩ (.slice dv13.pW dv13.nW dv13.cW)).setCell ⟨w1.heap.size, 3, none⟩ (.int .i64 lvD2.fuse)).setCell ⟨w1.heap.size, 4, none⟩ (.bool lvD2.down)).cell? ⟨w1.heap.size, 0, none⟩ = some (.int .i64 lvD2.size) := by rw [← hu13]; exact x_d.cell 0 (by simp)
    have q15 : (((((w13.setCell ⟨w1.heap.size, 0, none⟩ (.int .i64 lvD2.size)).setCell ⟨w1.heap.size, 1, none⟩ (.slice dv13.pE dv13.nE dv13.cE)).setCell ⟨w1.heap.size, 2, none⟩ (.slice dv13.pW dv13.nW dv13.cW)).setCell ⟨w1.heap.size, 3, none⟩ (.int .i64 lvD2.fuse)).setCell ⟨w1.heap.size, 4, none⟩ (.bool lvD2.down)).cell? ⟨w1.heap.size, 1, none⟩ = some (.slice dv13.pE dv13.nE dv13.cE) := by rw [← hu13]; exact x_d.cell 1 (by simp)
    have q16 : (((((w13.setCell ⟨w1.heap.size, 0, none⟩ (.int .i64 lvD2.size)).setCell ⟨w1.heap.size, 1, none⟩ (.slice dv13.pE dv13.nE dv13.cE)).setCell ⟨w1.heap.size, 2, none⟩ (.slice dv13.pW dv13.nW dv13.cW)).setCell ⟨w1.heap.size, 3, none⟩ (.int .i64 lvD2.fuse)).setCell ⟨w1.heap.size, 4, none⟩ (.bool lvD2.down)).cell? ⟨w1.heap.size, 2, none⟩ = some (.slice dv13.pW dv13.nW dv13.cW) := by rw [← hu13]; exact x_d.cell 2 (by simp)
    have q17 : (((((w13.setCell ⟨w1.heap.size, 0, none⟩ (.int .i64 lvD2.size)).setCell ⟨w1.heap.size, 1, none⟩ (.slice dv13.pE dv13.nE dv13.cE)).setCell ⟨w1.heap.size, 2, none⟩ (.slice dv13.pW dv13.nW dv13.cW)).setCell ⟨w1.heap.size, 3, none⟩ (.int .i64 lvD2.fuse)).setCell ⟨w1.heap.size, 4, none⟩ (.bool lvD2.down)).cell? ⟨w1.heap.size, 3, none⟩ = some (.int .i64 lvD2.fuse) := by rw [← hu13]; exact x_d.cell 3 (by simp)
    have q18 : (((((w13.setCell ⟨w1.heap.size, 0, none⟩ (.int .i64 lvD2.size)).setCell ⟨w1.heap.size, 1, none⟩ (.slice dv13.pE dv13.nE dv13.cE)).setCell ⟨w1.heap.size, 2, none⟩ (.slice dv13.pW dv13.nW dv13.cW)).setCell ⟨w1.heap.size, 3, none⟩ (.int .i64 lvD2.fuse)).setCell ⟨w1.heap.size, 4, none⟩ (.bool lvD2.down)).cell? ⟨w1.heap.size, 4, none⟩ = some (.bool lvD2.down) := by rw [← hu13]; exact x_d.cell 4 (by simp)
    have HU13 := Lib.hid hu13
    have X_d := Lib.hid x_d; have V_d := Lib.hid v_d
    have BB := Lib.hid bb
    clear bb x_d v_d
    clear b13 t13 hu13 va13 ab13 lt13
    go_wp2_with fail
    rw [← HU13.out]
    rw [HLA.out]
    refine (wt_call V_d.out lvA 1 lvTwo L1.out (by rw [lv_s2]; omega)).mono ?_
    rw [lv_wt2, lv_wt2E]
    rintro e w19 ⟨dv19, rfl, va19, ab19, b19⟩
    have x_d := X_d.out.below b19; have v_d := V_d.out.below b19
    have bb := BB.out.trans (b19.mono BB.out.size)
    have p19_0 : w19.cell? ⟨w1.heap.size, 0, none⟩ = some (.int .i64 lvD2.size) := x_d.cell 0 (by simp)
    have f19_0 : w19.frozen? ⟨w1.heap.size, 0, none⟩ = false := x_d.free 0 (by simp)
    have p19_1 : w19.cell? ⟨w1.heap.size, 1, none⟩ = some (.slice dv13.pE dv13.nE dv13.cE) := x_d.cell 1 (by simp)
    have f19_1 : w19.frozen? ⟨w1.heap.size, 1, none⟩ = false := x_d.free 1 (by simp)
    have p19_2 : w19.cell? ⟨w1.heap.size, 2, none⟩ = some (.slice dv13.pW dv13.nW dv13.cW) := x_d.cell 2 (by simp)
    have f19_2 : w19.frozen? ⟨w1.heap.size, 2, none⟩ = false := x_d.free 2 (by simp)
    have p19_3 : w19.cell? ⟨w1.heap.size, 3, none⟩ = some (.int .i64 lvD2.fuse) := x_d.cell 3 (by simp)
    have f19_3 : w19.frozen? ⟨w1.heap.size, 3, none⟩ = false := x_d.free 3 (by simp)
    have p19_4 : w19.cell? ⟨w1.heap.size, 4, none⟩ = some (.bool lvD2.down) := x_d.cell 4 (by simp)
    have f19_4 : w19.frozen? ⟨w1.heap.size, 4, none⟩ = false := x_d.free 4 (by simp)
    obtain ⟨u19, hu19⟩ : ∃ u, u = (((((w19.setCell ⟨w1.heap.size, 0, none⟩ (.int .i64 lvD3.size)).setCell ⟨w1.heap.size, 1, none⟩ (.slice dv19.pE dv19.nE dv19.cE)).setCell ⟨w1.heap.size, 2, none⟩ (.slice dv19.pW dv19.nW dv19.cW)).setCell ⟨w1.heap.size, 3, none⟩ (.int .i64 lvD3.fuse)).setCell ⟨w1.heap.size, 4, none⟩ (.bool lvD3.down)) := ⟨_, rfl⟩
    have t19 : Bar w19 u19 (fun j => j = w1.heap.size) := by rw [hu19]; exact ((((((Bar.refl w19 (fun j => j = w1.heap.size)).setCell (q := ⟨w1.heap.size, 0, none⟩) rfl _).setCell (q := ⟨w1.heap.size, 1, none⟩) rfl _).setCell (q := ⟨w1.heap.size, 2, none⟩) rfl _).setCell (q := ⟨w1.heap.size, 3, none⟩) rfl _).setCell (q := ⟨w1.heap.size, 4, none⟩) rfl _)
    have lt19 : w1.heap.size < u13.heap.size := X_d.out.lt
    replace x_d : Boxed u19 w1.heap.size [.int .i64 lvD3.size, .slice dv19.pE dv19.nE dv19.cE, .slice dv19.pW dv19.nW dv19.cW, .int .i64 lvD3.fuse, .bool lvD3.down] := by rw [hu19]; exact (((((x_d.set (i := 0) (by simp) _).set (i := 1) (by simp) _).set (i := 2) (by simp) _).set (i := 3) (by simp) _).set (i := 4) (by simp) _)
    replace v_d := va19.bar ab19 t19 (fun j hj => by omega)
    replace bb := bb.trans (t19.below (fun j _ h => by have := G_d.out; omega) bb.size)
    have q20 : (((((w19.setCell ⟨w1.heap.size, 0, none⟩ (.int .i64 lvD3.size)).setCell ⟨w1.heap.size, 1, none⟩ (.slice dv19.pE dv19.nE dv19.cE)).setCell ⟨w1.heap.size, 2, none⟩ (.slice dv19.pW dv19.nW dv19.cW)).setCell ⟨w1.heap.size, 3, none⟩ (.int .i64 lvD3.fuse)).setCell ⟨w1.heap.size, 4, none⟩ (.bool lvD3.down)).cell? ⟨w1.heap.size, 0, none⟩ = some (.int .i64 lvD3.size) := by rw [← hu19]; exact x_d.cell 0 (by simp)
    have q21 : (((((w19.setCell ⟨w1.heap.size, 0, none⟩ (.int .i64 lvD3.size)).setCell ⟨w1.heap.size, 1, none⟩ (.slice dv19.pE dv19.nE dv19.cE)).setCell ⟨w1.heap.size, 2, none⟩ (.slice dv19.pW dv19.nW dv19.cW)).setCell ⟨w1.heap.size, 3, none⟩ (.int .i64 lvD3.fuse)).setCell ⟨w1.heap.size, 4, none⟩ (.bool lvD3.down)).cell? ⟨w1.heap.size, 1, none⟩ = some (.slice dv19.pE dv19.nE dv19.cE) := by rw [← hu19]; exact x_d.cell 1 (by simp)
    have q22 : (((((w19.setCell ⟨w1.heap.size, 0, none⟩ (.int .i64 lvD3.size)).setCell ⟨w1.heap.size, 1, none⟩ (.slice dv19.pE dv19.nE dv19.cE)).setCell ⟨w1.heap.size, 2, none⟩ (.slice dv19.pW dv19.nW dv19.cW)).setCell ⟨w1.heap.size, 3, none⟩ (.int .i64 lvD3.fuse)).setCell ⟨w1.heap.size, 4, none⟩ (.bool lvD3.down)).cell? ⟨w1.heap.size, 2, none⟩ = some (.slice dv19.pW dv19.nW dv19.cW) := by rw [← hu19]; exact x_d.cell 2 (by simp)
    have q23 : (((((w19.setCell ⟨w1.heap.size, 0, none⟩ (.int .i64 lvD3.size)).setCell ⟨w1.heap.size, 1, none⟩ (.slice dv19.pE dv19.nE dv19.cE)).setCell ⟨w1.heap.size, 2, none⟩ (.slice dv19.pW dv19.nW dv19.cW)).setCell ⟨w1.heap.size, 3, none⟩ (.int .i64 lvD3.fuse)).setCell ⟨w1.heap.size, 4, none⟩ (.bool lvD3.down)).cell? ⟨w1.heap.size, 3, none⟩ = some (.int .i64 lvD3.fuse) := by rw [← hu19]; exact x_d.cell 3 (by simp)
    have q24 : (((((w19.setCell ⟨w1.heap.size, 0, none⟩ (.int .i64 lvD3.size)).setCell ⟨w1.heap.size, 1, none⟩ (.slice dv19.pE dv19.nE dv19.cE)).setCell ⟨w1.heap.size, 2, none⟩ (.slice dv19.pW dv19.nW dv19.cW)).setCell ⟨w1.heap.size, 3, none⟩ (.int .i64 lvD3.fuse)).setCell ⟨w1.heap.size, 4, none⟩ (.bool lvD3.down)).cell? ⟨w1.heap.size, 4, none⟩ = some (.bool lvD3.down) := by rw [← hu19]; exact x_d.cell 4 (by simp)
    have HU19 := Lib.hid hu19
    have X_d := Lib.hid x_d; have V_d := Lib.hid v_d
    have BB := Lib.hid bb
    clear bb x_d v_d
    clear b19 t19 hu19 va19 ab19 lt19
    go_wp2_with fail
    rw [← HU19.out]
    rw [HLA.out]
    refine (rd_call V_d.out lvA 0).mono ?_
    rw [lv_rd, lv_rdE]
    rintro e w25 ⟨rfl, b25⟩
    have x_d := X_d.out.below b25; have v_d := V_d.out.below b25
    have bb := BB.out.trans (b25.mono BB.out.size)
    have q26 : w25.cell? ⟨w1.heap.size, 0, none⟩ = some (.int .i64 lvD3.size) := by exact x_d.cell 0 (by simp)
    have q27 : w25.cell? ⟨w1.heap.size, 1, none⟩ = some (.slice dv19.pE dv19.nE dv19.cE) := by exact x_d.cell 1 (by simp)
    have q28 : w25.cell? ⟨w1.heap.size, 2, none⟩ = some (.slice dv19.pW dv19.nW dv19.cW) := by exact x_d.cell 2 (by simp)
    have q29 : w25.cell? ⟨w1.heap.size, 3, none⟩ = some (.int .i64 lvD3.fuse) := by exact x_d.cell 3 (by simp)
    have q30 : w25.cell? ⟨w1.heap.size, 4, none⟩ = some (.bool lvD3.down) := by exact x_d.cell 4 (by simp)
    have X_d := Lib.hid x_d; have V_d := Lib.hid v_d
    have BB := Lib.hid bb
    clear bb x_d v_d
    clear b25
    go_wp2_with fail
    obtain ⟨u31, hu31⟩ : ∃ u, u = (w25.alloc (.cells #[.bool false, .bool true] 4)) := ⟨_, rfl⟩
    have t31 : Below w25.heap.size w25 u31 := by rw [hu31]; exact (Below.refl _ _).alloc (Nat.le_refl _) _
    have x_d := X_d.out.below t31; have v_d := V_d.out.below t31
    have bb := BB.out.trans (t31.mono BB.out.size)
    have x_keep : Boxed u31 w25.heap.size [.bool false, .bool true] := by rw [hu31]; exact Boxed.new w25 #[.bool false, .bool true] 4
    have HU31 := Lib.hid hu31
    have X_d := Lib.hid x_d; have V_d := Lib.hid v_d
    have X_keep := Lib.hid x_keep
    have BB := Lib.hid bb
    clear bb x_d v_d x_keep
    clear t31 hu31
    rw [← HU31.out]
    refine (cr_call V_d.out [false, true] _ 2 2 rfl (rd_boxed X_keep.out)).mono ?_
    rw [lv_cr, lv_ck]
    rintro e w32 ⟨dv32, rfl, va32, _, b32⟩
    have x_d := X_d.out.below b32; have v_d := V_d.out.below b32
    have x_keep := X_keep.out.below b32
    have bb := BB.out.trans (b32.mono BB.out.size)
    have G_c := Lib.hid bb.size
    obtain ⟨u32, hu32⟩ : ∃ u, u = (w32.alloc (.cells #[.int .i64 lvD4.size, .slice dv32.pE dv32.nE dv32.cE, .slice dv32.pW dv32.nW dv32.cW, .int .i64 lvD4.fuse, .bool lvD4.down] 25)) := ⟨_, rfl⟩
    have t32 : Below w32.heap.size w32 u32 := by rw [hu32]; exact (Below.refl _ _).alloc (Nat.le_refl _) _
    replace x_d := x_d.below t32; replace v_d := v_d.below t32
    replace x_keep := x_keep.below t32
    replace bb := bb.trans (t32.mono bb.size)
    have x_c : Boxed u32 w32.heap.size [.int .i64 lvD4.size, .slice dv32.pE dv32.nE dv32.cE, .slice dv32.pW dv32.nW dv32.cW, .int .i64 lvD4.fuse, .bool lvD4.down] := by rw [hu32]; exact Boxed.new w32 #[.int .i64 lvD4.size, .slice dv32.pE dv32.nE dv32.cE, .slice dv32.pW dv32.nW dv32.cW, .int .i64 lvD4.fuse, .bool lvD4.down] 25
    have v_c := va32.below t32
    have q33 : (w32.alloc (.cells #[.int .i64 lvD4.size, .slice dv32.pE dv32.nE dv32.cE, .slice dv32.pW dv32.nW dv32.cW, .int .i64 lvD4.fuse, .bool lvD4.down] 25)).cell? ⟨w32.heap.size, 0, none⟩ = some (.int .i64 lvD4.size) := by rw [← hu32]; exact x_c.cell 0 (by simp)
    have q34 : (w32.alloc (.cells #[.int .i64 lvD4.size, .slice dv32.pE dv32.nE dv32.cE, .slice dv32.pW dv32.nW dv32.cW, .int .i64 lvD4.fuse, .bool lvD4.down] 25)).cell? ⟨w32.heap.size, 1, none⟩ = some (.slice dv32.pE dv32.nE dv32.cE) := by rw [← hu32]; exact x_c.cell 1 (by simp)
    have q35 : (w32.alloc (.cells #[.int .i64 lvD4.size, .slice dv32.pE dv32.nE dv32.cE, .slice dv32.pW dv32.nW dv32.cW, .int .i64 lvD4.fuse, .bool lvD4.down] 25)).cell? ⟨w32.heap.size, 2, none⟩ = some (.slice dv32.pW dv32.nW dv32.cW) := by rw [← hu32]; exact x_c.cell 2 (by simp)
    have q36 : (w32.alloc (.cells #[.int .i64 lvD4.size, .slice dv32.pE dv32.nE dv32.cE, .slice dv32.pW dv32.nW dv32.cW, .int .i64 lvD4.fuse, .bool lvD4.down] 25)).cell? ⟨w32.heap.size, 3, none⟩ = some (.int .i64 lvD4.fuse) := by rw [← hu32]; exact x_c.cell 3 (by simp)
    have q37 : (w32.alloc (.cells #[.int .i64 lvD4.size, .slice dv32.pE dv32.nE dv32.cE, .slice dv32.pW dv32.nW dv32.cW, .int .i64 lvD4.fuse, .bool lvD4.down] 25)).cell? ⟨w32.heap.size, 4, none⟩ = some (.bool lvD4.down) := by rw [← hu32]; exact x_c.cell 4 (by simp)
    have HU32 := Lib.hid hu32
    have X_d := Lib.hid x_d; have V_d := Lib.hid v_d
    have X_c := Lib.hid x_c; have V_c := Lib.hid v_c
    have X_keep := Lib.hid x_keep
    have BB := Lib.hid bb
    clear bb x_d v_d x_c v_c x_keep
    clear b32 t32 hu32 va32
    go_wp2_with fail
    rw [← HU32.out]
    rw [HLA.out]
    refine (rd_call V_c.out lvA 0).mono ?_
    rw [lv_rd4, lv_rd4E]
    rintro e w38 ⟨rfl, b38⟩
    have x_d := X_d.out.below b38; have v_d := V_d.out.below b38
    have x_c := X_c.out.below b38; have v_c := V_c.out.below b38
    have x_keep := X_keep.out.below b38
    have bb := BB.out.trans (b38.mono BB.out.size)
    have q39 : w38.cell? ⟨w32.heap.size, 0, none⟩ = some (.int .i64 lvD4.size) := by exact x_c.cell 0 (by simp)
    have q40 : w38.cell? ⟨w32.heap.size, 1, none⟩ = some (.slice dv32.pE dv32.nE dv32.cE) := by exact x_c.cell 1 (by simp)
    have q41 : w38.cell? ⟨w32.heap.size, 2, none⟩ = some (.slice dv32.pW dv32.nW dv32.cW) := by exact x_c.cell 2 (by simp)
    have q42 : w38.cell? ⟨w32.heap.size, 3, none⟩ = some (.int .i64 lvD4.fuse) := by exact x_c.cell 3 (by simp)
    have q43 : w38.cell? ⟨w32.heap.size, 4, none⟩ = some (.bool lvD4.down) := by exact x_c.cell 4 (by simp)
    have X_d := Lib.hid x_d; have V_d := Lib.hid v_d
    have X_c := Lib.hid x_c; have V_c := Lib.hid v_c
    have X_keep := Lib.hid x_keep
    have BB := Lib.hid bb
    clear bb x_d v_d x_c v_c x_keep
    clear b38
    go_wp2_with fail
    rw [HLA.out]
    refine (rd_call V_c.out lvA 1).mono ?_
    rw [lv_rd5, lv_rd5E]
    rintro e w44 ⟨rfl, b44⟩
    have x_d := X_d.out.below b44; have v_d := V_d.out.below b44
    have x_c := X_c.out.below b44; have v_c := V_c.out.below b44
    have x_keep := X_keep.out.below b44
    have bb := BB.out.trans (b44.mono BB.out.size)
    have q45 : w44.cell? ⟨w1.heap.size, 0, none⟩ = some (.int .i64 lvD3.size) := by exact x_d.cell 0 (by simp)
    have q46 : w44.cell? ⟨w1.heap.size, 1, none⟩ = some (.slice dv19.pE dv19.nE dv19.cE) := by exact x_d.cell 1 (by simp)
    have q47 : w44.cell? ⟨w1.heap.size, 2, none⟩ = some (.slice dv19.pW dv19.nW dv19.cW) := by exact x_d.cell 2 (by simp)
    have q48 : w44.cell? ⟨w1.heap.size, 3, none⟩ = some (.int .i64 lvD3.fuse) := by exact x_d.cell 3 (by simp)
    have q49 : w44.cell? ⟨w1.heap.size, 4, none⟩ = some (.bool lvD3.down) := by exact x_d.cell 4 (by simp)
    have X_d := Lib.hid x_d; have V_d := Lib.hid v_d
    have X_c := Lib.hid x_c; have V_c := Lib.hid v_c
    have X_keep := Lib.hid x_keep
    have BB := Lib.hid bb
    clear bb x_d v_d x_c v_c x_keep
    clear b44
    go_wp2_with fail
    refine (sy_call V_d.out).mono ?_
    rw [lv_sy, lv_syE]
    rintro e w50 ⟨dv50, rfl, va50, _, b50⟩
    have x_d := X_d.out.below b50; have v_d := V_d.out.below b50
    have x_c := X_c.out.below b50; have v_c := V_c.out.below b50
    have x_keep := X_keep.out.below b50
    have bb := BB.out.trans (b50.mono BB.out.size)
    have G_e := Lib.hid bb.size
    obtain ⟨u50, hu50⟩ : ∃ u, u = (w50.alloc (.cells #[.int .i64 lvD5.size, .slice dv50.pE dv50.nE dv50.cE, .slice dv50.pW dv50.nW dv50.cW, .int .i64 lvD5.fuse, .bool lvD5.down] 25)) := ⟨_, rfl⟩
    have t50 : Below w50.heap.size w50 u50 := by rw [hu50]; exact (Below.refl _ _).alloc (Nat.le_refl _) _
    replace x_d := x_d.below t50; replace v_d := v_d.below t50
    replace x_c := x_c.below t50; replace v_c := v_c.below t50
    replace x_keep := x_keep.below t50
    replace bb := bb.trans (t50.mono bb.size)
    have x_e : Boxed u50 w50.heap.size [.int .i64 lvD5.size, .slice dv50.pE dv50.nE dv50.cE, .slice dv50.pW dv50.nW dv50.cW, .int .i64 lvD5.fuse, .bool lvD5.down] := by rw [hu50]; exact Boxed.new w50 #[.int .i64 lvD5.size, .slice dv50.pE dv50.nE dv50.cE, .slice dv50.pW dv50.nW dv50.cW, .int .i64 lvD5.fuse, .bool lvD5.down] 25
    have v_e := va50.below t50
    have q51 : (w50.alloc (.cells #[.int .i64 lvD5.size, .slice dv50.pE dv50.nE dv50.cE, .slice dv50.pW dv50.nW dv50.cW, .int .i64 lvD5.fuse, .bool lvD5.down] 25)).cell? ⟨w50.heap.size, 0, none⟩ = some (.int .i64 lvD5.size) := by rw [← hu50]; exact x_e.cell 0 (by simp)
    have q52 : (w50.alloc (.cells #[.int .i64 lvD5.size, .slice dv50.pE dv50.nE dv50.cE, .slice dv50.pW dv50.nW dv50.cW, .int .i64 lvD5.fuse, .bool lvD5.down] 25)).cell? ⟨w50.heap.size, 1, none⟩ = some (.slice dv50.pE dv50.nE dv50.cE) := by rw [← hu50]; exact x_e.cell 1 (by simp)
    have q53 : (w50.alloc (.cells #[.int .i64 lvD5.size, .slice dv50.pE dv50.nE dv50.cE, .slice dv50.pW dv50.nW dv50.cW, .int .i64 lvD5.fuse, .bool lvD5.down] 25)).cell? ⟨w50.heap.size, 2, none⟩ = some (.slice dv50.pW dv50.nW dv50.cW) := by rw [← hu50]; exact x_e.cell 2 (by simp)
    have q54 : (w50.alloc (.cells #[.int .i64 lvD5.size, .slice dv50.pE dv50.nE dv50.cE, .slice dv50.pW dv50.nW dv50.cW, .int .i64 lvD5.fuse, .bool lvD5.down] 25)).cell? ⟨w50.heap.size, 3, none⟩ = some (.int .i64 lvD5.fuse) := by rw [← hu50]; exact x_e.cell 3 (by simp)
    have q55 : (w50.alloc (.cells #[.int .i64 lvD5.size, .slice dv50.pE dv50.nE dv50.cE, .slice dv50.pW dv50.nW dv50.cW, .int .i64 lvD5.fuse, .bool lvD5.down] 25)).cell? ⟨w50.heap.size, 4, none⟩ = some (.bool lvD5.down) := by rw [← hu50]; exact x_e.cell 4 (by simp)
    have HU50 := Lib.hid hu50
    have X_d := Lib.hid x_d; have V_d := Lib.hid v_d
    have X_c := Lib.hid x_c; have V_c := Lib.hid v_c
    have X_e := Lib.hid x_e; have V_e := Lib.hid v_e
    have X_keep := Lib.hid x_keep
    have BB := Lib.hid bb
    clear bb x_d v_d x_c v_c x_e v_e x_keep
    clear b50 t50 hu50 va50
    go_wp2_with fail
    rw [← HU50.out]
    refine (rm_call V_e.out).mono ?_
    rw [lv_rm, lv_rmE]
    rintro e w56 ⟨rfl, b56⟩
    have x_d := X_d.out.below b56; have v_d := V_d.out.below b56
    have x_c := X_c.out.below b56; have v_c := V_c.out.below b56
    have x_e := X_e.out.below b56; have v_e := V_e.out.below b56
    have x_keep := X_keep.out.below b56
    have bb := BB.out.trans (b56.mono BB.out.size)
    have q57 : w56.cell? ⟨w50.heap.size, 0, none⟩ = some (.int .i64 lvD5.size) := by exact x_e.cell 0 (by simp)
    have q58 : w56.cell? ⟨w50.heap.size, 1, none⟩ = some (.slice dv50.pE dv50.nE dv50.cE) := by exact x_e.cell 1 (by simp)
    have q59 : w56.cell? ⟨w50.heap.size, 2, none⟩ = some (.slice dv50.pW dv50.nW dv50.cW) := by exact x_e.cell 2 (by simp)
    have q60 : w56.cell? ⟨w50.heap.size, 3, none⟩ = some (.int .i64 lvD5.fuse) := by exact x_e.cell 3 (by simp)
    have q61 : w56.cell? ⟨w50.heap.size, 4, none⟩ = some (.bool lvD5.down) := by exact x_e.cell 4 (by simp)
    have X_d := Lib.hid x_d; have V_d := Lib.hid v_d
    have X_c := Lib.hid x_c; have V_c := Lib.hid v_c
    have X_e := Lib.hid x_e; have V_e := Lib.hid v_e
    have X_keep := Lib.hid x_keep
    have BB := Lib.hid bb
    clear bb x_d v_d x_c v_c x_e v_e x_keep
    clear b56
    go_wp2_with fail
    rw [HLA.out, HLB.out]
    refine (mv_call V_e.out lvA lvB L2.out).mono ?_
    rw [lv_mv, lv_mvE]
    rintro e w62 ⟨dv62, rfl, va62, _, b62⟩
    have x_d := X_d.out.below b62; have v_d := V_d.out.below b62
    have x_c := X_c.out.below b62; have v_c := V_c.out.below b62
    have x_e := X_e.out.below b62; have v_e := V_e.out.below b62
    have x_keep := X_keep.out.below b62
    have bb := BB.out.trans (b62.mono BB.out.size)
    have G_m := Lib.hid bb.size
    obtain ⟨u62, hu62⟩ : ∃ u, u = (w62.alloc (.cells #[.int .i64 lvD6.size, .slice dv62.pE dv62.nE dv62.cE, .slice dv62.pW dv62.nW dv62.cW, .int .i64 lvD6.fuse, .bool lvD6.down] 25)) := ⟨_, rfl⟩
    have t62 : Below w62.heap.size w62 u62 := by rw [hu62]; exact (Below.refl _ _).alloc (Nat.le_refl _) _
    replace x_d := x_d.below t62; replace v_d := v_d.below t62
    replace x_c := x_c.below t62; replace v_c := v_c.below t62
    replace x_e := x_e.below t62; replace v_e := v_e.below t62
    replace x_keep := x_keep.below t62
    replace bb := bb.trans (t62.mono bb.size)
    have x_m : Boxed u62 w62.heap.size [.int .i64 lvD6.size, .slice dv62.pE dv62.nE dv62.cE, .slice dv62.pW dv62.nW dv62.cW, .int .i64 lvD6.fuse, .bool lvD6.down] := by rw [hu62]; exact Boxed.new w62 #[.int .i64 lvD6.size, .slice dv62.pE dv62.nE dv62.cE, .slice dv62.pW dv62.nW dv62.cW, .int .i64 lvD6.fuse, .bool lvD6.down] 25
    have v_m := va62.below t62
    have q63 : (w62.alloc (.cells #[.int .i64 lvD6.size, .slice dv62.pE dv62.nE dv62.cE, .slice dv62.pW dv62.nW dv62.cW, .int .i64 lvD6.fuse, .bool lvD6.down] 25)).cell? ⟨w62.heap.size, 0, none⟩ = some (.int .i64 lvD6.size) := by rw [← hu62]; exact x_m.cell 0 (by simp)
    have q64 : (w62.alloc (.cells #[.int .i64 lvD6.size, .slice dv62.pE dv62.nE dv62.cE, .slice dv62.pW dv62.nW dv62.cW, .int .i64 lvD6.fuse, .bool lvD6.down] 25)).cell? ⟨w62.heap.size, 1, none⟩ = some (.slice dv62.pE dv62.nE dv62.cE) := by rw [← hu62]; exact x_m.cell 1 (by simp)
    have q65 : (w62.alloc (.cells #[.int .i64 lvD6.size, .slice dv62.pE dv62.nE dv62.cE, .slice dv62.pW dv62.nW dv62.cW, .int .i64 lvD6.fuse, .bool lvD6.down] 25)).cell? ⟨w62.heap.size, 2, none⟩ = some (.slice dv62.pW dv62.nW dv62.cW) := by rw [← hu62]; exact x_m.cell 2 (by simp)
    have q66 : (w62.alloc (.cells #[.int .i64 lvD6.size, .slice dv62.pE dv62.nE dv62.cE, .slice dv62.pW dv62.nW dv62.cW, .int .i64 lvD6.fuse, .bool lvD6.down] 25)).cell? ⟨w62.heap.size, 3, none⟩ = some (.int .i64 lvD6.fuse) := by rw [← hu62]; exact x_m.cell 3 (by simp)
    have q67 : (w62.alloc (.cells #[.int .i64 lvD6.size, .slice dv62.pE dv62.nE dv62.cE, .slice dv62.pW dv62.nW dv62.cW, .int .i64 lvD6.fuse, .bool lvD6.down] 25)).cell? ⟨w62.heap.size, 4, none⟩ = some (.bool lvD6.down) := by rw [← hu62]; exact x_m.cell 4 (by simp)
    have HU62 := Lib.hid hu62
    have X_d := Lib.hid x_d; have V_d := Lib.hid v_d
    have X_c := Lib.hid x_c; have V_c := Lib.hid v_c
    have X_e := Lib.hid x_e; have V_e := Lib.hid v_e
    have X_m := Lib.hid x_m; have V_m := Lib.hid v_m
    have X_keep := Lib.hid x_keep
    have BB := Lib.hid bb
    clear bb x_d v_d x_c v_c x_e v_e x_m v_m x_keep
    clear b62 t62 hu62 va62
    go_wp2_with fail
    rw [← HU62.out]
    rw [HLB.out]
    refine (sc_call V_m.out lvB).mono ?_
    rw [lv_sc, lv_scE]
    rintro e w68 ⟨rfl, b68⟩
    have x_d := X_d.out.below b68; have v_d := V_d.out.below b68
    have x_c := X_c.out.below b68; have v_c := V_c.out.below b68
    have x_e := X_e.out.below b68; have v_e := V_e.out.below b68
    have x_m := X_m.out.below b68; have v_m := V_m.out.below b68
    have x_keep := X_keep.out.below b68
    have bb := BB.out.trans (b68.mono BB.out.size)
    have q69 : w68.cell? ⟨w62.heap.size, 0, none⟩ = some (.int .i64 lvD6.size) := by exact x_m.cell 0 (by simp)
    have q70 : w68.cell? ⟨w62.heap.size, 1, none⟩ = some (.slice dv62.pE dv62.nE dv62.cE) := by exact x_m.cell 1 (by simp)
    have q71 : w68.cell? ⟨w62.heap.size, 2, none⟩ = some (.slice dv62.pW dv62.nW dv62.cW) := by exact x_m.cell 2 (by simp)
    have q72 : w68.cell? ⟨w62.heap.size, 3, none⟩ = some (.int .i64 lvD6.fuse) := by exact x_m.cell 3 (by simp)
    have q73 : w68.cell? ⟨w62.heap.size, 4, none⟩ = some (.bool lvD6.down) := by exact x_m.cell 4 (by simp)
    have X_d := Lib.hid x_d; have V_d := Lib.hid v_d
    have X_c := Lib.hid x_c; have V_c := Lib.hid v_c
    have X_e := Lib.hid x_e; have V_e := Lib.hid v_e
    have X_m := Lib.hid x_m; have V_m := Lib.hid v_m
    have X_keep := Lib.hid x_keep
    have BB := Lib.hid bb
    clear bb x_d v_d x_c v_c x_e v_e x_m v_m x_keep
    clear b68
    go_wp2_with fail
    rw [HLB.out]
    obtain ⟨u74, hu74⟩ : ∃ u, u = (w68.alloc (.cells #[.string lvB] 9)) := ⟨_, rfl⟩
    have t74 : Below w68.heap.size w68 u74 := by rw [hu74]; exact (Below.refl _ _).alloc (Nat.le_refl _) _
    have x_d := X_d.out.below t74; have v_d := V_d.out.below t74
    have x_c := X_c.out.below t74; have v_c := V_c.out.below t74
    have x_e := X_e.out.below t74; have v_e := V_e.out.below t74
    have x_m := X_m.out.below t74; have v_m := V_m.out.below t74
    have x_keep := X_keep.out.below t74
    have bb := BB.out.trans (t74.mono BB.out.size)
    have x_names : Boxed u74 w68.heap.size [.string lvB] := by rw [hu74]; exact Boxed.new w68 #[.string lvB] 9
    have HU74 := Lib.hid hu74
    have X_d := Lib.hid x_d; have V_d := Lib.hid v_d
    have X_c := Lib.hid x_c; have V_c := Lib.hid v_c
    have X_e := Lib.hid x_e; have V_e := Lib.hid v_e
    have X_m := Lib.hid x_m; have V_m := Lib.hid v_m
    have X_keep := Lib.hid x_keep
    have X_names := Lib.hid x_names
    have BB := Lib.hid bb
    clear bb x_d v_d x_c v_c x_e v_e x_m v_m x_keep x_names
    clear t74 hu74
    rw [← HU74.out]
    refine (fr_call V_m.out [lvB] _ 1 1 rfl (rd_boxed X_names.out) (fun i hi => by simp at hi; subst hi; exact L2.out) (by omega)).mono ?_
    rw [lv_fr, lv_frE]
    rintro e w75 ⟨dv75, rfl, va75, _, b75⟩
    have x_d := X_d.out.below b75; have v_d := V_d.out.below b75
    have x_c := X_c.out.below b75; have v_c := V_c.out.below b75
    have x_e := X_e.out.below b75; have v_e := V_e.out.below b75
    have x_m := X_m.out.below b75; have v_m := V_m.out.below b75
    have x_keep := X_keep.out.below b75
    have x_names := X_names.out.below b75
    have bb := BB.out.trans (b75.mono BB.out.size)
    have G_f := Lib.hid bb.size
    obtain ⟨u75, hu75⟩ : ∃ u, u = (w75.alloc (.cells #[.int .i64 lvD0.size, .slice dv75.pE dv75.nE dv75.cE, .slice dv75.pW dv75.nW dv75.cW, .int .i64 lvD0.fuse, .bool lvD0.down] 25)) := ⟨_, rfl⟩
    have t75 : Below w75.heap.size w75 u75 := by rw [hu75]; exact (Below.refl _ _).alloc (Nat.le_refl _) _
    replace x_d := x_d.below t75; replace v_d := v_d.below t75
    replace x_c := x_c.below t75; replace v_c := v_c.below t75
    replace x_e := x_e.below t75; replace v_e := v_e.below t75
    replace x_m := x_m.below t75; replace v_m := v_m.below t75
    replace x_keep := x_keep.below t75
    replace x_names := x_names.below t75
    replace bb := bb.trans (t75.mono bb.size)
    have x_f : Boxed u75 w75.heap.size [.int .i64 lvD0.size, .slice dv75.pE dv75.nE dv75.cE, .slice dv75.pW dv75.nW dv75.cW, .int .i64 lvD0.fuse, .bool lvD0.down] := by rw [hu75]; exact Boxed.new w75 #[.int .i64 lvD0.size, .slice dv75.pE dv75.nE dv75.cE, .slice dv75.pW dv75.nW dv75.cW, .int .i64 lvD0.fuse, .bool lvD0.down] 25
    have v_f := va75.below t75
    have q76 : (w75.alloc (.cells #[.int .i64 lvD0.size, .slice dv75.pE dv75.nE dv75.cE, .slice dv75.pW dv75.nW dv75.cW, .int .i64 lvD0.fuse, .bool lvD0.down] 25)).cell? ⟨w75.heap.size, 0, none⟩ = some (.int .i64 lvD0.size) := by rw [← hu75]; exact x_f.cell 0 (by simp)
    have q77 : (w75.alloc (.cells #[.int .i64 lvD0.size, .slice dv75.pE dv75.nE dv75.cE, .slice dv75.pW dv75.nW dv75.cW, .int .i64 lvD0.fuse, .bool lvD0.down] 25)).cell? ⟨w75.heap.size, 1, none⟩ = some (.slice dv75.pE dv75.nE dv75.cE) := by rw [← hu75]; exact x_f.cell 1 (by simp)
    have q78 : (w75.alloc (.cells #[.int .i64 lvD0.size, .slice dv75.pE dv75.nE dv75.cE, .slice dv75.pW dv75.nW dv75.cW, .int .i64 lvD0.fuse, .bool lvD0.down] 25)).cell? ⟨w75.heap.size, 2, none⟩ = some (.slice dv75.pW dv75.nW dv75.cW) := by rw [← hu75]; exact x_f.cell 2 (by simp)
    have q79 : (w75.alloc (.cells #[.int .i64 lvD0.size, .slice dv75.pE dv75.nE dv75.cE, .slice dv75.pW dv75.nW dv75.cW, .int .i64 lvD0.fuse, .bool lvD0.down] 25)).cell? ⟨w75.heap.size, 3, none⟩ = some (.int .i64 lvD0.fuse) := by rw [← hu75]; exact x_f.cell 3 (by simp)
    have q80 : (w75.alloc (.cells #[.int .i64 lvD0.size, .slice dv75.pE dv75.nE dv75.cE, .slice dv75.pW dv75.nW dv75.cW, .int .i64 lvD0.fuse, .bool lvD0.down] 25)).cell? ⟨w75.heap.size, 4, none⟩ = some (.bool lvD0.down) := by rw [← hu75]; exact x_f.cell 4 (by simp)
    have HU75 := Lib.hid hu75
    have X_d := Lib.hid x_d; have V_d := Lib.hid v_d
    have X_c := Lib.hid x_c; have V_c := Lib.hid v_c
    have X_e := Lib.hid x_e; have V_e := Lib.hid v_e
    have X_m := Lib.hid x_m; have V_m := Lib.hid v_m
    have X_f := Lib.hid x_f; have V_f := Lib.hid v_f
    have X_keep := Lib.hid x_keep
    have X_names := Lib.hid x_names
    have BB := Lib.hid bb
    clear bb x_d v_d x_c v_c x_e v_e x_m v_m x_f v_f x_keep x_names
    clear b75 t75 hu75 va75
    go_wp2_with fail
    rw [← HU75.out]
    rw [HLC.out]
    refine (nw_call V_f.out lvC 5 L3.out).mono ?_
    rw [lv_nwD5, lv_nw5]
    rintro e w81 ⟨dv81, rfl, va81, _, b81⟩
    have x_d := X_d.out.below b81; have v_d := V_d.out.below b81
    have x_c := X_c.out.below b81; have v_c := V_c.out.below b81
    have x_e := X_e.out.below b81; have v_e := V_e.out.below b81
    have x_m := X_m.out.below b81; have v_m := V_m.out.below b81
    have x_f := X_f.out.below b81; have v_f := V_f.out.below b81
    have x_keep := X_keep.out.below b81
    have x_names := X_names.out.below b81
    have bb := BB.out.trans (b81.mono BB.out.size)
    have G_x := Lib.hid bb.size
    obtain ⟨u81, hu81⟩ : ∃ u, u = (w81.alloc (.cells #[.int .i64 lvD0.size, .slice dv81.pE dv81.nE dv81.cE, .slice dv81.pW dv81.nW dv81.cW, .int .i64 lvD0.fuse, .bool lvD0.down] 25)) := ⟨_, rfl⟩
    have t81 : Below w81.heap.size w81 u81 := by rw [hu81]; exact (Below.refl _ _).alloc (Nat.le_refl _) _
    replace x_d := x_d.below t81; replace v_d := v_d.below t81
    replace x_c := x_c.below t81; replace v_c := v_c.below t81
    replace x_e := x_e.below t81; replace v_e := v_e.below t81
    replace x_m := x_m.below t81; replace v_m := v_m.below t81
    replace x_f := x_f.below t81; replace v_f := v_f.below t81
    replace x_keep := x_keep.below t81
    replace x_names := x_names.below t81
    replace bb := bb.trans (t81.mono bb.size)
    have x_x : Boxed u81 w81.heap.size [.int .i64 lvD0.size, .slice dv81.pE dv81.nE dv81.cE, .slice dv81.pW dv81.nW dv81.cW, .int .i64 lvD0.fuse, .bool lvD0.down] := by rw [hu81]; exact Boxed.new w81 #[.int .i64 lvD0.size, .slice dv81.pE dv81.nE dv81.cE, .slice dv81.pW dv81.nW dv81.cW, .int .i64 lvD0.fuse, .bool lvD0.down] 25
    have v_x := va81.below t81
    have q82 : (w81.alloc (.cells #[.int .i64 lvD0.size, .slice dv81.pE dv81.nE dv81.cE, .slice dv81.pW dv81.nW dv81.cW, .int .i64 lvD0.fuse, .bool lvD0.down] 25)).cell? ⟨w50.heap.size, 0, none⟩ = some (.int .i64 lvD5.size) := by rw [← hu81]; exact x_e.cell 0 (by simp)
    have q83 : (w81.alloc (.cells #[.int .i64 lvD0.size, .slice dv81.pE dv81.nE dv81.cE, .slice dv81.pW dv81.nW dv81.cW, .int .i64 lvD0.fuse, .bool lvD0.down] 25)).cell? ⟨w50.heap.size, 1, none⟩ = some (.slice dv50.pE dv50.nE dv50.cE) := by rw [← hu81]; exact x_e.cell 1 (by simp)
    have q84 : (w81.alloc (.cells #[.int .i64 lvD0.size, .slice dv81.pE dv81.nE dv81.cE, .slice dv81.pW dv81.nW dv81.cW, .int .i64 lvD0.fuse, .bool lvD0.down] 25)).cell? ⟨w50.heap.size, 2, none⟩ = some (.slice dv50.pW dv50.nW dv50.cW) := by rw [← hu81]; exact x_e.cell 2 (by simp)
    have q85 : (w81.alloc (.cells #[.int .i64 lvD0.size, .slice dv81.pE dv81.nE dv81.cE, .slice dv81.pW dv81.nW dv81.cW, .int .i64 lvD0.fuse, .bool lvD0.down] 25)).cell? ⟨w50.heap.size, 3, none⟩ = some (.int .i64 lvD5.fuse) := by rw [← hu81]; exact x_e.cell 3 (by simp)
    have q86 : (w81.alloc (.cells #[.int .i64 lvD0.size, .slice dv81.pE dv81.nE dv81.cE, .slice dv81.pW dv81.nW dv81.cW, .int .i64 lvD0.fuse, .bool lvD0.down] 25)).cell? ⟨w50.heap.size, 4, none⟩ = some (.bool lvD5.down) := by rw [← hu81]; exact x_e.cell 4 (by simp)
    have HU81 := Lib.hid hu81
    have X_d := Lib.hid x_d; have V_d := Lib.hid v_d
    have X_c := Lib.hid x_c; have V_c := Lib.hid v_c
    have X_e := Lib.hid x_e; have V_e := Lib.hid v_e
    have X_m := Lib.hid x_m; have V_m := Lib.hid v_m
    have X_f := Lib.hid x_f; have V_f := Lib.hid v_f
    have X_x := Lib.hid x_x; have V_x := Lib.hid v_x
    have X_keep := Lib.hid x_keep
    have X_names := Lib.hid x_names
    have BB := Lib.hid bb
    clear bb x_d v_d x_c v_c x_e v_e x_m v_m x_f v_f x_x v_x x_keep x_names
    clear b81 t81 hu81 va81
    go_wp2_with fail
    rw [← HU81.out]
    refine (zeros1 _).mono ?_
    rintro e w87 ⟨rfl, b87⟩
    have x_d := X_d.out.below b87; have v_d := V_d.out.below b87
    have x_c := X_c.out.below b87; have v_c := V_c.out.below b87
    have x_e := X_e.out.below b87; have v_e := V_e.out.below b87
    have x_m := X_m.out.below b87; have v_m := V_m.out.below b87
    have x_f := X_f.out.below b87; have v_f := V_f.out.below b87
    have x_x := X_x.out.below b87; have v_x := V_x.out.below b87
    have x_keep := X_keep.out.below b87
    have x_names := X_names.out.below b87
    have bb := BB.out.trans (b87.mono BB.out.size)
    have q88 : w87.cell? ⟨w50.heap.size, 0, none⟩ = some (.int .i64 lvD5.size) := by exact x_e.cell 0 (by simp)
    have q89 : w87.cell? ⟨w50.heap.size, 1, none⟩ = some (.slice dv50.pE dv50.nE dv50.cE) := by exact x_e.cell 1 (by simp)
    have q90 : w87.cell? ⟨w50.heap.size, 2, none⟩ = some (.slice dv50.pW dv50.nW dv50.cW) := by exact x_e.cell 2 (by simp)
    have q91 : w87.cell? ⟨w50.heap.size, 3, none⟩ = some (.int .i64 lvD5.fuse) := by exact x_e.cell 3 (by simp)
    have q92 : w87.cell? ⟨w50.heap.size, 4, none⟩ = some (.bool lvD5.down) := by exact x_e.cell 4 (by simp)
    have X_d := Lib.hid x_d; have V_d := Lib.hid v_d
    have X_c := Lib.hid x_c; have V_c := Lib.hid v_c
    have X_e := Lib.hid x_e; have V_e := Lib.hid v_e
    have X_m := Lib.hid x_m; have V_m := Lib.hid v_m
    have X_f := Lib.hid x_f; have V_f := Lib.hid v_f
    have X_x := Lib.hid x_x; have V_x := Lib.hid v_x
    have X_keep := Lib.hid x_keep
    have X_names := Lib.hid x_names
    have BB := Lib.hid bb
    clear bb x_d v_d x_c v_c x_e v_e x_m v_m x_f v_f x_x v_x x_keep x_names
    clear b87
    go_wp2_with fail
    refine (ck_call V_e.out).mono ?_
    rw [lv_ck5]
    rintro e w93 ⟨rfl, b93⟩
    have x_d := X_d.out.below b93; have v_d := V_d.out.below b93
    have x_c := X_c.out.below b93; have v_c := V_c.out.below b93
    have x_e := X_e.out.below b93; have v_e := V_e.out.below b93
    have x_m := X_m.out.below b93; have v_m := V_m.out.below b93
    have x_f := X_f.out.below b93; have v_f := V_f.out.below b93
    have x_x := X_x.out.below b93; have v_x := V_x.out.below b93
    have x_keep := X_keep.out.below b93
    have x_names := X_names.out.below b93
    have bb := BB.out.trans (b93.mono BB.out.size)
    have X_d := Lib.hid x_d; have V_d := Lib.hid v_d
    have X_c := Lib.hid x_c; have V_c := Lib.hid v_c
    have X_e := Lib.hid x_e; have V_e := Lib.hid v_e
    have X_m := Lib.hid x_m; have V_m := Lib.hid v_m
    have X_f := Lib.hid x_f; have V_f := Lib.hid v_f
    have X_x := Lib.hid x_x; have V_x := Lib.hid v_x
    have X_keep := Lib.hid x_keep
    have X_names := Lib.hid x_names
    have BB := Lib.hid bb
    clear bb x_d v_d x_c v_c x_e v_e x_m v_m x_f v_f x_x v_x x_keep x_names
    clear b93
    go_wp2_with fail
    go_ret
    exact ⟨rfl, BB.out⟩
end Go.Proofs.Ytejmbbhbimgheaa.Dk

/- DiskExtents: the law. -/
import Derived.Test.YtejmbbhbimgheaaDkLives
import Derived.Test.YtejmbbhbimgheaaDkOpenC
import Derived.Test.YtejmbbhbimgheaaDkRefQ
namespace Go.Proofs.Ytejmbbhbimgheaa.Dk
open Go.RowKit Go.Op

set_option maxHeartbeats 32000000 in
set_option maxRecDepth 100000 in
theorem extents_law (D : Dsk) (dv : DVal) (nm to : ByteArray) (s : Int) (N : List ByteArray) (pN : Option Addr) (cN : Nat) (w : World) (hv : VarAt w D dv) (hcap : dv.nE ≤ dv.cE) (hf : Few D) (h1 : nm.size ≤ 140737488355328) (h2 : to.size ≤ 140737488355328) (hN : Rw.Rd w pN (strs N)) (hNs : ∀ i, i < N.length → (N.getD i default).size ≤ 140737488355328) (hNl : N.length ≤ 140737488355328) :
    Calls Try.prog 3 #[dval D dv, .string nm, .string to, .int .i64 s, .slice pN N.length cN] w fun e w' => e = .returned (.bool true) ∧ Below w.heap.size w w' := by
  unfold dval
  obtain ⟨u0, hu0⟩ : ∃ u, u = (w.alloc (.cells #[.int .i64 D.size, .slice dv.pE dv.nE dv.cE, .slice dv.pW dv.nW dv.cW, .int .i64 D.fuse, .bool D.down] 25)) := ⟨_, rfl⟩
  have t0 : Below w.heap.size w u0 := by rw [hu0]; exact (Below.refl _ _).alloc (Nat.le_refl _) _
  have X_d : Hid (Boxed u0 w.heap.size [.int .i64 D.size, .slice dv.pE dv.nE dv.cE, .slice dv.pW dv.nW dv.cW, .int .i64 D.fuse, .bool D.down]) := Lib.hid (by rw [hu0]; exact Boxed.new w #[.int .i64 D.size, .slice dv.pE dv.nE dv.cE, .slice dv.pW dv.nW dv.cW, .int .i64 D.fuse, .bool D.down] 25)
  have V_d := Lib.hid (hv.below t0)
  have BB := Lib.hid t0
  have HU0 := Lib.hid hu0
  obtain ⟨Da, hDa⟩ : ∃ x, x = nwD D nm s := ⟨_, rfl⟩
  obtain ⟨ea, hea⟩ : ∃ x, x = nwE D nm s := ⟨_, rfl⟩
  obtain ⟨Dc, hDc⟩ : ∃ x, x = frD D N := ⟨_, rfl⟩
  obtain ⟨ec, hec⟩ : ∃ x, x = frE D N := ⟨_, rfl⟩
  obtain ⟨Df, hDf⟩ : ∃ x, x = mvD D nm to := ⟨_, rfl⟩
  obtain ⟨ef, hef⟩ : ∃ x, x = mvE D nm to := ⟨_, rfl⟩
  obtain ⟨rn, hrn⟩ : ∃ x, x = rmA D := ⟨_, rfl⟩
  obtain ⟨re, hre⟩ : ∃ x, x = rdy D := ⟨_, rfl⟩
  obtain ⟨sn, hsn⟩ : ∃ x, x = scA D nm := ⟨_, rfl⟩
  obtain ⟨se, hse⟩ : ∃ x, x = scE D nm := ⟨_, rfl⟩
  obtain ⟨ck, hck⟩ : ∃ x, x = ckE D := ⟨_, rfl⟩
  have HDA := Lib.hid hDa.symm; have HEA := Lib.hid hea.symm; have HDC := Lib.hid hDc.symm; have HEC := Lib.hid hec.symm
  have HDF := Lib.hid hDf.symm; have HEF := Lib.hid hef.symm; have HRN := Lib.hid hrn.symm; have HRE := Lib.hid hre.symm
  have HSN := Lib.hid hsn.symm; have HSE := Lib.hid hse.symm; have HCK := Lib.hid hck.symm
  have HCAP := Lib.hid hcap
  have HRK : Hid (∀ W, Below w.heap.size w W → Rw.Rd W pN (strs N)) := Lib.hid (fun W hb => hN.below hb)
  obtain ⟨nN, hnN⟩ : ∃ n, n = N.length := ⟨_, rfl⟩
  rw [← hnN] at hNl ⊢
  have HNN := Lib.hid hnN; have HNS := Lib.hid hNs
  clear hDa hea hDc hec hDf hef hrn hre hsn hse hck hu0 t0 hv hcap hN hnN hNs
  go_enter Try.func3, Try.ntmps3
  go_wp2_with fail
  rw [← HU0.out]
  refine (rCopy_any D dv _ V_d.out hf).mono ?_
  rintro e w1 ⟨dv1, rfl, ow1, b1⟩
  have va1 := ow1.at
  have HC_g := Lib.hid (own_capV ow1.E)
  have x_d := X_d.out.below b1; have v_d := V_d.out.below b1
  have bb := BB.out.trans (b1.mono BB.out.size)
  have G_g := Lib.hid bb.size
  obtain ⟨u1, hu1⟩ : ∃ u, u = (w1.alloc (.cells #[.int .i64 D.size, .slice dv1.pE dv1.nE dv1.cE, .slice dv1.pW dv1.nW dv1.cW, .int .i64 D.fuse, .bool D.down] 25)) := ⟨_, rfl⟩
  have t1 : Below w1.heap.size w1 u1 := by rw [hu1]; exact (Below.refl _ _).alloc (Nat.le_refl _) _
  replace x_d := x_d.below t1; replace v_d := v_d.below t1
  replace bb := bb.trans (t1.mono bb.size)
  have x_g : Boxed u1 w1.heap.size [.int .i64 D.size, .slice dv1.pE dv1.nE dv1.cE, .slice dv1.pW dv1.nW dv1.cW, .int .i64 D.fuse, .bool D.down] := by rw [hu1]; exact Boxed.new w1 #[.int .i64 D.size, .slice dv1.pE dv1.nE dv1.cE, .slice dv1.pW dv1.nW dv1.cW, .int .i64 D.fuse, .bool D.down] 25
  have v_g := va1.below t1
  have q2 : (w1.alloc (.cells #[.int .i64 D.size, .slice dv1.pE dv1.nE dv1.cE, .slice dv1.pW dv1.nW dv1.cW, .int .i64 D.fuse, .bool D.down] 25)).cell? ⟨w1.heap.size, 0, none⟩ = some (.int .i64 D.size) := by rw [← hu1]; exact x_g.cell 0 (by simp)
  have q3 : (w1.alloc (.cells #[.int .i64 D.size, .slice dv1.pE dv1.nE dv1.cE, .slice dv1.pW dv1.nW dv1.cW, .int .i64 D.fuse, .bool D.down] 25)).cell? ⟨w1.heap.size, 1, none⟩ = some (.slice dv1.pE dv1.nE dv1.cE) := by rw [← hu1]; exact x_g.cell 1 (by simp)
  have q4 : (w1.alloc (.cells #[.int .i64 D.size, .slice dv1.pE dv1.nE dv1.cE, .slice dv1.pW dv1.nW dv1.cW, .int .i64 D.fuse, .bool D.down] 25)).cell? ⟨w1.heap.size, 2, none⟩ = some (.slice dv1.pW dv1.nW dv1.cW) := by rw [← hu1]; exact x_g.cell 2 (by simp)
  have q5 : (w1.alloc (.cells #[.int .i64 D.size, .slice dv1.pE dv1.nE dv1.cE, .slice dv1.pW dv1.nW dv1.cW, .int .i64 D.fuse, .bool D.down] 25)).cell? ⟨w1.heap.size, 3, none⟩ = some (.int .i64 D.fuse) := by rw [← hu1]; exact x_g.cell 3 (by simp)
  have q6 : (w1.alloc (.cells #[.int .i64 D.size, .slice dv1.pE dv1.nE dv1.cE, .slice dv1.pW dv1.nW dv1.cW, .int .i64 D.fuse, .bool D.down] 25)).cell? ⟨w1.heap.size, 4, none⟩ = some (.bool D.down) := by rw [← hu1]; exact x_g.cell 4 (by simp)
  have q7 : (w1.alloc (.cells #[.int .i64 D.size, .slice dv1.pE dv1.nE dv1.cE, .slice dv1.pW dv1.nW dv1.cW, .int .i64 D.fuse, .bool D.down] 25)).cell? ⟨w.heap.size, 0, none⟩ = some (.int .i64 D.size) := by rw [← hu1]; exact x_d.cell 0 (by simp)
  have q8 : (w1.alloc (.cells #[.int .i64 D.size, .slice dv1.pE dv1.nE dv1.cE, .slice dv1.pW dv1.nW dv1.cW, .int .i64 D.fuse, .bool D.down] 25)).cell? ⟨w.heap.size, 1, none⟩ = some (.slice dv.pE dv.nE dv.cE) := by rw [← hu1]; exact x_d.cell 1 (by simp)
  have q9 : (w1.alloc (.cells #[.int .i64 D.size, .slice dv1.pE dv1.nE dv1.cE, .slice dv1.pW dv1.nW dv1.cW, .int .i64 D.fuse, .bool D.down] 25)).cell? ⟨w.heap.size, 2, none⟩ = some (.slice dv.pW dv.nW dv.cW) := by rw [← hu1]; exact x_d.cell 2 (by simp)
  have q10 : (w1.alloc (.cells #[.int .i64 D.size, .slice dv1.pE dv1.nE dv1.cE, .slice dv1.pW dv1.nW dv1.cW, .int .i64 D.fuse, .bool D.down] 25)).cell? ⟨w.heap.size, 3, none⟩ = some (.int .i64 D.fuse) := by rw [← hu1]; exact x_d.cell 3 (by simp)
  have q11 : (w1.alloc (.cells #[.int .i64 D.size, .slice dv1.pE dv1.nE dv1.cE, .slice dv1.pW dv1.nW dv1.cW, .int .i64 D.fuse, .bool D.down] 25)).cell? ⟨w.heap.size, 4, none⟩ = some (.bool D.down) := by rw [← hu1]; exact x_d.cell 4 (by simp)
  have HU1 := Lib.hid hu1
  have X_d := Lib.hid x_d; have V_d := Lib.hid v_d
  have X_g := Lib.hid x_g; have V_g := Lib.hid v_g
  have BB := Lib.hid bb
  clear bb x_d v_d x_g v_g
  clear b1 t1 hu1 va1 ow1
  go_wp2_with fail
  rw [← HU1.out]
  refine (nw_call V_g.out nm s h1).mono ?_
  rw [HDA.out, HEA.out]
  rintro e w12 ⟨dv12, rfl, va12, _, b12⟩
  have x_d := X_d.out.below b12; have v_d := V_d.out.below b12
  have x_g := X_g.out.below b12; have v_g := V_g.out.below b12
  have bb := BB.out.trans (b12.mono BB.out.size)
  have G_a := Lib.hid bb.size
  obtain ⟨u12, hu12⟩ : ∃ u, u = (w12.alloc (.cells #[.int .i64 Da.size, .slice dv12.pE dv12.nE dv12.cE, .slice dv12.pW dv12.nW dv12.cW, .int .i64 Da.fuse, .bool Da.down] 25)) := ⟨_, rfl⟩
  have t12 : Below w12.heap.size w12 u12 := by rw [hu12]; exact (Below.refl _ _).alloc (Nat.le_refl _) _
  replace x_d := x_d.below t12; replace v_d := v_d.below t12
  replace x_g := x_g.below t12; replace v_g := v_g.below t12
  replace bb := bb.trans (t12.mono bb.size)
  have x_a : Boxed u12 w12.heap.size [.int .i64 Da.size, .slice dv12.pE dv12.nE dv12.cE, .slice dv12.pW dv12.nW dv12.cW, .int .i64 Da.fuse, .bool Da.down] := by rw [hu12]; exact Boxed.new w12 #[.int .i64 Da.size, .slice dv12.pE dv12.nE dv12.cE, .slice dv12.pW dv12.nW dv12.cW, .int .i64 Da.fuse, .bool Da.down] 25
  have v_a := va12.below t12
  have q13 : (w12.alloc (.cells #[.int .i64 Da.size, .slice dv12.pE dv12.nE dv12.cE, .slice dv12.pW dv12.nW dv12.cW, .int .i64 Da.fuse, .bool Da.down] 25)).cell? ⟨w1.heap.size, 0, none⟩ = some (.int .i64 D.size) := by rw [← hu12]; exact x_g.cell 0 (by simp)
  have q14 : (w12.alloc (.cells #[.int .i64 Da.size, .slice dv12.pE dv12.nE dv12.cE, .slice dv12.pW dv12.nW dv12.cW, .int .i64 Da.fuse, .bool Da.down] 25)).cell? ⟨w1.heap.size, 1, none⟩ = some (.slice dv1.pE dv1.nE dv1.cE) := by rw [← hu12]; exact x_g.cell 1 (by simp)
  have q15 : (w12.alloc (.cells #[.int .i64 Da.size, .slice dv12.pE dv12.nE dv12.cE, .slice dv12.pW dv12.nW dv12.cW, .int .i64 Da.fuse, .bool Da.down] 25)).cell? ⟨w1.heap.size, 2, none⟩ = some (.slice dv1.pW dv1.nW dv1.cW) := by rw [← hu12]; exact x_g.cell 2 (by simp)
  have q16 : (w12.alloc (.cells #[.int .i64 Da.size, .slice dv12.pE dv12.nE dv12.cE, .slice dv12.pW dv12.nW dv12.cW, .int .i64 Da.fuse, .bool Da.down] 25)).cell? ⟨w1.heap.size, 3, none⟩ = some (.int .i64 D.fuse) := by rw [← hu12]; exact x_g.cell 3 (by simp)
  have q17 : (w12.alloc (.cells #[.int .i64 Da.size, .slice dv12.pE dv12.nE dv12.cE, .slice dv12.pW dv12.nW dv12.cW, .int .i64 Da.fuse, .bool Da.down] 25)).cell? ⟨w1.heap.size, 4, none⟩ = some (.bool D.down) := by rw [← hu12]; exact x_g.cell 4 (by simp)
  have q18 : (w12.alloc (.cells #[.int .i64 Da.size, .slice dv12.pE dv12.nE dv12.cE, .slice dv12.pW dv12.nW dv12.cW, .int .i64 Da.fuse, .bool Da.down] 25)).cell? ⟨w.heap.size, 0, none⟩ = some (.int .i64 D.size) := by rw [← hu12]; exact x_d.cell 0 (by simp)
  have q19 : (w12.alloc (.cells #[.int .i64 Da.size, .slice dv12.pE dv12.nE dv12.cE, .slice dv12.pW dv12.nW dv12.cW, .int .i64 Da.fuse, .bool Da.down] 25)).cell? ⟨w.heap.size, 1, none⟩ = some (.slice dv.pE dv.nE dv.cE) := by rw [← hu12]; exact x_d.cell 1 (by simp)
  have q20 : (w12.alloc (.cells #[.int .i64 Da.size, .slice dv12.pE dv12.nE dv12.cE, .slice dv12.pW dv12.nW dv12.cW, .int .i64 Da.fuse, .bool Da.down] 25)).cell? ⟨w.heap.size, 2, none⟩ = some (.slice dv.pW dv.nW dv.cW) := by rw [← hu12]; exact x_d.cell 2 (by simp)
  have q21 : (w12.alloc (.cells #[.int .i64 Da.size, .slice dv12.pE dv12.nE dv12.cE, .slice dv12.pW dv12.nW dv12.cW, .int .i64 Da.fuse, .bool Da.down] 25)).cell? ⟨w.heap.size, 3, none⟩ = some (.int .i64 D.fuse) := by rw [← hu12]; exact x_d.cell 3 (by simp)
  have q22 : (w12.alloc (.cells #[.int .i64 Da.size, .slice dv12.pE dv12.nE dv12.cE, .slice dv12.pW dv12.nW dv12.cW, .int .i64 Da.fuse, .bool Da.down] 25)).cell? ⟨w.heap.size, 4, none⟩ = some (.bool D.down) := by rw [← hu12]; exact x_d.cell 4 (by simp)
  have HU12 := Lib.hid hu12
  have X_d := Lib.hid x_d; have V_d := Lib.hid v_d
  have X_g := Lib.hid x_g; have V_g := Lib.hid v_g
  have X_a := Lib.hid x_a; have V_a := Lib.hid v_a
  have BB := Lib.hid bb
  clear bb x_d v_d x_g v_g x_a v_a
  clear b12 t12 hu12 va12
  go_wp2_with fail
  rw [← HU12.out]
  refine (rNew_any D dv nm s _ V_d.out HCAP.out hf h1).mono ?_
  rw [HDA.out, HEA.out]
  rintro e w23 ⟨dv23, rfl, va23, _, b23⟩
  have x_d := X_d.out.below b23; have v_d := V_d.out.below b23
  have x_g := X_g.out.below b23; have v_g := V_g.out.below b23
  have x_a := X_a.out.below b23; have v_a := V_a.out.below b23
  have bb := BB.out.trans (b23.mono BB.out.size)
  have G_b := Lib.hid bb.size
  obtain ⟨u23, hu23⟩ : ∃ u, u = (w23.alloc (.cells #[.int .i64 Da.size, .slice dv23.pE dv23.nE dv23.cE, .slice dv23.pW dv23.nW dv23.cW, .int .i64 Da.fuse, .bool Da.down] 25)) := ⟨_, rfl⟩
  have t23 : Below w23.heap.size w23 u23 := by rw [hu23]; exact (Below.refl _ _).alloc (Nat.le_refl _) _
  replace x_d := x_d.below t23; replace v_d := v_d.below t23
  replace x_g := x_g.below t23; replace v_g := v_g.below t23
  replace x_a := x_a.below t23; replace v_a := v_a.below t23
  replace bb := bb.trans (t23.mono bb.size)
  have x_b : Boxed u23 w23.heap.size [.int .i64 Da.size, .slice dv23.pE dv23.nE dv23.cE, .slice dv23.pW dv23.nW dv23.cW, .int .i64 Da.fuse, .bool Da.down] := by rw [hu23]; exact Boxed.new w23 #[.int .i64 Da.size, .slice dv23.pE dv23.nE dv23.cE, .slice dv23.pW dv23.nW dv23.cW, .int .i64 Da.fuse, .bool Da.down] 25
  have v_b := va23.below t23
  have q24 : (w23.alloc (.cells #[.int .i64 Da.size, .slice dv23.pE dv23.nE dv23.cE, .slice dv23.pW dv23.nW dv23.cW, .int .i64 Da.fuse, .bool Da.down] 25)).cell? ⟨w1.heap.size, 0, none⟩ = some (.int .i64 D.size) := by rw [← hu23]; exact x_g.cell 0 (by simp)
  have q25 : (w23.alloc (.cells #[.int .i64 Da.size, .slice dv23.pE dv23.nE dv23.cE, .slice dv23.pW dv23.nW dv23.cW, .int .i64 Da.fuse, .bool Da.down] 25)).cell? ⟨w1.heap.size, 1, none⟩ = some (.slice dv1.pE dv1.nE dv1.cE) := by rw [← hu23]; exact x_g.cell 1 (by simp)
  have q26 : (w23.alloc (.cells #[.int .i64 Da.size, .slice dv23.pE dv23.nE dv23.cE, .slice dv23.pW dv23.nW dv23.cW, .int .i64 Da.fuse, .bool Da.down] 25)).cell? ⟨w1.heap.size, 2, none⟩ = some (.slice dv1.pW dv1.nW dv1.cW) := by rw [← hu23]; exact x_g.cell 2 (by simp)
  have q27 : (w23.alloc (.cells #[.int .i64 Da.size, .slice dv23.pE dv23.nE dv23.cE, .slice dv23.pW dv23.nW dv23.cW, .int .i64 Da.fuse, .bool Da.down] 25)).cell? ⟨w1.heap.size, 3, none⟩ = some (.int .i64 D.fuse) := by rw [← hu23]; exact x_g.cell 3 (by simp)
  have q28 : (w23.alloc (.cells #[.int .i64 Da.size, .slice dv23.pE dv23.nE dv23.cE, .slice dv23.pW dv23.nW dv23.cW, .int .i64 Da.fuse, .bool Da.down] 25)).cell? ⟨w1.heap.size, 4, none⟩ = some (.bool D.down) := by rw [← hu23]; exact x_g.cell 4 (by simp)
  have q29 : (w23.alloc (.cells #[.int .i64 Da.size, .slice dv23.pE dv23.nE dv23.cE, .slice dv23.pW dv23.nW dv23.cW, .int .i64 Da.fuse, .bool Da.down] 25)).cell? ⟨w.heap.size, 0, none⟩ = some (.int .i64 D.size) := by rw [← hu23]; exact x_d.cell 0 (by simp)
  have q30 : (w23.alloc (.cells #[.int .i64 Da.size, .slice dv23.pE dv23.nE dv23.cE, .slice dv23.pW dv23.nW dv23.cW, .int .i64 Da.fuse, .bool Da.down] 25)).cell? ⟨w.heap.size, 1, none⟩ = some (.slice dv.pE dv.nE dv.cE) := by rw [← hu23]; exact x_d.cell 1 (by simp)
  have q31 : (w23.alloc (.cells #[.int .i64 Da.size, .slice dv23.pE dv23.nE dv23.cE, .slice dv23.pW dv23.nW dv23.cW, .int .i64 Da.fuse, .bool Da.down] 25)).cell? ⟨w.heap.size, 2, none⟩ = some (.slice dv.pW dv.nW dv.cW) := by rw [← hu23]; exact x_d.cell 2 (by simp)
  have q32 : (w23.alloc (.cells #[.int .i64 Da.size, .slice dv23.pE dv23.nE dv23.cE, .slice dv23.pW dv23.nW dv23.cW, .int .i64 Da.fuse, .bool Da.down] 25)).cell? ⟨w.heap.size, 3, none⟩ = some (.int .i64 D.fuse) := by rw [← hu23]; exact x_d.cell 3 (by simp)
  have q33 : (w23.alloc (.cells #[.int .i64 Da.size, .slice dv23.pE dv23.nE dv23.cE, .slice dv23.pW dv23.nW dv23.cW, .int .i64 Da.fuse, .bool Da.down] 25)).cell? ⟨w.heap.size, 4, none⟩ = some (.bool D.down) := by rw [← hu23]; exact x_d.cell 4 (by simp)
  have HU23 := Lib.hid hu23
  have X_d := Lib.hid x_d; have V_d := Lib.hid v_d
  have X_g := Lib.hid x_g; have V_g := Lib.hid v_g
  have X_a := Lib.hid x_a; have V_a := Lib.hid v_a
  have X_b := Lib.hid x_b; have V_b := Lib.hid v_b
  have BB := Lib.hid bb
  clear bb x_d v_d x_g v_g x_a v_a x_b v_b
  clear b23 t23 hu23 va23
  go_wp2_with fail
  rw [← HU23.out]
  refine (fr_call V_g.out N pN nN cN HNN.out (HRK.out _ BB.out) HNS.out hNl).mono ?_
  rw [HDC.out, HEC.out]
  rintro e w34 ⟨dv34, rfl, va34, _, b34⟩
  have x_d := X_d.out.below b34; have v_d := V_d.out.below b34
  have x_g := X_g.out.below b34; have v_g := V_g.out.below b34
  have x_a := X_a.out.below b34; have v_a := V_a.out.below b34
  have x_b := X_b.out.below b34; have v_b := V_b.out.below b34
  have bb := BB.out.trans (b34.mono BB.out.size)
  have G_c := Lib.hid bb.size
  obtain ⟨u34, hu34⟩ : ∃ u, u = (w34.alloc (.cells #[.int .i64 Dc.size, .slice dv34.pE dv34.nE dv34.cE, .slice dv34.pW dv34.nW dv34.cW, .int .i64 Dc.fuse, .bool Dc.down] 25)) := ⟨_, rfl⟩
  have t34 : Below w34.heap.size w34 u34 := by rw [hu34]; exact (Below.refl _ _).alloc (Nat.le_refl _) _
  replace x_d := x_d.below t34; replace v_d := v_d.below t34
  replace x_g := x_g.below t34; replace v_g := v_g.below t34
  replace x_a := x_a.below t34; replace v_a := v_a.below t34
  replace x_b := x_b.below t34; replace v_b := v_b.below t34
  replace bb := bb.trans (t34.mono bb.size)
  have x_c : Boxed u34 w34.heap.size [.int .i64 Dc.size, .slice dv34.pE dv34.nE dv34.cE, .slice dv34.pW dv34.nW dv34.cW, .int .i64 Dc.fuse, .bool Dc.down] := by rw [hu34]; exact Boxed.new w34 #[.int .i64 Dc.size, .slice dv34.pE dv34.nE dv34.cE, .slice dv34.pW dv34.nW dv34.cW, .int .i64 Dc.fuse, .bool Dc.down] 25
  have v_c := va34.below t34
  have q35 : (w34.alloc (.cells #[.int .i64 Dc.size, .slice dv34.pE dv34.nE dv34.cE, .slice dv34.pW dv34.nW dv34.cW, .int .i64 Dc.fuse, .bool Dc.down] 25)).cell? ⟨w1.heap.size, 0, none⟩ = some (.int .i64 D.size) := by rw [← hu34]; exact x_g.cell 0 (by simp)
  have q36 : (w34.alloc (.cells #[.int .i64 Dc.size, .slice dv34.pE dv34.nE dv34.cE, .slice dv34.pW dv34.nW dv34.cW, .int .i64 Dc.fuse, .bool Dc.down] 25)).cell? ⟨w1.heap.size, 1, none⟩ = some (.slice dv1.pE dv1.nE dv1.cE) := by rw [← hu34]; exact x_g.cell 1 (by simp)
  have q37 : (w34.alloc (.cells #[.int .i64 Dc.size, .slice dv34.pE dv34.nE dv34.cE, .slice dv34.pW dv34.nW dv34.cW, .int .i64 Dc.fuse, .bool Dc.down] 25)).cell? ⟨w1.heap.size, 2, none⟩ = some (.slice dv1.pW dv1.nW dv1.cW) := by rw [← hu34]; exact x_g.cell 2 (by simp)
  have q38 : (w34.alloc (.cells #[.int .i64 Dc.size, .slice dv34.pE dv34.nE dv34.cE, .slice dv34.pW dv34.nW dv34.cW, .int .i64 Dc.fuse, .bool Dc.down] 25)).cell? ⟨w1.heap.size, 3, none⟩ = some (.int .i64 D.fuse) := by rw [← hu34]; exact x_g.cell 3 (by simp)
  have q39 : (w34.alloc (.cells #[.int .i64 Dc.size, .slice dv34.pE dv34.nE dv34.cE, .slice dv34.pW dv34.nW dv34.cW, .int .i64 Dc.fuse, .bool Dc.down] 25)).cell? ⟨w1.heap.size, 4, none⟩ = some (.bool D.down) := by rw [← hu34]; exact x_g.cell 4 (by simp)
  have q40 : (w34.alloc (.cells #[.int .i64 Dc.size, .slice dv34.pE dv34.nE dv34.cE, .slice dv34.pW dv34.nW dv34.cW, .int .i64 Dc.fuse, .bool Dc.down] 25)).cell? ⟨w.heap.size, 0, none⟩ = some (.int .i64 D.size) := by rw [← hu34]; exact x_d.cell 0 (by simp)
  have q41 : (w34.alloc (.cells #[.int .i64 Dc.size, .slice dv34.pE dv34.nE dv34.cE, .slice dv34.pW dv34.nW dv34.cW, .int .i64 Dc.fuse, .bool Dc.down] 25)).cell? ⟨w.heap.size, 1, none⟩ = some (.slice dv.pE dv.nE dv.cE) := by rw [← hu34]; exact x_d.cell 1 (by simp)
  have q42 : (w34.alloc (.cells #[.int .i64 Dc.size, .slice dv34.pE dv34.nE dv34.cE, .slice dv34.pW dv34.nW dv34.cW, .int .i64 Dc.fuse, .bool Dc.down] 25)).cell? ⟨w.heap.size, 2, none⟩ = some (.slice dv.pW dv.nW dv.cW) := by rw [← hu34]; exact x_d.cell 2 (by simp)
  have q43 : (w34.alloc (.cells #[.int .i64 Dc.size, .slice dv34.pE dv34.nE dv34.cE, .slice dv34.pW dv34.nW dv34.cW, .int .i64 Dc.fuse, .bool Dc.down] 25)).cell? ⟨w.heap.size, 3, none⟩ = some (.int .i64 D.fuse) := by rw [← hu34]; exact x_d.cell 3 (by simp)
  have q44 : (w34.alloc (.cells #[.int .i64 Dc.size, .slice dv34.pE dv34.nE dv34.cE, .slice dv34.pW dv34.nW dv34.cW, .int .i64 Dc.fuse, .bool Dc.down] 25)).cell? ⟨w.heap.size, 4, none⟩ = some (.bool D.down) := by rw [← hu34]; exact x_d.cell 4 (by simp)
  have HU34 := Lib.hid hu34
  have X_d := Lib.hid x_d; have V_d := Lib.hid v_d
  have X_g := Lib.hid x_g; have V_g := Lib.hid v_g
  have X_a := Lib.hid x_a; have V_a := Lib.hid v_a
  have X_b := Lib.hid x_b; have V_b := Lib.hid v_b
  have X_c := Lib.hid x_c; have V_c := Lib.hid v_c
  have BB := Lib.hid bb
  clear bb x_d v_d x_g v_g x_a v_a x_b v_b x_c v_c
  clear b34 t34 hu34 va34
  go_wp2_with fail
  rw [← HU34.out]
  refine (rFree_any D dv N pN nN cN _ V_d.out HCAP.out hf HNN.out (HRK.out _ BB.out) hNl).mono ?_
  rw [HDC.out, HEC.out]
  rintro e w45 ⟨dv45, rfl, va45, _, b45⟩
  have x_d := X_d.out.below b45; have v_d := V_d.out.below b45
  have x_g := X_g.out.below b45; have v_g := V_g.out.below b45
  have x_a := X_a.out.below b45; have v_a := V_a.out.below b45
  have x_b := X_b.out.below b45; have v_b := V_b.out.below b45
  have x_c := X_c.out.below b45; have v_c := V_c.out.below b45
  have bb := BB.out.trans (b45.mono BB.out.size)
  have G_e := Lib.hid bb.size
  obtain ⟨u45, hu45⟩ : ∃ u, u = (w45.alloc (.cells #[.int .i64 Dc.size, .slice dv45.pE dv45.nE dv45.cE, .slice dv45.pW dv45.nW dv45.cW, .int .i64 Dc.fuse, .bool Dc.down] 25)) := ⟨_, rfl⟩
  have t45 : Below w45.heap.size w45 u45 := by rw [hu45]; exact (Below.refl _ _).alloc (Nat.le_refl _) _
  replace x_d := x_d.below t45; replace v_d := v_d.below t45
  replace x_g := x_g.below t45; replace v_g := v_g.below t45
  replace x_a := x_a.below t45; replace v_a := v_a.below t45
  replace x_b := x_b.below t45; replace v_b := v_b.below t45
  replace x_c := x_c.below t45; replace v_c := v_c.below t45
  replace bb := bb.trans (t45.mono bb.size)
  have x_e : Boxed u45 w45.heap.size [.int .i64 Dc.size, .slice dv45.pE dv45.nE dv45.cE, .slice dv45.pW dv45.nW dv45.cW, .int .i64 Dc.fuse, .bool Dc.down] := by rw [hu45]; exact Boxed.new w45 #[.int .i64 Dc.size, .slice dv45.pE dv45.nE dv45.cE, .slice dv45.pW dv45.nW dv45.cW, .int .i64 Dc.fuse, .bool Dc.down] 25
  have v_e := va45.below t45
  have q46 : (w45.alloc (.cells #[.int .i64 Dc.size, .slice dv45.pE dv45.nE dv45.cE, .slice dv45.pW dv45.nW dv45.cW, .int .i64 Dc.fuse, .bool Dc.down] 25)).cell? ⟨w1.heap.size, 0, none⟩ = some (.int .i64 D.size) := by rw [← hu45]; exact x_g.cell 0 (by simp)
  have q47 : (w45.alloc (.cells #[.int .i64 Dc.size, .slice dv45.pE dv45.nE dv45.cE, .slice dv45.pW dv45.nW dv45.cW, .int .i64 Dc.fuse, .bool Dc.down] 25)).cell? ⟨w1.heap.size, 1, none⟩ = some (.slice dv1.pE dv1.nE dv1.cE) := by rw [← hu45]; exact x_g.cell 1 (by simp)
  have q48 : (w45.alloc (.cells #[.int .i64 Dc.size, .slice dv45.pE dv45.nE dv45.cE, .slice dv45.pW dv45.nW dv45.cW, .int .i64 Dc.fuse, .bool Dc.down] 25)).cell? ⟨w1.heap.size, 2, none⟩ = some (.slice dv1.pW dv1.nW dv1.cW) := by rw [← hu45]; exact x_g.cell 2 (by simp)
  have q49 : (w45.alloc (.cells #[.int .i64 Dc.size, .slice dv45.pE dv45.nE dv45.cE, .slice dv45.pW dv45.nW dv45.cW, .int .i64 Dc.fuse, .bool Dc.down] 25)).cell? ⟨w1.heap.size, 3, none⟩ = some (.int .i64 D.fuse) := by rw [← hu45]; exact x_g.cell 3 (by simp)
  have q50 : (w45.alloc (.cells #[.int .i64 Dc.size, .slice dv45.pE dv45.nE dv45.cE, .slice dv45.pW dv45.nW dv45.cW, .int .i64 Dc.fuse, .bool Dc.down] 25)).cell? ⟨w1.heap.size, 4, none⟩ = some (.bool D.down) := by rw [← hu45]; exact x_g.cell 4 (by simp)
  have q51 : (w45.alloc (.cells #[.int .i64 Dc.size, .slice dv45.pE dv45.nE dv45.cE, .slice dv45.pW dv45.nW dv45.cW, .int .i64 Dc.fuse, .bool Dc.down] 25)).cell? ⟨w.heap.size, 0, none⟩ = some (.int .i64 D.size) := by rw [← hu45]; exact x_d.cell 0 (by simp)
  have q52 : (w45.alloc (.cells #[.int .i64 Dc.size, .slice dv45.pE dv45.nE dv45.cE, .slice dv45.pW dv45.nW dv45.cW, .int .i64 Dc.fuse, .bool Dc.down] 25)).cell? ⟨w.heap.size, 1, none⟩ = some (.slice dv.pE dv.nE dv.cE) := by rw [← hu45]; exact x_d.cell 1 (by simp)
  have q53 : (w45.alloc (.cells #[.int .i64 Dc.size, .slice dv45.pE dv45.nE dv45.cE, .slice dv45.pW dv45.nW dv45.cW, .int .i64 Dc.fuse, .bool Dc.down] 25)).cell? ⟨w.heap.size, 2, none⟩ = some (.slice dv.pW dv.nW dv.cW) := by rw [← hu45]; exact x_d.cell 2 (by simp)
  have q54 : (w45.alloc (.cells #[.int .i64 Dc.size, .slice dv45.pE dv45.nE dv45.cE, .slice dv45.pW dv45.nW dv45.cW, .int .i64 Dc.fuse, .bool Dc.down] 25)).cell? ⟨w.heap.size, 3, none⟩ = some (.int .i64 D.fuse) := by rw [← hu45]; exact x_d.cell 3 (by simp)
  have q55 : (w45.alloc (.cells #[.int .i64 Dc.size, .slice dv45.pE dv45.nE dv45.cE, .slice dv45.pW dv45.nW dv45.cW, .int .i64 Dc.fuse, .bool Dc.down] 25)).cell? ⟨w.heap.size, 4, none⟩ = some (.bool D.down) := by rw [← hu45]; exact x_d.cell 4 (by simp)
  have HU45 := Lib.hid hu45
  have X_d := Lib.hid x_d; have V_d := Lib.hid v_d
  have X_g := Lib.hid x_g; have V_g := Lib.hid v_g
  have X_a := Lib.hid x_a; have V_a := Lib.hid v_a
  have X_b := Lib.hid x_b; have V_b := Lib.hid v_b
  have X_c := Lib.hid x_c; have V_c := Lib.hid v_c
  have X_e := Lib.hid x_e; have V_e := Lib.hid v_e
  have BB := Lib.hid bb
  clear bb x_d v_d x_g v_g x_a v_a x_b v_b x_c v_c x_e v_e
  clear b45 t45 hu45 va45
  go_wp2_with fail
  rw [← HU45.out]
  refine (mv_call V_g.out nm to h2).mono ?_
  rw [HDF.out, HEF.out]
  rintro e w56 ⟨dv56, rfl, va56, _, b56⟩
  have x_d := X_d.out.below b56; have v_d := V_d.out.below b56
  have x_g := X_g.out.below b56; have v_g := V_g.out.below b56
  have x_a := X_a.out.below b56; have v_a := V_a.out.below b56
  have x_b := X_b.out.below b56; have v_b := V_b.out.below b56
  have x_c := X_c.out.below b56; have v_c := V_c.out.below b56
  have x_e := X_e.out.below b56; have v_e := V_e.out.below b56
  have bb := BB.out.trans (b56.mono BB.out.size)
  have G_f := Lib.hid bb.size
  obtain ⟨u56, hu56⟩ : ∃ u, u = (w56.alloc (.cells #[.int .i64 Df.size, .slice dv56.pE dv56.nE dv56.cE, .slice dv56.pW dv56.nW dv56.cW, .int .i64 Df.fuse, .bool Df.down] 25)) := ⟨_, rfl⟩
  have t56 : Below w56.heap.size w56 u56 := by rw [hu56]; exact (Below.refl _ _).alloc (Nat.le_refl _) _
  replace x_d := x_d.below t56; replace v_d := v_d.below t56
  replace x_g := x_g.below t56; replace v_g := v_g.below t56
  replace x_a := x_a.below t56; replace v_a := v_a.below t56
  replace x_b := x_b.below t56; replace v_b := v_b.below t56
  replace x_c := x_c.below t56; replace v_c := v_c.below t56
  replace x_e := x_e.below t56; replace v_e := v_e.below t56
  replace bb := bb.trans (t56.mono bb.size)
  have x_f : Boxed u56 w56.heap.size [.int .i64 Df.size, .slice dv56.pE dv56.nE dv56.cE, .slice dv56.pW dv56.nW dv56.cW, .int .i64 Df.fuse, .bool Df.down] := by rw [hu56]; exact Boxed.new w56 #[.int .i64 Df.size, .slice dv56.pE dv56.nE dv56.cE, .slice dv56.pW dv56.nW dv56.cW, .int .i64 Df.fuse, .bool Df.down] 25
  have v_f := va56.below t56
  have q57 : (w56.alloc (.cells #[.int .i64 Df.size, .slice dv56.pE dv56.nE dv56.cE, .slice dv56.pW dv56.nW dv56.cW, .int .i64 Df.fuse, .bool Df.down] 25)).cell? ⟨w1.heap.size, 0, none⟩ = some (.int .i64 D.size) := by rw [← hu56]; exact x_g.cell 0 (by simp)
  have q58 : (w56.alloc (.cells #[.int .i64 Df.size, .slice dv56.pE dv56.nE dv56.cE, .slice dv56.pW dv56.nW dv56.cW, .int .i64 Df.fuse, .bool Df.down] 25)).cell? ⟨w1.heap.size, 1, none⟩ = some (.slice dv1.pE dv1.nE dv1.cE) := by rw [← hu56]; exact x_g.cell 1 (by simp)
  have q59 : (w56.alloc (.cells #[.int .i64 Df.size, .slice dv56.pE dv56.nE dv56.cE, .slice dv56.pW dv56.nW dv56.cW, .int .i64 Df.fuse, .bool Df.down] 25)).cell? ⟨w1.heap.size, 2, none⟩ = some (.slice dv1.pW dv1.nW dv1.cW) := by rw [← hu56]; exact x_g.cell 2 (by simp)
  have q60 : (w56.alloc (.cells #[.int .i64 Df.size, .slice dv56.pE dv56.nE dv56.cE, .slice dv56.pW dv56.nW dv56.cW, .int .i64 Df.fuse, .bool Df.down] 25)).cell? ⟨w1.heap.size, 3, none⟩ = some (.int .i64 D.fuse) := by rw [← hu56]; exact x_g.cell 3 (by simp)
  have q61 : (w56.alloc (.cells #[.int .i64 Df.size, .slice dv56.pE dv56.nE dv56.cE, .slice dv56.pW dv56.nW dv56.cW, .int .i64 Df.fuse, .bool Df.down] 25)).cell? ⟨w1.heap.size, 4, none⟩ = some (.bool D.down) := by rw [← hu56]; exact x_g.cell 4 (by simp)
  have q62 : (w56.alloc (.cells #[.int .i64 Df.size, .slice dv56.pE dv56.nE dv56.cE, .slice dv56.pW dv56.nW dv56.cW, .int .i64 Df.fuse, .bool Df.down] 25)).cell? ⟨w.heap.size, 0, none⟩ = some (.int .i64 D.size) := by rw [← hu56]; exact x_d.cell 0 (by simp)
  have q63 : (w56.alloc (.cells #[.int .i64 Df.size, .slice dv56.pE dv56.nE dv56.cE, .slice dv56.pW dv56.nW dv56.cW, .int .i64 Df.fuse, .bool Df.down] 25)).cell? ⟨w.heap.size, 1, none⟩ = some (.slice dv.pE dv.nE dv.cE) := by rw [← hu56]; exact x_d.cell 1 (by simp)
  have q64 : (w56.alloc (.cells #[.int .i64 Df.size, .slice dv56.pE dv56.nE dv56.cE, .slice dv56.pW dv56.nW dv56.cW, .int .i64 Df.fuse, .bool Df.down] 25)).cell? ⟨w.heap.size, 2, none⟩ = some (.slice dv.pW dv.nW dv.cW) := by rw [← hu56]; exact x_d.cell 2 (by simp)
  have q65 : (w56.alloc (.cells #[.int .i64 Df.size, .slice dv56.pE dv56.nE dv56.cE, .slice dv56.pW dv56.nW dv56.cW, .int .i64 Df.fuse, .bool Df.down] 25)).cell? ⟨w.heap.size, 3, none⟩ = some (.int .i64 D.fuse) := by rw [← hu56]; exact x_d.cell 3 (by simp)
  have q66 : (w56.alloc (.cells #[.int .i64 Df.size, .slice dv56.pE dv56.nE dv56.cE, .slice dv56.pW dv56.nW dv56.cW, .int .i64 Df.fuse, .bool Df.down] 25)).cell? ⟨w.heap.size, 4, none⟩ = some (.bool D.down) := by rw [← hu56]; exact x_d.cell 4 (by simp)
  have HU56 := Lib.hid hu56
  have X_d := Lib.hid x_d; have V_d := Lib.hid v_d
  have X_g := Lib.hid x_g; have V_g := Lib.hid v_g
  have X_a := Lib.hid x_a; have V_a := Lib.hid v_a
  have X_b := Lib.hid x_b; have V_b := Lib.hid v_b
  have X_c := Lib.hid x_c; have V_c := Lib.hid v_c
  have X_e := Lib.hid x_e; have V_e := Lib.hid v_e
  have X_f := Lib.hid x_f; have V_f := Lib.hid v_f
  have BB := Lib.hid bb
  clear bb x_d v_d x_g v_g x_a v_a x_b v_b x_c v_c x_e v_e x_f v_f
  clear b56 t56 hu56 va56
  go_wp2_with fail
  rw [← HU56.out]
  refine (rMove_any D dv nm to _ V_d.out HCAP.out hf h2).mono ?_
  rw [HDF.out, HEF.out]
  rintro e w67 ⟨dv67, rfl, va67, _, b67⟩
  have x_d := X_d.out.below b67; have v_d := V_d.out.below b67
  have x_g := X_g.out.below b67; have v_g := V_g.out.below b67
  have x_a := X_a.out.below b67; have v_a := V_a.out.below b67
  have x_b := X_b.out.below b67; have v_b := V_b.out.below b67
  have x_c := X_c.out.below b67; have v_c := V_c.out.below b67
  have x_e := X_e.out.below b67; have v_e := V_e.out.below b67
  have x_f := X_f.out.below b67; have v_f := V_f.out.below b67
  have bb := BB.out.trans (b67.mono BB.out.size)
  have G_h := Lib.hid bb.size
  obtain ⟨u67, hu67⟩ : ∃ u, u = (w67.alloc (.cells #[.int .i64 Df.size, .slice dv67.pE dv67.nE dv67.cE, .slice dv67.pW dv67.nW dv67.cW, .int .i64 Df.fuse, .bool Df.down] 25)) := ⟨_, rfl⟩
  have t67 : Below w67.heap.size w67 u67 := by rw [hu67]; exact (Below.refl _ _).alloc (Nat.le_refl _) _
  replace x_d := x_d.below t67; replace v_d := v_d.below t67
  replace x_g := x_g.below t67; replace v_g := v_g.below t67
  replace x_a := x_a.below t67; replace v_a := v_a.below t67
  replace x_b := x_b.below t67; replace v_b := v_b.below t67
  replace x_c := x_c.below t67; replace v_c := v_c.below t67
  replace x_e := x_e.below t67; replace v_e := v_e.below t67
  replace x_f := x_f.below t67; replace v_f := v_f.below t67
  replace bb := bb.trans (t67.mono bb.size)
  have x_h : Boxed u67 w67.heap.size [.int .i64 Df.size, .slice dv67.pE dv67.nE dv67.cE, .slice dv67.pW dv67.nW dv67.cW, .int .i64 Df.fuse, .bool Df.down] := by rw [hu67]; exact Boxed.new w67 #[.int .i64 Df.size, .slice dv67.pE dv67.nE dv67.cE, .slice dv67.pW dv67.nW dv67.cW, .int .i64 Df.fuse, .bool Df.down] 25
  have v_h := va67.below t67
  have q68 : (w67.alloc (.cells #[.int .i64 Df.size, .slice dv67.pE dv67.nE dv67.cE, .slice dv67.pW dv67.nW dv67.cW, .int .i64 Df.fuse, .bool Df.down] 25)).cell? ⟨w1.heap.size, 0, none⟩ = some (.int .i64 D.size) := by rw [← hu67]; exact x_g.cell 0 (by simp)
  have q69 : (w67.alloc (.cells #[.int .i64 Df.size, .slice dv67.pE dv67.nE dv67.cE, .slice dv67.pW dv67.nW dv67.cW, .int .i64 Df.fuse, .bool Df.down] 25)).cell? ⟨w1.heap.size, 1, none⟩ = some (.slice dv1.pE dv1.nE dv1.cE) := by rw [← hu67]; exact x_g.cell 1 (by simp)
  have q70 : (w67.alloc (.cells #[.int .i64 Df.size, .slice dv67.pE dv67.nE dv67.cE, .slice dv67.pW dv67.nW dv67.cW, .int .i64 Df.fuse, .bool Df.down] 25)).cell? ⟨w1.heap.size, 2, none⟩ = some (.slice dv1.pW dv1.nW dv1.cW) := by rw [← hu67]; exact x_g.cell 2 (by simp)
  have q71 : (w67.alloc (.cells #[.int .i64 Df.size, .slice dv67.pE dv67.nE dv67.cE, .slice dv67.pW dv67.nW dv67.cW, .int .i64 Df.fuse, .bool Df.down] 25)).cell? ⟨w1.heap.size, 3, none⟩ = some (.int .i64 D.fuse) := by rw [← hu67]; exact x_g.cell 3 (by simp)
  have q72 : (w67.alloc (.cells #[.int .i64 Df.size, .slice dv67.pE dv67.nE dv67.cE, .slice dv67.pW dv67.nW dv67.cW, .int .i64 Df.fuse, .bool Df.down] 25)).cell? ⟨w1.heap.size, 4, none⟩ = some (.bool D.down) := by rw [← hu67]; exact x_g.cell 4 (by simp)
  have q73 : (w67.alloc (.cells #[.int .i64 Df.size, .slice dv67.pE dv67.nE dv67.cE, .slice dv67.pW dv67.nW dv67.cW, .int .i64 Df.fuse, .bool Df.down] 25)).cell? ⟨w.heap.size, 0, none⟩ = some (.int .i64 D.size) := by rw [← hu67]; exact x_d.cell 0 (by simp)
  have q74 : (w67.alloc (.cells #[.int .i64 Df.size, .slice dv67.pE dv67.nE dv67.cE, .slice dv67.pW dv67.nW dv67.cW, .int .i64 Df.fuse, .bool Df.down] 25)).cell? ⟨w.heap.size, 1, none⟩ = some (.slice dv.pE dv.nE dv.cE) := by rw [← hu67]; exact x_d.cell 1 (by simp)
  have q75 : (w67.alloc (.cells #[.int .i64 Df.size, .slice dv67.pE dv67.nE dv67.cE, .slice dv67.pW dv67.nW dv67.cW, .int .i64 Df.fuse, .bool Df.down] 25)).cell? ⟨w.heap.size, 2, none⟩ = some (.slice dv.pW dv.nW dv.cW) := by rw [← hu67]; exact x_d.cell 2 (by simp)
  have q76 : (w67.alloc (.cells #[.int .i64 Df.size, .slice dv67.pE dv67.nE dv67.cE, .slice dv67.pW dv67.nW dv67.cW, .int .i64 Df.fuse, .bool Df.down] 25)).cell? ⟨w.heap.size, 3, none⟩ = some (.int .i64 D.fuse) := by rw [← hu67]; exact x_d.cell 3 (by simp)
  have q77 : (w67.alloc (.cells #[.int .i64 Df.size, .slice dv67.pE dv67.nE dv67.cE, .slice dv67.pW dv67.nW dv67.cW, .int .i64 Df.fuse, .bool Df.down] 25)).cell? ⟨w.heap.size, 4, none⟩ = some (.bool D.down) := by rw [← hu67]; exact x_d.cell 4 (by simp)
  have HU67 := Lib.hid hu67
  have X_d := Lib.hid x_d; have V_d := Lib.hid v_d
  have X_g := Lib.hid x_g; have V_g := Lib.hid v_g
  have X_a := Lib.hid x_a; have V_a := Lib.hid v_a
  have X_b := Lib.hid x_b; have V_b := Lib.hid v_b
  have X_c := Lib.hid x_c; have V_c := Lib.hid v_c
  have X_e := Lib.hid x_e; have V_e := Lib.hid v_e
  have X_f := Lib.hid x_f; have V_f := Lib.hid v_f
  have X_h := Lib.hid x_h; have V_h := Lib.hid v_h
  have BB := Lib.hid bb
  clear bb x_d v_d x_g v_g x_a v_a x_b v_b x_c v_c x_e v_e x_f v_f x_h v_h
  clear b67 t67 hu67 va67
  go_wp2_with fail
  rw [← HU67.out]
  refine (rm_call V_g.out).mono ?_
  rw [HRN.out, HRE.out]
  rintro e w78 ⟨rfl, b78⟩
  have x_d := X_d.out.below b78; have v_d := V_d.out.below b78
  have x_g := X_g.out.below b78; have v_g := V_g.out.below b78
  have x_a := X_a.out.below b78; have v_a := V_a.out.below b78
  have x_b := X_b.out.below b78; have v_b := V_b.out.below b78
  have x_c := X_c.out.below b78; have v_c := V_c.out.below b78
  have x_e := X_e.out.below b78; have v_e := V_e.out.below b78
  have x_f := X_f.out.below b78; have v_f := V_f.out.below b78
  have x_h := X_h.out.below b78; have v_h := V_h.out.below b78
  have bb := BB.out.trans (b78.mono BB.out.size)
  have q79 : w78.cell? ⟨w1.heap.size, 0, none⟩ = some (.int .i64 D.size) := by exact x_g.cell 0 (by simp)
  have q80 : w78.cell? ⟨w1.heap.size, 1, none⟩ = some (.slice dv1.pE dv1.nE dv1.cE) := by exact x_g.cell 1 (by simp)
  have q81 : w78.cell? ⟨w1.heap.size, 2, none⟩ = some (.slice dv1.pW dv1.nW dv1.cW) := by exact x_g.cell 2 (by simp)
  have q82 : w78.cell? ⟨w1.heap.size, 3, none⟩ = some (.int .i64 D.fuse) := by exact x_g.cell 3 (by simp)
  have q83 : w78.cell? ⟨w1.heap.size, 4, none⟩ = some (.bool D.down) := by exact x_g.cell 4 (by simp)
  have q84 : w78.cell? ⟨w.heap.size, 0, none⟩ = some (.int .i64 D.size) := by exact x_d.cell 0 (by simp)
  have q85 : w78.cell? ⟨w.heap.size, 1, none⟩ = some (.slice dv.pE dv.nE dv.cE) := by exact x_d.cell 1 (by simp)
  have q86 : w78.cell? ⟨w.heap.size, 2, none⟩ = some (.slice dv.pW dv.nW dv.cW) := by exact x_d.cell 2 (by simp)
  have q87 : w78.cell? ⟨w.heap.size, 3, none⟩ = some (.int .i64 D.fuse) := by exact x_d.cell 3 (by simp)
  have q88 : w78.cell? ⟨w.heap.size, 4, none⟩ = some (.bool D.down) := by exact x_d.cell 4 (by simp)
  have X_d := Lib.hid x_d; have V_d := Lib.hid v_d
  have X_g := Lib.hid x_g; have V_g := Lib.hid v_g
  have X_a := Lib.hid x_a; have V_a := Lib.hid v_a
  have X_b := Lib.hid x_b; have V_b := Lib.hid v_b
  have X_c := Lib.hid x_c; have V_c := Lib.hid v_c
  have X_e := Lib.hid x_e; have V_e := Lib.hid v_e
  have X_f := Lib.hid x_f; have V_f := Lib.hid v_f
  have X_h := Lib.hid x_h; have V_h := Lib.hid v_h
  have BB := Lib.hid bb
  clear bb x_d v_d x_g v_g x_a v_a x_b v_b x_c v_c x_e v_e x_f v_f x_h v_h
  clear b78
  go_wp2_with fail
  refine (rRoom_any D dv _ V_d.out HCAP.out).mono ?_
  rw [HRN.out, HRE.out]
  rintro e w89 ⟨rfl, b89⟩
  have x_d := X_d.out.below b89; have v_d := V_d.out.below b89
  have x_g := X_g.out.below b89; have v_g := V_g.out.below b89
  have x_a := X_a.out.below b89; have v_a := V_a.out.below b89
  have x_b := X_b.out.below b89; have v_b := V_b.out.below b89
  have x_c := X_c.out.below b89; have v_c := V_c.out.below b89
  have x_e := X_e.out.below b89; have v_e := V_e.out.below b89
  have x_f := X_f.out.below b89; have v_f := V_f.out.below b89
  have x_h := X_h.out.below b89; have v_h := V_h.out.below b89
  have bb := BB.out.trans (b89.mono BB.out.size)
  have q90 : w89.cell? ⟨w1.heap.size, 0, none⟩ = some (.int .i64 D.size) := by exact x_g.cell 0 (by simp)
  have q91 : w89.cell? ⟨w1.heap.size, 1, none⟩ = some (.slice dv1.pE dv1.nE dv1.cE) := by exact x_g.cell 1 (by simp)
  have q92 : w89.cell? ⟨w1.heap.size, 2, none⟩ = some (.slice dv1.pW dv1.nW dv1.cW) := by exact x_g.cell 2 (by simp)
  have q93 : w89.cell? ⟨w1.heap.size, 3, none⟩ = some (.int .i64 D.fuse) := by exact x_g.cell 3 (by simp)
  have q94 : w89.cell? ⟨w1.heap.size, 4, none⟩ = some (.bool D.down) := by exact x_g.cell 4 (by simp)
  have q95 : w89.cell? ⟨w.heap.size, 0, none⟩ = some (.int .i64 D.size) := by exact x_d.cell 0 (by simp)
  have q96 : w89.cell? ⟨w.heap.size, 1, none⟩ = some (.slice dv.pE dv.nE dv.cE) := by exact x_d.cell 1 (by simp)
  have q97 : w89.cell? ⟨w.heap.size, 2, none⟩ = some (.slice dv.pW dv.nW dv.cW) := by exact x_d.cell 2 (by simp)
  have q98 : w89.cell? ⟨w.heap.size, 3, none⟩ = some (.int .i64 D.fuse) := by exact x_d.cell 3 (by simp)
  have q99 : w89.cell? ⟨w.heap.size, 4, none⟩ = some (.bool D.down) := by exact x_d.cell 4 (by simp)
  have X_d := Lib.hid x_d; have V_d := Lib.hid v_d
  have X_g := Lib.hid x_g; have V_g := Lib.hid v_g
  have X_a := Lib.hid x_a; have V_a := Lib.hid v_a
  have X_b := Lib.hid x_b; have V_b := Lib.hid v_b
  have X_c := Lib.hid x_c; have V_c := Lib.hid v_c
  have X_e := Lib.hid x_e; have V_e := Lib.hid v_e
  have X_f := Lib.hid x_f; have V_f := Lib.hid v_f
  have X_h := Lib.hid x_h; have V_h := Lib.hid v_h
  have BB := Lib.hid bb
  clear bb x_d v_d x_g v_g x_a v_a x_b v_b x_c v_c x_e v_e x_f v_f x_h v_h
  clear b89
  go_wp2_with fail
  refine (sc_call V_g.out nm).mono ?_
  rw [HSN.out, HSE.out]
  rintro e w100 ⟨rfl, b100⟩
  have x_d := X_d.out.below b100; have v_d := V_d.out.below b100
  have x_g := X_g.out.below b100; have v_g := V_g.out.below b100
  have x_a := X_a.out.below b100; have v_a := V_a.out.below b100
  have x_b := X_b.out.below b100; have v_b := V_b.out.below b100
  have x_c := X_c.out.below b100; have v_c := V_c.out.below b100
  have x_e := X_e.out.below b100; have v_e := V_e.out.below b100
  have x_f := X_f.out.below b100; have v_f := V_f.out.below b100
  have x_h := X_h.out.below b100; have v_h := V_h.out.below b100
  have bb := BB.out.trans (b100.mono BB.out.size)
  have q101 : w100.cell? ⟨w1.heap.size, 0, none⟩ = some (.int .i64 D.size) := by exact x_g.cell 0 (by simp)
  have q102 : w100.cell? ⟨w1.heap.size, 1, none⟩ = some (.slice dv1.pE dv1.nE dv1.cE) := by exact x_g.cell 1 (by simp)
  have q103 : w100.cell? ⟨w1.heap.size, 2, none⟩ = some (.slice dv1.pW dv1.nW dv1.cW) := by exact x_g.cell 2 (by simp)
  have q104 : w100.cell? ⟨w1.heap.size, 3, none⟩ = some (.int .i64 D.fuse) := by exact x_g.cell 3 (by simp)
  have q105 : w100.cell? ⟨w1.heap.size, 4, none⟩ = some (.bool D.down) := by exact x_g.cell 4 (by simp)
  have q106 : w100.cell? ⟨w.heap.size, 0, none⟩ = some (.int .i64 D.size) := by exact x_d.cell 0 (by simp)
  have q107 : w100.cell? ⟨w.heap.size, 1, none⟩ = some (.slice dv.pE dv.nE dv.cE) := by exact x_d.cell 1 (by simp)
  have q108 : w100.cell? ⟨w.heap.size, 2, none⟩ = some (.slice dv.pW dv.nW dv.cW) := by exact x_d.cell 2 (by simp)
  have q109 : w100.cell? ⟨w.heap.size, 3, none⟩ = some (.int .i64 D.fuse) := by exact x_d.cell 3 (by simp)
  have q110 : w100.cell? ⟨w.heap.size, 4, none⟩ = some (.bool D.down) := by exact x_d.cell 4 (by simp)
  have X_d := Lib.hid x_d; have V_d := Lib.hid v_d
  have X_g := Lib.hid x_g; have V_g := Lib.hid v_g
  have X_a := Lib.hid x_a; have V_a := Lib.hid v_a
  have X_b := Lib.hid x_b; have V_b := Lib.hid v_b
  have X_c := Lib.hid x_c; have V_c := Lib.hid v_c
  have X_e := Lib.hid x_e; have V_e := Lib.hid v_e
  have X_f := Lib.hid x_f; have V_f := Lib.hid v_f
  have X_h := Lib.hid x_h; have V_h := Lib.hid v_h
  have BB := Lib.hid bb
  clear bb x_d v_d x_g v_g x_a v_a x_b v_b x_c v_c x_e v_e x_f v_f x_h v_h
  clear b100
  go_wp2_with fail
  refine (rSectors_any D dv nm _ V_d.out HCAP.out).mono ?_
  rw [HSN.out, HSE.out]
  rintro e w111 ⟨rfl, b111⟩
  have x_d := X_d.out.below b111; have v_d := V_d.out.below b111
  have x_g := X_g.out.below b111; have v_g := V_g.out.below b111
  have x_a := X_a.out.below b111; have v_a := V_a.out.below b111
  have x_b := X_b.out.below b111; have v_b := V_b.out.below b111
  have x_c := X_c.out.below b111; have v_c := V_c.out.below b111
  have x_e := X_e.out.below b111; have v_e := V_e.out.below b111
  have x_f := X_f.out.below b111; have v_f := V_f.out.below b111
  have x_h := X_h.out.below b111; have v_h := V_h.out.below b111
  have bb := BB.out.trans (b111.mono BB.out.size)
  have X_d := Lib.hid x_d; have V_d := Lib.hid v_d
  have X_g := Lib.hid x_g; have V_g := Lib.hid v_g
  have X_a := Lib.hid x_a; have V_a := Lib.hid v_a
  have X_b := Lib.hid x_b; have V_b := Lib.hid v_b
  have X_c := Lib.hid x_c; have V_c := Lib.hid v_c
  have X_e := Lib.hid x_e; have V_e := Lib.hid v_e
  have X_f := Lib.hid x_f; have V_f := Lib.hid v_f
  have X_h := Lib.hid x_h; have V_h := Lib.hid v_h
  have BB := Lib.hid bb
  clear bb x_d v_d x_g v_g x_a v_a x_b v_b x_c v_c x_e v_e x_f v_f x_h v_h
  clear b111
  go_wp2_with fail
  obtain ⟨BBp, hBBp⟩ : ∃ BBp : World → Prop, BBp = fun W => Below w111.heap.size w111 W := ⟨_, rfl⟩
  have hK : ∀ W, BBp W → BBp W ∧ W.cell? ⟨w12.heap.size, 0, none⟩ = some (.int .i64 Da.size) ∧ W.cell? ⟨w12.heap.size, 1, none⟩ = some (.slice dv12.pE dv12.nE dv12.cE) ∧ W.cell? ⟨w12.heap.size, 2, none⟩ = some (.slice dv12.pW dv12.nW dv12.cW) ∧ W.cell? ⟨w12.heap.size, 3, none⟩ = some (.int .i64 Da.fuse) ∧ W.cell? ⟨w12.heap.size, 4, none⟩ = some (.bool Da.down) ∧ W.cell? ⟨w23.heap.size, 0, none⟩ = some (.int .i64 Da.size) ∧ W.cell? ⟨w23.heap.size, 1, none⟩ = some (.slice dv23.pE dv23.nE dv23.cE) ∧ W.cell? ⟨w23.heap.size, 2, none⟩ = some (.slice dv23.pW dv23.nW dv23.cW) ∧ W.cell? ⟨w23.heap.size, 3, none⟩ = some (.int .i64 Da.fuse) ∧ W.cell? ⟨w23.heap.size, 4, none⟩ = some (.bool Da.down) ∧ W.cell? ⟨w34.heap.size, 0, none⟩ = some (.int .i64 Dc.size) ∧ W.cell? ⟨w34.heap.size, 1, none⟩ = some (.slice dv34.pE dv34.nE dv34.cE) ∧ W.cell? ⟨w34.heap.size, 2, none⟩ = some (.slice dv34.pW dv34.nW dv34.cW) ∧ W.cell? ⟨w34.heap.size, 3, none⟩ = some (.int .i64 Dc.fuse) ∧ W.cell? ⟨w34.heap.size, 4, none⟩ = some (.bool Dc.down) ∧ W.cell? ⟨w45.heap.size, 0, none⟩ = some (.int .i64 Dc.size) ∧ W.cell? ⟨w45.heap.size, 1, none⟩ = some (.slice dv45.pE dv45.nE dv45.cE) ∧ W.cell? ⟨w45.heap.size, 2, none⟩ = some (.slice dv45.pW dv45.nW dv45.cW) ∧ W.cell? ⟨w45.heap.size, 3, none⟩ = some (.int .i64 Dc.fuse) ∧ W.cell? ⟨w45.heap.size, 4, none⟩ = some (.bool Dc.down) ∧ W.cell? ⟨w56.heap.size, 0, none⟩ = some (.int .i64 Df.size) ∧ W.cell? ⟨w56.heap.size, 1, none⟩ = some (.slice dv56.pE dv56.nE dv56.cE) ∧ W.cell? ⟨w56.heap.size, 2, none⟩ = some (.slice dv56.pW dv56.nW dv56.cW) ∧ W.cell? ⟨w56.heap.size, 3, none⟩ = some (.int .i64 Df.fuse) ∧ W.cell? ⟨w56.heap.size, 4, none⟩ = some (.bool Df.down) ∧ W.cell? ⟨w67.heap.size, 0, none⟩ = some (.int .i64 Df.size) ∧ W.cell? ⟨w67.heap.size, 1, none⟩ = some (.slice dv67.pE dv67.nE dv67.cE) ∧ W.cell? ⟨w67.heap.size, 2, none⟩ = some (.slice dv67.pW dv67.nW dv67.cW) ∧ W.cell? ⟨w67.heap.size, 3, none⟩ = some (.int .i64 Df.fuse) ∧ W.cell? ⟨w67.heap.size, 4, none⟩ = some (.bool Df.down) ∧ W.cell? ⟨w1.heap.size, 0, none⟩ = some (.int .i64 D.size) ∧ W.cell? ⟨w1.heap.size, 1, none⟩ = some (.slice dv1.pE dv1.nE dv1.cE) ∧ W.cell? ⟨w1.heap.size, 2, none⟩ = some (.slice dv1.pW dv1.nW dv1.cW) ∧ W.cell? ⟨w1.heap.size, 3, none⟩ = some (.int .i64 D.fuse) ∧ W.cell? ⟨w1.heap.size, 4, none⟩ = some (.bool D.down) ∧ W.cell? ⟨w.heap.size, 0, none⟩ = some (.int .i64 D.size) ∧ W.cell? ⟨w.heap.size, 1, none⟩ = some (.slice dv.pE dv.nE dv.cE) ∧ W.cell? ⟨w.heap.size, 2, none⟩ = some (.slice dv.pW dv.nW dv.cW) ∧ W.cell? ⟨w.heap.size, 3, none⟩ = some (.int .i64 D.fuse) ∧ W.cell? ⟨w.heap.size, 4, none⟩ = some (.bool D.down) := fun W hh => by
    refine ⟨hh, ?_⟩
    rw [hBBp] at hh
    have x_a := (X_a.out.below hh).five
    have x_b := (X_b.out.below hh).five
    have x_c := (X_c.out.below hh).five
    have x_e := (X_e.out.below hh).five
    have x_f := (X_f.out.below hh).five
    have x_h := (X_h.out.below hh).five
    have x_g := (X_g.out.below hh).five
    have x_d := (X_d.out.below hh).five
    exact ⟨x_a.1, x_a.2.1, x_a.2.2.1, x_a.2.2.2.1, x_a.2.2.2.2, x_b.1, x_b.2.1, x_b.2.2.1, x_b.2.2.2.1, x_b.2.2.2.2, x_c.1, x_c.2.1, x_c.2.2.1, x_c.2.2.2.1, x_c.2.2.2.2, x_e.1, x_e.2.1, x_e.2.2.1, x_e.2.2.2.1, x_e.2.2.2.2, x_f.1, x_f.2.1, x_f.2.2.1, x_f.2.2.2.1, x_f.2.2.2.2, x_h.1, x_h.2.1, x_h.2.2.1, x_h.2.2.2.1, x_h.2.2.2.2, x_g.1, x_g.2.1, x_g.2.2.1, x_g.2.2.2.1, x_g.2.2.2.2, x_d.1, x_d.2.1, x_d.2.2.1, x_d.2.2.2.1, x_d.2.2.2.2⟩
  have hL : ∀ W W' : World, BBp W → Below W.heap.size W W' → BBp W' := by
    intro W W' hh hb
    rw [hBBp] at hh ⊢
    exact hh.trans (hb.mono hh.size)
  have hD : ∀ W, BBp W → BBp W.drew := fun W hh => hL W _ hh (Below.drew (Below.refl _ W))
  have hEx : ∀ W, BBp W → Below w111.heap.size w111 W := fun W hh => by rw [hBBp] at hh; exact hh
  have h0 : BBp w111 := by rw [hBBp]; exact Below.refl _ _
  have HV_a : Hid (∀ W, BBp W → VarAt W Da dv12) := Lib.hid (fun W hh => V_a.out.below (hEx W hh))
  have HV_b : Hid (∀ W, BBp W → VarAt W Da dv23) := Lib.hid (fun W hh => V_b.out.below (hEx W hh))
  have HV_c : Hid (∀ W, BBp W → VarAt W Dc dv34) := Lib.hid (fun W hh => V_c.out.below (hEx W hh))
  have HV_e : Hid (∀ W, BBp W → VarAt W Dc dv45) := Lib.hid (fun W hh => V_e.out.below (hEx W hh))
  have HV_f : Hid (∀ W, BBp W → VarAt W Df dv56) := Lib.hid (fun W hh => V_f.out.below (hEx W hh))
  have HV_h : Hid (∀ W, BBp W → VarAt W Df dv67) := Lib.hid (fun W hh => V_h.out.below (hEx W hh))
  have HV_g : Hid (∀ W, BBp W → VarAt W D dv1) := Lib.hid (fun W hh => V_g.out.below (hEx W hh))
  have HV_d : Hid (∀ W, BBp W → VarAt W D dv) := Lib.hid (fun W hh => V_d.out.below (hEx W hh))
  have HK := Lib.hid hK; have HL := Lib.hid hL; have HDd := Lib.hid hD; have HEx := Lib.hid hEx; have H0 := Lib.hid h0
  clear hBBp hK hL hD hEx h0
  go_region_held3 (fun W => BBp W ∧ W.cell? ⟨w12.heap.size, 0, none⟩ = some (.int .i64 Da.size) ∧ W.cell? ⟨w12.heap.size, 1, none⟩ = some (.slice dv12.pE dv12.nE dv12.cE) ∧ W.cell? ⟨w12.heap.size, 2, none⟩ = some (.slice dv12.pW dv12.nW dv12.cW) ∧ W.cell? ⟨w12.heap.size, 3, none⟩ = some (.int .i64 Da.fuse) ∧ W.cell? ⟨w12.heap.size, 4, none⟩ = some (.bool Da.down) ∧ W.cell? ⟨w23.heap.size, 0, none⟩ = some (.int .i64 Da.size) ∧ W.cell? ⟨w23.heap.size, 1, none⟩ = some (.slice dv23.pE dv23.nE dv23.cE) ∧ W.cell? ⟨w23.heap.size, 2, none⟩ = some (.slice dv23.pW dv23.nW dv23.cW) ∧ W.cell? ⟨w23.heap.size, 3, none⟩ = some (.int .i64 Da.fuse) ∧ W.cell? ⟨w23.heap.size, 4, none⟩ = some (.bool Da.down) ∧ W.cell? ⟨w34.heap.size, 0, none⟩ = some (.int .i64 Dc.size) ∧ W.cell? ⟨w34.heap.size, 1, none⟩ = some (.slice dv34.pE dv34.nE dv34.cE) ∧ W.cell? ⟨w34.heap.size, 2, none⟩ = some (.slice dv34.pW dv34.nW dv34.cW) ∧ W.cell? ⟨w34.heap.size, 3, none⟩ = some (.int .i64 Dc.fuse) ∧ W.cell? ⟨w34.heap.size, 4, none⟩ = some (.bool Dc.down) ∧ W.cell? ⟨w45.heap.size, 0, none⟩ = some (.int .i64 Dc.size) ∧ W.cell? ⟨w45.heap.size, 1, none⟩ = some (.slice dv45.pE dv45.nE dv45.cE) ∧ W.cell? ⟨w45.heap.size, 2, none⟩ = some (.slice dv45.pW dv45.nW dv45.cW) ∧ W.cell? ⟨w45.heap.size, 3, none⟩ = some (.int .i64 Dc.fuse) ∧ W.cell? ⟨w45.heap.size, 4, none⟩ = some (.bool Dc.down) ∧ W.cell? ⟨w56.heap.size, 0, none⟩ = some (.int .i64 Df.size) ∧ W.cell? ⟨w56.heap.size, 1, none⟩ = some (.slice dv56.pE dv56.nE dv56.cE) ∧ W.cell? ⟨w56.heap.size, 2, none⟩ = some (.slice dv56.pW dv56.nW dv56.cW) ∧ W.cell? ⟨w56.heap.size, 3, none⟩ = some (.int .i64 Df.fuse) ∧ W.cell? ⟨w56.heap.size, 4, none⟩ = some (.bool Df.down) ∧ W.cell? ⟨w67.heap.size, 0, none⟩ = some (.int .i64 Df.size) ∧ W.cell? ⟨w67.heap.size, 1, none⟩ = some (.slice dv67.pE dv67.nE dv67.cE) ∧ W.cell? ⟨w67.heap.size, 2, none⟩ = some (.slice dv67.pW dv67.nW dv67.cW) ∧ W.cell? ⟨w67.heap.size, 3, none⟩ = some (.int .i64 Df.fuse) ∧ W.cell? ⟨w67.heap.size, 4, none⟩ = some (.bool Df.down) ∧ W.cell? ⟨w1.heap.size, 0, none⟩ = some (.int .i64 D.size) ∧ W.cell? ⟨w1.heap.size, 1, none⟩ = some (.slice dv1.pE dv1.nE dv1.cE) ∧ W.cell? ⟨w1.heap.size, 2, none⟩ = some (.slice dv1.pW dv1.nW dv1.cW) ∧ W.cell? ⟨w1.heap.size, 3, none⟩ = some (.int .i64 D.fuse) ∧ W.cell? ⟨w1.heap.size, 4, none⟩ = some (.bool D.down) ∧ W.cell? ⟨w.heap.size, 0, none⟩ = some (.int .i64 D.size) ∧ W.cell? ⟨w.heap.size, 1, none⟩ = some (.slice dv.pE dv.nE dv.cE) ∧ W.cell? ⟨w.heap.size, 2, none⟩ = some (.slice dv.pW dv.nW dv.cW) ∧ W.cell? ⟨w.heap.size, 3, none⟩ = some (.int .i64 D.fuse) ∧ W.cell? ⟨w.heap.size, 4, none⟩ = some (.bool D.down)) ((refine HK.out _ ?_; repeat (first | exact H0.out | assumption | apply HDd.out))) (first
    | (go_at_call 16; ((with_reducible refine (lives_any _).mono ?_)); rintro e w' ⟨rfl, hb⟩; have hw := HL.out _ _ (by repeat (first | exact H0.out | assumption | apply HDd.out)) hb; clear hb)
    | (go_at_call 17; ((with_reducible refine (Same_any Da dv12 dv23 _ (HV_a.out _ (by repeat (first | exact H0.out | assumption | apply HDd.out))) (HV_b.out _ (by repeat (first | exact H0.out | assumption | apply HDd.out)))).mono ?_)); rintro e w' ⟨rfl, hb⟩; have hw := HL.out _ _ (by repeat (first | exact H0.out | assumption | apply HDd.out)) hb; clear hb)
    | (go_at_call 17; ((with_reducible refine (Same_any Dc dv34 dv45 _ (HV_c.out _ (by repeat (first | exact H0.out | assumption | apply HDd.out))) (HV_e.out _ (by repeat (first | exact H0.out | assumption | apply HDd.out)))).mono ?_)); rintro e w' ⟨rfl, hb⟩; have hw := HL.out _ _ (by repeat (first | exact H0.out | assumption | apply HDd.out)) hb; clear hb)
    | (go_at_call 17; ((with_reducible refine (Same_any Df dv56 dv67 _ (HV_f.out _ (by repeat (first | exact H0.out | assumption | apply HDd.out))) (HV_h.out _ (by repeat (first | exact H0.out | assumption | apply HDd.out)))).mono ?_)); rintro e w' ⟨rfl, hb⟩; have hw := HL.out _ _ (by repeat (first | exact H0.out | assumption | apply HDd.out)) hb; clear hb)
    | (go_at_call 18; ((with_reducible refine (ck_call (HV_g.out _ (by repeat (first | exact H0.out | assumption | apply HDd.out)))).mono ?_)); rw [HCK.out]; rintro e w' ⟨rfl, hb⟩; have hw := HL.out _ _ (by repeat (first | exact H0.out | assumption | apply HDd.out)) hb; clear hb)
    | (go_at_call 19; ((with_reducible refine (rCheck_any D dv _ (HV_d.out _ (by repeat (first | exact H0.out | assumption | apply HDd.out))) HCAP.out).mono ?_)); rw [HCK.out]; rintro e w' ⟨rfl, hb⟩; have hw := HL.out _ _ (by repeat (first | exact H0.out | assumption | apply HDd.out)) hb; clear hb)
    | (go_at_call 17; ((with_reducible refine (Same_any D dv1 dv _ (HV_g.out _ (by repeat (first | exact H0.out | assumption | apply HDd.out))) (HV_d.out _ (by repeat (first | exact H0.out | assumption | apply HDd.out)))).mono ?_)); rintro e w' ⟨rfl, hb⟩; have hw := HL.out _ _ (by repeat (first | exact H0.out | assumption | apply HDd.out)) hb; clear hb))
  all_goals go_wp2_with fail
  all_goals go_ret
  all_goals exact ⟨rfl, BB.out.trans ((HEx.out _ (by repeat (first | exact H0.out | assumption | apply HDd.out))).mono BB.out.size)⟩
end Go.Proofs.Ytejmbbhbimgheaa.Dk

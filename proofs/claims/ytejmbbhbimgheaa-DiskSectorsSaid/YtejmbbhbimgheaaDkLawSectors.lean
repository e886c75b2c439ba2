/- DiskSectors: the law. -/
import Derived.Test.YtejmbbhbimgheaaDkLives
import Derived.Test.YtejmbbhbimgheaaDkOpenC
import Derived.Test.YtejmbbhbimgheaaDkRefJ
namespace Go.Proofs.Ytejmbbhbimgheaa.Dk
open Go.RowKit Go.Op

set_option maxHeartbeats 16000000 in
set_option maxRecDepth 100000 in
theorem sectors_law (D : Dsk) (dv : DVal) (nm : ByteArray) (s : Int) (d : ByteArray) (K : List Bool) (pK : Option Addr) (cK : Nat) (w : World) (hv : VarAt w D dv) (hcap : dv.nE ≤ dv.cE) (hf : Few D) (h1 : nm.size ≤ 140737488355328) (h2 : d.size ≤ 140737488355328) (hK : Rw.Rd w pK (bools K)) (hKl : K.length ≤ 9223372036854775807) :
    Calls Try.prog 4 #[dval D dv, .string nm, .int .i64 s, .string d, .slice pK K.length cK] w fun e w' => e = .returned (.bool true) ∧ Below w.heap.size w w' := by
  unfold dval
  obtain ⟨u0, hu0⟩ : ∃ u, u = (w.alloc (.cells #[.int .i64 D.size, .slice dv.pE dv.nE dv.cE, .slice dv.pW dv.nW dv.cW, .int .i64 D.fuse, .bool D.down] 25)) := ⟨_, rfl⟩
  have t0 : Below w.heap.size w u0 := by rw [hu0]; exact (Below.refl _ _).alloc (Nat.le_refl _) _
  have X_d : Hid (Boxed u0 w.heap.size [.int .i64 D.size, .slice dv.pE dv.nE dv.cE, .slice dv.pW dv.nW dv.cW, .int .i64 D.fuse, .bool D.down]) := Lib.hid (by rw [hu0]; exact Boxed.new w #[.int .i64 D.size, .slice dv.pE dv.nE dv.cE, .slice dv.pW dv.nW dv.cW, .int .i64 D.fuse, .bool D.down] 25)
  have V_d := Lib.hid (hv.below t0)
  have BB := Lib.hid t0
  have HU0 := Lib.hid hu0
  obtain ⟨so, hso⟩ : ∃ x, x = rdO D nm s := ⟨_, rfl⟩
  obtain ⟨se, hse⟩ : ∃ x, x = rdE D nm s := ⟨_, rfl⟩
  obtain ⟨Dw, hDw⟩ : ∃ x, x = wtD D nm s d := ⟨_, rfl⟩
  obtain ⟨ew, hew⟩ : ∃ x, x = wtE D nm s d := ⟨_, rfl⟩
  obtain ⟨Dy, hDy⟩ : ∃ x, x = syD D := ⟨_, rfl⟩
  obtain ⟨ey, hey⟩ : ∃ x, x = syE D := ⟨_, rfl⟩
  obtain ⟨Dc, hDc⟩ : ∃ x, x = crD D K := ⟨_, rfl⟩
  obtain ⟨ec, hec⟩ : ∃ x, x = ckE D := ⟨_, rfl⟩
  have HSO := Lib.hid hso.symm; have HSE := Lib.hid hse.symm; have HDW := Lib.hid hDw.symm; have HEW := Lib.hid hew.symm
  have HDY := Lib.hid hDy.symm; have HEY := Lib.hid hey.symm; have HDC := Lib.hid hDc.symm; have HEC := Lib.hid hec.symm
  have HCAP := Lib.hid hcap
  have HRK : Hid (∀ W, Below w.heap.size w W → Rw.Rd W pK (bools K)) := Lib.hid (fun W hb => hK.below hb)
  obtain ⟨nK, hnK⟩ : ∃ n, n = K.length := ⟨_, rfl⟩
  rw [← hnK] at hKl ⊢
  have HNK := Lib.hid hnK
  clear hso hse hDw hew hDy hey hDc hec hu0 t0 hv hcap hK hnK
  go_enter Try.func4, Try.ntmps4
  go_wp2_with fail
  rw [← HU0.out]
  refine (rCopy_any D dv _ V_d.out hf).mono ?_
  rintro e w1 ⟨dv1, rfl, ow1, b1⟩
  have va1 := ow1.at
  have HC_g := Lib.hid (own_capV ow1.E)
  have x_d := X_d.out.below b1; have v_d := V_d.out.below b1
  have bb := BB.out.trans (b1.mono BB.out.size)
  have G_g := Lib.hid bb.size
  obtain ⟨u1, hu1⟩ : ∃ u, u = (w1.alloc (.cells #[.int .i64 D.size, .slice dv1.pE dv1.nE dv1.cE, .slice dv1.pW dv1.nW dv1.cW, .int .i64 D.fuse, .bool D.down] 25)) := ⟨_, rfl⟩
  have t1 : Below w1.heap.size w1 u1 := by rw [hu1]; exact (Below.refl _ _).alloc (Nat.le_refl _) _
  replace x_d := x_d.below t1; replace v_d := v_d.below t1
  replace bb := bb.trans (t1.mono bb.size)
  have x_g : Boxed u1 w1.heap.size [.int .i64 D.size, .slice dv1.pE dv1.nE dv1.cE, .slice dv1.pW dv1.nW dv1.cW, .int .i64 D.fuse, .bool D.down] := by rw [hu1]; exact Boxed.new w1 #[.int .i64 D.size, .slice dv1.pE dv1.nE dv1.cE, .slice dv1.pW dv1.nW dv1.cW, .int .i64 D.fuse, .bool D.down] 25
  have v_g := va1.below t1
  have q2 : (w1.alloc (.cells #[.int .i64 D.size, .slice dv1.pE dv1.nE dv1.cE, .slice dv1.pW dv1.nW dv1.cW, .int .i64 D.fuse, .bool D.down] 25)).cell? ⟨w1.heap.size, 0, none⟩ = some (.int .i64 D.size) := by rw [← hu1]; exact x_g.cell 0 (by simp)
  have q3 : (w1.alloc (.cells #[.int .i64 D.size, .slice dv1.pE dv1.nE dv1.cE, .slice dv1.pW dv1.nW dv1.cW, .int .i64 D.fuse, .bool D.down] 25)).cell? ⟨w1.heap.size, 1, none⟩ = some (.slice dv1.pE dv1.nE dv1.cE) := by rw [← hu1]; exact x_g.cell 1 (by simp)
  have q4 : (w1.alloc (.cells #[.int .i64 D.size, .slice dv1.pE dv1.nE dv1.cE, .slice dv1.pW dv1.nW dv1.cW, .int .i64 D.fuse, .bool D.down] 25)).cell? ⟨w1.heap.size, 2, none⟩ = some (.slice dv1.pW dv1.nW dv1.cW) := by rw [← hu1]; exact x_g.cell 2 (by simp)
  have q5 : (w1.alloc (.cells #[.int .i64 D.size, .slice dv1.pE dv1.nE dv1.cE, .slice dv1.pW dv1.nW dv1.cW, .int .i64 D.fuse, .bool D.down] 25)).cell? ⟨w1.heap.size, 3, none⟩ = some (.int .i64 D.fuse) := by rw [← hu1]; exact x_g.cell 3 (by simp)
  have q6 : (w1.alloc (.cells #[.int .i64 D.size, .slice dv1.pE dv1.nE dv1.cE, .slice dv1.pW dv1.nW dv1.cW, .int .i64 D.fuse, .bool D.down] 25)).cell? ⟨w1.heap.size, 4, none⟩ = some (.bool D.down) := by rw [← hu1]; exact x_g.cell 4 (by simp)
  have q7 : (w1.alloc (.cells #[.int .i64 D.size, .slice dv1.pE dv1.nE dv1.cE, .slice dv1.pW dv1.nW dv1.cW, .int .i64 D.fuse, .bool D.down] 25)).cell? ⟨w.heap.size, 0, none⟩ = some (.int .i64 D.size) := by rw [← hu1]; exact x_d.cell 0 (by simp)
  have q8 : (w1.alloc (.cells #[.int .i64 D.size, .slice dv1.pE dv1.nE dv1.cE, .slice dv1.pW dv1.nW dv1.cW, .int .i64 D.fuse, .bool D.down] 25)).cell? ⟨w.heap.size, 1, none⟩ = some (.slice dv.pE dv.nE dv.cE) := by rw [← hu1]; exact x_d.cell 1 (by simp)
  have q9 : (w1.alloc (.cells #[.int .i64 D.size, .slice dv1.pE dv1.nE dv1.cE, .slice dv1.pW dv1.nW dv1.cW, .int .i64 D.fuse, .bool D.down] 25)).cell? ⟨w.heap.size, 2, none⟩ = some (.slice dv.pW dv.nW dv.cW) := by rw [← hu1]; exact x_d.cell 2 (by simp)
  have q10 : (w1.alloc (.cells #[.int .i64 D.size, .slice dv1.pE dv1.nE dv1.cE, .slice dv1.pW dv1.nW dv1.cW, .int .i64 D.fuse, .bool D.down] 25)).cell? ⟨w.heap.size, 3, none⟩ = some (.int .i64 D.fuse) := by rw [← hu1]; exact x_d.cell 3 (by simp)
  have q11 : (w1.alloc (.cells #[.int .i64 D.size, .slice dv1.pE dv1.nE dv1.cE, .slice dv1.pW dv1.nW dv1.cW, .int .i64 D.fuse, .bool D.down] 25)).cell? ⟨w.heap.size, 4, none⟩ = some (.bool D.down) := by rw [← hu1]; exact x_d.cell 4 (by simp)
  have HU1 := Lib.hid hu1
  have X_d := Lib.hid x_d; have V_d := Lib.hid v_d
  have X_g := Lib.hid x_g; have V_g := Lib.hid v_g
  have BB := Lib.hid bb
  clear bb x_d v_d x_g v_g
  clear b1 t1 hu1 va1 ow1
  go_wp2_with fail
  rw [← HU1.out]
  refine (rd_call V_g.out nm s).mono ?_
  rw [HSO.out, HSE.out]
  rintro e w12 ⟨rfl, b12⟩
  have x_d := X_d.out.below b12; have v_d := V_d.out.below b12
  have x_g := X_g.out.below b12; have v_g := V_g.out.below b12
  have bb := BB.out.trans (b12.mono BB.out.size)
  have q13 : w12.cell? ⟨w1.heap.size, 0, none⟩ = some (.int .i64 D.size) := by exact x_g.cell 0 (by simp)
  have q14 : w12.cell? ⟨w1.heap.size, 1, none⟩ = some (.slice dv1.pE dv1.nE dv1.cE) := by exact x_g.cell 1 (by simp)
  have q15 : w12.cell? ⟨w1.heap.size, 2, none⟩ = some (.slice dv1.pW dv1.nW dv1.cW) := by exact x_g.cell 2 (by simp)
  have q16 : w12.cell? ⟨w1.heap.size, 3, none⟩ = some (.int .i64 D.fuse) := by exact x_g.cell 3 (by simp)
  have q17 : w12.cell? ⟨w1.heap.size, 4, none⟩ = some (.bool D.down) := by exact x_g.cell 4 (by simp)
  have q18 : w12.cell? ⟨w.heap.size, 0, none⟩ = some (.int .i64 D.size) := by exact x_d.cell 0 (by simp)
  have q19 : w12.cell? ⟨w.heap.size, 1, none⟩ = some (.slice dv.pE dv.nE dv.cE) := by exact x_d.cell 1 (by simp)
  have q20 : w12.cell? ⟨w.heap.size, 2, none⟩ = some (.slice dv.pW dv.nW dv.cW) := by exact x_d.cell 2 (by simp)
  have q21 : w12.cell? ⟨w.heap.size, 3, none⟩ = some (.int .i64 D.fuse) := by exact x_d.cell 3 (by simp)
  have q22 : w12.cell? ⟨w.heap.size, 4, none⟩ = some (.bool D.down) := by exact x_d.cell 4 (by simp)
  have X_d := Lib.hid x_d; have V_d := Lib.hid v_d
  have X_g := Lib.hid x_g; have V_g := Lib.hid v_g
  have BB := Lib.hid bb
  clear bb x_d v_d x_g v_g
  clear b12
  go_wp2_with fail
  refine (rRead_any D dv nm s _ V_d.out HCAP.out).mono ?_
  rw [HSO.out, HSE.out]
  rintro e w23 ⟨rfl, b23⟩
  have x_d := X_d.out.below b23; have v_d := V_d.out.below b23
  have x_g := X_g.out.below b23; have v_g := V_g.out.below b23
  have bb := BB.out.trans (b23.mono BB.out.size)
  have q24 : w23.cell? ⟨w1.heap.size, 0, none⟩ = some (.int .i64 D.size) := by exact x_g.cell 0 (by simp)
  have q25 : w23.cell? ⟨w1.heap.size, 1, none⟩ = some (.slice dv1.pE dv1.nE dv1.cE) := by exact x_g.cell 1 (by simp)
  have q26 : w23.cell? ⟨w1.heap.size, 2, none⟩ = some (.slice dv1.pW dv1.nW dv1.cW) := by exact x_g.cell 2 (by simp)
  have q27 : w23.cell? ⟨w1.heap.size, 3, none⟩ = some (.int .i64 D.fuse) := by exact x_g.cell 3 (by simp)
  have q28 : w23.cell? ⟨w1.heap.size, 4, none⟩ = some (.bool D.down) := by exact x_g.cell 4 (by simp)
  have q29 : w23.cell? ⟨w.heap.size, 0, none⟩ = some (.int .i64 D.size) := by exact x_d.cell 0 (by simp)
  have q30 : w23.cell? ⟨w.heap.size, 1, none⟩ = some (.slice dv.pE dv.nE dv.cE) := by exact x_d.cell 1 (by simp)
  have q31 : w23.cell? ⟨w.heap.size, 2, none⟩ = some (.slice dv.pW dv.nW dv.cW) := by exact x_d.cell 2 (by simp)
  have q32 : w23.cell? ⟨w.heap.size, 3, none⟩ = some (.int .i64 D.fuse) := by exact x_d.cell 3 (by simp)
  have q33 : w23.cell? ⟨w.heap.size, 4, none⟩ = some (.bool D.down) := by exact x_d.cell 4 (by simp)
  have X_d := Lib.hid x_d; have V_d := Lib.hid v_d
  have X_g := Lib.hid x_g; have V_g := Lib.hid v_g
  have BB := Lib.hid bb
  clear bb x_d v_d x_g v_g
  clear b23
  go_wp2_with fail
  refine (wt_call V_g.out nm s d h1 h2).mono ?_
  rw [HDW.out, HEW.out]
  rintro e w34 ⟨dv34, rfl, va34, _, b34⟩
  have x_d := X_d.out.below b34; have v_d := V_d.out.below b34
  have x_g := X_g.out.below b34; have v_g := V_g.out.below b34
  have bb := BB.out.trans (b34.mono BB.out.size)
  have G_a := Lib.hid bb.size
  obtain ⟨u34, hu34⟩ : ∃ u, u = (w34.alloc (.cells #[.int .i64 Dw.size, .slice dv34.pE dv34.nE dv34.cE, .slice dv34.pW dv34.nW dv34.cW, .int .i64 Dw.fuse, .bool Dw.down] 25)) := ⟨_, rfl⟩
  have t34 : Below w34.heap.size w34 u34 := by rw [hu34]; exact (Below.refl _ _).alloc (Nat.le_refl _) _
  replace x_d := x_d.below t34; replace v_d := v_d.below t34
  replace x_g := x_g.below t34; replace v_g := v_g.below t34
  replace bb := bb.trans (t34.mono bb.size)
  have x_a : Boxed u34 w34.heap.size [.int .i64 Dw.size, .slice dv34.pE dv34.nE dv34.cE, .slice dv34.pW dv34.nW dv34.cW, .int .i64 Dw.fuse, .bool Dw.down] := by rw [hu34]; exact Boxed.new w34 #[.int .i64 Dw.size, .slice dv34.pE dv34.nE dv34.cE, .slice dv34.pW dv34.nW dv34.cW, .int .i64 Dw.fuse, .bool Dw.down] 25
  have v_a := va34.below t34
  have q35 : (w34.alloc (.cells #[.int .i64 Dw.size, .slice dv34.pE dv34.nE dv34.cE, .slice dv34.pW dv34.nW dv34.cW, .int .i64 Dw.fuse, .bool Dw.down] 25)).cell? ⟨w1.heap.size, 0, none⟩ = some (.int .i64 D.size) := by rw [← hu34]; exact x_g.cell 0 (by simp)
  have q36 : (w34.alloc (.cells #[.int .i64 Dw.size, .slice dv34.pE dv34.nE dv34.cE, .slice dv34.pW dv34.nW dv34.cW, .int .i64 Dw.fuse, .bool Dw.down] 25)).cell? ⟨w1.heap.size, 1, none⟩ = some (.slice dv1.pE dv1.nE dv1.cE) := by rw [← hu34]; exact x_g.cell 1 (by simp)
  have q37 : (w34.alloc (.cells #[.int .i64 Dw.size, .slice dv34.pE dv34.nE dv34.cE, .slice dv34.pW dv34.nW dv34.cW, .int .i64 Dw.fuse, .bool Dw.down] 25)).cell? ⟨w1.heap.size, 2, none⟩ = some (.slice dv1.pW dv1.nW dv1.cW) := by rw [← hu34]; exact x_g.cell 2 (by simp)
  have q38 : (w34.alloc (.cells #[.int .i64 Dw.size, .slice dv34.pE dv34.nE dv34.cE, .slice dv34.pW dv34.nW dv34.cW, .int .i64 Dw.fuse, .bool Dw.down] 25)).cell? ⟨w1.heap.size, 3, none⟩ = some (.int .i64 D.fuse) := by rw [← hu34]; exact x_g.cell 3 (by simp)
  have q39 : (w34.alloc (.cells #[.int .i64 Dw.size, .slice dv34.pE dv34.nE dv34.cE, .slice dv34.pW dv34.nW dv34.cW, .int .i64 Dw.fuse, .bool Dw.down] 25)).cell? ⟨w1.heap.size, 4, none⟩ = some (.bool D.down) := by rw [← hu34]; exact x_g.cell 4 (by simp)
  have q40 : (w34.alloc (.cells #[.int .i64 Dw.size, .slice dv34.pE dv34.nE dv34.cE, .slice dv34.pW dv34.nW dv34.cW, .int .i64 Dw.fuse, .bool Dw.down] 25)).cell? ⟨w.heap.size, 0, none⟩ = some (.int .i64 D.size) := by rw [← hu34]; exact x_d.cell 0 (by simp)
  have q41 : (w34.alloc (.cells #[.int .i64 Dw.size, .slice dv34.pE dv34.nE dv34.cE, .slice dv34.pW dv34.nW dv34.cW, .int .i64 Dw.fuse, .bool Dw.down] 25)).cell? ⟨w.heap.size, 1, none⟩ = some (.slice dv.pE dv.nE dv.cE) := by rw [← hu34]; exact x_d.cell 1 (by simp)
  have q42 : (w34.alloc (.cells #[.int .i64 Dw.size, .slice dv34.pE dv34.nE dv34.cE, .slice dv34.pW dv34.nW dv34.cW, .int .i64 Dw.fuse, .bool Dw.down] 25)).cell? ⟨w.heap.size, 2, none⟩ = some (.slice dv.pW dv.nW dv.cW) := by rw [← hu34]; exact x_d.cell 2 (by simp)
  have q43 : (w34.alloc (.cells #[.int .i64 Dw.size, .slice dv34.pE dv34.nE dv34.cE, .slice dv34.pW dv34.nW dv34.cW, .int .i64 Dw.fuse, .bool Dw.down] 25)).cell? ⟨w.heap.size, 3, none⟩ = some (.int .i64 D.fuse) := by rw [← hu34]; exact x_d.cell 3 (by simp)
  have q44 : (w34.alloc (.cells #[.int .i64 Dw.size, .slice dv34.pE dv34.nE dv34.cE, .slice dv34.pW dv34.nW dv34.cW, .int .i64 Dw.fuse, .bool Dw.down] 25)).cell? ⟨w.heap.size, 4, none⟩ = some (.bool D.down) := by rw [← hu34]; exact x_d.cell 4 (by simp)
  have HU34 := Lib.hid hu34
  have X_d := Lib.hid x_d; have V_d := Lib.hid v_d
  have X_g := Lib.hid x_g; have V_g := Lib.hid v_g
  have X_a := Lib.hid x_a; have V_a := Lib.hid v_a
  have BB := Lib.hid bb
  clear bb x_d v_d x_g v_g x_a v_a
  clear b34 t34 hu34 va34
  go_wp2_with fail
  rw [← HU34.out]
  refine (rWrite_any D dv nm s d _ V_d.out HCAP.out hf h1 h2).mono ?_
  rw [HDW.out, HEW.out]
  rintro e w45 ⟨dv45, rfl, va45, _, b45⟩
  have x_d := X_d.out.below b45; have v_d := V_d.out.below b45
  have x_g := X_g.out.below b45; have v_g := V_g.out.below b45
  have x_a := X_a.out.below b45; have v_a := V_a.out.below b45
  have bb := BB.out.trans (b45.mono BB.out.size)
  have G_b := Lib.hid bb.size
  obtain ⟨u45, hu45⟩ : ∃ u, u = (w45.alloc (.cells #[.int .i64 Dw.size, .slice dv45.pE dv45.nE dv45.cE, .slice dv45.pW dv45.nW dv45.cW, .int .i64 Dw.fuse, .bool Dw.down] 25)) := ⟨_, rfl⟩
  have t45 : Below w45.heap.size w45 u45 := by rw [hu45]; exact (Below.refl _ _).alloc (Nat.le_refl _) _
  replace x_d := x_d.below t45; replace v_d := v_d.below t45
  replace x_g := x_g.below t45; replace v_g := v_g.below t45
  replace x_a := x_a.below t45; replace v_a := v_a.below t45
  replace bb := bb.trans (t45.mono bb.size)
  have x_b : Boxed u45 w45.heap.size [.int .i64 Dw.size, .slice dv45.pE dv45.nE dv45.cE, .slice dv45.pW dv45.nW dv45.cW, .int .i64 Dw.fuse, .bool Dw.down] := by rw [hu45]; exact Boxed.new w45 #[.int .i64 Dw.size, .slice dv45.pE dv45.nE dv45.cE, .slice dv45.pW dv45.nW dv45.cW, .int .i64 Dw.fuse, .bool Dw.down] 25
  have v_b := va45.below t45
  have q46 : (w45.alloc (.cells #[.int .i64 Dw.size, .slice dv45.pE dv45.nE dv45.cE, .slice dv45.pW dv45.nW dv45.cW, .int .i64 Dw.fuse, .bool Dw.down] 25)).cell? ⟨w1.heap.size, 0, none⟩ = some (.int .i64 D.size) := by rw [← hu45]; exact x_g.cell 0 (by simp)
  have q47 : (w45.alloc (.cells #[.int .i64 Dw.size, .slice dv45.pE dv45.nE dv45.cE, .slice dv45.pW dv45.nW dv45.cW, .int .i64 Dw.fuse, .bool Dw.down] 25)).cell? ⟨w1.heap.size, 1, none⟩ = some (.slice dv1.pE dv1.nE dv1.cE) := by rw [← hu45]; exact x_g.cell 1 (by simp)
  have q48 : (w45.alloc (.cells #[.int .i64 Dw.size, .slice dv45.pE dv45.nE dv45.cE, .slice dv45.pW dv45.nW dv45.cW, .int .i64 Dw.fuse, .bool Dw.down] 25)).cell? ⟨w1.heap.size, 2, none⟩ = some (.slice dv1.pW dv1.nW dv1.cW) := by rw [← hu45]; exact x_g.cell 2 (by simp)
  have q49 : (w45.alloc (.cells #[.int .i64 Dw.size, .slice dv45.pE dv45.nE dv45.cE, .slice dv45.pW dv45.nW dv45.cW, .int .i64 Dw.fuse, .bool Dw.down] 25)).cell? ⟨w1.heap.size, 3, none⟩ = some (.int .i64 D.fuse) := by rw [← hu45]; exact x_g.cell 3 (by simp)
  have q50 : (w45.alloc (.cells #[.int .i64 Dw.size, .slice dv45.pE dv45.nE dv45.cE, .slice dv45.pW dv45.nW dv45.cW, .int .i64 Dw.fuse, .bool Dw.down] 25)).cell? ⟨w1.heap.size, 4, none⟩ = some (.bool D.down) := by rw [← hu45]; exact x_g.cell 4 (by simp)
  have q51 : (w45.alloc (.cells #[.int .i64 Dw.size, .slice dv45.pE dv45.nE dv45.cE, .slice dv45.pW dv45.nW dv45.cW, .int .i64 Dw.fuse, .bool Dw.down] 25)).cell? ⟨w.heap.size, 0, none⟩ = some (.int .i64 D.size) := by rw [← hu45]; exact x_d.cell 0 (by simp)
  have q52 : (w45.alloc (.cells #[.int .i64 Dw.size, .slice dv45.pE dv45.nE dv45.cE, .slice dv45.pW dv45.nW dv45.cW, .int .i64 Dw.fuse, .bool Dw.down] 25)).cell? ⟨w.heap.size, 1, none⟩ = some (.slice dv.pE dv.nE dv.cE) := by rw [← hu45]; exact x_d.cell 1 (by simp)
  have q53 : (w45.alloc (.cells #[.int .i64 Dw.size, .slice dv45.pE dv45.nE dv45.cE, .slice dv45.pW dv45.nW dv45.cW, .int .i64 Dw.fuse, .bool Dw.down] 25)).cell? ⟨w.heap.size, 2, none⟩ = some (.slice dv.pW dv.nW dv.cW) := by rw [← hu45]; exact x_d.cell 2 (by simp)
  have q54 : (w45.alloc (.cells #[.int .i64 Dw.size, .slice dv45.pE dv45.nE dv45.cE, .slice dv45.pW dv45.nW dv45.cW, .int .i64 Dw.fuse, .bool Dw.down] 25)).cell? ⟨w.heap.size, 3, none⟩ = some (.int .i64 D.fuse) := by rw [← hu45]; exact x_d.cell 3 (by simp)
  have q55 : (w45.alloc (.cells #[.int .i64 Dw.size, .slice dv45.pE dv45.nE dv45.cE, .slice dv45.pW dv45.nW dv45.cW, .int .i64 Dw.fuse, .bool Dw.down] 25)).cell? ⟨w.heap.size, 4, none⟩ = some (.bool D.down) := by rw [← hu45]; exact x_d.cell 4 (by simp)
  have HU45 := Lib.hid hu45
  have X_d := Lib.hid x_d; have V_d := Lib.hid v_d
  have X_g := Lib.hid x_g; have V_g := Lib.hid v_g
  have X_a := Lib.hid x_a; have V_a := Lib.hid v_a
  have X_b := Lib.hid x_b; have V_b := Lib.hid v_b
  have BB := Lib.hid bb
  clear bb x_d v_d x_g v_g x_a v_a x_b v_b
  clear b45 t45 hu45 va45
  go_wp2_with fail
  rw [← HU45.out]
  refine (sy_call V_g.out).mono ?_
  rw [HDY.out, HEY.out]
  rintro e w56 ⟨dv56, rfl, va56, _, b56⟩
  have x_d := X_d.out.below b56; have v_d := V_d.out.below b56
  have x_g := X_g.out.below b56; have v_g := V_g.out.below b56
  have x_a := X_a.out.below b56; have v_a := V_a.out.below b56
  have x_b := X_b.out.below b56; have v_b := V_b.out.below b56
  have bb := BB.out.trans (b56.mono BB.out.size)
  have G_c := Lib.hid bb.size
  obtain ⟨u56, hu56⟩ : ∃ u, u = (w56.alloc (.cells #[.int .i64 Dy.size, .slice dv56.pE dv56.nE dv56.cE, .slice dv56.pW dv56.nW dv56.cW, .int .i64 Dy.fuse, .bool Dy.down] 25)) := ⟨_, rfl⟩
  have t56 : Below w56.heap.size w56 u56 := by rw [hu56]; exact (Below.refl _ _).alloc (Nat.le_refl _) _
  replace x_d := x_d.below t56; replace v_d := v_d.below t56
  replace x_g := x_g.below t56; replace v_g := v_g.below t56
  replace x_a := x_a.below t56; replace v_a := v_a.below t56
  replace x_b := x_b.below t56; replace v_b := v_b.below t56
  replace bb := bb.trans (t56.mono bb.size)
  have x_c : Boxed u56 w56.heap.size [.int .i64 Dy.size, .slice dv56.pE dv56.nE dv56.cE, .slice dv56.pW dv56.nW dv56.cW, .int .i64 Dy.fuse, .bool Dy.down] := by rw [hu56]; exact Boxed.new w56 #[.int .i64 Dy.size, .slice dv56.pE dv56.nE dv56.cE, .slice dv56.pW dv56.nW dv56.cW, .int .i64 Dy.fuse, .bool Dy.down] 25
  have v_c := va56.below t56
  have q57 : (w56.alloc (.cells #[.int .i64 Dy.size, .slice dv56.pE dv56.nE dv56.cE, .slice dv56.pW dv56.nW dv56.cW, .int .i64 Dy.fuse, .bool Dy.down] 25)).cell? ⟨w1.heap.size, 0, none⟩ = some (.int .i64 D.size) := by rw [← hu56]; exact x_g.cell 0 (by simp)
  have q58 : (w56.alloc (.cells #[.int .i64 Dy.size, .slice dv56.pE dv56.nE dv56.cE, .slice dv56.pW dv56.nW dv56.cW, .int .i64 Dy.fuse, .bool Dy.down] 25)).cell? ⟨w1.heap.size, 1, none⟩ = some (.slice dv1.pE dv1.nE dv1.cE) := by rw [← hu56]; exact x_g.cell 1 (by simp)
  have q59 : (w56.alloc (.cells #[.int .i64 Dy.size, .slice dv56.pE dv56.nE dv56.cE, .slice dv56.pW dv56.nW dv56.cW, .int .i64 Dy.fuse, .bool Dy.down] 25)).cell? ⟨w1.heap.size, 2, none⟩ = some (.slice dv1.pW dv1.nW dv1.cW) := by rw [← hu56]; exact x_g.cell 2 (by simp)
  have q60 : (w56.alloc (.cells #[.int .i64 Dy.size, .slice dv56.pE dv56.nE dv56.cE, .slice dv56.pW dv56.nW dv56.cW, .int .i64 Dy.fuse, .bool Dy.down] 25)).cell? ⟨w1.heap.size, 3, none⟩ = some (.int .i64 D.fuse) := by rw [← hu56]; exact x_g.cell 3 (by simp)
  have q61 : (w56.alloc (.cells #[.int .i64 Dy.size, .slice dv56.pE dv56.nE dv56.cE, .slice dv56.pW dv56.nW dv56.cW, .int .i64 Dy.fuse, .bool Dy.down] 25)).cell? ⟨w1.heap.size, 4, none⟩ = some (.bool D.down) := by rw [← hu56]; exact x_g.cell 4 (by simp)
  have q62 : (w56.alloc (.cells #[.int .i64 Dy.size, .slice dv56.pE dv56.nE dv56.cE, .slice dv56.pW dv56.nW dv56.cW, .int .i64 Dy.fuse, .bool Dy.down] 25)).cell? ⟨w.heap.size, 0, none⟩ = some (.int .i64 D.size) := by rw [← hu56]; exact x_d.cell 0 (by simp)
  have q63 : (w56.alloc (.cells #[.int .i64 Dy.size, .slice dv56.pE dv56.nE dv56.cE, .slice dv56.pW dv56.nW dv56.cW, .int .i64 Dy.fuse, .bool Dy.down] 25)).cell? ⟨w.heap.size, 1, none⟩ = some (.slice dv.pE dv.nE dv.cE) := by rw [← hu56]; exact x_d.cell 1 (by simp)
  have q64 : (w56.alloc (.cells #[.int .i64 Dy.size, .slice dv56.pE dv56.nE dv56.cE, .slice dv56.pW dv56.nW dv56.cW, .int .i64 Dy.fuse, .bool Dy.down] 25)).cell? ⟨w.heap.size, 2, none⟩ = some (.slice dv.pW dv.nW dv.cW) := by rw [← hu56]; exact x_d.cell 2 (by simp)
  have q65 : (w56.alloc (.cells #[.int .i64 Dy.size, .slice dv56.pE dv56.nE dv56.cE, .slice dv56.pW dv56.nW dv56.cW, .int .i64 Dy.fuse, .bool Dy.down] 25)).cell? ⟨w.heap.size, 3, none⟩ = some (.int .i64 D.fuse) := by rw [← hu56]; exact x_d.cell 3 (by simp)
  have q66 : (w56.alloc (.cells #[.int .i64 Dy.size, .slice dv56.pE dv56.nE dv56.cE, .slice dv56.pW dv56.nW dv56.cW, .int .i64 Dy.fuse, .bool Dy.down] 25)).cell? ⟨w.heap.size, 4, none⟩ = some (.bool D.down) := by rw [← hu56]; exact x_d.cell 4 (by simp)
  have HU56 := Lib.hid hu56
  have X_d := Lib.hid x_d; have V_d := Lib.hid v_d
  have X_g := Lib.hid x_g; have V_g := Lib.hid v_g
  have X_a := Lib.hid x_a; have V_a := Lib.hid v_a
  have X_b := Lib.hid x_b; have V_b := Lib.hid v_b
  have X_c := Lib.hid x_c; have V_c := Lib.hid v_c
  have BB := Lib.hid bb
  clear bb x_d v_d x_g v_g x_a v_a x_b v_b x_c v_c
  clear b56 t56 hu56 va56
  go_wp2_with fail
  rw [← HU56.out]
  refine (rSync_any D dv _ V_d.out HCAP.out hf).mono ?_
  rw [HDY.out, HEY.out]
  rintro e w67 ⟨dv67, rfl, va67, _, b67⟩
  have x_d := X_d.out.below b67; have v_d := V_d.out.below b67
  have x_g := X_g.out.below b67; have v_g := V_g.out.below b67
  have x_a := X_a.out.below b67; have v_a := V_a.out.below b67
  have x_b := X_b.out.below b67; have v_b := V_b.out.below b67
  have x_c := X_c.out.below b67; have v_c := V_c.out.below b67
  have bb := BB.out.trans (b67.mono BB.out.size)
  have G_e := Lib.hid bb.size
  obtain ⟨u67, hu67⟩ : ∃ u, u = (w67.alloc (.cells #[.int .i64 Dy.size, .slice dv67.pE dv67.nE dv67.cE, .slice dv67.pW dv67.nW dv67.cW, .int .i64 Dy.fuse, .bool Dy.down] 25)) := ⟨_, rfl⟩
  have t67 : Below w67.heap.size w67 u67 := by rw [hu67]; exact (Below.refl _ _).alloc (Nat.le_refl _) _
  replace x_d := x_d.below t67; replace v_d := v_d.below t67
  replace x_g := x_g.below t67; replace v_g := v_g.below t67
  replace x_a := x_a.below t67; replace v_a := v_a.below t67
  replace x_b := x_b.below t67; replace v_b := v_b.below t67
  replace x_c := x_c.below t67; replace v_c := v_c.below t67
  replace bb := bb.trans (t67.mono bb.size)
  have x_e : Boxed u67 w67.heap.size [.int .i64 Dy.size, .slice dv67.pE dv67.nE dv67.cE, .slice dv67.pW dv67.nW dv67.cW, .int .i64 Dy.fuse, .bool Dy.down] := by rw [hu67]; exact Boxed.new w67 #[.int .i64 Dy.size, .slice dv67.pE dv67.nE dv67.cE, .slice dv67.pW dv67.nW dv67.cW, .int .i64 Dy.fuse, .bool Dy.down] 25
  have v_e := va67.below t67
  have q68 : (w67.alloc (.cells #[.int .i64 Dy.size, .slice dv67.pE dv67.nE dv67.cE, .slice dv67.pW dv67.nW dv67.cW, .int .i64 Dy.fuse, .bool Dy.down] 25)).cell? ⟨w1.heap.size, 0, none⟩ = some (.int .i64 D.size) := by rw [← hu67]; exact x_g.cell 0 (by simp)
  have q69 : (w67.alloc (.cells #[.int .i64 Dy.size, .slice dv67.pE dv67.nE dv67.cE, .slice dv67.pW dv67.nW dv67.cW, .int .i64 Dy.fuse, .bool Dy.down] 25)).cell? ⟨w1.heap.size, 1, none⟩ = some (.slice dv1.pE dv1.nE dv1.cE) := by rw [← hu67]; exact x_g.cell 1 (by simp)
  have q70 : (w67.alloc (.cells #[.int .i64 Dy.size, .slice dv67.pE dv67.nE dv67.cE, .slice dv67.pW dv67.nW dv67.cW, .int .i64 Dy.fuse, .bool Dy.down] 25)).cell? ⟨w1.heap.size, 2, none⟩ = some (.slice dv1.pW dv1.nW dv1.cW) := by rw [← hu67]; exact x_g.cell 2 (by simp)
  have q71 : (w67.alloc (.cells #[.int .i64 Dy.size, .slice dv67.pE dv67.nE dv67.cE, .slice dv67.pW dv67.nW dv67.cW, .int .i64 Dy.fuse, .bool Dy.down] 25)).cell? ⟨w1.heap.size, 3, none⟩ = some (.int .i64 D.fuse) := by rw [← hu67]; exact x_g.cell 3 (by simp)
  have q72 : (w67.alloc (.cells #[.int .i64 Dy.size, .slice dv67.pE dv67.nE dv67.cE, .slice dv67.pW dv67.nW dv67.cW, .int .i64 Dy.fuse, .bool Dy.down] 25)).cell? ⟨w1.heap.size, 4, none⟩ = some (.bool D.down) := by rw [← hu67]; exact x_g.cell 4 (by simp)
  have q73 : (w67.alloc (.cells #[.int .i64 Dy.size, .slice dv67.pE dv67.nE dv67.cE, .slice dv67.pW dv67.nW dv67.cW, .int .i64 Dy.fuse, .bool Dy.down] 25)).cell? ⟨w.heap.size, 0, none⟩ = some (.int .i64 D.size) := by rw [← hu67]; exact x_d.cell 0 (by simp)
  have q74 : (w67.alloc (.cells #[.int .i64 Dy.size, .slice dv67.pE dv67.nE dv67.cE, .slice dv67.pW dv67.nW dv67.cW, .int .i64 Dy.fuse, .bool Dy.down] 25)).cell? ⟨w.heap.size, 1, none⟩ = some (.slice dv.pE dv.nE dv.cE) := by rw [← hu67]; exact x_d.cell 1 (by simp)
  have q75 : (w67.alloc (.cells #[.int .i64 Dy.size, .slice dv67.pE dv67.nE dv67.cE, .slice dv67.pW dv67.nW dv67.cW, .int .i64 Dy.fuse, .bool Dy.down] 25)).cell? ⟨w.heap.size, 2, none⟩ = some (.slice dv.pW dv.nW dv.cW) := by rw [← hu67]; exact x_d.cell 2 (by simp)
  have q76 : (w67.alloc (.cells #[.int .i64 Dy.size, .slice dv67.pE dv67.nE dv67.cE, .slice dv67.pW dv67.nW dv67.cW, .int .i64 Dy.fuse, .bool Dy.down] 25)).cell? ⟨w.heap.size, 3, none⟩ = some (.int .i64 D.fuse) := by rw [← hu67]; exact x_d.cell 3 (by simp)
  have q77 : (w67.alloc (.cells #[.int .i64 Dy.size, .slice dv67.pE dv67.nE dv67.cE, .slice dv67.pW dv67.nW dv67.cW, .int .i64 Dy.fuse, .bool Dy.down] 25)).cell? ⟨w.heap.size, 4, none⟩ = some (.bool D.down) := by rw [← hu67]; exact x_d.cell 4 (by simp)
  have HU67 := Lib.hid hu67
  have X_d := Lib.hid x_d; have V_d := Lib.hid v_d
  have X_g := Lib.hid x_g; have V_g := Lib.hid v_g
  have X_a := Lib.hid x_a; have V_a := Lib.hid v_a
  have X_b := Lib.hid x_b; have V_b := Lib.hid v_b
  have X_c := Lib.hid x_c; have V_c := Lib.hid v_c
  have X_e := Lib.hid x_e; have V_e := Lib.hid v_e
  have BB := Lib.hid bb
  clear bb x_d v_d x_g v_g x_a v_a x_b v_b x_c v_c x_e v_e
  clear b67 t67 hu67 va67
  go_wp2_with fail
  rw [← HU67.out]
  refine (cr_call V_g.out K pK nK cK HNK.out (HRK.out _ BB.out)).mono ?_
  rw [HDC.out, HEC.out]
  rintro e w78 ⟨dv78, rfl, va78, _, b78⟩
  have x_d := X_d.out.below b78; have v_d := V_d.out.below b78
  have x_g := X_g.out.below b78; have v_g := V_g.out.below b78
  have x_a := X_a.out.below b78; have v_a := V_a.out.below b78
  have x_b := X_b.out.below b78; have v_b := V_b.out.below b78
  have x_c := X_c.out.below b78; have v_c := V_c.out.below b78
  have x_e := X_e.out.below b78; have v_e := V_e.out.below b78
  have bb := BB.out.trans (b78.mono BB.out.size)
  have G_f := Lib.hid bb.size
  obtain ⟨u78, hu78⟩ : ∃ u, u = (w78.alloc (.cells #[.int .i64 Dc.size, .slice dv78.pE dv78.nE dv78.cE, .slice dv78.pW dv78.nW dv78.cW, .int .i64 Dc.fuse, .bool Dc.down] 25)) := ⟨_, rfl⟩
  have t78 : Below w78.heap.size w78 u78 := by rw [hu78]; exact (Below.refl _ _).alloc (Nat.le_refl _) _
  replace x_d := x_d.below t78; replace v_d := v_d.below t78
  replace x_g := x_g.below t78; replace v_g := v_g.below t78
  replace x_a := x_a.below t78; replace v_a := v_a.below t78
  replace x_b := x_b.below t78; replace v_b := v_b.below t78
  replace x_c := x_c.below t78; replace v_c := v_c.below t78
  replace x_e := x_e.below t78; replace v_e := v_e.below t78
  replace bb := bb.trans (t78.mono bb.size)
  have x_f : Boxed u78 w78.heap.size [.int .i64 Dc.size, .slice dv78.pE dv78.nE dv78.cE, .slice dv78.pW dv78.nW dv78.cW, .int .i64 Dc.fuse, .bool Dc.down] := by rw [hu78]; exact Boxed.new w78 #[.int .i64 Dc.size, .slice dv78.pE dv78.nE dv78.cE, .slice dv78.pW dv78.nW dv78.cW, .int .i64 Dc.fuse, .bool Dc.down] 25
  have v_f := va78.below t78
  have q79 : (w78.alloc (.cells #[.int .i64 Dc.size, .slice dv78.pE dv78.nE dv78.cE, .slice dv78.pW dv78.nW dv78.cW, .int .i64 Dc.fuse, .bool Dc.down] 25)).cell? ⟨w1.heap.size, 0, none⟩ = some (.int .i64 D.size) := by rw [← hu78]; exact x_g.cell 0 (by simp)
  have q80 : (w78.alloc (.cells #[.int .i64 Dc.size, .slice dv78.pE dv78.nE dv78.cE, .slice dv78.pW dv78.nW dv78.cW, .int .i64 Dc.fuse, .bool Dc.down] 25)).cell? ⟨w1.heap.size, 1, none⟩ = some (.slice dv1.pE dv1.nE dv1.cE) := by rw [← hu78]; exact x_g.cell 1 (by simp)
  have q81 : (w78.alloc (.cells #[.int .i64 Dc.size, .slice dv78.pE dv78.nE dv78.cE, .slice dv78.pW dv78.nW dv78.cW, .int .i64 Dc.fuse, .bool Dc.down] 25)).cell? ⟨w1.heap.size, 2, none⟩ = some (.slice dv1.pW dv1.nW dv1.cW) := by rw [← hu78]; exact x_g.cell 2 (by simp)
  have q82 : (w78.alloc (.cells #[.int .i64 Dc.size, .slice dv78.pE dv78.nE dv78.cE, .slice dv78.pW dv78.nW dv78.cW, .int .i64 Dc.fuse, .bool Dc.down] 25)).cell? ⟨w1.heap.size, 3, none⟩ = some (.int .i64 D.fuse) := by rw [← hu78]; exact x_g.cell 3 (by simp)
  have q83 : (w78.alloc (.cells #[.int .i64 Dc.size, .slice dv78.pE dv78.nE dv78.cE, .slice dv78.pW dv78.nW dv78.cW, .int .i64 Dc.fuse, .bool Dc.down] 25)).cell? ⟨w1.heap.size, 4, none⟩ = some (.bool D.down) := by rw [← hu78]; exact x_g.cell 4 (by simp)
  have q84 : (w78.alloc (.cells #[.int .i64 Dc.size, .slice dv78.pE dv78.nE dv78.cE, .slice dv78.pW dv78.nW dv78.cW, .int .i64 Dc.fuse, .bool Dc.down] 25)).cell? ⟨w.heap.size, 0, none⟩ = some (.int .i64 D.size) := by rw [← hu78]; exact x_d.cell 0 (by simp)
  have q85 : (w78.alloc (.cells #[.int .i64 Dc.size, .slice dv78.pE dv78.nE dv78.cE, .slice dv78.pW dv78.nW dv78.cW, .int .i64 Dc.fuse, .bool Dc.down] 25)).cell? ⟨w.heap.size, 1, none⟩ = some (.slice dv.pE dv.nE dv.cE) := by rw [← hu78]; exact x_d.cell 1 (by simp)
  have q86 : (w78.alloc (.cells #[.int .i64 Dc.size, .slice dv78.pE dv78.nE dv78.cE, .slice dv78.pW dv78.nW dv78.cW, .int .i64 Dc.fuse, .bool Dc.down] 25)).cell? ⟨w.heap.size, 2, none⟩ = some (.slice dv.pW dv.nW dv.cW) := by rw [← hu78]; exact x_d.cell 2 (by simp)
  have q87 : (w78.alloc (.cells #[.int .i64 Dc.size, .slice dv78.pE dv78.nE dv78.cE, .slice dv78.pW dv78.nW dv78.cW, .int .i64 Dc.fuse, .bool Dc.down] 25)).cell? ⟨w.heap.size, 3, none⟩ = some (.int .i64 D.fuse) := by rw [← hu78]; exact x_d.cell 3 (by simp)
  have q88 : (w78.alloc (.cells #[.int .i64 Dc.size, .slice dv78.pE dv78.nE dv78.cE, .slice dv78.pW dv78.nW dv78.cW, .int .i64 Dc.fuse, .bool Dc.down] 25)).cell? ⟨w.heap.size, 4, none⟩ = some (.bool D.down) := by rw [← hu78]; exact x_d.cell 4 (by simp)
  have HU78 := Lib.hid hu78
  have X_d := Lib.hid x_d; have V_d := Lib.hid v_d
  have X_g := Lib.hid x_g; have V_g := Lib.hid v_g
  have X_a := Lib.hid x_a; have V_a := Lib.hid v_a
  have X_b := Lib.hid x_b; have V_b := Lib.hid v_b
  have X_c := Lib.hid x_c; have V_c := Lib.hid v_c
  have X_e := Lib.hid x_e; have V_e := Lib.hid v_e
  have X_f := Lib.hid x_f; have V_f := Lib.hid v_f
  have BB := Lib.hid bb
  clear bb x_d v_d x_g v_g x_a v_a x_b v_b x_c v_c x_e v_e x_f v_f
  clear b78 t78 hu78 va78
  go_wp2_with fail
  rw [← HU78.out]
  refine (rCrash_any D dv K pK nK cK _ V_d.out HCAP.out hf HNK.out (HRK.out _ BB.out) hKl).mono ?_
  rw [HDC.out, HEC.out]
  rintro e w89 ⟨dv89, rfl, va89, _, b89⟩
  have x_d := X_d.out.below b89; have v_d := V_d.out.below b89
  have x_g := X_g.out.below b89; have v_g := V_g.out.below b89
  have x_a := X_a.out.below b89; have v_a := V_a.out.below b89
  have x_b := X_b.out.below b89; have v_b := V_b.out.below b89
  have x_c := X_c.out.below b89; have v_c := V_c.out.below b89
  have x_e := X_e.out.below b89; have v_e := V_e.out.below b89
  have x_f := X_f.out.below b89; have v_f := V_f.out.below b89
  have bb := BB.out.trans (b89.mono BB.out.size)
  have G_h := Lib.hid bb.size
  obtain ⟨u89, hu89⟩ : ∃ u, u = (w89.alloc (.cells #[.int .i64 Dc.size, .slice dv89.pE dv89.nE dv89.cE, .slice dv89.pW dv89.nW dv89.cW, .int .i64 Dc.fuse, .bool Dc.down] 25)) := ⟨_, rfl⟩
  have t89 : Below w89.heap.size w89 u89 := by rw [hu89]; exact (Below.refl _ _).alloc (Nat.le_refl _) _
  replace x_d := x_d.below t89; replace v_d := v_d.below t89
  replace x_g := x_g.below t89; replace v_g := v_g.below t89
  replace x_a := x_a.below t89; replace v_a := v_a.below t89
  replace x_b := x_b.below t89; replace v_b := v_b.below t89
  replace x_c := x_c.below t89; replace v_c := v_c.below t89
  replace x_e := x_e.below t89; replace v_e := v_e.below t89
  replace x_f := x_f.below t89; replace v_f := v_f.below t89
  replace bb := bb.trans (t89.mono bb.size)
  have x_h : Boxed u89 w89.heap.size [.int .i64 Dc.size, .slice dv89.pE dv89.nE dv89.cE, .slice dv89.pW dv89.nW dv89.cW, .int .i64 Dc.fuse, .bool Dc.down] := by rw [hu89]; exact Boxed.new w89 #[.int .i64 Dc.size, .slice dv89.pE dv89.nE dv89.cE, .slice dv89.pW dv89.nW dv89.cW, .int .i64 Dc.fuse, .bool Dc.down] 25
  have v_h := va89.below t89
  have HU89 := Lib.hid hu89
  have X_d := Lib.hid x_d; have V_d := Lib.hid v_d
  have X_g := Lib.hid x_g; have V_g := Lib.hid v_g
  have X_a := Lib.hid x_a; have V_a := Lib.hid v_a
  have X_b := Lib.hid x_b; have V_b := Lib.hid v_b
  have X_c := Lib.hid x_c; have V_c := Lib.hid v_c
  have X_e := Lib.hid x_e; have V_e := Lib.hid v_e
  have X_f := Lib.hid x_f; have V_f := Lib.hid v_f
  have X_h := Lib.hid x_h; have V_h := Lib.hid v_h
  have BB := Lib.hid bb
  clear bb x_d v_d x_g v_g x_a v_a x_b v_b x_c v_c x_e v_e x_f v_f x_h v_h
  clear b89 t89 hu89 va89
  go_wp2_with fail
  rw [← HU89.out]
  refine (lives_any _).mono ?_
  rintro e w90 ⟨rfl, b90⟩
  have x_d := X_d.out.below b90; have v_d := V_d.out.below b90
  have x_g := X_g.out.below b90; have v_g := V_g.out.below b90
  have x_a := X_a.out.below b90; have v_a := V_a.out.below b90
  have x_b := X_b.out.below b90; have v_b := V_b.out.below b90
  have x_c := X_c.out.below b90; have v_c := V_c.out.below b90
  have x_e := X_e.out.below b90; have v_e := V_e.out.below b90
  have x_f := X_f.out.below b90; have v_f := V_f.out.below b90
  have x_h := X_h.out.below b90; have v_h := V_h.out.below b90
  have bb := BB.out.trans (b90.mono BB.out.size)
  have q91 : w90.cell? ⟨w34.heap.size, 0, none⟩ = some (.int .i64 Dw.size) := by exact x_a.cell 0 (by simp)
  have q92 : w90.cell? ⟨w34.heap.size, 1, none⟩ = some (.slice dv34.pE dv34.nE dv34.cE) := by exact x_a.cell 1 (by simp)
  have q93 : w90.cell? ⟨w34.heap.size, 2, none⟩ = some (.slice dv34.pW dv34.nW dv34.cW) := by exact x_a.cell 2 (by simp)
  have q94 : w90.cell? ⟨w34.heap.size, 3, none⟩ = some (.int .i64 Dw.fuse) := by exact x_a.cell 3 (by simp)
  have q95 : w90.cell? ⟨w34.heap.size, 4, none⟩ = some (.bool Dw.down) := by exact x_a.cell 4 (by simp)
  have q96 : w90.cell? ⟨w45.heap.size, 0, none⟩ = some (.int .i64 Dw.size) := by exact x_b.cell 0 (by simp)
  have q97 : w90.cell? ⟨w45.heap.size, 1, none⟩ = some (.slice dv45.pE dv45.nE dv45.cE) := by exact x_b.cell 1 (by simp)
  have q98 : w90.cell? ⟨w45.heap.size, 2, none⟩ = some (.slice dv45.pW dv45.nW dv45.cW) := by exact x_b.cell 2 (by simp)
  have q99 : w90.cell? ⟨w45.heap.size, 3, none⟩ = some (.int .i64 Dw.fuse) := by exact x_b.cell 3 (by simp)
  have q100 : w90.cell? ⟨w45.heap.size, 4, none⟩ = some (.bool Dw.down) := by exact x_b.cell 4 (by simp)
  have X_d := Lib.hid x_d; have V_d := Lib.hid v_d
  have X_g := Lib.hid x_g; have V_g := Lib.hid v_g
  have X_a := Lib.hid x_a; have V_a := Lib.hid v_a
  have X_b := Lib.hid x_b; have V_b := Lib.hid v_b
  have X_c := Lib.hid x_c; have V_c := Lib.hid v_c
  have X_e := Lib.hid x_e; have V_e := Lib.hid v_e
  have X_f := Lib.hid x_f; have V_f := Lib.hid v_f
  have X_h := Lib.hid x_h; have V_h := Lib.hid v_h
  have BB := Lib.hid bb
  clear bb x_d v_d x_g v_g x_a v_a x_b v_b x_c v_c x_e v_e x_f v_f x_h v_h
  clear b90
  go_wp2_with fail
  refine (Same_any Dw dv34 dv45 _ V_a.out V_b.out).mono ?_
  rintro e w101 ⟨rfl, b101⟩
  have x_d := X_d.out.below b101; have v_d := V_d.out.below b101
  have x_g := X_g.out.below b101; have v_g := V_g.out.below b101
  have x_a := X_a.out.below b101; have v_a := V_a.out.below b101
  have x_b := X_b.out.below b101; have v_b := V_b.out.below b101
  have x_c := X_c.out.below b101; have v_c := V_c.out.below b101
  have x_e := X_e.out.below b101; have v_e := V_e.out.below b101
  have x_f := X_f.out.below b101; have v_f := V_f.out.below b101
  have x_h := X_h.out.below b101; have v_h := V_h.out.below b101
  have bb := BB.out.trans (b101.mono BB.out.size)
  have q102 : w101.cell? ⟨w56.heap.size, 0, none⟩ = some (.int .i64 Dy.size) := by exact x_c.cell 0 (by simp)
  have q103 : w101.cell? ⟨w56.heap.size, 1, none⟩ = some (.slice dv56.pE dv56.nE dv56.cE) := by exact x_c.cell 1 (by simp)
  have q104 : w101.cell? ⟨w56.heap.size, 2, none⟩ = some (.slice dv56.pW dv56.nW dv56.cW) := by exact x_c.cell 2 (by simp)
  have q105 : w101.cell? ⟨w56.heap.size, 3, none⟩ = some (.int .i64 Dy.fuse) := by exact x_c.cell 3 (by simp)
  have q106 : w101.cell? ⟨w56.heap.size, 4, none⟩ = some (.bool Dy.down) := by exact x_c.cell 4 (by simp)
  have q107 : w101.cell? ⟨w67.heap.size, 0, none⟩ = some (.int .i64 Dy.size) := by exact x_e.cell 0 (by simp)
  have q108 : w101.cell? ⟨w67.heap.size, 1, none⟩ = some (.slice dv67.pE dv67.nE dv67.cE) := by exact x_e.cell 1 (by simp)
  have q109 : w101.cell? ⟨w67.heap.size, 2, none⟩ = some (.slice dv67.pW dv67.nW dv67.cW) := by exact x_e.cell 2 (by simp)
  have q110 : w101.cell? ⟨w67.heap.size, 3, none⟩ = some (.int .i64 Dy.fuse) := by exact x_e.cell 3 (by simp)
  have q111 : w101.cell? ⟨w67.heap.size, 4, none⟩ = some (.bool Dy.down) := by exact x_e.cell 4 (by simp)
  have X_d := Lib.hid x_d; have V_d := Lib.hid v_d
  have X_g := Lib.hid x_g; have V_g := Lib.hid v_g
  have X_a := Lib.hid x_a; have V_a := Lib.hid v_a
  have X_b := Lib.hid x_b; have V_b := Lib.hid v_b
  have X_c := Lib.hid x_c; have V_c := Lib.hid v_c
  have X_e := Lib.hid x_e; have V_e := Lib.hid v_e
  have X_f := Lib.hid x_f; have V_f := Lib.hid v_f
  have X_h := Lib.hid x_h; have V_h := Lib.hid v_h
  have BB := Lib.hid bb
  clear bb x_d v_d x_g v_g x_a v_a x_b v_b x_c v_c x_e v_e x_f v_f x_h v_h
  clear b101
  go_wp2_with fail
  refine (Same_any Dy dv56 dv67 _ V_c.out V_e.out).mono ?_
  rintro e w112 ⟨rfl, b112⟩
  have x_d := X_d.out.below b112; have v_d := V_d.out.below b112
  have x_g := X_g.out.below b112; have v_g := V_g.out.below b112
  have x_a := X_a.out.below b112; have v_a := V_a.out.below b112
  have x_b := X_b.out.below b112; have v_b := V_b.out.below b112
  have x_c := X_c.out.below b112; have v_c := V_c.out.below b112
  have x_e := X_e.out.below b112; have v_e := V_e.out.below b112
  have x_f := X_f.out.below b112; have v_f := V_f.out.below b112
  have x_h := X_h.out.below b112; have v_h := V_h.out.below b112
  have bb := BB.out.trans (b112.mono BB.out.size)
  have q113 : w112.cell? ⟨w78.heap.size, 0, none⟩ = some (.int .i64 Dc.size) := by exact x_f.cell 0 (by simp)
  have q114 : w112.cell? ⟨w78.heap.size, 1, none⟩ = some (.slice dv78.pE dv78.nE dv78.cE) := by exact x_f.cell 1 (by simp)
  have q115 : w112.cell? ⟨w78.heap.size, 2, none⟩ = some (.slice dv78.pW dv78.nW dv78.cW) := by exact x_f.cell 2 (by simp)
  have q116 : w112.cell? ⟨w78.heap.size, 3, none⟩ = some (.int .i64 Dc.fuse) := by exact x_f.cell 3 (by simp)
  have q117 : w112.cell? ⟨w78.heap.size, 4, none⟩ = some (.bool Dc.down) := by exact x_f.cell 4 (by simp)
  have q118 : w112.cell? ⟨w89.heap.size, 0, none⟩ = some (.int .i64 Dc.size) := by exact x_h.cell 0 (by simp)
  have q119 : w112.cell? ⟨w89.heap.size, 1, none⟩ = some (.slice dv89.pE dv89.nE dv89.cE) := by exact x_h.cell 1 (by simp)
  have q120 : w112.cell? ⟨w89.heap.size, 2, none⟩ = some (.slice dv89.pW dv89.nW dv89.cW) := by exact x_h.cell 2 (by simp)
  have q121 : w112.cell? ⟨w89.heap.size, 3, none⟩ = some (.int .i64 Dc.fuse) := by exact x_h.cell 3 (by simp)
  have q122 : w112.cell? ⟨w89.heap.size, 4, none⟩ = some (.bool Dc.down) := by exact x_h.cell 4 (by simp)
  have X_d := Lib.hid x_d; have V_d := Lib.hid v_d
  have X_g := Lib.hid x_g; have V_g := Lib.hid v_g
  have X_a := Lib.hid x_a; have V_a := Lib.hid v_a
  have X_b := Lib.hid x_b; have V_b := Lib.hid v_b
  have X_c := Lib.hid x_c; have V_c := Lib.hid v_c
  have X_e := Lib.hid x_e; have V_e := Lib.hid v_e
  have X_f := Lib.hid x_f; have V_f := Lib.hid v_f
  have X_h := Lib.hid x_h; have V_h := Lib.hid v_h
  have BB := Lib.hid bb
  clear bb x_d v_d x_g v_g x_a v_a x_b v_b x_c v_c x_e v_e x_f v_f x_h v_h
  clear b112
  go_wp2_with fail
  refine (Same_any Dc dv78 dv89 _ V_f.out V_h.out).mono ?_
  rintro e w123 ⟨rfl, b123⟩
  have x_d := X_d.out.below b123; have v_d := V_d.out.below b123
  have x_g := X_g.out.below b123; have v_g := V_g.out.below b123
  have x_a := X_a.out.below b123; have v_a := V_a.out.below b123
  have x_b := X_b.out.below b123; have v_b := V_b.out.below b123
  have x_c := X_c.out.below b123; have v_c := V_c.out.below b123
  have x_e := X_e.out.below b123; have v_e := V_e.out.below b123
  have x_f := X_f.out.below b123; have v_f := V_f.out.below b123
  have x_h := X_h.out.below b123; have v_h := V_h.out.below b123
  have bb := BB.out.trans (b123.mono BB.out.size)
  have q124 : w123.cell? ⟨w1.heap.size, 0, none⟩ = some (.int .i64 D.size) := by exact x_g.cell 0 (by simp)
  have q125 : w123.cell? ⟨w1.heap.size, 1, none⟩ = some (.slice dv1.pE dv1.nE dv1.cE) := by exact x_g.cell 1 (by simp)
  have q126 : w123.cell? ⟨w1.heap.size, 2, none⟩ = some (.slice dv1.pW dv1.nW dv1.cW) := by exact x_g.cell 2 (by simp)
  have q127 : w123.cell? ⟨w1.heap.size, 3, none⟩ = some (.int .i64 D.fuse) := by exact x_g.cell 3 (by simp)
  have q128 : w123.cell? ⟨w1.heap.size, 4, none⟩ = some (.bool D.down) := by exact x_g.cell 4 (by simp)
  have q129 : w123.cell? ⟨w.heap.size, 0, none⟩ = some (.int .i64 D.size) := by exact x_d.cell 0 (by simp)
  have q130 : w123.cell? ⟨w.heap.size, 1, none⟩ = some (.slice dv.pE dv.nE dv.cE) := by exact x_d.cell 1 (by simp)
  have q131 : w123.cell? ⟨w.heap.size, 2, none⟩ = some (.slice dv.pW dv.nW dv.cW) := by exact x_d.cell 2 (by simp)
  have q132 : w123.cell? ⟨w.heap.size, 3, none⟩ = some (.int .i64 D.fuse) := by exact x_d.cell 3 (by simp)
  have q133 : w123.cell? ⟨w.heap.size, 4, none⟩ = some (.bool D.down) := by exact x_d.cell 4 (by simp)
  have X_d := Lib.hid x_d; have V_d := Lib.hid v_d
  have X_g := Lib.hid x_g; have V_g := Lib.hid v_g
  have X_a := Lib.hid x_a; have V_a := Lib.hid v_a
  have X_b := Lib.hid x_b; have V_b := Lib.hid v_b
  have X_c := Lib.hid x_c; have V_c := Lib.hid v_c
  have X_e := Lib.hid x_e; have V_e := Lib.hid v_e
  have X_f := Lib.hid x_f; have V_f := Lib.hid v_f
  have X_h := Lib.hid x_h; have V_h := Lib.hid v_h
  have BB := Lib.hid bb
  clear bb x_d v_d x_g v_g x_a v_a x_b v_b x_c v_c x_e v_e x_f v_f x_h v_h
  clear b123
  go_wp2_with fail
  refine (Same_any D dv1 dv _ V_g.out V_d.out).mono ?_
  rintro e w134 ⟨rfl, b134⟩
  have x_d := X_d.out.below b134; have v_d := V_d.out.below b134
  have x_g := X_g.out.below b134; have v_g := V_g.out.below b134
  have x_a := X_a.out.below b134; have v_a := V_a.out.below b134
  have x_b := X_b.out.below b134; have v_b := V_b.out.below b134
  have x_c := X_c.out.below b134; have v_c := V_c.out.below b134
  have x_e := X_e.out.below b134; have v_e := V_e.out.below b134
  have x_f := X_f.out.below b134; have v_f := V_f.out.below b134
  have x_h := X_h.out.below b134; have v_h := V_h.out.below b134
  have bb := BB.out.trans (b134.mono BB.out.size)
  have X_d := Lib.hid x_d; have V_d := Lib.hid v_d
  have X_g := Lib.hid x_g; have V_g := Lib.hid v_g
  have X_a := Lib.hid x_a; have V_a := Lib.hid v_a
  have X_b := Lib.hid x_b; have V_b := Lib.hid v_b
  have X_c := Lib.hid x_c; have V_c := Lib.hid v_c
  have X_e := Lib.hid x_e; have V_e := Lib.hid v_e
  have X_f := Lib.hid x_f; have V_f := Lib.hid v_f
  have X_h := Lib.hid x_h; have V_h := Lib.hid v_h
  have BB := Lib.hid bb
  clear bb x_d v_d x_g v_g x_a v_a x_b v_b x_c v_c x_e v_e x_f v_f x_h v_h
  clear b134
  go_wp2_with fail
  go_ret
  exact ⟨rfl, BB.out⟩
end Go.Proofs.Ytejmbbhbimgheaa.Dk

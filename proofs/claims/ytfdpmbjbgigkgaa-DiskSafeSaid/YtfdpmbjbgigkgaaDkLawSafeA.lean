/- DiskSafe: the law, where there are at most 30 writes. -/
import Derived.Test.YtfdpmbjbgigkgaaDkSafeAt
namespace Go.Proofs.Ytfdpmbjbgigkgaa.Dk
open Go.RowKit Go.Op

set_option maxHeartbeats 32000000 in
set_option maxRecDepth 100000 in
theorem safe_le (D : Dsk) (dv : DVal) (L : List Wr) (pL : Option Addr) (cL : Nat) (nm : ByteArray) (s : Int) (K : List Bool) (pK : Option Addr) (cK : Nat) (w : World) (hv : VarAt w D dv) (hL : WrsAt w pL L) (h3 : L.length ≤ 30) (hK : Rw.Rd w pK (bools K)) :
    Calls Try.prog 7 #[dval D dv, .slice pL L.length cL, .string nm, .int .i64 s, .slice pK K.length cK] w fun e w' => e = .returned (.bool true) ∧ Below w.heap.size w w' := by
  unfold dval
  obtain ⟨u0, hu0⟩ : ∃ u, u = (w.alloc (.cells #[.int .i64 D.size, .slice dv.pE dv.nE dv.cE, .slice dv.pW dv.nW dv.cW, .int .i64 D.fuse, .bool D.down] 25)) := ⟨_, rfl⟩
  have t0 : Below w.heap.size w u0 := by rw [hu0]; exact (Below.refl _ _).alloc (Nat.le_refl _) _
  have X_d : Hid (Boxed u0 w.heap.size [.int .i64 D.size, .slice dv.pE dv.nE dv.cE, .slice dv.pW dv.nW dv.cW, .int .i64 D.fuse, .bool D.down]) := Lib.hid (by rw [hu0]; exact Boxed.new w #[.int .i64 D.size, .slice dv.pE dv.nE dv.cE, .slice dv.pW dv.nW dv.cW, .int .i64 D.fuse, .bool D.down] 25)
  have V_d := Lib.hid (hv.below t0)
  have BB := Lib.hid t0
  have HU0 := Lib.hid hu0
  obtain ⟨D1, hD1⟩ : ∃ x, x = syD D := ⟨_, rfl⟩
  obtain ⟨e1, he1⟩ : ∃ x, x = syE D := ⟨_, rfl⟩
  obtain ⟨was, hwas⟩ : ∃ x, x = rdO D1 nm s := ⟨_, rfl⟩
  obtain ⟨e2, he2⟩ : ∃ x, x = rdE D1 nm s := ⟨_, rfl⟩
  have HD1 := Lib.hid hD1.symm; have HE1 := Lib.hid he1.symm; have HWAS := Lib.hid hwas.symm; have HE2 := Lib.hid he2.symm
  by_cases hz : e1 = 0
  case neg =>
    have t : (e1 != 0) = true := by rw [bne_iff_ne]; exact hz
    clear hD1 he1 hwas he2 hu0 t0 hv hz hL hK
    go_enter Try.func7, Try.ntmps7
    go_wp2_with fail
    rw [← HU0.out]
    have G_d : Hid (w.heap.size ≤ w.heap.size) := Lib.hid (Nat.le_refl _)
    refine (lives_any _).mono ?_
    rintro e w1 ⟨rfl, b1⟩
    have x_d := X_d.out.below b1; have v_d := V_d.out.below b1
    have bb := BB.out.trans (b1.mono BB.out.size)
    have q2 : w1.cell? ⟨w.heap.size, 0, none⟩ = some (.int .i64 D.size) := by exact x_d.cell 0 (by simp)
    have q3 : w1.cell? ⟨w.heap.size, 1, none⟩ = some (.slice dv.pE dv.nE dv.cE) := by exact x_d.cell 1 (by simp)
    have q4 : w1.cell? ⟨w.heap.size, 2, none⟩ = some (.slice dv.pW dv.nW dv.cW) := by exact x_d.cell 2 (by simp)
    have q5 : w1.cell? ⟨w.heap.size, 3, none⟩ = some (.int .i64 D.fuse) := by exact x_d.cell 3 (by simp)
    have q6 : w1.cell? ⟨w.heap.size, 4, none⟩ = some (.bool D.down) := by exact x_d.cell 4 (by simp)
    have X_d := Lib.hid x_d; have V_d := Lib.hid v_d
    have BB := Lib.hid bb
    clear bb x_d v_d
    clear b1
    go_wp2_with fail
    refine (sy_call V_d.out).mono ?_
    rw [HD1.out, HE1.out]
    rintro e w7 ⟨dv7, rfl, va7, ab7, b7⟩
    have x_d := X_d.out.below b7; have v_d := V_d.out.below b7
    have bb := BB.out.trans (b7.mono BB.out.size)
    have p7_0 : w7.cell? ⟨w.heap.size, 0, none⟩ = some (.int .i64 D.size) := x_d.cell 0 (by simp)
    have f7_0 : w7.frozen? ⟨w.heap.size, 0, none⟩ = false := x_d.free 0 (by simp)
    have p7_1 : w7.cell? ⟨w.heap.size, 1, none⟩ = some (.slice dv.pE dv.nE dv.cE) := x_d.cell 1 (by simp)
    have f7_1 : w7.frozen? ⟨w.heap.size, 1, none⟩ = false := x_d.free 1 (by simp)
    have p7_2 : w7.cell? ⟨w.heap.size, 2, none⟩ = some (.slice dv.pW dv.nW dv.cW) := x_d.cell 2 (by simp)
    have f7_2 : w7.frozen? ⟨w.heap.size, 2, none⟩ = false := x_d.free 2 (by simp)
    have p7_3 : w7.cell? ⟨w.heap.size, 3, none⟩ = some (.int .i64 D.fuse) := x_d.cell 3 (by simp)
    have f7_3 : w7.frozen? ⟨w.heap.size, 3, none⟩ = false := x_d.free 3 (by simp)
    have p7_4 : w7.cell? ⟨w.heap.size, 4, none⟩ = some (.bool D.down) := x_d.cell 4 (by simp)
    have f7_4 : w7.frozen? ⟨w.heap.size, 4, none⟩ = false := x_d.free 4 (by simp)
    obtain ⟨u7, hu7⟩ : ∃ u, u = (((((w7.setCell ⟨w.heap.size, 0, none⟩ (.int .i64 D1.size)).setCell ⟨w.heap.size, 1, none⟩ (.slice dv7.pE dv7.nE dv7.cE)).setCell ⟨w.heap.size, 2, none⟩ (.slice dv7.pW dv7.nW dv7.cW)).setCell ⟨w.heap.size, 3, none⟩ (.int .i64 D1.fuse)).setCell ⟨w.heap.size, 4, none⟩ (.bool D1.down)) := ⟨_, rfl⟩
    have t7 : Bar w7 u7 (fun j => j = w.heap.size) := by rw [hu7]; exact ((((((Bar.refl w7 (fun j => j = w.heap.size)).setCell (q := ⟨w.heap.size, 0, none⟩) rfl _).setCell (q := ⟨w.heap.size, 1, none⟩) rfl _).setCell (q := ⟨w.heap.size, 2, none⟩) rfl _).setCell (q := ⟨w.heap.size, 3, none⟩) rfl _).setCell (q := ⟨w.heap.size, 4, none⟩) rfl _)
    have lt7 : w.heap.size < w1.heap.size := X_d.out.lt
    replace x_d : Boxed u7 w.heap.size [.int .i64 D1.size, .slice dv7.pE dv7.nE dv7.cE, .slice dv7.pW dv7.nW dv7.cW, .int .i64 D1.fuse, .bool D1.down] := by rw [hu7]; exact (((((x_d.set (i := 0) (by simp) _).set (i := 1) (by simp) _).set (i := 2) (by simp) _).set (i := 3) (by simp) _).set (i := 4) (by simp) _)
    replace v_d := va7.bar ab7 t7 (fun j hj => by omega)
    replace bb := bb.trans (t7.below (fun j _ h => by have := G_d.out; omega) bb.size)
    have q8 : (((((w7.setCell ⟨w.heap.size, 0, none⟩ (.int .i64 D1.size)).setCell ⟨w.heap.size, 1, none⟩ (.slice dv7.pE dv7.nE dv7.cE)).setCell ⟨w.heap.size, 2, none⟩ (.slice dv7.pW dv7.nW dv7.cW)).setCell ⟨w.heap.size, 3, none⟩ (.int .i64 D1.fuse)).setCell ⟨w.heap.size, 4, none⟩ (.bool D1.down)).cell? ⟨w.heap.size, 0, none⟩ = some (.int .i64 D1.size) := by rw [← hu7]; exact x_d.cell 0 (by simp)
    have q9 : (((((w7.setCell ⟨w.heap.size, 0, none⟩ (.int .i64 D1.size)).setCell ⟨w.heap.size, 1, none⟩ (.slice dv7.pE dv7.nE dv7.cE)).setCell ⟨w.heap.size, 2, none⟩ (.slice dv7.pW dv7.nW dv7.cW)).setCell ⟨w.heap.size, 3, none⟩ (.int .i64 D1.fuse)).setCell ⟨w.heap.size, 4, none⟩ (.bool D1.down)).cell? ⟨w.heap.size, 1, none⟩ = some (.slice dv7.pE dv7.nE dv7.cE) := by rw [← hu7]; exact x_d.cell 1 (by simp)
    have q10 : (((((w7.setCell ⟨w.heap.size, 0, none⟩ (.int .i64 D1.size)).setCell ⟨w.heap.size, 1, none⟩ (.slice dv7.pE dv7.nE dv7.cE)).setCell ⟨w.heap.size, 2, none⟩ (.slice dv7.pW dv7.nW dv7.cW)).setCell ⟨w.heap.size, 3, none⟩ (.int .i64 D1.fuse)).setCell ⟨w.heap.size, 4, none⟩ (.bool D1.down)).cell? ⟨w.heap.size, 2, none⟩ = some (.slice dv7.pW dv7.nW dv7.cW) := by rw [← hu7]; exact x_d.cell 2 (by simp)
    have q11 : (((((w7.setCell ⟨w.heap.size, 0, none⟩ (.int .i64 D1.size)).setCell ⟨w.heap.size, 1, none⟩ (.slice dv7.pE dv7.nE dv7.cE)).setCell ⟨w.heap.size, 2, none⟩ (.slice dv7.pW dv7.nW dv7.cW)).setCell ⟨w.heap.size, 3, none⟩ (.int .i64 D1.fuse)).setCell ⟨w.heap.size, 4, none⟩ (.bool D1.down)).cell? ⟨w.heap.size, 3, none⟩ = some (.int .i64 D1.fuse) := by rw [← hu7]; exact x_d.cell 3 (by simp)
    have q12 : (((((w7.setCell ⟨w.heap.size, 0, none⟩ (.int .i64 D1.size)).setCell ⟨w.heap.size, 1, none⟩ (.slice dv7.pE dv7.nE dv7.cE)).setCell ⟨w.heap.size, 2, none⟩ (.slice dv7.pW dv7.nW dv7.cW)).setCell ⟨w.heap.size, 3, none⟩ (.int .i64 D1.fuse)).setCell ⟨w.heap.size, 4, none⟩ (.bool D1.down)).cell? ⟨w.heap.size, 4, none⟩ = some (.bool D1.down) := by rw [← hu7]; exact x_d.cell 4 (by simp)
    have HU7 := Lib.hid hu7; have AB_d := Lib.hid ab7; have LT_d := Lib.hid lt7
    have X_d := Lib.hid x_d; have V_d := Lib.hid v_d
    have BB := Lib.hid bb
    clear bb x_d v_d
    clear b7 t7 hu7 va7 ab7 lt7
    go_wp2_with fail
    rw [← HU7.out]
    refine (rd_call V_d.out nm s).mono ?_
    rw [HWAS.out, HE2.out]
    rintro e w13 ⟨rfl, b13⟩
    have x_d := X_d.out.below b13; have v_d := V_d.out.below b13
    have bb := BB.out.trans (b13.mono BB.out.size)
    have X_d := Lib.hid x_d; have V_d := Lib.hid v_d
    have BB := Lib.hid bb
    clear bb x_d v_d
    clear b13
    go_wp2_with fail
    go_ret
    exact ⟨rfl, BB.out⟩
  case pos =>
  subst hz
  by_cases hz : e2 = 0
  case neg =>
    have t : (e2 != 0) = true := by rw [bne_iff_ne]; exact hz
    clear hD1 he1 hwas he2 hu0 t0 hv hz hL hK
    go_enter Try.func7, Try.ntmps7
    go_wp2_with fail
    rw [← HU0.out]
    have G_d : Hid (w.heap.size ≤ w.heap.size) := Lib.hid (Nat.le_refl _)
    refine (lives_any _).mono ?_
    rintro e w101 ⟨rfl, b101⟩
    have x_d := X_d.out.below b101; have v_d := V_d.out.below b101
    have bb := BB.out.trans (b101.mono BB.out.size)
    have q102 : w101.cell? ⟨w.heap.size, 0, none⟩ = some (.int .i64 D.size) := by exact x_d.cell 0 (by simp)
    have q103 : w101.cell? ⟨w.heap.size, 1, none⟩ = some (.slice dv.pE dv.nE dv.cE) := by exact x_d.cell 1 (by simp)
    have q104 : w101.cell? ⟨w.heap.size, 2, none⟩ = some (.slice dv.pW dv.nW dv.cW) := by exact x_d.cell 2 (by simp)
    have q105 : w101.cell? ⟨w.heap.size, 3, none⟩ = some (.int .i64 D.fuse) := by exact x_d.cell 3 (by simp)
    have q106 : w101.cell? ⟨w.heap.size, 4, none⟩ = some (.bool D.down) := by exact x_d.cell 4 (by simp)
    have X_d := Lib.hid x_d; have V_d := Lib.hid v_d
    have BB := Lib.hid bb
    clear bb x_d v_d
    clear b101
    go_wp2_with fail
    refine (sy_call V_d.out).mono ?_
    rw [HD1.out, HE1.out]
    rintro e w107 ⟨dv107, rfl, va107, ab107, b107⟩
    have x_d := X_d.out.below b107; have v_d := V_d.out.below b107
    have bb := BB.out.trans (b107.mono BB.out.size)
    have p107_0 : w107.cell? ⟨w.heap.size, 0, none⟩ = some (.int .i64 D.size) := x_d.cell 0 (by simp)
    have f107_0 : w107.frozen? ⟨w.heap.size, 0, none⟩ = false := x_d.free 0 (by simp)
    have p107_1 : w107.cell? ⟨w.heap.size, 1, none⟩ = some (.slice dv.pE dv.nE dv.cE) := x_d.cell 1 (by simp)
    have f107_1 : w107.frozen? ⟨w.heap.size, 1, none⟩ = false := x_d.free 1 (by simp)
    have p107_2 : w107.cell? ⟨w.heap.size, 2, none⟩ = some (.slice dv.pW dv.nW dv.cW) := x_d.cell 2 (by simp)
    have f107_2 : w107.frozen? ⟨w.heap.size, 2, none⟩ = false := x_d.free 2 (by simp)
    have p107_3 : w107.cell? ⟨w.heap.size, 3, none⟩ = some (.int .i64 D.fuse) := x_d.cell 3 (by simp)
    have f107_3 : w107.frozen? ⟨w.heap.size, 3, none⟩ = false := x_d.free 3 (by simp)
    have p107_4 : w107.cell? ⟨w.heap.size, 4, none⟩ = some (.bool D.down) := x_d.cell 4 (by simp)
    have f107_4 : w107.frozen? ⟨w.heap.size, 4, none⟩ = false := x_d.free 4 (by simp)
    obtain ⟨u107, hu107⟩ : ∃ u, u = (((((w107.setCell ⟨w.heap.size, 0, none⟩ (.int .i64 D1.size)).setCell ⟨w.heap.size, 1, none⟩ (.slice dv107.pE dv107.nE dv107.cE)).setCell ⟨w.heap.size, 2, none⟩ (.slice dv107.pW dv107.nW dv107.cW)).setCell ⟨w.heap.size, 3, none⟩ (.int .i64 D1.fuse)).setCell ⟨w.heap.size, 4, none⟩ (.bool D1.down)) := ⟨_, rfl⟩
    have t107 : Bar w107 u107 (fun j => j = w.heap.size) := by rw [hu107]; exact ((((((Bar.refl w107 (fun j => j = w.heap.size)).setCell (q := ⟨w.heap.size, 0, none⟩) rfl _).setCell (q := ⟨w.heap.size, 1, none⟩) rfl _).setCell (q := ⟨w.heap.size, 2, none⟩) rfl _).setCell (q := ⟨w.heap.size, 3, none⟩) rfl _).setCell (q := ⟨w.heap.size, 4, none⟩) rfl _)
    have lt107 : w.heap.size < w101.heap.size := X_d.out.lt
    replace x_d : Boxed u107 w.heap.size [.int .i64 D1.size, .slice dv107.pE dv107.nE dv107.cE, .slice dv107.pW dv107.nW dv107.cW, .int .i64 D1.fuse, .bool D1.down] := by rw [hu107]; exact (((((x_d.set (i := 0) (by simp) _).set (i := 1) (by simp) _).set (i := 2) (by simp) _).set (i := 3) (by simp) _).set (i := 4) (by simp) _)
    replace v_d := va107.bar ab107 t107 (fun j hj => by omega)
    replace bb := bb.trans (t107.below (fun j _ h => by have := G_d.out; omega) bb.size)
    have q108 : (((((w107.setCell ⟨w.heap.size, 0, none⟩ (.int .i64 D1.size)).setCell ⟨w.heap.size, 1, none⟩ (.slice dv107.pE dv107.nE dv107.cE)).setCell ⟨w.heap.size, 2, none⟩ (.slice dv107.pW dv107.nW dv107.cW)).setCell ⟨w.heap.size, 3, none⟩ (.int .i64 D1.fuse)).setCell ⟨w.heap.size, 4, none⟩ (.bool D1.down)).cell? ⟨w.heap.size, 0, none⟩ = some (.int .i64 D1.size) := by rw [← hu107]; exact x_d.cell 0 (by simp)
    have q109 : (((((w107.setCell ⟨w.heap.size, 0, none⟩ (.int .i64 D1.size)).setCell ⟨w.heap.size, 1, none⟩ (.slice dv107.pE dv107.nE dv107.cE)).setCell ⟨w.heap.size, 2, none⟩ (.slice dv107.pW dv107.nW dv107.cW)).setCell ⟨w.heap.size, 3, none⟩ (.int .i64 D1.fuse)).setCell ⟨w.heap.size, 4, none⟩ (.bool D1.down)).cell? ⟨w.heap.size, 1, none⟩ = some (.slice dv107.pE dv107.nE dv107.cE) := by rw [← hu107]; exact x_d.cell 1 (by simp)
    have q110 : (((((w107.setCell ⟨w.heap.size, 0, none⟩ (.int .i64 D1.size)).setCell ⟨w.heap.size, 1, none⟩ (.slice dv107.pE dv107.nE dv107.cE)).setCell ⟨w.heap.size, 2, none⟩ (.slice dv107.pW dv107.nW dv107.cW)).setCell ⟨w.heap.size, 3, none⟩ (.int .i64 D1.fuse)).setCell ⟨w.heap.size, 4, none⟩ (.bool D1.down)).cell? ⟨w.heap.size, 2, none⟩ = some (.slice dv107.pW dv107.nW dv107.cW) := by rw [← hu107]; exact x_d.cell 2 (by simp)
    have q111 : (((((w107.setCell ⟨w.heap.size, 0, none⟩ (.int .i64 D1.size)).setCell ⟨w.heap.size, 1, none⟩ (.slice dv107.pE dv107.nE dv107.cE)).setCell ⟨w.heap.size, 2, none⟩ (.slice dv107.pW dv107.nW dv107.cW)).setCell ⟨w.heap.size, 3, none⟩ (.int .i64 D1.fuse)).setCell ⟨w.heap.size, 4, none⟩ (.bool D1.down)).cell? ⟨w.heap.size, 3, none⟩ = some (.int .i64 D1.fuse) := by rw [← hu107]; exact x_d.cell 3 (by simp)
    have q112 : (((((w107.setCell ⟨w.heap.size, 0, none⟩ (.int .i64 D1.size)).setCell ⟨w.heap.size, 1, none⟩ (.slice dv107.pE dv107.nE dv107.cE)).setCell ⟨w.heap.size, 2, none⟩ (.slice dv107.pW dv107.nW dv107.cW)).setCell ⟨w.heap.size, 3, none⟩ (.int .i64 D1.fuse)).setCell ⟨w.heap.size, 4, none⟩ (.bool D1.down)).cell? ⟨w.heap.size, 4, none⟩ = some (.bool D1.down) := by rw [← hu107]; exact x_d.cell 4 (by simp)
    have HU107 := Lib.hid hu107; have AB_d := Lib.hid ab107; have LT_d := Lib.hid lt107
    have X_d := Lib.hid x_d; have V_d := Lib.hid v_d
    have BB := Lib.hid bb
    clear bb x_d v_d
    clear b107 t107 hu107 va107 ab107 lt107
    go_wp2_with fail
    rw [← HU107.out]
    refine (rd_call V_d.out nm s).mono ?_
    rw [HWAS.out, HE2.out]
    rintro e w113 ⟨rfl, b113⟩
    have x_d := X_d.out.below b113; have v_d := V_d.out.below b113
    have bb := BB.out.trans (b113.mono BB.out.size)
    have X_d := Lib.hid x_d; have V_d := Lib.hid v_d
    have BB := Lib.hid bb
    clear bb x_d v_d
    clear b113
    go_wp2_with fail
    go_ret
    exact ⟨rfl, BB.out⟩
  case pos =>
  subst hz
  have hr0 : rdy D = 0 := (chgR_zero (show chgR D 0 = 0 from he1.symm)).1
  obtain ⟨hst, hfd⟩ := Safe.start hr0 (by rw [← hD1]; exact he2.symm)
  rw [← hD1, ← hwas] at hst
  rw [← hD1] at hfd
  have HST := Lib.hid hst; have HFD := Lib.hid hfd
  have HL := Lib.hid hL; have HK := Lib.hid hK
  obtain ⟨i0, hi, hz0, hz1, hz2⟩ := info_parts info_str
  obtain ⟨nL, hnL⟩ : ∃ n, n = L.length := ⟨_, rfl⟩
  obtain ⟨nK, hnK⟩ : ∃ n, n = K.length := ⟨_, rfl⟩
  rw [← hnL, ← hnK]
  rw [← hnL] at h3
  have HNL := Lib.hid hnL; have HNK := Lib.hid hnK
  clear hD1 he1 hwas he2 hu0 t0 hv hL hK hr0 hst hfd hnL hnK
  go_enter Try.func7, Try.ntmps7
  go_wp2_with fail
  rw [← HU0.out]
  have G_d : Hid (w.heap.size ≤ w.heap.size) := Lib.hid (Nat.le_refl _)
  refine (lives_any _).mono ?_
  rintro e w201 ⟨rfl, b201⟩
  have x_d := X_d.out.below b201; have v_d := V_d.out.below b201
  have bb := BB.out.trans (b201.mono BB.out.size)
  have q202 : w201.cell? ⟨w.heap.size, 0, none⟩ = some (.int .i64 D.size) := by exact x_d.cell 0 (by simp)
  have q203 : w201.cell? ⟨w.heap.size, 1, none⟩ = some (.slice dv.pE dv.nE dv.cE) := by exact x_d.cell 1 (by simp)
  have q204 : w201.cell? ⟨w.heap.size, 2, none⟩ = some (.slice dv.pW dv.nW dv.cW) := by exact x_d.cell 2 (by simp)
  have q205 : w201.cell? ⟨w.heap.size, 3, none⟩ = some (.int .i64 D.fuse) := by exact x_d.cell 3 (by simp)
  have q206 : w201.cell? ⟨w.heap.size, 4, none⟩ = some (.bool D.down) := by exact x_d.cell 4 (by simp)
  have X_d := Lib.hid x_d; have V_d := Lib.hid v_d
  have BB := Lib.hid bb
  clear bb x_d v_d
  clear b201
  go_wp2_with fail
  refine (sy_call V_d.out).mono ?_
  rw [HD1.out, HE1.out]
  rintro e w207 ⟨dv207, rfl, va207, ab207, b207⟩
  have x_d := X_d.out.below b207; have v_d := V_d.out.below b207
  have bb := BB.out.trans (b207.mono BB.out.size)
  have p207_0 : w207.cell? ⟨w.heap.size, 0, none⟩ = some (.int .i64 D.size) := x_d.cell 0 (by simp)
  have f207_0 : w207.frozen? ⟨w.heap.size, 0, none⟩ = false := x_d.free 0 (by simp)
  have p207_1 : w207.cell? ⟨w.heap.size, 1, none⟩ = some (.slice dv.pE dv.nE dv.cE) := x_d.cell 1 (by simp)
  have f207_1 : w207.frozen? ⟨w.heap.size, 1, none⟩ = false := x_d.free 1 (by simp)
  have p207_2 : w207.cell? ⟨w.heap.size, 2, none⟩ = some (.slice dv.pW dv.nW dv.cW) := x_d.cell 2 (by simp)
  have f207_2 : w207.frozen? ⟨w.heap.size, 2, none⟩ = false := x_d.free 2 (by simp)
  have p207_3 : w207.cell? ⟨w.heap.size, 3, none⟩ = some (.int .i64 D.fuse) := x_d.cell 3 (by simp)
  have f207_3 : w207.frozen? ⟨w.heap.size, 3, none⟩ = false := x_d.free 3 (by simp)
  have p207_4 : w207.cell? ⟨w.heap.size, 4, none⟩ = some (.bool D.down) := x_d.cell 4 (by simp)
  have f207_4 : w207.frozen? ⟨w.heap.size, 4, none⟩ = false := x_d.free 4 (by simp)
  obtain ⟨u207, hu207⟩ : ∃ u, u = (((((w207.setCell ⟨w.heap.size, 0, none⟩ (.int .i64 D1.size)).setCell ⟨w.heap.size, 1, none⟩ (.slice dv207.pE dv207.nE dv207.cE)).setCell ⟨w.heap.size, 2, none⟩ (.slice dv207.pW dv207.nW dv207.cW)).setCell ⟨w.heap.size, 3, none⟩ (.int .i64 D1.fuse)).setCell ⟨w.heap.size, 4, none⟩ (.bool D1.down)) := ⟨_, rfl⟩
  have t207 : Bar w207 u207 (fun j => j = w.heap.size) := by rw [hu207]; exact ((((((Bar.refl w207 (fun j => j = w.heap.size)).setCell (q := ⟨w.heap.size, 0, none⟩) rfl _).setCell (q := ⟨w.heap.size, 1, none⟩) rfl _).setCell (q := ⟨w.heap.size, 2, none⟩) rfl _).setCell (q := ⟨w.heap.size, 3, none⟩) rfl _).setCell (q := ⟨w.heap.size, 4, none⟩) rfl _)
  have lt207 : w.heap.size < w201.heap.size := X_d.out.lt
  replace x_d : Boxed u207 w.heap.size [.int .i64 D1.size, .slice dv207.pE dv207.nE dv207.cE, .slice dv207.pW dv207.nW dv207.cW, .int .i64 D1.fuse, .bool D1.down] := by rw [hu207]; exact (((((x_d.set (i := 0) (by simp) _).set (i := 1) (by simp) _).set (i := 2) (by simp) _).set (i := 3) (by simp) _).set (i := 4) (by simp) _)
  replace v_d := va207.bar ab207 t207 (fun j hj => by omega)
  replace bb := bb.trans (t207.below (fun j _ h => by have := G_d.out; omega) bb.size)
  have q208 : (((((w207.setCell ⟨w.heap.size, 0, none⟩ (.int .i64 D1.size)).setCell ⟨w.heap.size, 1, none⟩ (.slice dv207.pE dv207.nE dv207.cE)).setCell ⟨w.heap.size, 2, none⟩ (.slice dv207.pW dv207.nW dv207.cW)).setCell ⟨w.heap.size, 3, none⟩ (.int .i64 D1.fuse)).setCell ⟨w.heap.size, 4, none⟩ (.bool D1.down)).cell? ⟨w.heap.size, 0, none⟩ = some (.int .i64 D1.size) := by rw [← hu207]; exact x_d.cell 0 (by simp)
  have q209 : (((((w207.setCell ⟨w.heap.size, 0, none⟩ (.int .i64 D1.size)).setCell ⟨w.heap.size, 1, none⟩ (.slice dv207.pE dv207.nE dv207.cE)).setCell ⟨w.heap.size, 2, none⟩ (.slice dv207.pW dv207.nW dv207.cW)).setCell ⟨w.heap.size, 3, none⟩ (.int .i64 D1.fuse)).setCell ⟨w.heap.size, 4, none⟩ (.bool D1.down)).cell? ⟨w.heap.size, 1, none⟩ = some (.slice dv207.pE dv207.nE dv207.cE) := by rw [← hu207]; exact x_d.cell 1 (by simp)
  have q210 : (((((w207.setCell ⟨w.heap.size, 0, none⟩ (.int .i64 D1.size)).setCell ⟨w.heap.size, 1, none⟩ (.slice dv207.pE dv207.nE dv207.cE)).setCell ⟨w.heap.size, 2, none⟩ (.slice dv207.pW dv207.nW dv207.cW)).setCell ⟨w.heap.size, 3, none⟩ (.int .i64 D1.fuse)).setCell ⟨w.heap.size, 4, none⟩ (.bool D1.down)).cell? ⟨w.heap.size, 2, none⟩ = some (.slice dv207.pW dv207.nW dv207.cW) := by rw [← hu207]; exact x_d.cell 2 (by simp)
  have q211 : (((((w207.setCell ⟨w.heap.size, 0, none⟩ (.int .i64 D1.size)).setCell ⟨w.heap.size, 1, none⟩ (.slice dv207.pE dv207.nE dv207.cE)).setCell ⟨w.heap.size, 2, none⟩ (.slice dv207.pW dv207.nW dv207.cW)).setCell ⟨w.heap.size, 3, none⟩ (.int .i64 D1.fuse)).setCell ⟨w.heap.size, 4, none⟩ (.bool D1.down)).cell? ⟨w.heap.size, 3, none⟩ = some (.int .i64 D1.fuse) := by rw [← hu207]; exact x_d.cell 3 (by simp)
  have q212 : (((((w207.setCell ⟨w.heap.size, 0, none⟩ (.int .i64 D1.size)).setCell ⟨w.heap.size, 1, none⟩ (.slice dv207.pE dv207.nE dv207.cE)).setCell ⟨w.heap.size, 2, none⟩ (.slice dv207.pW dv207.nW dv207.cW)).setCell ⟨w.heap.size, 3, none⟩ (.int .i64 D1.fuse)).setCell ⟨w.heap.size, 4, none⟩ (.bool D1.down)).cell? ⟨w.heap.size, 4, none⟩ = some (.bool D1.down) := by rw [← hu207]; exact x_d.cell 4 (by simp)
  have HU207 := Lib.hid hu207; have AB_d := Lib.hid ab207; have LT_d := Lib.hid lt207
  have X_d := Lib.hid x_d; have V_d := Lib.hid v_d
  have BB := Lib.hid bb
  clear bb x_d v_d
  clear b207 t207 hu207 va207 ab207 lt207
  go_wp2_with fail
  rw [← HU207.out]
  refine (rd_call V_d.out nm s).mono ?_
  rw [HWAS.out, HE2.out]
  rintro e w213 ⟨rfl, b213⟩
  have x_d := X_d.out.below b213; have v_d := V_d.out.below b213
  have bb := BB.out.trans (b213.mono BB.out.size)
  have X_d := Lib.hid x_d; have V_d := Lib.hid v_d
  have BB := Lib.hid bb
  clear bb x_d v_d
  clear b213
  go_wp2_with fail
  have VC := V_d; have XC := X_d
  obtain ⟨u214, hu214⟩ : ∃ u, u = (w213.alloc (.cells #[.string was] 9)) := ⟨_, rfl⟩
  have t214 : Below w213.heap.size w213 u214 := by rw [hu214]; exact (Below.refl _ _).alloc (Nat.le_refl _) _
  have x_d := X_d.out.below t214; have v_d := V_d.out.below t214
  have bb := BB.out.trans (t214.mono BB.out.size)
  have x_may : Boxed u214 w213.heap.size [.string was] := by rw [hu214]; exact Boxed.new w213 #[.string was] 9
  have HU214 := Lib.hid hu214
  have X_d := Lib.hid x_d; have V_d := Lib.hid v_d
  have X_may := Lib.hid x_may
  have BB := Lib.hid bb
  clear bb x_d v_d x_may
  clear t214 hu214
  rw [← HU214.out]
  have S0 : Hid (SafeAt w w213.heap.size D1 nm s 0 (.slice (some ⟨w213.heap.size, 0, none⟩) 1 1) u214 D1 dv207 [was]) := Lib.hid (by
    have l1 := XC.out.lt
    have l2 := LT_d.out
    have a1 := AB_d.out
    have vc := VC.out
    refine ⟨X_d.out, V_d.out, by rw [HU214.out]; exact row_built _ _, ⟨fun a e => by have := a1.1 a e; omega, fun a e => by have := a1.2 a e; omega⟩, ?_, ?_, by simp, BB.out, HST.out, l1, by rw [HU214.out]; simp⟩
    · intro hne a e hg
      obtain ⟨g, o, e2, hl, _⟩ := vc.E 0 (List.length_pos_iff.2 hne)
      rw [e] at e2
      cases e2
      simp [Value.ownBlock] at hg
      omega
    · intro hne a e hg
      obtain ⟨g, o, e2, hl, _⟩ := vc.W 0 (List.length_pos_iff.2 hne)
      rw [e] at e2
      cases e2
      simp [Value.ownBlock] at hg
      omega)
  clear X_d V_d X_may VC XC AB_d LT_d BB
  go_loopw [14, 15, 16, 17, 18, 50] (fun my _ _ _ _ i wr => ∃ (k : Nat) (Dk : Dsk) (vk : DVal) (ms : List ByteArray), k ≤ nL ∧ k ≤ 30 ∧ i = .int .i64 k ∧ SafeAt w w213.heap.size D1 nm s k my wr Dk vk ms) (fun _ _ _ _ _ i _ => nL - (intOf i).toNat)
  case atStart => exact ⟨0, D1, dv207, [was], by omega, by omega, rfl, S0.out⟩
  case round =>
    obtain ⟨k, Dk, vk, ms, hk, hk30, rfl, hsa⟩ := hrel
    have HSA := Lib.hid hsa
    by_cases hlt : k < nL
    · obtain ⟨g, o, rfl, hg, d0, d1, d2, z1, z2⟩ := (HL.out.below hsa.bel) k (by rw [← HNL.out]; exact hlt)
      obtain ⟨x, hx⟩ : ∃ x, x = (L.getD k default).1 := ⟨_, rfl⟩
      obtain ⟨sx, hsx⟩ : ∃ x, x = (L.getD k default).2.1 := ⟨_, rfl⟩
      obtain ⟨y, hy⟩ : ∃ x, x = (L.getD k default).2.2 := ⟨_, rfl⟩
      rw [← hx] at d0 z1; rw [← hsx] at d1; rw [← hy] at d2 z2
      have m0 : (0 : Int) ≤ (k : Int) := by omega
      have m1 : (k : Int) < (nL : Int) := by omega
      by_cases h30 : k = 30
      · have t30 : ((k : Int) == 30) = true := by rw [beq_iff_eq]; omega
        omega
      · have t30 : ((k : Int) == 30) = false := by rw [beq_eq_false_iff_ne]; omega
        obtain ⟨W2, hW2⟩ : ∃ W2, W2 = wr.alloc (.cells #[.string x, .int .i64 sx, .string y] 51) := ⟨_, rfl⟩
        have t2 : Below wr.heap.size wr W2 := by rw [hW2]; exact (Below.refl _ _).alloc (Nat.le_refl _) _
        have sa2 := hsa.below t2
        have ob := Boxed.new wr #[.string x, .int .i64 sx, .string y] 51
        rw [← hW2] at ob
        have r0 : (wr.alloc (.cells #[.string x, .int .i64 sx, .string y] 51)).cell? ⟨w.heap.size, 0, none⟩ = some (.int .i64 Dk.size) := by rw [← hW2]; exact sa2.box.cell 0 (by simp)
        have r1 : (wr.alloc (.cells #[.string x, .int .i64 sx, .string y] 51)).cell? ⟨w.heap.size, 1, none⟩ = some (.slice vk.pE vk.nE vk.cE) := by rw [← hW2]; exact sa2.box.cell 1 (by simp)
        have r2 : (wr.alloc (.cells #[.string x, .int .i64 sx, .string y] 51)).cell? ⟨w.heap.size, 2, none⟩ = some (.slice vk.pW vk.nW vk.cW) := by rw [← hW2]; exact sa2.box.cell 2 (by simp)
        have r3 : (wr.alloc (.cells #[.string x, .int .i64 sx, .string y] 51)).cell? ⟨w.heap.size, 3, none⟩ = some (.int .i64 Dk.fuse) := by rw [← hW2]; exact sa2.box.cell 3 (by simp)
        have r4 : (wr.alloc (.cells #[.string x, .int .i64 sx, .string y] 51)).cell? ⟨w.heap.size, 4, none⟩ = some (.bool Dk.down) := by rw [← hW2]; exact sa2.box.cell 4 (by simp)
        obtain ⟨De, hDe⟩ : ∃ x', x' = wtD Dk x sx y := ⟨_, rfl⟩
        obtain ⟨er, her⟩ : ∃ x', x' = wtE Dk x sx y := ⟨_, rfl⟩
        have HC := Lib.hid (wt_call sa2.va x sx y z1 z2)
        rw [← hDe, ← her] at HC
        have HW2 := Lib.hid hW2; have SA2 := Lib.hid sa2; have OB := Lib.hid ob
        have hck := hsa.safe.ck
        have hsf := hsa.safe

        have HOWN : Hid (∀ g, u14.ownBlock = some g → g < W2.heap.size) := Lib.hid (fun g hg => (sa2.own hg).2)
        have HB2 : Hid (w.heap.size < W2.heap.size) := Lib.hid (Nat.lt_trans sa2.g1 sa2.g2)
        by_cases hcn : er ≠ 0 ∧ er ≠ 10
        · have t1 : (er != 0) = true := by rw [bne_iff_ne]; exact hcn.1
          have t3 : (er != 10) = true := by rw [bne_iff_ne]; exact hcn.2
          clear hDe her hck hsf hcn hsa hx hsx hy sa2 ob t2 hW2
          go_wp2_with fail
          rw [← HW2.out]
          refine HC.out.mono ?_
          rintro e w4 ⟨ve, rfl, va4, ab4, b4⟩
          have SF := Lib.hid (SA2.out.below (b4.trans ((Below.refl _ w4).alloc b4.size (.cells #[.int .i64 De.size, .slice ve.pE ve.nE ve.cE, .slice ve.pW ve.nW ve.cW, .int .i64 De.fuse, .bool De.down] 25))))
          clear va4 ab4 b4 d0 d1 d2 r0 r1 r2 r3 r4
          go_wp2_with fail
          go_roundw
          case rel => exact ⟨k + 1, Dk, vk, ms, by omega, by omega, by go_num, SF.out.up⟩
          case measure => simp [intOf]; omega
        · have hor : wtE Dk x sx y = 0 ∨ wtE Dk x sx y = 10 := by rw [← her]; omega
          obtain ⟨bn, hbn⟩ : ∃ b, b = (x.toList == nm.toList) := ⟨_, rfl⟩
          obtain ⟨bs, hbs⟩ : ∃ b, b = (sx == s) := ⟨_, rfl⟩
          have tn : (x.toList == nm.toList) = bn := hbn.symm
          have ts : (sx == s) = bs := hbs.symm
          have hmatch : ¬ (bn = true ∧ bs = true) → ¬ (x = nm ∧ sx = s) := fun hh hm => hh ⟨by rw [hbn, hm.1]; simp, by rw [hbs, hm.2]; simp⟩
          rcases wt_any hck x sx y hor with ⟨a1, a2, a3⟩ | ⟨a1, a2, a3, a4, a5⟩ | ⟨a1, a2, a3, a4, a5, a6⟩
          · have hEr : er = 10 := her.trans a2
            have hDD : Dk = De := (hDe.trans a3).symm
            subst hEr hDD
            have HSN := Lib.hid hsf
            have H_a1 := Lib.hid a1
            clear a1 hDe her hck hsf hcn hsa hx hsx hy sa2 ob t2 hW2 hor hbn hbs hmatch a2 a3
            go_wp2_with fail
            rw [← HW2.out]
            refine HC.out.mono ?_
            rintro e w4 ⟨ve, rfl, va4, ab4, b4⟩
            have a1 := H_a1.out
            have sa4 := SA2.out.below b4
            have ob4 := OB.out.below b4
            have tE : Below w4.heap.size w4 (w4.alloc (.cells #[.int .i64 Dk.size, .slice ve.pE ve.nE ve.cE, .slice ve.pW ve.nW ve.cW, .int .i64 Dk.fuse, .bool Dk.down] 25)) := (Below.refl _ _).alloc (Nat.le_refl _) _
            have saE := sa4.below tE
            have obE := ob4.below tE
            have o0 : (w4.alloc (.cells #[.int .i64 Dk.size, .slice ve.pE ve.nE ve.cE, .slice ve.pW ve.nW ve.cW, .int .i64 Dk.fuse, .bool Dk.down] 25)).cell? ⟨wr.heap.size, 0, none⟩ = some (.string x) := obE.cell 0 (by simp)
            have o1 : (w4.alloc (.cells #[.int .i64 Dk.size, .slice ve.pE ve.nE ve.cE, .slice ve.pW ve.nW ve.cW, .int .i64 Dk.fuse, .bool Dk.down] 25)).cell? ⟨wr.heap.size, 1, none⟩ = some (.int .i64 sx) := obE.cell 1 (by simp)
            have o2 : (w4.alloc (.cells #[.int .i64 Dk.size, .slice ve.pE ve.nE ve.cE, .slice ve.pW ve.nW ve.cW, .int .i64 Dk.fuse, .bool Dk.down] 25)).cell? ⟨wr.heap.size, 2, none⟩ = some (.string y) := obE.cell 2 (by simp)
            have q0 : (w4.alloc (.cells #[.int .i64 Dk.size, .slice ve.pE ve.nE ve.cE, .slice ve.pW ve.nW ve.cW, .int .i64 Dk.fuse, .bool Dk.down] 25)).cell? ⟨w.heap.size, 0, none⟩ = some (.int .i64 Dk.size) := saE.box.cell 0 (by simp)
            have p0 : w4.cell? ⟨w.heap.size, 0, none⟩ = some (.int .i64 Dk.size) := sa4.box.cell 0 (by simp)
            have f0 : w4.frozen? ⟨w.heap.size, 0, none⟩ = false := sa4.box.free 0 (by simp)
            have q1 : (w4.alloc (.cells #[.int .i64 Dk.size, .slice ve.pE ve.nE ve.cE, .slice ve.pW ve.nW ve.cW, .int .i64 Dk.fuse, .bool Dk.down] 25)).cell? ⟨w.heap.size, 1, none⟩ = some (.slice vk.pE vk.nE vk.cE) := saE.box.cell 1 (by simp)
            have p1 : w4.cell? ⟨w.heap.size, 1, none⟩ = some (.slice vk.pE vk.nE vk.cE) := sa4.box.cell 1 (by simp)
            have f1 : w4.frozen? ⟨w.heap.size, 1, none⟩ = false := sa4.box.free 1 (by simp)
            have q2 : (w4.alloc (.cells #[.int .i64 Dk.size, .slice ve.pE ve.nE ve.cE, .slice ve.pW ve.nW ve.cW, .int .i64 Dk.fuse, .bool Dk.down] 25)).cell? ⟨w.heap.size, 2, none⟩ = some (.slice vk.pW vk.nW vk.cW) := saE.box.cell 2 (by simp)
            have p2 : w4.cell? ⟨w.heap.size, 2, none⟩ = some (.slice vk.pW vk.nW vk.cW) := sa4.box.cell 2 (by simp)
            have f2 : w4.frozen? ⟨w.heap.size, 2, none⟩ = false := sa4.box.free 2 (by simp)
            have q3 : (w4.alloc (.cells #[.int .i64 Dk.size, .slice ve.pE ve.nE ve.cE, .slice ve.pW ve.nW ve.cW, .int .i64 Dk.fuse, .bool Dk.down] 25)).cell? ⟨w.heap.size, 3, none⟩ = some (.int .i64 Dk.fuse) := saE.box.cell 3 (by simp)
            have p3 : w4.cell? ⟨w.heap.size, 3, none⟩ = some (.int .i64 Dk.fuse) := sa4.box.cell 3 (by simp)
            have f3 : w4.frozen? ⟨w.heap.size, 3, none⟩ = false := sa4.box.free 3 (by simp)
            have q4 : (w4.alloc (.cells #[.int .i64 Dk.size, .slice ve.pE ve.nE ve.cE, .slice ve.pW ve.nW ve.cW, .int .i64 Dk.fuse, .bool Dk.down] 25)).cell? ⟨w.heap.size, 4, none⟩ = some (.bool Dk.down) := saE.box.cell 4 (by simp)
            have p4 : w4.cell? ⟨w.heap.size, 4, none⟩ = some (.bool Dk.down) := sa4.box.cell 4 (by simp)
            have f4 : w4.frozen? ⟨w.heap.size, 4, none⟩ = false := sa4.box.free 4 (by simp)
            have hlE : w.heap.size < w4.heap.size := sa4.box.lt
            have hne1 : ¬ (w.heap.size = w4.heap.size) := by omega
            have hne2 : ¬ (w4.heap.size = w.heap.size) := by omega
            (try rw [a1] at o0)
            (try rw [a1] at o1)
            (try rw [a1] at o2)
            (try rw [a1] at q0)
            (try rw [a1] at q1)
            (try rw [a1] at q2)
            (try rw [a1] at q3)
            (try rw [a1] at q4)
            (try rw [a1] at p0)
            (try rw [a1] at p1)
            (try rw [a1] at p2)
            (try rw [a1] at p3)
            (try rw [a1] at p4)
            obtain ⟨w5, hw5⟩ : ∃ x', x' = (((((w4.setCell ⟨w.heap.size, 0, none⟩ (.int .i64 Dk.size)).setCell ⟨w.heap.size, 1, none⟩ (.slice ve.pE ve.nE ve.cE)).setCell ⟨w.heap.size, 2, none⟩ (.slice ve.pW ve.nW ve.cW)).setCell ⟨w.heap.size, 3, none⟩ (.int .i64 Dk.fuse)).setCell ⟨w.heap.size, 4, none⟩ (.bool Dk.down)) := ⟨_, rfl⟩
            have bar5 : Bar w4 w5 (fun j => j = w.heap.size) := by rw [hw5]; exact ((((((Bar.refl w4 (fun j => j = w.heap.size)).setCell (q := ⟨w.heap.size, 0, none⟩) rfl _).setCell (q := ⟨w.heap.size, 1, none⟩) rfl _).setCell (q := ⟨w.heap.size, 2, none⟩) rfl _).setCell (q := ⟨w.heap.size, 3, none⟩) rfl _).setCell (q := ⟨w.heap.size, 4, none⟩) rfl _)
            have bx5 : Boxed w5 w.heap.size [.int .i64 Dk.size, .slice ve.pE ve.nE ve.cE, .slice ve.pW ve.nW ve.cW, .int .i64 Dk.fuse, .bool Dk.down] := by rw [hw5]; exact (((((sa4.box.set (i := 0) (by simp) _).set (i := 1) (by simp) _).set (i := 2) (by simp) _).set (i := 3) (by simp) _).set (i := 4) (by simp) _)
            have s5 := (sa4.store va4 HOWN.out HB2.out ab4 HSN.out bar5 bx5).below ((Below.refl _ w5).alloc (Nat.le_refl _) (.cells #[.int .i64 Dk.size, .slice ve.pE ve.nE ve.cE, .slice ve.pW ve.nW ve.cW, .int .i64 Dk.fuse, .bool Dk.down] 25))
            rw [hw5] at s5
            (try rw [a1] at s5)
            have SF := Lib.hid s5
            clear sa4 ob4 tE saE obE va4 ab4 b4 d0 d1 d2 r0 r1 r2 r3 r4 hw5 bar5 bx5 s5
            go_wp2_with fail
            go_roundw
            case rel => exact ⟨k + 1, Dk, ve, ms, by omega, by omega, by go_num, SF.out.up⟩
            case measure => simp [intOf]; omega
          · have hEr : er = 0 := her.trans a2
            subst hEr
            rw [← hDe] at a3 a4 a5
            obtain ⟨q1, q2⟩ := hsf.more (x := x) (sx := sx) (y := y) a3 a5 a4
            have HSA2 := Lib.hid q1; have HSN2 := Lib.hid q2; have HMT := Lib.hid hmatch
            cases bn
            · have HSN := Lib.hid (HSN2.out (HMT.out (by simp)))
              clear hDe her hck hsf hcn hsa hx hsx hy sa2 ob t2 hW2 hor hbn hbs hmatch a1 a2 a3 a4 a5 q1 q2
              go_wp2_with fail
              rw [← HW2.out]
              refine HC.out.mono ?_
              rintro e w4 ⟨ve, rfl, va4, ab4, b4⟩
              have sa4 := SA2.out.below b4
              have ob4 := OB.out.below b4
              have tE : Below w4.heap.size w4 (w4.alloc (.cells #[.int .i64 De.size, .slice ve.pE ve.nE ve.cE, .slice ve.pW ve.nW ve.cW, .int .i64 De.fuse, .bool De.down] 25)) := (Below.refl _ _).alloc (Nat.le_refl _) _
              have saE := sa4.below tE
              have obE := ob4.below tE
              have o0 : (w4.alloc (.cells #[.int .i64 De.size, .slice ve.pE ve.nE ve.cE, .slice ve.pW ve.nW ve.cW, .int .i64 De.fuse, .bool De.down] 25)).cell? ⟨wr.heap.size, 0, none⟩ = some (.string x) := obE.cell 0 (by simp)
              have o1 : (w4.alloc (.cells #[.int .i64 De.size, .slice ve.pE ve.nE ve.cE, .slice ve.pW ve.nW ve.cW, .int .i64 De.fuse, .bool De.down] 25)).cell? ⟨wr.heap.size, 1, none⟩ = some (.int .i64 sx) := obE.cell 1 (by simp)
              have o2 : (w4.alloc (.cells #[.int .i64 De.size, .slice ve.pE ve.nE ve.cE, .slice ve.pW ve.nW ve.cW, .int .i64 De.fuse, .bool De.down] 25)).cell? ⟨wr.heap.size, 2, none⟩ = some (.string y) := obE.cell 2 (by simp)
              have q0 : (w4.alloc (.cells #[.int .i64 De.size, .slice ve.pE ve.nE ve.cE, .slice ve.pW ve.nW ve.cW, .int .i64 De.fuse, .bool De.down] 25)).cell? ⟨w.heap.size, 0, none⟩ = some (.int .i64 Dk.size) := saE.box.cell 0 (by simp)
              have p0 : w4.cell? ⟨w.heap.size, 0, none⟩ = some (.int .i64 Dk.size) := sa4.box.cell 0 (by simp)
              have f0 : w4.frozen? ⟨w.heap.size, 0, none⟩ = false := sa4.box.free 0 (by simp)
              have q1 : (w4.alloc (.cells #[.int .i64 De.size, .slice ve.pE ve.nE ve.cE, .slice ve.pW ve.nW ve.cW, .int .i64 De.fuse, .bool De.down] 25)).cell? ⟨w.heap.size, 1, none⟩ = some (.slice vk.pE vk.nE vk.cE) := saE.box.cell 1 (by simp)
              have p1 : w4.cell? ⟨w.heap.size, 1, none⟩ = some (.slice vk.pE vk.nE vk.cE) := sa4.box.cell 1 (by simp)
              have f1 : w4.frozen? ⟨w.heap.size, 1, none⟩ = false := sa4.box.free 1 (by simp)
              have q2 : (w4.alloc (.cells #[.int .i64 De.size, .slice ve.pE ve.nE ve.cE, .slice ve.pW ve.nW ve.cW, .int .i64 De.fuse, .bool De.down] 25)).cell? ⟨w.heap.size, 2, none⟩ = some (.slice vk.pW vk.nW vk.cW) := saE.box.cell 2 (by simp)
              have p2 : w4.cell? ⟨w.heap.size, 2, none⟩ = some (.slice vk.pW vk.nW vk.cW) := sa4.box.cell 2 (by simp)
              have f2 : w4.frozen? ⟨w.heap.size, 2, none⟩ = false := sa4.box.free 2 (by simp)
              have q3 : (w4.alloc (.cells #[.int .i64 De.size, .slice ve.pE ve.nE ve.cE, .slice ve.pW ve.nW ve.cW, .int .i64 De.fuse, .bool De.down] 25)).cell? ⟨w.heap.size, 3, none⟩ = some (.int .i64 Dk.fuse) := saE.box.cell 3 (by simp)
              have p3 : w4.cell? ⟨w.heap.size, 3, none⟩ = some (.int .i64 Dk.fuse) := sa4.box.cell 3 (by simp)
              have f3 : w4.frozen? ⟨w.heap.size, 3, none⟩ = false := sa4.box.free 3 (by simp)
              have q4 : (w4.alloc (.cells #[.int .i64 De.size, .slice ve.pE ve.nE ve.cE, .slice ve.pW ve.nW ve.cW, .int .i64 De.fuse, .bool De.down] 25)).cell? ⟨w.heap.size, 4, none⟩ = some (.bool Dk.down) := saE.box.cell 4 (by simp)
              have p4 : w4.cell? ⟨w.heap.size, 4, none⟩ = some (.bool Dk.down) := sa4.box.cell 4 (by simp)
              have f4 : w4.frozen? ⟨w.heap.size, 4, none⟩ = false := sa4.box.free 4 (by simp)
              have hlE : w.heap.size < w4.heap.size := sa4.box.lt
              have hne1 : ¬ (w.heap.size = w4.heap.size) := by omega
              have hne2 : ¬ (w4.heap.size = w.heap.size) := by omega
              obtain ⟨w5, hw5⟩ : ∃ x', x' = (((((w4.setCell ⟨w.heap.size, 0, none⟩ (.int .i64 De.size)).setCell ⟨w.heap.size, 1, none⟩ (.slice ve.pE ve.nE ve.cE)).setCell ⟨w.heap.size, 2, none⟩ (.slice ve.pW ve.nW ve.cW)).setCell ⟨w.heap.size, 3, none⟩ (.int .i64 De.fuse)).setCell ⟨w.heap.size, 4, none⟩ (.bool De.down)) := ⟨_, rfl⟩
              have bar5 : Bar w4 w5 (fun j => j = w.heap.size) := by rw [hw5]; exact ((((((Bar.refl w4 (fun j => j = w.heap.size)).setCell (q := ⟨w.heap.size, 0, none⟩) rfl _).setCell (q := ⟨w.heap.size, 1, none⟩) rfl _).setCell (q := ⟨w.heap.size, 2, none⟩) rfl _).setCell (q := ⟨w.heap.size, 3, none⟩) rfl _).setCell (q := ⟨w.heap.size, 4, none⟩) rfl _)
              have bx5 : Boxed w5 w.heap.size [.int .i64 De.size, .slice ve.pE ve.nE ve.cE, .slice ve.pW ve.nW ve.cW, .int .i64 De.fuse, .bool De.down] := by rw [hw5]; exact (((((sa4.box.set (i := 0) (by simp) _).set (i := 1) (by simp) _).set (i := 2) (by simp) _).set (i := 3) (by simp) _).set (i := 4) (by simp) _)
              have s5 := (sa4.store va4 HOWN.out HB2.out ab4 HSN.out bar5 bx5).below ((Below.refl _ w5).alloc (Nat.le_refl _) (.cells #[.int .i64 De.size, .slice ve.pE ve.nE ve.cE, .slice ve.pW ve.nW ve.cW, .int .i64 De.fuse, .bool De.down] 25))
              rw [hw5] at s5
              
              have SF := Lib.hid s5
              clear sa4 ob4 tE saE obE va4 ab4 b4 d0 d1 d2 r0 r1 r2 r3 r4 hw5 bar5 bx5 s5
              go_wp2_with fail
              go_roundw
              case rel => exact ⟨k + 1, De, ve, ms, by omega, by omega, by go_num, SF.out.up⟩
              case measure => simp [intOf]; omega
            · cases bs
              · have HSN := Lib.hid (HSN2.out (HMT.out (by simp)))
                clear hDe her hck hsf hcn hsa hx hsx hy sa2 ob t2 hW2 hor hbn hbs hmatch a1 a2 a3 a4 a5 q1 q2
                go_wp2_with fail
                rw [← HW2.out]
                refine HC.out.mono ?_
                rintro e w4 ⟨ve, rfl, va4, ab4, b4⟩
                have sa4 := SA2.out.below b4
                have ob4 := OB.out.below b4
                have tE : Below w4.heap.size w4 (w4.alloc (.cells #[.int .i64 De.size, .slice ve.pE ve.nE ve.cE, .slice ve.pW ve.nW ve.cW, .int .i64 De.fuse, .bool De.down] 25)) := (Below.refl _ _).alloc (Nat.le_refl _) _
                have saE := sa4.below tE
                have obE := ob4.below tE
                have o0 : (w4.alloc (.cells #[.int .i64 De.size, .slice ve.pE ve.nE ve.cE, .slice ve.pW ve.nW ve.cW, .int .i64 De.fuse, .bool De.down] 25)).cell? ⟨wr.heap.size, 0, none⟩ = some (.string x) := obE.cell 0 (by simp)
                have o1 : (w4.alloc (.cells #[.int .i64 De.size, .slice ve.pE ve.nE ve.cE, .slice ve.pW ve.nW ve.cW, .int .i64 De.fuse, .bool De.down] 25)).cell? ⟨wr.heap.size, 1, none⟩ = some (.int .i64 sx) := obE.cell 1 (by simp)
                have o2 : (w4.alloc (.cells #[.int .i64 De.size, .slice ve.pE ve.nE ve.cE, .slice ve.pW ve.nW ve.cW, .int .i64 De.fuse, .bool De.down] 25)).cell? ⟨wr.heap.size, 2, none⟩ = some (.string y) := obE.cell 2 (by simp)
                have q0 : (w4.alloc (.cells #[.int .i64 De.size, .slice ve.pE ve.nE ve.cE, .slice ve.pW ve.nW ve.cW, .int .i64 De.fuse, .bool De.down] 25)).cell? ⟨w.heap.size, 0, none⟩ = some (.int .i64 Dk.size) := saE.box.cell 0 (by simp)
                have p0 : w4.cell? ⟨w.heap.size, 0, none⟩ = some (.int .i64 Dk.size) := sa4.box.cell 0 (by simp)
                have f0 : w4.frozen? ⟨w.heap.size, 0, none⟩ = false := sa4.box.free 0 (by simp)
                have q1 : (w4.alloc (.cells #[.int .i64 De.size, .slice ve.pE ve.nE ve.cE, .slice ve.pW ve.nW ve.cW, .int .i64 De.fuse, .bool De.down] 25)).cell? ⟨w.heap.size, 1, none⟩ = some (.slice vk.pE vk.nE vk.cE) := saE.box.cell 1 (by simp)
                have p1 : w4.cell? ⟨w.heap.size, 1, none⟩ = some (.slice vk.pE vk.nE vk.cE) := sa4.box.cell 1 (by simp)
                have f1 : w4.frozen? ⟨w.heap.size, 1, none⟩ = false := sa4.box.free 1 (by simp)
                have q2 : (w4.alloc (.cells #[.int .i64 De.size, .slice ve.pE ve.nE ve.cE, .slice ve.pW ve.nW ve.cW, .int .i64 De.fuse, .bool De.down] 25)).cell? ⟨w.heap.size, 2, none⟩ = some (.slice vk.pW vk.nW vk.cW) := saE.box.cell 2 (by simp)
                have p2 : w4.cell? ⟨w.heap.size, 2, none⟩ = some (.slice vk.pW vk.nW vk.cW) := sa4.box.cell 2 (by simp)
                have f2 : w4.frozen? ⟨w.heap.size, 2, none⟩ = false := sa4.box.free 2 (by simp)
                have q3 : (w4.alloc (.cells #[.int .i64 De.size, .slice ve.pE ve.nE ve.cE, .slice ve.pW ve.nW ve.cW, .int .i64 De.fuse, .bool De.down] 25)).cell? ⟨w.heap.size, 3, none⟩ = some (.int .i64 Dk.fuse) := saE.box.cell 3 (by simp)
                have p3 : w4.cell? ⟨w.heap.size, 3, none⟩ = some (.int .i64 Dk.fuse) := sa4.box.cell 3 (by simp)
                have f3 : w4.frozen? ⟨w.heap.size, 3, none⟩ = false := sa4.box.free 3 (by simp)
                have q4 : (w4.alloc (.cells #[.int .i64 De.size, .slice ve.pE ve.nE ve.cE, .slice ve.pW ve.nW ve.cW, .int .i64 De.fuse, .bool De.down] 25)).cell? ⟨w.heap.size, 4, none⟩ = some (.bool Dk.down) := saE.box.cell 4 (by simp)
                have p4 : w4.cell? ⟨w.heap.size, 4, none⟩ = some (.bool Dk.down) := sa4.box.cell 4 (by simp)
                have f4 : w4.frozen? ⟨w.heap.size, 4, none⟩ = false := sa4.box.free 4 (by simp)
                have hlE : w.heap.size < w4.heap.size := sa4.box.lt
                have hne1 : ¬ (w.heap.size = w4.heap.size) := by omega
                have hne2 : ¬ (w4.heap.size = w.heap.size) := by omega
                obtain ⟨w5, hw5⟩ : ∃ x', x' = (((((w4.setCell ⟨w.heap.size, 0, none⟩ (.int .i64 De.size)).setCell ⟨w.heap.size, 1, none⟩ (.slice ve.pE ve.nE ve.cE)).setCell ⟨w.heap.size, 2, none⟩ (.slice ve.pW ve.nW ve.cW)).setCell ⟨w.heap.size, 3, none⟩ (.int .i64 De.fuse)).setCell ⟨w.heap.size, 4, none⟩ (.bool De.down)) := ⟨_, rfl⟩
                have bar5 : Bar w4 w5 (fun j => j = w.heap.size) := by rw [hw5]; exact ((((((Bar.refl w4 (fun j => j = w.heap.size)).setCell (q := ⟨w.heap.size, 0, none⟩) rfl _).setCell (q := ⟨w.heap.size, 1, none⟩) rfl _).setCell (q := ⟨w.heap.size, 2, none⟩) rfl _).setCell (q := ⟨w.heap.size, 3, none⟩) rfl _).setCell (q := ⟨w.heap.size, 4, none⟩) rfl _)
                have bx5 : Boxed w5 w.heap.size [.int .i64 De.size, .slice ve.pE ve.nE ve.cE, .slice ve.pW ve.nW ve.cW, .int .i64 De.fuse, .bool De.down] := by rw [hw5]; exact (((((sa4.box.set (i := 0) (by simp) _).set (i := 1) (by simp) _).set (i := 2) (by simp) _).set (i := 3) (by simp) _).set (i := 4) (by simp) _)
                have s5 := (sa4.store va4 HOWN.out HB2.out ab4 HSN.out bar5 bx5).below ((Below.refl _ w5).alloc (Nat.le_refl _) (.cells #[.int .i64 De.size, .slice ve.pE ve.nE ve.cE, .slice ve.pW ve.nW ve.cW, .int .i64 De.fuse, .bool De.down] 25))
                rw [hw5] at s5
                
                have SF := Lib.hid s5
                clear sa4 ob4 tE saE obE va4 ab4 b4 d0 d1 d2 r0 r1 r2 r3 r4 hw5 bar5 bx5 s5
                go_wp2_with fail
                go_roundw
                case rel => exact ⟨k + 1, De, ve, ms, by omega, by omega, by go_num, SF.out.up⟩
                case measure => simp [intOf]; omega
              ·
                clear hDe her hck hsf hcn hsa hx hsx hy sa2 ob t2 hW2 hor hbn hbs hmatch a1 a2 a3 a4 a5 q1 q2
                go_wp2_with fail
                rw [← HW2.out]
                refine HC.out.mono ?_
                rintro e w4 ⟨ve, rfl, va4, ab4, b4⟩
                have sa4 := SA2.out.below b4
                have ob4 := OB.out.below b4
                obtain ⟨uE, huE⟩ : ∃ x', x' = (w4.alloc (.cells #[.int .i64 De.size, .slice ve.pE ve.nE ve.cE, .slice ve.pW ve.nW ve.cW, .int .i64 De.fuse, .bool De.down] 25)) := ⟨_, rfl⟩
                have tE : Below w4.heap.size w4 uE := by rw [huE]; exact (Below.refl _ _).alloc (Nat.le_refl _) _
                have hsE : uE.heap.size = w4.heap.size + 1 := by rw [huE]; simp
                have saE := sa4.below tE
                have obE := ob4.below tE
                have vaE := va4.below tE
                have bxE : Boxed uE w4.heap.size [.int .i64 De.size, .slice ve.pE ve.nE ve.cE, .slice ve.pW ve.nW ve.cW, .int .i64 De.fuse, .bool De.down] := by rw [huE]; exact Boxed.new w4 #[.int .i64 De.size, .slice ve.pE ve.nE ve.cE, .slice ve.pW ve.nW ve.cW, .int .i64 De.fuse, .bool De.down] 25
                have HUE := Lib.hid huE; have HSE := Lib.hid hsE
                have o0 : (w4.alloc (.cells #[.int .i64 De.size, .slice ve.pE ve.nE ve.cE, .slice ve.pW ve.nW ve.cW, .int .i64 De.fuse, .bool De.down] 25)).cell? ⟨wr.heap.size, 0, none⟩ = some (.string x) := by rw [← huE]; exact obE.cell 0 (by simp)
                have o1 : (w4.alloc (.cells #[.int .i64 De.size, .slice ve.pE ve.nE ve.cE, .slice ve.pW ve.nW ve.cW, .int .i64 De.fuse, .bool De.down] 25)).cell? ⟨wr.heap.size, 1, none⟩ = some (.int .i64 sx) := by rw [← huE]; exact obE.cell 1 (by simp)
                have o2 : (w4.alloc (.cells #[.int .i64 De.size, .slice ve.pE ve.nE ve.cE, .slice ve.pW ve.nW ve.cW, .int .i64 De.fuse, .bool De.down] 25)).cell? ⟨wr.heap.size, 2, none⟩ = some (.string y) := by rw [← huE]; exact obE.cell 2 (by simp)
                have q0 : (w4.alloc (.cells #[.int .i64 De.size, .slice ve.pE ve.nE ve.cE, .slice ve.pW ve.nW ve.cW, .int .i64 De.fuse, .bool De.down] 25)).cell? ⟨w.heap.size, 0, none⟩ = some (.int .i64 Dk.size) := by rw [← huE]; exact saE.box.cell 0 (by simp)
                have p0 : w4.cell? ⟨w.heap.size, 0, none⟩ = some (.int .i64 Dk.size) := sa4.box.cell 0 (by simp)
                have f0 : w4.frozen? ⟨w.heap.size, 0, none⟩ = false := sa4.box.free 0 (by simp)
                have q1 : (w4.alloc (.cells #[.int .i64 De.size, .slice ve.pE ve.nE ve.cE, .slice ve.pW ve.nW ve.cW, .int .i64 De.fuse, .bool De.down] 25)).cell? ⟨w.heap.size, 1, none⟩ = some (.slice vk.pE vk.nE vk.cE) := by rw [← huE]; exact saE.box.cell 1 (by simp)
                have p1 : w4.cell? ⟨w.heap.size, 1, none⟩ = some (.slice vk.pE vk.nE vk.cE) := sa4.box.cell 1 (by simp)
                have f1 : w4.frozen? ⟨w.heap.size, 1, none⟩ = false := sa4.box.free 1 (by simp)
                have q2 : (w4.alloc (.cells #[.int .i64 De.size, .slice ve.pE ve.nE ve.cE, .slice ve.pW ve.nW ve.cW, .int .i64 De.fuse, .bool De.down] 25)).cell? ⟨w.heap.size, 2, none⟩ = some (.slice vk.pW vk.nW vk.cW) := by rw [← huE]; exact saE.box.cell 2 (by simp)
                have p2 : w4.cell? ⟨w.heap.size, 2, none⟩ = some (.slice vk.pW vk.nW vk.cW) := sa4.box.cell 2 (by simp)
                have f2 : w4.frozen? ⟨w.heap.size, 2, none⟩ = false := sa4.box.free 2 (by simp)
                have q3 : (w4.alloc (.cells #[.int .i64 De.size, .slice ve.pE ve.nE ve.cE, .slice ve.pW ve.nW ve.cW, .int .i64 De.fuse, .bool De.down] 25)).cell? ⟨w.heap.size, 3, none⟩ = some (.int .i64 Dk.fuse) := by rw [← huE]; exact saE.box.cell 3 (by simp)
                have p3 : w4.cell? ⟨w.heap.size, 3, none⟩ = some (.int .i64 Dk.fuse) := sa4.box.cell 3 (by simp)
                have f3 : w4.frozen? ⟨w.heap.size, 3, none⟩ = false := sa4.box.free 3 (by simp)
                have q4 : (w4.alloc (.cells #[.int .i64 De.size, .slice ve.pE ve.nE ve.cE, .slice ve.pW ve.nW ve.cW, .int .i64 De.fuse, .bool De.down] 25)).cell? ⟨w.heap.size, 4, none⟩ = some (.bool Dk.down) := by rw [← huE]; exact saE.box.cell 4 (by simp)
                have p4 : w4.cell? ⟨w.heap.size, 4, none⟩ = some (.bool Dk.down) := sa4.box.cell 4 (by simp)
                have f4 : w4.frozen? ⟨w.heap.size, 4, none⟩ = false := sa4.box.free 4 (by simp)
                have SAE := Lib.hid saE; have VAE := Lib.hid vaE; have BXE := Lib.hid bxE; have AB4 := Lib.hid ab4; have B4 := Lib.hid b4
                clear hsE huE sa4 ob4 tE saE obE vaE bxE va4 ab4 b4 d0 d1 d2 r0 r1 r2 r3 r4
                go_wp2_with (at_builtin; rw [← HUE.out]; refine Rw.push rfl _ _ 26 rfl w213.heap.size 9 i0 (.string ⟨#[]⟩) 1 16 Try.underlying26 hi hz0 hz1 hz2 rfl (by decide) _ _ _ rfl SAE.out.row [.string y] (by rw [HSE.out]; rfl) rfl rfl (by have := SAE.out.len; omega) (by omega) (Nat.le_of_lt SAE.out.g2) ?_)
                intro g2 cap w5 hrow hgrow hown _ hbel
                have lE := SAE.out.g1
                have hb5 : Bar uE w5 (fun j => u14.ownBlock = some j) := ⟨hgrow.os, hgrow.tape, hgrow.output, hgrow.size, fun i hi hp => hgrow.block i hi (fun e => hp e.symm)⟩
                have bx5 := SAE.out.box.bar hb5 (fun hh => by have := (SAE.out.own hh).1; omega)
                have be5 := BXE.out.bar hb5 (fun hh => by have := HOWN.out _ hh; have := B4.out.size; omega)
                have p50 : w5.cell? ⟨w.heap.size, 0, none⟩ = some (.int .i64 Dk.size) := bx5.cell 0 (by simp)
                have f50 : w5.frozen? ⟨w.heap.size, 0, none⟩ = false := bx5.free 0 (by simp)
                have p51 : w5.cell? ⟨w.heap.size, 1, none⟩ = some (.slice vk.pE vk.nE vk.cE) := bx5.cell 1 (by simp)
                have f51 : w5.frozen? ⟨w.heap.size, 1, none⟩ = false := bx5.free 1 (by simp)
                have p52 : w5.cell? ⟨w.heap.size, 2, none⟩ = some (.slice vk.pW vk.nW vk.cW) := bx5.cell 2 (by simp)
                have f52 : w5.frozen? ⟨w.heap.size, 2, none⟩ = false := bx5.free 2 (by simp)
                have p53 : w5.cell? ⟨w.heap.size, 3, none⟩ = some (.int .i64 Dk.fuse) := bx5.cell 3 (by simp)
                have f53 : w5.frozen? ⟨w.heap.size, 3, none⟩ = false := bx5.free 3 (by simp)
                have p54 : w5.cell? ⟨w.heap.size, 4, none⟩ = some (.bool Dk.down) := bx5.cell 4 (by simp)
                have f54 : w5.frozen? ⟨w.heap.size, 4, none⟩ = false := bx5.free 4 (by simp)
                have e50 : w5.cell? ⟨w4.heap.size, 0, none⟩ = some (.int .i64 De.size) := be5.cell 0 (by simp)
                have e51 : w5.cell? ⟨w4.heap.size, 1, none⟩ = some (.slice ve.pE ve.nE ve.cE) := be5.cell 1 (by simp)
                have e52 : w5.cell? ⟨w4.heap.size, 2, none⟩ = some (.slice ve.pW ve.nW ve.cW) := be5.cell 2 (by simp)
                have e53 : w5.cell? ⟨w4.heap.size, 3, none⟩ = some (.int .i64 De.fuse) := be5.cell 3 (by simp)
                have e54 : w5.cell? ⟨w4.heap.size, 4, none⟩ = some (.bool De.down) := be5.cell 4 (by simp)
                obtain ⟨w6, hw6⟩ : ∃ x', x' = (((((w5.setCell ⟨w.heap.size, 0, none⟩ (.int .i64 De.size)).setCell ⟨w.heap.size, 1, none⟩ (.slice ve.pE ve.nE ve.cE)).setCell ⟨w.heap.size, 2, none⟩ (.slice ve.pW ve.nW ve.cW)).setCell ⟨w.heap.size, 3, none⟩ (.int .i64 De.fuse)).setCell ⟨w.heap.size, 4, none⟩ (.bool De.down)) := ⟨_, rfl⟩
                have bar6 : Bar w5 w6 (fun j => j = w.heap.size) := by rw [hw6]; exact ((((((Bar.refl w5 (fun j => j = w.heap.size)).setCell (q := ⟨w.heap.size, 0, none⟩) rfl _).setCell (q := ⟨w.heap.size, 1, none⟩) rfl _).setCell (q := ⟨w.heap.size, 2, none⟩) rfl _).setCell (q := ⟨w.heap.size, 3, none⟩) rfl _).setCell (q := ⟨w.heap.size, 4, none⟩) rfl _)
                have bx6 : Boxed w6 w.heap.size [.int .i64 De.size, .slice ve.pE ve.nE ve.cE, .slice ve.pW ve.nW ve.cW, .int .i64 De.fuse, .bool De.down] := by rw [hw6]; exact (((((bx5.set (i := 0) (by simp) _).set (i := 1) (by simp) _).set (i := 2) (by simp) _).set (i := 3) (by simp) _).set (i := 4) (by simp) _)
                have s6 := SAE.out.push VAE.out HOWN.out HB2.out AB4.out HSA2.out hrow hgrow hown hbel bar6 bx6
                rw [hw6] at s6
                
                have SF := Lib.hid s6
                clear hb5 bx5 be5 hw6 bar6 bx6 s6 hrow hgrow hown hbel lE
                go_wp2_with fail
                go_roundw
                case rel => exact ⟨k + 1, De, ve, ms ++ [y], by omega, by omega, by go_num, SF.out⟩
                case measure => simp [intOf]; omega
          · have hEr : er = 10 := her.trans a2
            subst hEr
            rw [← hDe] at a3 a4 a5 a6
            obtain ⟨q1, q2⟩ := hsf.more (x := x) (sx := sx) (y := y) a3 a5 a4
            have HSA2 := Lib.hid q1; have HSN2 := Lib.hid q2; have HMT := Lib.hid hmatch
            cases bn
            · have HSN := Lib.hid (HSN2.out (HMT.out (by simp)))
              have H_a1 := Lib.hid a1
              have H_a6 := Lib.hid a6
              clear a1 a6 hDe her hck hsf hcn hsa hx hsx hy sa2 ob t2 hW2 hor hbn hbs hmatch a2 a3 a4 a5 q1 q2
              go_wp2_with fail
              rw [← HW2.out]
              refine HC.out.mono ?_
              rintro e w4 ⟨ve, rfl, va4, ab4, b4⟩
              have a1 := H_a1.out
              have a6 := H_a6.out
              have sa4 := SA2.out.below b4
              have ob4 := OB.out.below b4
              have tE : Below w4.heap.size w4 (w4.alloc (.cells #[.int .i64 De.size, .slice ve.pE ve.nE ve.cE, .slice ve.pW ve.nW ve.cW, .int .i64 De.fuse, .bool De.down] 25)) := (Below.refl _ _).alloc (Nat.le_refl _) _
              have saE := sa4.below tE
              have obE := ob4.below tE
              have o0 : (w4.alloc (.cells #[.int .i64 De.size, .slice ve.pE ve.nE ve.cE, .slice ve.pW ve.nW ve.cW, .int .i64 De.fuse, .bool De.down] 25)).cell? ⟨wr.heap.size, 0, none⟩ = some (.string x) := obE.cell 0 (by simp)
              have o1 : (w4.alloc (.cells #[.int .i64 De.size, .slice ve.pE ve.nE ve.cE, .slice ve.pW ve.nW ve.cW, .int .i64 De.fuse, .bool De.down] 25)).cell? ⟨wr.heap.size, 1, none⟩ = some (.int .i64 sx) := obE.cell 1 (by simp)
              have o2 : (w4.alloc (.cells #[.int .i64 De.size, .slice ve.pE ve.nE ve.cE, .slice ve.pW ve.nW ve.cW, .int .i64 De.fuse, .bool De.down] 25)).cell? ⟨wr.heap.size, 2, none⟩ = some (.string y) := obE.cell 2 (by simp)
              have q0 : (w4.alloc (.cells #[.int .i64 De.size, .slice ve.pE ve.nE ve.cE, .slice ve.pW ve.nW ve.cW, .int .i64 De.fuse, .bool De.down] 25)).cell? ⟨w.heap.size, 0, none⟩ = some (.int .i64 Dk.size) := saE.box.cell 0 (by simp)
              have p0 : w4.cell? ⟨w.heap.size, 0, none⟩ = some (.int .i64 Dk.size) := sa4.box.cell 0 (by simp)
              have f0 : w4.frozen? ⟨w.heap.size, 0, none⟩ = false := sa4.box.free 0 (by simp)
              have q1 : (w4.alloc (.cells #[.int .i64 De.size, .slice ve.pE ve.nE ve.cE, .slice ve.pW ve.nW ve.cW, .int .i64 De.fuse, .bool De.down] 25)).cell? ⟨w.heap.size, 1, none⟩ = some (.slice vk.pE vk.nE vk.cE) := saE.box.cell 1 (by simp)
              have p1 : w4.cell? ⟨w.heap.size, 1, none⟩ = some (.slice vk.pE vk.nE vk.cE) := sa4.box.cell 1 (by simp)
              have f1 : w4.frozen? ⟨w.heap.size, 1, none⟩ = false := sa4.box.free 1 (by simp)
              have q2 : (w4.alloc (.cells #[.int .i64 De.size, .slice ve.pE ve.nE ve.cE, .slice ve.pW ve.nW ve.cW, .int .i64 De.fuse, .bool De.down] 25)).cell? ⟨w.heap.size, 2, none⟩ = some (.slice vk.pW vk.nW vk.cW) := saE.box.cell 2 (by simp)
              have p2 : w4.cell? ⟨w.heap.size, 2, none⟩ = some (.slice vk.pW vk.nW vk.cW) := sa4.box.cell 2 (by simp)
              have f2 : w4.frozen? ⟨w.heap.size, 2, none⟩ = false := sa4.box.free 2 (by simp)
              have q3 : (w4.alloc (.cells #[.int .i64 De.size, .slice ve.pE ve.nE ve.cE, .slice ve.pW ve.nW ve.cW, .int .i64 De.fuse, .bool De.down] 25)).cell? ⟨w.heap.size, 3, none⟩ = some (.int .i64 Dk.fuse) := saE.box.cell 3 (by simp)
              have p3 : w4.cell? ⟨w.heap.size, 3, none⟩ = some (.int .i64 Dk.fuse) := sa4.box.cell 3 (by simp)
              have f3 : w4.frozen? ⟨w.heap.size, 3, none⟩ = false := sa4.box.free 3 (by simp)
              have q4 : (w4.alloc (.cells #[.int .i64 De.size, .slice ve.pE ve.nE ve.cE, .slice ve.pW ve.nW ve.cW, .int .i64 De.fuse, .bool De.down] 25)).cell? ⟨w.heap.size, 4, none⟩ = some (.bool Dk.down) := saE.box.cell 4 (by simp)
              have p4 : w4.cell? ⟨w.heap.size, 4, none⟩ = some (.bool Dk.down) := sa4.box.cell 4 (by simp)
              have f4 : w4.frozen? ⟨w.heap.size, 4, none⟩ = false := sa4.box.free 4 (by simp)
              have hlE : w.heap.size < w4.heap.size := sa4.box.lt
              have hne1 : ¬ (w.heap.size = w4.heap.size) := by omega
              have hne2 : ¬ (w4.heap.size = w.heap.size) := by omega
              (try rw [a1] at o0)
              (try rw [a1] at o1)
              (try rw [a1] at o2)
              (try rw [a1] at q0)
              (try rw [a1] at q1)
              (try rw [a1] at q2)
              (try rw [a1] at q3)
              (try rw [a1] at q4)
              (try rw [a1] at p0)
              (try rw [a1] at p1)
              (try rw [a1] at p2)
              (try rw [a1] at p3)
              (try rw [a1] at p4)
              (try rw [a6] at o0)
              (try rw [a6] at o1)
              (try rw [a6] at o2)
              (try rw [a6] at q0)
              (try rw [a6] at q1)
              (try rw [a6] at q2)
              (try rw [a6] at q3)
              (try rw [a6] at q4)
              (try rw [a6] at p0)
              (try rw [a6] at p1)
              (try rw [a6] at p2)
              (try rw [a6] at p3)
              (try rw [a6] at p4)
              obtain ⟨w5, hw5⟩ : ∃ x', x' = (((((w4.setCell ⟨w.heap.size, 0, none⟩ (.int .i64 De.size)).setCell ⟨w.heap.size, 1, none⟩ (.slice ve.pE ve.nE ve.cE)).setCell ⟨w.heap.size, 2, none⟩ (.slice ve.pW ve.nW ve.cW)).setCell ⟨w.heap.size, 3, none⟩ (.int .i64 De.fuse)).setCell ⟨w.heap.size, 4, none⟩ (.bool De.down)) := ⟨_, rfl⟩
              have bar5 : Bar w4 w5 (fun j => j = w.heap.size) := by rw [hw5]; exact ((((((Bar.refl w4 (fun j => j = w.heap.size)).setCell (q := ⟨w.heap.size, 0, none⟩) rfl _).setCell (q := ⟨w.heap.size, 1, none⟩) rfl _).setCell (q := ⟨w.heap.size, 2, none⟩) rfl _).setCell (q := ⟨w.heap.size, 3, none⟩) rfl _).setCell (q := ⟨w.heap.size, 4, none⟩) rfl _)
              have bx5 : Boxed w5 w.heap.size [.int .i64 De.size, .slice ve.pE ve.nE ve.cE, .slice ve.pW ve.nW ve.cW, .int .i64 De.fuse, .bool De.down] := by rw [hw5]; exact (((((sa4.box.set (i := 0) (by simp) _).set (i := 1) (by simp) _).set (i := 2) (by simp) _).set (i := 3) (by simp) _).set (i := 4) (by simp) _)
              have s5 := (sa4.store va4 HOWN.out HB2.out ab4 HSN.out bar5 bx5).below ((Below.refl _ w5).alloc (Nat.le_refl _) (.cells #[.int .i64 De.size, .slice ve.pE ve.nE ve.cE, .slice ve.pW ve.nW ve.cW, .int .i64 De.fuse, .bool De.down] 25))
              rw [hw5] at s5
              (try rw [a1] at s5)
              (try rw [a6] at s5)
              have SF := Lib.hid s5
              clear sa4 ob4 tE saE obE va4 ab4 b4 d0 d1 d2 r0 r1 r2 r3 r4 hw5 bar5 bx5 s5
              go_wp2_with fail
              go_roundw
              case rel => exact ⟨k + 1, De, ve, ms, by omega, by omega, by go_num, SF.out.up⟩
              case measure => simp [intOf]; omega
            · cases bs
              · have HSN := Lib.hid (HSN2.out (HMT.out (by simp)))
                have H_a1 := Lib.hid a1
                have H_a6 := Lib.hid a6
                clear a1 a6 hDe her hck hsf hcn hsa hx hsx hy sa2 ob t2 hW2 hor hbn hbs hmatch a2 a3 a4 a5 q1 q2
                go_wp2_with fail
                rw [← HW2.out]
                refine HC.out.mono ?_
                rintro e w4 ⟨ve, rfl, va4, ab4, b4⟩
                have a1 := H_a1.out
                have a6 := H_a6.out
                have sa4 := SA2.out.below b4
                have ob4 := OB.out.below b4
                have tE : Below w4.heap.size w4 (w4.alloc (.cells #[.int .i64 De.size, .slice ve.pE ve.nE ve.cE, .slice ve.pW ve.nW ve.cW, .int .i64 De.fuse, .bool De.down] 25)) := (Below.refl _ _).alloc (Nat.le_refl _) _
                have saE := sa4.below tE
                have obE := ob4.below tE
                have o0 : (w4.alloc (.cells #[.int .i64 De.size, .slice ve.pE ve.nE ve.cE, .slice ve.pW ve.nW ve.cW, .int .i64 De.fuse, .bool De.down] 25)).cell? ⟨wr.heap.size, 0, none⟩ = some (.string x) := obE.cell 0 (by simp)
                have o1 : (w4.alloc (.cells #[.int .i64 De.size, .slice ve.pE ve.nE ve.cE, .slice ve.pW ve.nW ve.cW, .int .i64 De.fuse, .bool De.down] 25)).cell? ⟨wr.heap.size, 1, none⟩ = some (.int .i64 sx) := obE.cell 1 (by simp)
                have o2 : (w4.alloc (.cells #[.int .i64 De.size, .slice ve.pE ve.nE ve.cE, .slice ve.pW ve.nW ve.cW, .int .i64 De.fuse, .bool De.down] 25)).cell? ⟨wr.heap.size, 2, none⟩ = some (.string y) := obE.cell 2 (by simp)
                have q0 : (w4.alloc (.cells #[.int .i64 De.size, .slice ve.pE ve.nE ve.cE, .slice ve.pW ve.nW ve.cW, .int .i64 De.fuse, .bool De.down] 25)).cell? ⟨w.heap.size, 0, none⟩ = some (.int .i64 Dk.size) := saE.box.cell 0 (by simp)
                have p0 : w4.cell? ⟨w.heap.size, 0, none⟩ = some (.int .i64 Dk.size) := sa4.box.cell 0 (by simp)
                have f0 : w4.frozen? ⟨w.heap.size, 0, none⟩ = false := sa4.box.free 0 (by simp)
                have q1 : (w4.alloc (.cells #[.int .i64 De.size, .slice ve.pE ve.nE ve.cE, .slice ve.pW ve.nW ve.cW, .int .i64 De.fuse, .bool De.down] 25)).cell? ⟨w.heap.size, 1, none⟩ = some (.slice vk.pE vk.nE vk.cE) := saE.box.cell 1 (by simp)
                have p1 : w4.cell? ⟨w.heap.size, 1, none⟩ = some (.slice vk.pE vk.nE vk.cE) := sa4.box.cell 1 (by simp)
                have f1 : w4.frozen? ⟨w.heap.size, 1, none⟩ = false := sa4.box.free 1 (by simp)
                have q2 : (w4.alloc (.cells #[.int .i64 De.size, .slice ve.pE ve.nE ve.cE, .slice ve.pW ve.nW ve.cW, .int .i64 De.fuse, .bool De.down] 25)).cell? ⟨w.heap.size, 2, none⟩ = some (.slice vk.pW vk.nW vk.cW) := saE.box.cell 2 (by simp)
                have p2 : w4.cell? ⟨w.heap.size, 2, none⟩ = some (.slice vk.pW vk.nW vk.cW) := sa4.box.cell 2 (by simp)
                have f2 : w4.frozen? ⟨w.heap.size, 2, none⟩ = false := sa4.box.free 2 (by simp)
                have q3 : (w4.alloc (.cells #[.int .i64 De.size, .slice ve.pE ve.nE ve.cE, .slice ve.pW ve.nW ve.cW, .int .i64 De.fuse, .bool De.down] 25)).cell? ⟨w.heap.size, 3, none⟩ = some (.int .i64 Dk.fuse) := saE.box.cell 3 (by simp)
                have p3 : w4.cell? ⟨w.heap.size, 3, none⟩ = some (.int .i64 Dk.fuse) := sa4.box.cell 3 (by simp)
                have f3 : w4.frozen? ⟨w.heap.size, 3, none⟩ = false := sa4.box.free 3 (by simp)
                have q4 : (w4.alloc (.cells #[.int .i64 De.size, .slice ve.pE ve.nE ve.cE, .slice ve.pW ve.nW ve.cW, .int .i64 De.fuse, .bool De.down] 25)).cell? ⟨w.heap.size, 4, none⟩ = some (.bool Dk.down) := saE.box.cell 4 (by simp)
                have p4 : w4.cell? ⟨w.heap.size, 4, none⟩ = some (.bool Dk.down) := sa4.box.cell 4 (by simp)
                have f4 : w4.frozen? ⟨w.heap.size, 4, none⟩ = false := sa4.box.free 4 (by simp)
                have hlE : w.heap.size < w4.heap.size := sa4.box.lt
                have hne1 : ¬ (w.heap.size = w4.heap.size) := by omega
                have hne2 : ¬ (w4.heap.size = w.heap.size) := by omega
                (try rw [a1] at o0)
                (try rw [a1] at o1)
                (try rw [a1] at o2)
                (try rw [a1] at q0)
                (try rw [a1] at q1)
                (try rw [a1] at q2)
                (try rw [a1] at q3)
                (try rw [a1] at q4)
                (try rw [a1] at p0)
                (try rw [a1] at p1)
                (try rw [a1] at p2)
                (try rw [a1] at p3)
                (try rw [a1] at p4)
                (try rw [a6] at o0)
                (try rw [a6] at o1)
                (try rw [a6] at o2)
                (try rw [a6] at q0)
                (try rw [a6] at q1)
                (try rw [a6] at q2)
                (try rw [a6] at q3)
                (try rw [a6] at q4)
                (try rw [a6] at p0)
                (try rw [a6] at p1)
                (try rw [a6] at p2)
                (try rw [a6] at p3)
                (try rw [a6] at p4)
                obtain ⟨w5, hw5⟩ : ∃ x', x' = (((((w4.setCell ⟨w.heap.size, 0, none⟩ (.int .i64 De.size)).setCell ⟨w.heap.size, 1, none⟩ (.slice ve.pE ve.nE ve.cE)).setCell ⟨w.heap.size, 2, none⟩ (.slice ve.pW ve.nW ve.cW)).setCell ⟨w.heap.size, 3, none⟩ (.int .i64 De.fuse)).setCell ⟨w.heap.size, 4, none⟩ (.bool De.down)) := ⟨_, rfl⟩
                have bar5 : Bar w4 w5 (fun j => j = w.heap.size) := by rw [hw5]; exact ((((((Bar.refl w4 (fun j => j = w.heap.size)).setCell (q := ⟨w.heap.size, 0, none⟩) rfl _).setCell (q := ⟨w.heap.size, 1, none⟩) rfl _).setCell (q := ⟨w.heap.size, 2, none⟩) rfl _).setCell (q := ⟨w.heap.size, 3, none⟩) rfl _).setCell (q := ⟨w.heap.size, 4, none⟩) rfl _)
                have bx5 : Boxed w5 w.heap.size [.int .i64 De.size, .slice ve.pE ve.nE ve.cE, .slice ve.pW ve.nW ve.cW, .int .i64 De.fuse, .bool De.down] := by rw [hw5]; exact (((((sa4.box.set (i := 0) (by simp) _).set (i := 1) (by simp) _).set (i := 2) (by simp) _).set (i := 3) (by simp) _).set (i := 4) (by simp) _)
                have s5 := (sa4.store va4 HOWN.out HB2.out ab4 HSN.out bar5 bx5).below ((Below.refl _ w5).alloc (Nat.le_refl _) (.cells #[.int .i64 De.size, .slice ve.pE ve.nE ve.cE, .slice ve.pW ve.nW ve.cW, .int .i64 De.fuse, .bool De.down] 25))
                rw [hw5] at s5
                (try rw [a1] at s5)
                (try rw [a6] at s5)
                have SF := Lib.hid s5
                clear sa4 ob4 tE saE obE va4 ab4 b4 d0 d1 d2 r0 r1 r2 r3 r4 hw5 bar5 bx5 s5
                go_wp2_with fail
                go_roundw
                case rel => exact ⟨k + 1, De, ve, ms, by omega, by omega, by go_num, SF.out.up⟩
                case measure => simp [intOf]; omega
              ·
                have H_a1 := Lib.hid a1
                have H_a6 := Lib.hid a6
                clear a1 a6 hDe her hck hsf hcn hsa hx hsx hy sa2 ob t2 hW2 hor hbn hbs hmatch a2 a3 a4 a5 q1 q2
                go_wp2_with fail
                rw [← HW2.out]
                refine HC.out.mono ?_
                rintro e w4 ⟨ve, rfl, va4, ab4, b4⟩
                have a1 := H_a1.out
                have a6 := H_a6.out
                have sa4 := SA2.out.below b4
                have ob4 := OB.out.below b4
                obtain ⟨uE, huE⟩ : ∃ x', x' = (w4.alloc (.cells #[.int .i64 De.size, .slice ve.pE ve.nE ve.cE, .slice ve.pW ve.nW ve.cW, .int .i64 De.fuse, .bool De.down] 25)) := ⟨_, rfl⟩
                have tE : Below w4.heap.size w4 uE := by rw [huE]; exact (Below.refl _ _).alloc (Nat.le_refl _) _
                have hsE : uE.heap.size = w4.heap.size + 1 := by rw [huE]; simp
                have saE := sa4.below tE
                have obE := ob4.below tE
                have vaE := va4.below tE
                have bxE : Boxed uE w4.heap.size [.int .i64 De.size, .slice ve.pE ve.nE ve.cE, .slice ve.pW ve.nW ve.cW, .int .i64 De.fuse, .bool De.down] := by rw [huE]; exact Boxed.new w4 #[.int .i64 De.size, .slice ve.pE ve.nE ve.cE, .slice ve.pW ve.nW ve.cW, .int .i64 De.fuse, .bool De.down] 25
                have HSE := Lib.hid hsE
                have o0 : (w4.alloc (.cells #[.int .i64 De.size, .slice ve.pE ve.nE ve.cE, .slice ve.pW ve.nW ve.cW, .int .i64 De.fuse, .bool De.down] 25)).cell? ⟨wr.heap.size, 0, none⟩ = some (.string x) := by rw [← huE]; exact obE.cell 0 (by simp)
                have o1 : (w4.alloc (.cells #[.int .i64 De.size, .slice ve.pE ve.nE ve.cE, .slice ve.pW ve.nW ve.cW, .int .i64 De.fuse, .bool De.down] 25)).cell? ⟨wr.heap.size, 1, none⟩ = some (.int .i64 sx) := by rw [← huE]; exact obE.cell 1 (by simp)
                have o2 : (w4.alloc (.cells #[.int .i64 De.size, .slice ve.pE ve.nE ve.cE, .slice ve.pW ve.nW ve.cW, .int .i64 De.fuse, .bool De.down] 25)).cell? ⟨wr.heap.size, 2, none⟩ = some (.string y) := by rw [← huE]; exact obE.cell 2 (by simp)
                have q0 : (w4.alloc (.cells #[.int .i64 De.size, .slice ve.pE ve.nE ve.cE, .slice ve.pW ve.nW ve.cW, .int .i64 De.fuse, .bool De.down] 25)).cell? ⟨w.heap.size, 0, none⟩ = some (.int .i64 Dk.size) := by rw [← huE]; exact saE.box.cell 0 (by simp)
                have p0 : w4.cell? ⟨w.heap.size, 0, none⟩ = some (.int .i64 Dk.size) := sa4.box.cell 0 (by simp)
                have f0 : w4.frozen? ⟨w.heap.size, 0, none⟩ = false := sa4.box.free 0 (by simp)
                have q1 : (w4.alloc (.cells #[.int .i64 De.size, .slice ve.pE ve.nE ve.cE, .slice ve.pW ve.nW ve.cW, .int .i64 De.fuse, .bool De.down] 25)).cell? ⟨w.heap.size, 1, none⟩ = some (.slice vk.pE vk.nE vk.cE) := by rw [← huE]; exact saE.box.cell 1 (by simp)
                have p1 : w4.cell? ⟨w.heap.size, 1, none⟩ = some (.slice vk.pE vk.nE vk.cE) := sa4.box.cell 1 (by simp)
                have f1 : w4.frozen? ⟨w.heap.size, 1, none⟩ = false := sa4.box.free 1 (by simp)
                have q2 : (w4.alloc (.cells #[.int .i64 De.size, .slice ve.pE ve.nE ve.cE, .slice ve.pW ve.nW ve.cW, .int .i64 De.fuse, .bool De.down] 25)).cell? ⟨w.heap.size, 2, none⟩ = some (.slice vk.pW vk.nW vk.cW) := by rw [← huE]; exact saE.box.cell 2 (by simp)
                have p2 : w4.cell? ⟨w.heap.size, 2, none⟩ = some (.slice vk.pW vk.nW vk.cW) := sa4.box.cell 2 (by simp)
                have f2 : w4.frozen? ⟨w.heap.size, 2, none⟩ = false := sa4.box.free 2 (by simp)
                have q3 : (w4.alloc (.cells #[.int .i64 De.size, .slice ve.pE ve.nE ve.cE, .slice ve.pW ve.nW ve.cW, .int .i64 De.fuse, .bool De.down] 25)).cell? ⟨w.heap.size, 3, none⟩ = some (.int .i64 Dk.fuse) := by rw [← huE]; exact saE.box.cell 3 (by simp)
                have p3 : w4.cell? ⟨w.heap.size, 3, none⟩ = some (.int .i64 Dk.fuse) := sa4.box.cell 3 (by simp)
                have f3 : w4.frozen? ⟨w.heap.size, 3, none⟩ = false := sa4.box.free 3 (by simp)
                have q4 : (w4.alloc (.cells #[.int .i64 De.size, .slice ve.pE ve.nE ve.cE, .slice ve.pW ve.nW ve.cW, .int .i64 De.fuse, .bool De.down] 25)).cell? ⟨w.heap.size, 4, none⟩ = some (.bool Dk.down) := by rw [← huE]; exact saE.box.cell 4 (by simp)
                have p4 : w4.cell? ⟨w.heap.size, 4, none⟩ = some (.bool Dk.down) := sa4.box.cell 4 (by simp)
                have f4 : w4.frozen? ⟨w.heap.size, 4, none⟩ = false := sa4.box.free 4 (by simp)
                (try rw [a1] at o0)
                (try rw [a1] at o1)
                (try rw [a1] at o2)
                (try rw [a1] at q0)
                (try rw [a1] at q1)
                (try rw [a1] at q2)
                (try rw [a1] at q3)
                (try rw [a1] at q4)
                (try rw [a1] at p0)
                (try rw [a1] at p1)
                (try rw [a1] at p2)
                (try rw [a1] at p3)
                (try rw [a1] at p4)
                (try rw [a1] at huE)
                (try rw [a6] at o0)
                (try rw [a6] at o1)
                (try rw [a6] at o2)
                (try rw [a6] at q0)
                (try rw [a6] at q1)
                (try rw [a6] at q2)
                (try rw [a6] at q3)
                (try rw [a6] at q4)
                (try rw [a6] at p0)
                (try rw [a6] at p1)
                (try rw [a6] at p2)
                (try rw [a6] at p3)
                (try rw [a6] at p4)
                (try rw [a6] at huE)
                have HUE := Lib.hid huE; have SAE := Lib.hid saE; have VAE := Lib.hid vaE; have BXE := Lib.hid bxE; have AB4 := Lib.hid ab4; have B4 := Lib.hid b4
                clear hsE huE sa4 ob4 tE saE obE vaE bxE va4 ab4 b4 d0 d1 d2 r0 r1 r2 r3 r4
                go_wp2_with (at_builtin; rw [← HUE.out]; refine Rw.push rfl _ _ 26 rfl w213.heap.size 9 i0 (.string ⟨#[]⟩) 1 16 Try.underlying26 hi hz0 hz1 hz2 rfl (by decide) _ _ _ rfl SAE.out.row [.string y] (by rw [HSE.out]; rfl) rfl rfl (by have := SAE.out.len; omega) (by omega) (Nat.le_of_lt SAE.out.g2) ?_)
                intro g2 cap w5 hrow hgrow hown _ hbel
                have lE := SAE.out.g1
                have hb5 : Bar uE w5 (fun j => u14.ownBlock = some j) := ⟨hgrow.os, hgrow.tape, hgrow.output, hgrow.size, fun i hi hp => hgrow.block i hi (fun e => hp e.symm)⟩
                have bx5 := SAE.out.box.bar hb5 (fun hh => by have := (SAE.out.own hh).1; omega)
                have be5 := BXE.out.bar hb5 (fun hh => by have := HOWN.out _ hh; have := B4.out.size; omega)
                have p50 : w5.cell? ⟨w.heap.size, 0, none⟩ = some (.int .i64 Dk.size) := bx5.cell 0 (by simp)
                have f50 : w5.frozen? ⟨w.heap.size, 0, none⟩ = false := bx5.free 0 (by simp)
                have p51 : w5.cell? ⟨w.heap.size, 1, none⟩ = some (.slice vk.pE vk.nE vk.cE) := bx5.cell 1 (by simp)
                have f51 : w5.frozen? ⟨w.heap.size, 1, none⟩ = false := bx5.free 1 (by simp)
                have p52 : w5.cell? ⟨w.heap.size, 2, none⟩ = some (.slice vk.pW vk.nW vk.cW) := bx5.cell 2 (by simp)
                have f52 : w5.frozen? ⟨w.heap.size, 2, none⟩ = false := bx5.free 2 (by simp)
                have p53 : w5.cell? ⟨w.heap.size, 3, none⟩ = some (.int .i64 Dk.fuse) := bx5.cell 3 (by simp)
                have f53 : w5.frozen? ⟨w.heap.size, 3, none⟩ = false := bx5.free 3 (by simp)
                have p54 : w5.cell? ⟨w.heap.size, 4, none⟩ = some (.bool Dk.down) := bx5.cell 4 (by simp)
                have f54 : w5.frozen? ⟨w.heap.size, 4, none⟩ = false := bx5.free 4 (by simp)
                have e50 : w5.cell? ⟨w4.heap.size, 0, none⟩ = some (.int .i64 De.size) := be5.cell 0 (by simp)
                have e51 : w5.cell? ⟨w4.heap.size, 1, none⟩ = some (.slice ve.pE ve.nE ve.cE) := be5.cell 1 (by simp)
                have e52 : w5.cell? ⟨w4.heap.size, 2, none⟩ = some (.slice ve.pW ve.nW ve.cW) := be5.cell 2 (by simp)
                have e53 : w5.cell? ⟨w4.heap.size, 3, none⟩ = some (.int .i64 De.fuse) := be5.cell 3 (by simp)
                have e54 : w5.cell? ⟨w4.heap.size, 4, none⟩ = some (.bool De.down) := be5.cell 4 (by simp)
                (try rw [a1] at p50)
                (try rw [a1] at p51)
                (try rw [a1] at p52)
                (try rw [a1] at p53)
                (try rw [a1] at p54)
                (try rw [a1] at e50)
                (try rw [a1] at e51)
                (try rw [a1] at e52)
                (try rw [a1] at e53)
                (try rw [a1] at e54)
                (try rw [a6] at p50)
                (try rw [a6] at p51)
                (try rw [a6] at p52)
                (try rw [a6] at p53)
                (try rw [a6] at p54)
                (try rw [a6] at e50)
                (try rw [a6] at e51)
                (try rw [a6] at e52)
                (try rw [a6] at e53)
                (try rw [a6] at e54)
                obtain ⟨w6, hw6⟩ : ∃ x', x' = (((((w5.setCell ⟨w.heap.size, 0, none⟩ (.int .i64 De.size)).setCell ⟨w.heap.size, 1, none⟩ (.slice ve.pE ve.nE ve.cE)).setCell ⟨w.heap.size, 2, none⟩ (.slice ve.pW ve.nW ve.cW)).setCell ⟨w.heap.size, 3, none⟩ (.int .i64 De.fuse)).setCell ⟨w.heap.size, 4, none⟩ (.bool De.down)) := ⟨_, rfl⟩
                have bar6 : Bar w5 w6 (fun j => j = w.heap.size) := by rw [hw6]; exact ((((((Bar.refl w5 (fun j => j = w.heap.size)).setCell (q := ⟨w.heap.size, 0, none⟩) rfl _).setCell (q := ⟨w.heap.size, 1, none⟩) rfl _).setCell (q := ⟨w.heap.size, 2, none⟩) rfl _).setCell (q := ⟨w.heap.size, 3, none⟩) rfl _).setCell (q := ⟨w.heap.size, 4, none⟩) rfl _)
                have bx6 : Boxed w6 w.heap.size [.int .i64 De.size, .slice ve.pE ve.nE ve.cE, .slice ve.pW ve.nW ve.cW, .int .i64 De.fuse, .bool De.down] := by rw [hw6]; exact (((((bx5.set (i := 0) (by simp) _).set (i := 1) (by simp) _).set (i := 2) (by simp) _).set (i := 3) (by simp) _).set (i := 4) (by simp) _)
                have s6 := SAE.out.push VAE.out HOWN.out HB2.out AB4.out HSA2.out hrow hgrow hown hbel bar6 bx6
                rw [hw6] at s6
                (try rw [a1] at s6)
                (try rw [a6] at s6)
                have SF := Lib.hid s6
                clear hb5 bx5 be5 hw6 bar6 bx6 s6 hrow hgrow hown hbel lE
                go_wp2_with fail
                go_roundw
                case rel => exact ⟨k + 1, De, ve, ms ++ [y], by omega, by omega, by go_num, SF.out⟩
                case measure => simp [intOf]; omega
    · obtain rfl : nL = k := by omega
      have sa := hsa
      obtain ⟨gmy, cap, hmy⟩ : ∃ g cap, u14 = .slice (some ⟨g, 0, none⟩) ms.length cap := by
        rcases hsa.row.2 with ⟨_, h0⟩ | ⟨g, cap, cur, hv, _⟩
        · have := hsa.safe.was
          rw [List.eq_nil_of_length_eq_zero h0] at this
          simp at this
        · exact ⟨g, cap, hv⟩
      subst hmy
      have q0 : wr.cell? ⟨w.heap.size, 0, none⟩ = some (.int .i64 Dk.size) := sa.box.cell 0 (by simp)
      have q1 : wr.cell? ⟨w.heap.size, 1, none⟩ = some (.slice vk.pE vk.nE vk.cE) := sa.box.cell 1 (by simp)
      have q2 : wr.cell? ⟨w.heap.size, 2, none⟩ = some (.slice vk.pW vk.nW vk.cW) := sa.box.cell 2 (by simp)
      have q3 : wr.cell? ⟨w.heap.size, 3, none⟩ = some (.int .i64 Dk.fuse) := sa.box.cell 3 (by simp)
      have q4 : wr.cell? ⟨w.heap.size, 4, none⟩ = some (.bool Dk.down) := sa.box.cell 4 (by simp)
      obtain ⟨Dc, hDc⟩ : ∃ x', x' = crD Dk K := ⟨_, rfl⟩
      obtain ⟨is_, his⟩ : ∃ x', x' = rdO Dc nm s := ⟨_, rfl⟩
      obtain ⟨c1, c2, c3, c4, c5⟩ := sa.safe.crash HFD.out K
      rw [← hDc] at c1 c2 c3 c4 c5
      rw [← his] at c2
      have HCR := Lib.hid (cr_call sa.va K pK nK cK HNK.out (HK.out.below sa.bel))
      rw [← hDc, sa.safe.ck] at HCR
      have SA := Lib.hid sa; have C1 := Lib.hid c1; have C2 := Lib.hid c2; have C3 := Lib.hid c3; have C4 := Lib.hid c4; have C5 := Lib.hid c5; have HIS := Lib.hid his.symm
      clear hsa sa hDc his c1 c2 c3 c4 c5
      go_wp2_with fail
      refine HCR.out.mono ?_
      rintro e w7 ⟨vc, rfl, vac, _, b7⟩
      obtain ⟨u7, hu7⟩ : ∃ u, u = (w7.alloc (.cells #[.int .i64 Dc.size, .slice vc.pE vc.nE vc.cE, .slice vc.pW vc.nW vc.cW, .int .i64 Dc.fuse, .bool Dc.down] 25)) := ⟨_, rfl⟩
      have t7 : Below w7.heap.size w7 u7 := by rw [hu7]; exact (Below.refl _ _).alloc (Nat.le_refl _) _
      have xc : Boxed u7 w7.heap.size [.int .i64 Dc.size, .slice vc.pE vc.nE vc.cE, .slice vc.pW vc.nW vc.cW, .int .i64 Dc.fuse, .bool Dc.down] := by rw [hu7]; exact Boxed.new w7 #[.int .i64 Dc.size, .slice vc.pE vc.nE vc.cE, .slice vc.pW vc.nW vc.cW, .int .i64 Dc.fuse, .bool Dc.down] 25
      have vc7 := vac.below t7
      have row7 := Rw.own_below (Rw.own_below SA.out.row b7) t7
      have bel7 := SA.out.bel.trans ((b7.trans (t7.mono b7.size)).mono SA.out.bel.size)
      have s0 : (w7.alloc (.cells #[.int .i64 Dc.size, .slice vc.pE vc.nE vc.cE, .slice vc.pW vc.nW vc.cW, .int .i64 Dc.fuse, .bool Dc.down] 25)).cell? ⟨w7.heap.size, 0, none⟩ = some (.int .i64 Dc.size) := by rw [← hu7]; exact xc.cell 0 (by simp)
      have s1 : (w7.alloc (.cells #[.int .i64 Dc.size, .slice vc.pE vc.nE vc.cE, .slice vc.pW vc.nW vc.cW, .int .i64 Dc.fuse, .bool Dc.down] 25)).cell? ⟨w7.heap.size, 1, none⟩ = some (.slice vc.pE vc.nE vc.cE) := by rw [← hu7]; exact xc.cell 1 (by simp)
      have s2 : (w7.alloc (.cells #[.int .i64 Dc.size, .slice vc.pE vc.nE vc.cE, .slice vc.pW vc.nW vc.cW, .int .i64 Dc.fuse, .bool Dc.down] 25)).cell? ⟨w7.heap.size, 2, none⟩ = some (.slice vc.pW vc.nW vc.cW) := by rw [← hu7]; exact xc.cell 2 (by simp)
      have s3 : (w7.alloc (.cells #[.int .i64 Dc.size, .slice vc.pE vc.nE vc.cE, .slice vc.pW vc.nW vc.cW, .int .i64 Dc.fuse, .bool Dc.down] 25)).cell? ⟨w7.heap.size, 3, none⟩ = some (.int .i64 Dc.fuse) := by rw [← hu7]; exact xc.cell 3 (by simp)
      have s4 : (w7.alloc (.cells #[.int .i64 Dc.size, .slice vc.pE vc.nE vc.cE, .slice vc.pW vc.nW vc.cW, .int .i64 Dc.fuse, .bool Dc.down] 25)).cell? ⟨w7.heap.size, 4, none⟩ = some (.bool Dc.down) := by rw [← hu7]; exact xc.cell 4 (by simp)
      have HU7 := Lib.hid hu7; have XC7 := Lib.hid xc; have VC7 := Lib.hid vc7; have ROW7 := Lib.hid row7; have BEL7 := Lib.hid bel7
      clear hu7 t7 xc vc7 row7 bel7 vac b7 q0 q1 q2 q3 q4
      go_wp2_with fail
      rw [← HU7.out]
      refine (rd_call VC7.out nm s).mono ?_
      rw [HIS.out, C1.out]
      rintro e w8 ⟨rfl, b8⟩
      have XC8 := Lib.hid (XC7.out.below b8); have VC8 := Lib.hid (VC7.out.below b8); have ROW8 := Lib.hid (Rw.own_below ROW7.out b8); have BEL8 := Lib.hid (BEL7.out.trans (b8.mono BEL7.out.size))
      have hl30 : ms.length ≤ 31 := by have := SA.out.len; omega
      clear b8 s0 s1 s2 s3 s4
      go_wp2_with fail
      go_loopw [23, 25, 135] (fun fd _ i w9 => ∃ j : Nat, j ≤ ms.length ∧ i = .int .i64 j ∧ fd = .bool ((ms.take j).any (fun z => z.toList == is_.toList)) ∧ Below w8.heap.size w8 w9) (fun _ _ i _ => ms.length - (intOf i).toNat)
      case atStart => exact ⟨0, by omega, rfl, rfl, Below.refl _ _⟩
      case round =>
        obtain ⟨j, hj, rfl, rfl, hb9⟩ := hrel
        obtain ⟨fd, hfd⟩ : ∃ b, b = (ms.take j).any (fun z => z.toList == is_.toList) := ⟨_, rfl⟩
        rw [← hfd]
        by_cases hlj : j < ms.length
        · have row9 := Rw.own_below ROW8.out hb9
          have hc9 := row9.cells (g := gmy) rfl j (.string ms[j]) (by simp [strs, List.getElem?_eq_getElem hlj])
          simp only [Addr.add_lit, Nat.zero_add] at hc9
          obtain ⟨z, hz9⟩ : ∃ z, z = ms[j] := ⟨_, rfl⟩
          rw [← hz9] at hc9
          obtain ⟨bz, hbz⟩ : ∃ b, b = (z.toList == is_.toList) := ⟨_, rfl⟩
          have hnext : (ms.take (j + 1)).any (fun z => z.toList == is_.toList) = (fd || bz) := by
            rw [List.take_succ_eq_append_getElem hlj, List.any_append, ← hfd, ← hz9, hbz]
            simp
          have tz : (z.toList == is_.toList) = bz := hbz.symm
          have n0 : (0 : Int) ≤ (j : Int) := by omega
          have n1 : (j : Int) < (ms.length : Int) := by omega
          have HNX := Lib.hid hnext; have HB9 := Lib.hid hb9
          clear hfd hz9 hbz hnext row9 hb9
          cases fd
          all_goals go_wp2_with fail
          all_goals go_roundw
          all_goals (first | (simp [intOf]; done) | (simp [intOf]; omega) | exact ⟨j + 1, by omega, by go_num, by rw [HNX.out]; simp, HB9.out⟩)
        · obtain rfl : j = ms.length := by omega
          have hfull : fd = true := by
            rw [hfd, List.take_length, List.any_eq_true]
            exact ⟨is_, C2.out, by simp⟩
          subst hfull
          have xc9 := XC8.out.below hb9
          have HCK := Lib.hid (ck_call (VC8.out.below hb9))
          have hcd := C3.out
          have hcf := C4.out
          rw [C5.out, hcf, hcd] at HCK
          have BEL9 := Lib.hid (BEL8.out.trans (hb9.mono BEL8.out.size))
          have y0 : wr.cell? ⟨w7.heap.size, 0, none⟩ = some (.int .i64 Dc.size) := xc9.cell 0 (by simp)
          have y1 : wr.cell? ⟨w7.heap.size, 1, none⟩ = some (.slice vc.pE vc.nE vc.cE) := xc9.cell 1 (by simp)
          have y2 : wr.cell? ⟨w7.heap.size, 2, none⟩ = some (.slice vc.pW vc.nW vc.cW) := xc9.cell 2 (by simp)
          have y3 : wr.cell? ⟨w7.heap.size, 3, none⟩ = some (.int .i64 Dc.fuse) := xc9.cell 3 (by simp)
          have y4 : wr.cell? ⟨w7.heap.size, 4, none⟩ = some (.bool Dc.down) := xc9.cell 4 (by simp)
          clear hfd xc9 hb9
          go_wp2_with fail
          refine HCK.out.mono ?_
          rintro e w10 ⟨rfl, b10⟩
          have BEL10 := Lib.hid (BEL9.out.trans (b10.mono BEL9.out.size))
          clear b10 y0 y1 y2 y3 y4 hcd hcf
          go_wp2_with fail
          go_ret
          exact ⟨rfl, BEL10.out⟩
end Go.Proofs.Ytfdpmbjbgigkgaa.Dk

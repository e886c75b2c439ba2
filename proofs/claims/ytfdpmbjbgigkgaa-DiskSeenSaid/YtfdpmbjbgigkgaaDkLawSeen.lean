/- DiskSeen: the law. -/
import Derived.Test.YtfdpmbjbgigkgaaDkLives
import Derived.Test.YtfdpmbjbgigkgaaDkThyB
import Derived.Test.YtfdpmbjbgigkgaaDkOpen
namespace Go.Proofs.Ytfdpmbjbgigkgaa.Dk
open Go.RowKit Go.Op

set_option maxHeartbeats 8000000 in
set_option maxRecDepth 100000 in
theorem seen_law (D : Dsk) (dv : DVal) (nm : ByteArray) (s : Int) (d : ByteArray) (ot : ByteArray) (at_ : Int) (w : World) (hv : VarAt w D dv) (h1 : nm.size ≤ 140737488355328) (h2 : d.size ≤ 140737488355328) :
    Calls Try.prog 6 #[dval D dv, .string nm, .int .i64 s, .string d, .string ot, .int .i64 at_] w fun e w' => e = .returned (.bool true) ∧ Below w.heap.size w w' := by
  unfold dval
  obtain ⟨u0, hu0⟩ : ∃ u, u = (w.alloc (.cells #[.int .i64 D.size, .slice dv.pE dv.nE dv.cE, .slice dv.pW dv.nW dv.cW, .int .i64 D.fuse, .bool D.down] 25)) := ⟨_, rfl⟩
  have t0 : Below w.heap.size w u0 := by rw [hu0]; exact (Below.refl _ _).alloc (Nat.le_refl _) _
  have X_d : Hid (Boxed u0 w.heap.size [.int .i64 D.size, .slice dv.pE dv.nE dv.cE, .slice dv.pW dv.nW dv.cW, .int .i64 D.fuse, .bool D.down]) := Lib.hid (by rw [hu0]; exact Boxed.new w #[.int .i64 D.size, .slice dv.pE dv.nE dv.cE, .slice dv.pW dv.nW dv.cW, .int .i64 D.fuse, .bool D.down] 25)
  have V_d := Lib.hid (hv.below t0)
  have BB := Lib.hid t0
  have HU0 := Lib.hid hu0
  obtain ⟨was, hwas⟩ : ∃ x, x = rdO D ot at_ := ⟨_, rfl⟩
  obtain ⟨w1e, hw1e⟩ : ∃ x, x = rdE D ot at_ := ⟨_, rfl⟩
  obtain ⟨De, hDe⟩ : ∃ x, x = wtD D nm s d := ⟨_, rfl⟩
  obtain ⟨er, her⟩ : ∃ x, x = wtE D nm s d := ⟨_, rfl⟩
  have HWAS := Lib.hid hwas.symm; have HW1 := Lib.hid hw1e.symm; have HDE := Lib.hid hDe.symm; have HER := Lib.hid her.symm
  by_cases hz : er = 0
  case neg =>
    have t : (er != 0) = true := by rw [bne_iff_ne]; exact hz
    clear hwas hw1e hDe her hu0 t0 hv hz
    go_enter Try.func6, Try.ntmps6
    go_wp2_with fail
    rw [← HU0.out]
    refine (lives_any _).mono ?_
    rintro e w1 ⟨rfl, b1⟩
    have x_d := X_d.out.below b1; have v_d := V_d.out.below b1
    have bb := BB.out.trans (b1.mono BB.out.size)
    have q2 : w1.cell? ⟨w.heap.size, 0, none⟩ = some (.int .i64 D.size) := by exact x_d.cell 0 (by simp)
    have q3 : w1.cell? ⟨w.heap.size, 1, none⟩ = some (.slice dv.pE dv.nE dv.cE) := by exact x_d.cell 1 (by simp)
    have q4 : w1.cell? ⟨w.heap.size, 2, none⟩ = some (.slice dv.pW dv.nW dv.cW) := by exact x_d.cell 2 (by simp)
    have q5 : w1.cell? ⟨w.heap.size, 3, none⟩ = some (.int .i64 D.fuse) := by exact x_d.cell 3 (by simp)
    have q6 : w1.cell? ⟨w.heap.size, 4, none⟩ = some (.bool D.down) := by exact x_d.cell 4 (by simp)
    have X_d := Lib.hid x_d; have V_d := Lib.hid v_d
    have BB := Lib.hid bb
    clear bb x_d v_d
    clear b1
    go_wp2_with fail
    refine (rd_call V_d.out ot at_).mono ?_
    rw [HWAS.out, HW1.out]
    rintro e w7 ⟨rfl, b7⟩
    have x_d := X_d.out.below b7; have v_d := V_d.out.below b7
    have bb := BB.out.trans (b7.mono BB.out.size)
    have q8 : w7.cell? ⟨w.heap.size, 0, none⟩ = some (.int .i64 D.size) := by exact x_d.cell 0 (by simp)
    have q9 : w7.cell? ⟨w.heap.size, 1, none⟩ = some (.slice dv.pE dv.nE dv.cE) := by exact x_d.cell 1 (by simp)
    have q10 : w7.cell? ⟨w.heap.size, 2, none⟩ = some (.slice dv.pW dv.nW dv.cW) := by exact x_d.cell 2 (by simp)
    have q11 : w7.cell? ⟨w.heap.size, 3, none⟩ = some (.int .i64 D.fuse) := by exact x_d.cell 3 (by simp)
    have q12 : w7.cell? ⟨w.heap.size, 4, none⟩ = some (.bool D.down) := by exact x_d.cell 4 (by simp)
    have X_d := Lib.hid x_d; have V_d := Lib.hid v_d
    have BB := Lib.hid bb
    clear bb x_d v_d
    clear b7
    go_wp2_with fail
    refine (wt_call V_d.out nm s d h1 h2).mono ?_
    rw [HDE.out, HER.out]
    rintro e w13 ⟨dv13, rfl, va13, _, b13⟩
    have x_d := X_d.out.below b13; have v_d := V_d.out.below b13
    have bb := BB.out.trans (b13.mono BB.out.size)
    have G_e := Lib.hid bb.size
    obtain ⟨u13, hu13⟩ : ∃ u, u = (w13.alloc (.cells #[.int .i64 De.size, .slice dv13.pE dv13.nE dv13.cE, .slice dv13.pW dv13.nW dv13.cW, .int .i64 De.fuse, .bool De.down] 25)) := ⟨_, rfl⟩
    have t13 : Below w13.heap.size w13 u13 := by rw [hu13]; exact (Below.refl _ _).alloc (Nat.le_refl _) _
    replace x_d := x_d.below t13; replace v_d := v_d.below t13
    replace bb := bb.trans (t13.mono bb.size)
    have x_e : Boxed u13 w13.heap.size [.int .i64 De.size, .slice dv13.pE dv13.nE dv13.cE, .slice dv13.pW dv13.nW dv13.cW, .int .i64 De.fuse, .bool De.down] := by rw [hu13]; exact Boxed.new w13 #[.int .i64 De.size, .slice dv13.pE dv13.nE dv13.cE, .slice dv13.pW dv13.nW dv13.cW, .int .i64 De.fuse, .bool De.down] 25
    have v_e := va13.below t13
    have HU13 := Lib.hid hu13
    have X_d := Lib.hid x_d; have V_d := Lib.hid v_d
    have X_e := Lib.hid x_e; have V_e := Lib.hid v_e
    have BB := Lib.hid bb
    clear bb x_d v_d x_e v_e
    clear b13 t13 hu13 va13
    go_wp2_with fail
    go_ret
    rw [← HU13.out]
    exact ⟨rfl, BB.out⟩
  case pos =>
    subst hz
    obtain ⟨g0, g1, g2, g3, g4⟩ := wt_eq her.symm
    have r1 := wt_read her.symm nm s
    have r2 := wt_read her.symm ot at_
    rw [← hDe] at r1 r2 g4
    have r3 := sy_read g4 nm s
    obtain ⟨y1, y2, y3, _⟩ := sy_eq g4
    obtain ⟨Df, hDf⟩ : ∃ x, x = syD De := ⟨_, rfl⟩
    rw [← hDf] at r3 y2 y3
    have a1 : rdE De nm s = 0 := by rw [r1.1, rdE_ok g0]; exact g1
    have a2 : rdO De nm s = d := by rw [r1.2, if_pos ⟨rfl, rfl⟩]
    have a3 : rdE De ot at_ = w1e := by rw [r2.1, ← hw1e]
    have a4 : rdE Df nm s = 0 := by rw [r3.1]; exact a1
    have a5 : rdO Df nm s = d := by rw [r3.2]; exact a2
    obtain ⟨nw, hnw⟩ : ∃ x, x = rdO De ot at_ := ⟨_, rfl⟩
    have hor : nw = was ∨ (ot = nm ∧ at_ = s) := by
      rw [hnw, r2.2, hwas]
      by_cases e : nm = ot ∧ s = at_
      · exact .inr ⟨e.1.symm, e.2.symm⟩
      · rw [if_neg e]; exact .inl rfl
    have W0 : Hid (Df.W.length = 0) := Lib.hid (by rw [y2]; rfl)
    have A1 := Lib.hid a1; have A2 := Lib.hid a2; have A3 := Lib.hid a3; have A4 := Lib.hid a4; have A5 := Lib.hid a5
    have HNW := Lib.hid hnw.symm; have HDF := Lib.hid hDf.symm; have Y1 := Lib.hid y1
    have hor2 : (nw.toList == was.toList) = true ∨ ((nw.toList == was.toList) = false ∧ (ot.toList == nm.toList) = true ∧ (at_ == s) = true) := by
      cases hb : (nw.toList == was.toList) with
      | true => exact .inl rfl
      | false =>
        rcases hor with e | ⟨e1, e2⟩
        · rw [e] at hb; simp at hb
        · exact .inr ⟨rfl, by rw [e1]; simp, by rw [e2]; simp⟩
    clear hwas hw1e hDe her hu0 t0 hv g0 g1 g2 g3 g4 r1 r2 r3 y1 y2 y3 a1 a2 a3 a4 a5 hnw hDf hor
    rcases hor2 with tq | ⟨tq, tr, ts⟩
    all_goals
      go_enter Try.func6, Try.ntmps6
      go_wp2_with fail
      rw [← HU0.out]
      refine (lives_any _).mono ?_
      rintro e w501 ⟨rfl, b501⟩
      have x_d := X_d.out.below b501; have v_d := V_d.out.below b501
      have bb := BB.out.trans (b501.mono BB.out.size)
      have q502 : w501.cell? ⟨w.heap.size, 0, none⟩ = some (.int .i64 D.size) := by exact x_d.cell 0 (by simp)
      have q503 : w501.cell? ⟨w.heap.size, 1, none⟩ = some (.slice dv.pE dv.nE dv.cE) := by exact x_d.cell 1 (by simp)
      have q504 : w501.cell? ⟨w.heap.size, 2, none⟩ = some (.slice dv.pW dv.nW dv.cW) := by exact x_d.cell 2 (by simp)
      have q505 : w501.cell? ⟨w.heap.size, 3, none⟩ = some (.int .i64 D.fuse) := by exact x_d.cell 3 (by simp)
      have q506 : w501.cell? ⟨w.heap.size, 4, none⟩ = some (.bool D.down) := by exact x_d.cell 4 (by simp)
      have X_d := Lib.hid x_d; have V_d := Lib.hid v_d
      have BB := Lib.hid bb
      clear bb x_d v_d
      clear b501
      go_wp2_with fail
      refine (rd_call V_d.out ot at_).mono ?_
      rw [HWAS.out, HW1.out]
      rintro e w507 ⟨rfl, b507⟩
      have x_d := X_d.out.below b507; have v_d := V_d.out.below b507
      have bb := BB.out.trans (b507.mono BB.out.size)
      have q508 : w507.cell? ⟨w.heap.size, 0, none⟩ = some (.int .i64 D.size) := by exact x_d.cell 0 (by simp)
      have q509 : w507.cell? ⟨w.heap.size, 1, none⟩ = some (.slice dv.pE dv.nE dv.cE) := by exact x_d.cell 1 (by simp)
      have q510 : w507.cell? ⟨w.heap.size, 2, none⟩ = some (.slice dv.pW dv.nW dv.cW) := by exact x_d.cell 2 (by simp)
      have q511 : w507.cell? ⟨w.heap.size, 3, none⟩ = some (.int .i64 D.fuse) := by exact x_d.cell 3 (by simp)
      have q512 : w507.cell? ⟨w.heap.size, 4, none⟩ = some (.bool D.down) := by exact x_d.cell 4 (by simp)
      have X_d := Lib.hid x_d; have V_d := Lib.hid v_d
      have BB := Lib.hid bb
      clear bb x_d v_d
      clear b507
      go_wp2_with fail
      refine (wt_call V_d.out nm s d h1 h2).mono ?_
      rw [HDE.out, HER.out]
      rintro e w513 ⟨dv513, rfl, va513, _, b513⟩
      have x_d := X_d.out.below b513; have v_d := V_d.out.below b513
      have bb := BB.out.trans (b513.mono BB.out.size)
      have G_e := Lib.hid bb.size
      obtain ⟨u513, hu513⟩ : ∃ u, u = (w513.alloc (.cells #[.int .i64 De.size, .slice dv513.pE dv513.nE dv513.cE, .slice dv513.pW dv513.nW dv513.cW, .int .i64 De.fuse, .bool De.down] 25)) := ⟨_, rfl⟩
      have t513 : Below w513.heap.size w513 u513 := by rw [hu513]; exact (Below.refl _ _).alloc (Nat.le_refl _) _
      replace x_d := x_d.below t513; replace v_d := v_d.below t513
      replace bb := bb.trans (t513.mono bb.size)
      have x_e : Boxed u513 w513.heap.size [.int .i64 De.size, .slice dv513.pE dv513.nE dv513.cE, .slice dv513.pW dv513.nW dv513.cW, .int .i64 De.fuse, .bool De.down] := by rw [hu513]; exact Boxed.new w513 #[.int .i64 De.size, .slice dv513.pE dv513.nE dv513.cE, .slice dv513.pW dv513.nW dv513.cW, .int .i64 De.fuse, .bool De.down] 25
      have v_e := va513.below t513
      have q514 : (w513.alloc (.cells #[.int .i64 De.size, .slice dv513.pE dv513.nE dv513.cE, .slice dv513.pW dv513.nW dv513.cW, .int .i64 De.fuse, .bool De.down] 25)).cell? ⟨w513.heap.size, 0, none⟩ = some (.int .i64 De.size) := by rw [← hu513]; exact x_e.cell 0 (by simp)
      have q515 : (w513.alloc (.cells #[.int .i64 De.size, .slice dv513.pE dv513.nE dv513.cE, .slice dv513.pW dv513.nW dv513.cW, .int .i64 De.fuse, .bool De.down] 25)).cell? ⟨w513.heap.size, 1, none⟩ = some (.slice dv513.pE dv513.nE dv513.cE) := by rw [← hu513]; exact x_e.cell 1 (by simp)
      have q516 : (w513.alloc (.cells #[.int .i64 De.size, .slice dv513.pE dv513.nE dv513.cE, .slice dv513.pW dv513.nW dv513.cW, .int .i64 De.fuse, .bool De.down] 25)).cell? ⟨w513.heap.size, 2, none⟩ = some (.slice dv513.pW dv513.nW dv513.cW) := by rw [← hu513]; exact x_e.cell 2 (by simp)
      have q517 : (w513.alloc (.cells #[.int .i64 De.size, .slice dv513.pE dv513.nE dv513.cE, .slice dv513.pW dv513.nW dv513.cW, .int .i64 De.fuse, .bool De.down] 25)).cell? ⟨w513.heap.size, 3, none⟩ = some (.int .i64 De.fuse) := by rw [← hu513]; exact x_e.cell 3 (by simp)
      have q518 : (w513.alloc (.cells #[.int .i64 De.size, .slice dv513.pE dv513.nE dv513.cE, .slice dv513.pW dv513.nW dv513.cW, .int .i64 De.fuse, .bool De.down] 25)).cell? ⟨w513.heap.size, 4, none⟩ = some (.bool De.down) := by rw [← hu513]; exact x_e.cell 4 (by simp)
      have HU513 := Lib.hid hu513
      have X_d := Lib.hid x_d; have V_d := Lib.hid v_d
      have X_e := Lib.hid x_e; have V_e := Lib.hid v_e
      have BB := Lib.hid bb
      clear bb x_d v_d x_e v_e
      clear b513 t513 hu513 va513
      go_wp2_with fail
      rw [← HU513.out]
      refine (rd_call V_e.out nm s).mono ?_
      rw [A2.out, A1.out]
      rintro e w519 ⟨rfl, b519⟩
      have x_d := X_d.out.below b519; have v_d := V_d.out.below b519
      have x_e := X_e.out.below b519; have v_e := V_e.out.below b519
      have bb := BB.out.trans (b519.mono BB.out.size)
      have q520 : w519.cell? ⟨w513.heap.size, 0, none⟩ = some (.int .i64 De.size) := by exact x_e.cell 0 (by simp)
      have q521 : w519.cell? ⟨w513.heap.size, 1, none⟩ = some (.slice dv513.pE dv513.nE dv513.cE) := by exact x_e.cell 1 (by simp)
      have q522 : w519.cell? ⟨w513.heap.size, 2, none⟩ = some (.slice dv513.pW dv513.nW dv513.cW) := by exact x_e.cell 2 (by simp)
      have q523 : w519.cell? ⟨w513.heap.size, 3, none⟩ = some (.int .i64 De.fuse) := by exact x_e.cell 3 (by simp)
      have q524 : w519.cell? ⟨w513.heap.size, 4, none⟩ = some (.bool De.down) := by exact x_e.cell 4 (by simp)
      have X_d := Lib.hid x_d; have V_d := Lib.hid v_d
      have X_e := Lib.hid x_e; have V_e := Lib.hid v_e
      have BB := Lib.hid bb
      clear bb x_d v_d x_e v_e
      clear b519
      go_wp2_with fail
      refine (rd_call V_e.out ot at_).mono ?_
      rw [HNW.out, A3.out]
      rintro e w525 ⟨rfl, b525⟩
      have x_d := X_d.out.below b525; have v_d := V_d.out.below b525
      have x_e := X_e.out.below b525; have v_e := V_e.out.below b525
      have bb := BB.out.trans (b525.mono BB.out.size)
      have q526 : w525.cell? ⟨w513.heap.size, 0, none⟩ = some (.int .i64 De.size) := by exact x_e.cell 0 (by simp)
      have q527 : w525.cell? ⟨w513.heap.size, 1, none⟩ = some (.slice dv513.pE dv513.nE dv513.cE) := by exact x_e.cell 1 (by simp)
      have q528 : w525.cell? ⟨w513.heap.size, 2, none⟩ = some (.slice dv513.pW dv513.nW dv513.cW) := by exact x_e.cell 2 (by simp)
      have q529 : w525.cell? ⟨w513.heap.size, 3, none⟩ = some (.int .i64 De.fuse) := by exact x_e.cell 3 (by simp)
      have q530 : w525.cell? ⟨w513.heap.size, 4, none⟩ = some (.bool De.down) := by exact x_e.cell 4 (by simp)
      have X_d := Lib.hid x_d; have V_d := Lib.hid v_d
      have X_e := Lib.hid x_e; have V_e := Lib.hid v_e
      have BB := Lib.hid bb
      clear bb x_d v_d x_e v_e
      clear b525
      go_wp2_with fail
      refine (sy_call V_e.out).mono ?_
      rw [HDF.out, Y1.out]
      rintro e w531 ⟨dv531, rfl, va531, _, b531⟩
      have x_d := X_d.out.below b531; have v_d := V_d.out.below b531
      have x_e := X_e.out.below b531; have v_e := V_e.out.below b531
      have bb := BB.out.trans (b531.mono BB.out.size)
      have G_f := Lib.hid bb.size
      obtain ⟨u531, hu531⟩ : ∃ u, u = (w531.alloc (.cells #[.int .i64 Df.size, .slice dv531.pE dv531.nE dv531.cE, .slice dv531.pW dv531.nW dv531.cW, .int .i64 Df.fuse, .bool Df.down] 25)) := ⟨_, rfl⟩
      have t531 : Below w531.heap.size w531 u531 := by rw [hu531]; exact (Below.refl _ _).alloc (Nat.le_refl _) _
      replace x_d := x_d.below t531; replace v_d := v_d.below t531
      replace x_e := x_e.below t531; replace v_e := v_e.below t531
      replace bb := bb.trans (t531.mono bb.size)
      have x_f : Boxed u531 w531.heap.size [.int .i64 Df.size, .slice dv531.pE dv531.nE dv531.cE, .slice dv531.pW dv531.nW dv531.cW, .int .i64 Df.fuse, .bool Df.down] := by rw [hu531]; exact Boxed.new w531 #[.int .i64 Df.size, .slice dv531.pE dv531.nE dv531.cE, .slice dv531.pW dv531.nW dv531.cW, .int .i64 Df.fuse, .bool Df.down] 25
      have v_f := va531.below t531
      have q532 : (w531.alloc (.cells #[.int .i64 Df.size, .slice dv531.pE dv531.nE dv531.cE, .slice dv531.pW dv531.nW dv531.cW, .int .i64 Df.fuse, .bool Df.down] 25)).cell? ⟨w531.heap.size, 0, none⟩ = some (.int .i64 Df.size) := by rw [← hu531]; exact x_f.cell 0 (by simp)
      have q533 : (w531.alloc (.cells #[.int .i64 Df.size, .slice dv531.pE dv531.nE dv531.cE, .slice dv531.pW dv531.nW dv531.cW, .int .i64 Df.fuse, .bool Df.down] 25)).cell? ⟨w531.heap.size, 1, none⟩ = some (.slice dv531.pE dv531.nE dv531.cE) := by rw [← hu531]; exact x_f.cell 1 (by simp)
      have q534 : (w531.alloc (.cells #[.int .i64 Df.size, .slice dv531.pE dv531.nE dv531.cE, .slice dv531.pW dv531.nW dv531.cW, .int .i64 Df.fuse, .bool Df.down] 25)).cell? ⟨w531.heap.size, 2, none⟩ = some (.slice dv531.pW dv531.nW dv531.cW) := by rw [← hu531]; exact x_f.cell 2 (by simp)
      have q535 : (w531.alloc (.cells #[.int .i64 Df.size, .slice dv531.pE dv531.nE dv531.cE, .slice dv531.pW dv531.nW dv531.cW, .int .i64 Df.fuse, .bool Df.down] 25)).cell? ⟨w531.heap.size, 3, none⟩ = some (.int .i64 Df.fuse) := by rw [← hu531]; exact x_f.cell 3 (by simp)
      have q536 : (w531.alloc (.cells #[.int .i64 Df.size, .slice dv531.pE dv531.nE dv531.cE, .slice dv531.pW dv531.nW dv531.cW, .int .i64 Df.fuse, .bool Df.down] 25)).cell? ⟨w531.heap.size, 4, none⟩ = some (.bool Df.down) := by rw [← hu531]; exact x_f.cell 4 (by simp)
      have HU531 := Lib.hid hu531
      have X_d := Lib.hid x_d; have V_d := Lib.hid v_d
      have X_e := Lib.hid x_e; have V_e := Lib.hid v_e
      have X_f := Lib.hid x_f; have V_f := Lib.hid v_f
      have BB := Lib.hid bb
      clear bb x_d v_d x_e v_e x_f v_f
      clear b531 t531 hu531 va531
      go_wp2_with fail
      rw [← HU531.out]
      refine (rd_call V_f.out nm s).mono ?_
      rw [A5.out, A4.out]
      rintro e w537 ⟨rfl, b537⟩
      have x_d := X_d.out.below b537; have v_d := V_d.out.below b537
      have x_e := X_e.out.below b537; have v_e := V_e.out.below b537
      have x_f := X_f.out.below b537; have v_f := V_f.out.below b537
      have bb := BB.out.trans (b537.mono BB.out.size)
      have q538 : w537.cell? ⟨w531.heap.size, 0, none⟩ = some (.int .i64 Df.size) := by exact x_f.cell 0 (by simp)
      have q539 : w537.cell? ⟨w531.heap.size, 1, none⟩ = some (.slice dv531.pE dv531.nE dv531.cE) := by exact x_f.cell 1 (by simp)
      have q540 : w537.cell? ⟨w531.heap.size, 2, none⟩ = some (.slice dv531.pW dv531.nW dv531.cW) := by exact x_f.cell 2 (by simp)
      have q541 : w537.cell? ⟨w531.heap.size, 3, none⟩ = some (.int .i64 Df.fuse) := by exact x_f.cell 3 (by simp)
      have q542 : w537.cell? ⟨w531.heap.size, 4, none⟩ = some (.bool Df.down) := by exact x_f.cell 4 (by simp)
      have X_d := Lib.hid x_d; have V_d := Lib.hid v_d
      have X_e := Lib.hid x_e; have V_e := Lib.hid v_e
      have X_f := Lib.hid x_f; have V_f := Lib.hid v_f
      have BB := Lib.hid bb
      clear bb x_d v_d x_e v_e x_f v_f
      clear b537
      have tw : ((dv531.nW : Int) == 0) = true := by have h := V_f.out.hW; rw [W0.out] at h; rw [h]; rfl
      go_wp2_with fail
      go_ret
      exact ⟨rfl, BB.out⟩
end Go.Proofs.Ytfdpmbjbgigkgaa.Dk

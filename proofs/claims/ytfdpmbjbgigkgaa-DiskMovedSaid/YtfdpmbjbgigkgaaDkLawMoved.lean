/- DiskMoved: the law. -/
import Derived.Test.YtfdpmbjbgigkgaaDkLives
import Derived.Test.YtfdpmbjbgigkgaaDkThyD
import Derived.Test.YtfdpmbjbgigkgaaDkOpen
namespace Go.Proofs.Ytfdpmbjbgigkgaa.Dk
open Go.RowKit Go.Op

set_option maxHeartbeats 8000000 in
set_option maxRecDepth 100000 in
theorem moved_law (D : Dsk) (dv : DVal) (fr to : ByteArray) (s : Int) (w : World) (hv : VarAt w D dv) (h2 : to.size ≤ 140737488355328) :
    Calls Try.prog 9 #[dval D dv, .string fr, .string to, .int .i64 s] w fun e w' => e = .returned (.bool true) ∧ Below w.heap.size w w' := by
  unfold dval
  obtain ⟨u0, hu0⟩ : ∃ u, u = (w.alloc (.cells #[.int .i64 D.size, .slice dv.pE dv.nE dv.cE, .slice dv.pW dv.nW dv.cW, .int .i64 D.fuse, .bool D.down] 25)) := ⟨_, rfl⟩
  have t0 : Below w.heap.size w u0 := by rw [hu0]; exact (Below.refl _ _).alloc (Nat.le_refl _) _
  have X_d : Hid (Boxed u0 w.heap.size [.int .i64 D.size, .slice dv.pE dv.nE dv.cE, .slice dv.pW dv.nW dv.cW, .int .i64 D.fuse, .bool D.down]) := Lib.hid (by rw [hu0]; exact Boxed.new w #[.int .i64 D.size, .slice dv.pE dv.nE dv.cE, .slice dv.pW dv.nW dv.cW, .int .i64 D.fuse, .bool D.down] 25)
  have V_d := Lib.hid (hv.below t0)
  have BB := Lib.hid t0
  have HU0 := Lib.hid hu0
  obtain ⟨was, hwas⟩ : ∃ x, x = rdO D fr s := ⟨_, rfl⟩
  obtain ⟨w1e, hw1e⟩ : ∃ x, x = rdE D fr s := ⟨_, rfl⟩
  obtain ⟨rn, hrn⟩ : ∃ x, x = rmA D := ⟨_, rfl⟩
  obtain ⟨rne, hrne⟩ : ∃ x, x = rdy D := ⟨_, rfl⟩
  obtain ⟨De, hDe⟩ : ∃ x, x = mvD D fr to := ⟨_, rfl⟩
  obtain ⟨er, her⟩ : ∃ x, x = mvE D fr to := ⟨_, rfl⟩
  have HWAS := Lib.hid hwas.symm; have HW1 := Lib.hid hw1e.symm; have HDE := Lib.hid hDe.symm; have HER := Lib.hid her.symm; have HRN := Lib.hid hrn.symm; have HRNE := Lib.hid hrne.symm
  by_cases hz : er = 0
  case neg =>
    have t : (er != 0) = true := by rw [bne_iff_ne]; exact hz
    have hor : er = 2 ∨ De = D := by
      have := mv_bad (D := D) (fr := fr) (to := to) (by rw [← her]; exact hz)
      rw [← her, ← hDe] at this
      exact this
    by_cases h22 : er = 2
    · have t2 : (er == 2) = true := by rw [beq_iff_eq]; exact h22
      clear hwas hw1e hDe her hrn hrne hu0 t0 hv hz hor h22
      go_enter Try.func9, Try.ntmps9
      go_wp2_with fail
      rw [← HU0.out]
      refine (lives_any _).mono ?_
      rintro e w1 ⟨rfl, b1⟩
      have x_d := X_d.out.below b1; have v_d := V_d.out.below b1
      have bb := BB.out.trans (b1.mono BB.out.size)
      have q2 : w1.cell? ⟨w.heap.size, 0, none⟩ = some (.int .i64 D.size) := by exact x_d.cell 0 (by simp)
      have q3 : w1.cell? ⟨w.heap.size, 1, none⟩ = some (.slice dv.pE dv.nE dv.cE) := by exact x_d.cell 1 (by simp)
      have q4 : w1.cell? ⟨w.heap.size, 2, none⟩ = some (.slice dv.pW dv.nW dv.cW) := by exact x_d.cell 2 (by simp)
      have q5 : w1.cell? ⟨w.heap.size, 3, none⟩ = some (.int .i64 D.fuse) := by exact x_d.cell 3 (by simp)
      have q6 : w1.cell? ⟨w.heap.size, 4, none⟩ = some (.bool D.down) := by exact x_d.cell 4 (by simp)
      have X_d := Lib.hid x_d; have V_d := Lib.hid v_d
      have BB := Lib.hid bb
      clear bb x_d v_d
      clear b1
      go_wp2_with fail
      refine (rd_call V_d.out fr s).mono ?_
      rw [HWAS.out, HW1.out]
      rintro e w7 ⟨rfl, b7⟩
      have x_d := X_d.out.below b7; have v_d := V_d.out.below b7
      have bb := BB.out.trans (b7.mono BB.out.size)
      have q8 : w7.cell? ⟨w.heap.size, 0, none⟩ = some (.int .i64 D.size) := by exact x_d.cell 0 (by simp)
      have q9 : w7.cell? ⟨w.heap.size, 1, none⟩ = some (.slice dv.pE dv.nE dv.cE) := by exact x_d.cell 1 (by simp)
      have q10 : w7.cell? ⟨w.heap.size, 2, none⟩ = some (.slice dv.pW dv.nW dv.cW) := by exact x_d.cell 2 (by simp)
      have q11 : w7.cell? ⟨w.heap.size, 3, none⟩ = some (.int .i64 D.fuse) := by exact x_d.cell 3 (by simp)
      have q12 : w7.cell? ⟨w.heap.size, 4, none⟩ = some (.bool D.down) := by exact x_d.cell 4 (by simp)
      have X_d := Lib.hid x_d; have V_d := Lib.hid v_d
      have BB := Lib.hid bb
      clear bb x_d v_d
      clear b7
      go_wp2_with fail
      refine (rm_call V_d.out).mono ?_
      rw [HRN.out, HRNE.out]
      rintro e w13 ⟨rfl, b13⟩
      have x_d := X_d.out.below b13; have v_d := V_d.out.below b13
      have bb := BB.out.trans (b13.mono BB.out.size)
      have q14 : w13.cell? ⟨w.heap.size, 0, none⟩ = some (.int .i64 D.size) := by exact x_d.cell 0 (by simp)
      have q15 : w13.cell? ⟨w.heap.size, 1, none⟩ = some (.slice dv.pE dv.nE dv.cE) := by exact x_d.cell 1 (by simp)
      have q16 : w13.cell? ⟨w.heap.size, 2, none⟩ = some (.slice dv.pW dv.nW dv.cW) := by exact x_d.cell 2 (by simp)
      have q17 : w13.cell? ⟨w.heap.size, 3, none⟩ = some (.int .i64 D.fuse) := by exact x_d.cell 3 (by simp)
      have q18 : w13.cell? ⟨w.heap.size, 4, none⟩ = some (.bool D.down) := by exact x_d.cell 4 (by simp)
      have X_d := Lib.hid x_d; have V_d := Lib.hid v_d
      have BB := Lib.hid bb
      clear bb x_d v_d
      clear b13
      go_wp2_with fail
      refine (mv_call V_d.out fr to h2).mono ?_
      rw [HDE.out, HER.out]
      rintro e w19 ⟨dv19, rfl, va19, _, b19⟩
      have x_d := X_d.out.below b19; have v_d := V_d.out.below b19
      have bb := BB.out.trans (b19.mono BB.out.size)
      have G_e := Lib.hid bb.size
      obtain ⟨u19, hu19⟩ : ∃ u, u = (w19.alloc (.cells #[.int .i64 De.size, .slice dv19.pE dv19.nE dv19.cE, .slice dv19.pW dv19.nW dv19.cW, .int .i64 De.fuse, .bool De.down] 25)) := ⟨_, rfl⟩
      have t19 : Below w19.heap.size w19 u19 := by rw [hu19]; exact (Below.refl _ _).alloc (Nat.le_refl _) _
      replace x_d := x_d.below t19; replace v_d := v_d.below t19
      replace bb := bb.trans (t19.mono bb.size)
      have x_e : Boxed u19 w19.heap.size [.int .i64 De.size, .slice dv19.pE dv19.nE dv19.cE, .slice dv19.pW dv19.nW dv19.cW, .int .i64 De.fuse, .bool De.down] := by rw [hu19]; exact Boxed.new w19 #[.int .i64 De.size, .slice dv19.pE dv19.nE dv19.cE, .slice dv19.pW dv19.nW dv19.cW, .int .i64 De.fuse, .bool De.down] 25
      have v_e := va19.below t19
      have HU19 := Lib.hid hu19
      have X_d := Lib.hid x_d; have V_d := Lib.hid v_d
      have X_e := Lib.hid x_e; have V_e := Lib.hid v_e
      have BB := Lib.hid bb
      clear bb x_d v_d x_e v_e
      clear b19 t19 hu19 va19
      go_wp2_with fail
      go_ret
      rw [← HU19.out]
      exact ⟨rfl, BB.out⟩
    · have t2 : (er == 2) = false := by rw [beq_eq_false_iff_ne]; exact h22
      have e2 := hor.resolve_left h22
      subst e2
      clear hwas hw1e hDe her hrn hrne hu0 t0 hv hz hor h22
      go_enter Try.func9, Try.ntmps9
      go_wp2_with fail
      rw [← HU0.out]
      refine (lives_any _).mono ?_
      rintro e w201 ⟨rfl, b201⟩
      have x_d := X_d.out.below b201; have v_d := V_d.out.below b201
      have bb := BB.out.trans (b201.mono BB.out.size)
      have q202 : w201.cell? ⟨w.heap.size, 0, none⟩ = some (.int .i64 De.size) := by exact x_d.cell 0 (by simp)
      have q203 : w201.cell? ⟨w.heap.size, 1, none⟩ = some (.slice dv.pE dv.nE dv.cE) := by exact x_d.cell 1 (by simp)
      have q204 : w201.cell? ⟨w.heap.size, 2, none⟩ = some (.slice dv.pW dv.nW dv.cW) := by exact x_d.cell 2 (by simp)
      have q205 : w201.cell? ⟨w.heap.size, 3, none⟩ = some (.int .i64 De.fuse) := by exact x_d.cell 3 (by simp)
      have q206 : w201.cell? ⟨w.heap.size, 4, none⟩ = some (.bool De.down) := by exact x_d.cell 4 (by simp)
      have X_d := Lib.hid x_d; have V_d := Lib.hid v_d
      have BB := Lib.hid bb
      clear bb x_d v_d
      clear b201
      go_wp2_with fail
      refine (rd_call V_d.out fr s).mono ?_
      rw [HWAS.out, HW1.out]
      rintro e w207 ⟨rfl, b207⟩
      have x_d := X_d.out.below b207; have v_d := V_d.out.below b207
      have bb := BB.out.trans (b207.mono BB.out.size)
      have q208 : w207.cell? ⟨w.heap.size, 0, none⟩ = some (.int .i64 De.size) := by exact x_d.cell 0 (by simp)
      have q209 : w207.cell? ⟨w.heap.size, 1, none⟩ = some (.slice dv.pE dv.nE dv.cE) := by exact x_d.cell 1 (by simp)
      have q210 : w207.cell? ⟨w.heap.size, 2, none⟩ = some (.slice dv.pW dv.nW dv.cW) := by exact x_d.cell 2 (by simp)
      have q211 : w207.cell? ⟨w.heap.size, 3, none⟩ = some (.int .i64 De.fuse) := by exact x_d.cell 3 (by simp)
      have q212 : w207.cell? ⟨w.heap.size, 4, none⟩ = some (.bool De.down) := by exact x_d.cell 4 (by simp)
      have X_d := Lib.hid x_d; have V_d := Lib.hid v_d
      have BB := Lib.hid bb
      clear bb x_d v_d
      clear b207
      go_wp2_with fail
      refine (rm_call V_d.out).mono ?_
      rw [HRN.out, HRNE.out]
      rintro e w213 ⟨rfl, b213⟩
      have x_d := X_d.out.below b213; have v_d := V_d.out.below b213
      have bb := BB.out.trans (b213.mono BB.out.size)
      have q214 : w213.cell? ⟨w.heap.size, 0, none⟩ = some (.int .i64 De.size) := by exact x_d.cell 0 (by simp)
      have q215 : w213.cell? ⟨w.heap.size, 1, none⟩ = some (.slice dv.pE dv.nE dv.cE) := by exact x_d.cell 1 (by simp)
      have q216 : w213.cell? ⟨w.heap.size, 2, none⟩ = some (.slice dv.pW dv.nW dv.cW) := by exact x_d.cell 2 (by simp)
      have q217 : w213.cell? ⟨w.heap.size, 3, none⟩ = some (.int .i64 De.fuse) := by exact x_d.cell 3 (by simp)
      have q218 : w213.cell? ⟨w.heap.size, 4, none⟩ = some (.bool De.down) := by exact x_d.cell 4 (by simp)
      have X_d := Lib.hid x_d; have V_d := Lib.hid v_d
      have BB := Lib.hid bb
      clear bb x_d v_d
      clear b213
      go_wp2_with fail
      refine (mv_call V_d.out fr to h2).mono ?_
      rw [HDE.out, HER.out]
      rintro e w219 ⟨dv219, rfl, va219, _, b219⟩
      have x_d := X_d.out.below b219; have v_d := V_d.out.below b219
      have bb := BB.out.trans (b219.mono BB.out.size)
      have G_e := Lib.hid bb.size
      obtain ⟨u219, hu219⟩ : ∃ u, u = (w219.alloc (.cells #[.int .i64 De.size, .slice dv219.pE dv219.nE dv219.cE, .slice dv219.pW dv219.nW dv219.cW, .int .i64 De.fuse, .bool De.down] 25)) := ⟨_, rfl⟩
      have t219 : Below w219.heap.size w219 u219 := by rw [hu219]; exact (Below.refl _ _).alloc (Nat.le_refl _) _
      replace x_d := x_d.below t219; replace v_d := v_d.below t219
      replace bb := bb.trans (t219.mono bb.size)
      have x_e : Boxed u219 w219.heap.size [.int .i64 De.size, .slice dv219.pE dv219.nE dv219.cE, .slice dv219.pW dv219.nW dv219.cW, .int .i64 De.fuse, .bool De.down] := by rw [hu219]; exact Boxed.new w219 #[.int .i64 De.size, .slice dv219.pE dv219.nE dv219.cE, .slice dv219.pW dv219.nW dv219.cW, .int .i64 De.fuse, .bool De.down] 25
      have v_e := va219.below t219
      have q220 : (w219.alloc (.cells #[.int .i64 De.size, .slice dv219.pE dv219.nE dv219.cE, .slice dv219.pW dv219.nW dv219.cW, .int .i64 De.fuse, .bool De.down] 25)).cell? ⟨w.heap.size, 0, none⟩ = some (.int .i64 De.size) := by rw [← hu219]; exact x_d.cell 0 (by simp)
      have q221 : (w219.alloc (.cells #[.int .i64 De.size, .slice dv219.pE dv219.nE dv219.cE, .slice dv219.pW dv219.nW dv219.cW, .int .i64 De.fuse, .bool De.down] 25)).cell? ⟨w.heap.size, 1, none⟩ = some (.slice dv.pE dv.nE dv.cE) := by rw [← hu219]; exact x_d.cell 1 (by simp)
      have q222 : (w219.alloc (.cells #[.int .i64 De.size, .slice dv219.pE dv219.nE dv219.cE, .slice dv219.pW dv219.nW dv219.cW, .int .i64 De.fuse, .bool De.down] 25)).cell? ⟨w.heap.size, 2, none⟩ = some (.slice dv.pW dv.nW dv.cW) := by rw [← hu219]; exact x_d.cell 2 (by simp)
      have q223 : (w219.alloc (.cells #[.int .i64 De.size, .slice dv219.pE dv219.nE dv219.cE, .slice dv219.pW dv219.nW dv219.cW, .int .i64 De.fuse, .bool De.down] 25)).cell? ⟨w.heap.size, 3, none⟩ = some (.int .i64 De.fuse) := by rw [← hu219]; exact x_d.cell 3 (by simp)
      have q224 : (w219.alloc (.cells #[.int .i64 De.size, .slice dv219.pE dv219.nE dv219.cE, .slice dv219.pW dv219.nW dv219.cW, .int .i64 De.fuse, .bool De.down] 25)).cell? ⟨w.heap.size, 4, none⟩ = some (.bool De.down) := by rw [← hu219]; exact x_d.cell 4 (by simp)
      have q225 : (w219.alloc (.cells #[.int .i64 De.size, .slice dv219.pE dv219.nE dv219.cE, .slice dv219.pW dv219.nW dv219.cW, .int .i64 De.fuse, .bool De.down] 25)).cell? ⟨w219.heap.size, 0, none⟩ = some (.int .i64 De.size) := by rw [← hu219]; exact x_e.cell 0 (by simp)
      have q226 : (w219.alloc (.cells #[.int .i64 De.size, .slice dv219.pE dv219.nE dv219.cE, .slice dv219.pW dv219.nW dv219.cW, .int .i64 De.fuse, .bool De.down] 25)).cell? ⟨w219.heap.size, 1, none⟩ = some (.slice dv219.pE dv219.nE dv219.cE) := by rw [← hu219]; exact x_e.cell 1 (by simp)
      have q227 : (w219.alloc (.cells #[.int .i64 De.size, .slice dv219.pE dv219.nE dv219.cE, .slice dv219.pW dv219.nW dv219.cW, .int .i64 De.fuse, .bool De.down] 25)).cell? ⟨w219.heap.size, 2, none⟩ = some (.slice dv219.pW dv219.nW dv219.cW) := by rw [← hu219]; exact x_e.cell 2 (by simp)
      have q228 : (w219.alloc (.cells #[.int .i64 De.size, .slice dv219.pE dv219.nE dv219.cE, .slice dv219.pW dv219.nW dv219.cW, .int .i64 De.fuse, .bool De.down] 25)).cell? ⟨w219.heap.size, 3, none⟩ = some (.int .i64 De.fuse) := by rw [← hu219]; exact x_e.cell 3 (by simp)
      have q229 : (w219.alloc (.cells #[.int .i64 De.size, .slice dv219.pE dv219.nE dv219.cE, .slice dv219.pW dv219.nW dv219.cW, .int .i64 De.fuse, .bool De.down] 25)).cell? ⟨w219.heap.size, 4, none⟩ = some (.bool De.down) := by rw [← hu219]; exact x_e.cell 4 (by simp)
      have HU219 := Lib.hid hu219
      have X_d := Lib.hid x_d; have V_d := Lib.hid v_d
      have X_e := Lib.hid x_e; have V_e := Lib.hid v_e
      have BB := Lib.hid bb
      clear bb x_d v_d x_e v_e
      clear b219 t219 hu219 va219
      go_wp2_with fail
      rw [← HU219.out]
      refine (Same_any De _ _ _ V_d.out V_e.out).mono ?_
      rintro e w230 ⟨rfl, b230⟩
      have x_d := X_d.out.below b230; have v_d := V_d.out.below b230
      have x_e := X_e.out.below b230; have v_e := V_e.out.below b230
      have bb := BB.out.trans (b230.mono BB.out.size)
      have X_d := Lib.hid x_d; have V_d := Lib.hid v_d
      have X_e := Lib.hid x_e; have V_e := Lib.hid v_e
      have BB := Lib.hid bb
      clear bb x_d v_d x_e v_e
      clear b230
      go_wp2_with fail
      go_ret
      exact ⟨rfl, BB.out⟩
  case pos =>
    subst hz
    have hfacts : ∃ (a1 : rdE De to s = w1e) (a2 : rdO De to s = was) (a3 : rn ≤ rmA De) (a4 : rdy De = 0) (a5 : ckE De = 0), (fr.toList == to.toList) = true ∨ ((fr.toList == to.toList) = false ∧ rdE De fr s = 3) := by
      by_cases e : fr = to
      · subst e
        obtain ⟨k0, k1⟩ := mv_same her.symm
        rw [k1] at hDe
        subst hDe
        refine ⟨hw1e.symm, hwas.symm, by rw [hrn]; omega, k0, ?_, .inl (by simp)⟩
        show chkE _ _ _ _ = 0
        unfold chkE
        rw [if_pos (ready_good k0).1]
      · obtain ⟨k0, k1, k2, k3⟩ := mv_eq her.symm e
        obtain ⟨l1, l2, l3, l4⟩ := mv_read her.symm e s
        rw [← hDe] at k3 l1 l2 l3 l4
        refine ⟨by rw [l1, hw1e], by rw [l2, hwas], by rw [hrn]; exact l4, k3, ?_, .inr ⟨?_, l3⟩⟩
        · show chkE _ _ _ _ = 0
          unfold chkE
          rw [if_pos (ready_good k3).1]
        · rw [beq_eq_false_iff_ne]
          exact fun h => e (toList_inj h)
    obtain ⟨a1, a2, a3, a4, a5, hor⟩ := hfacts
    obtain ⟨m, hm⟩ : ∃ x, x = rmA De := ⟨_, rfl⟩
    obtain ⟨fO, hfO⟩ : ∃ x, x = rdO De fr s := ⟨_, rfl⟩
    obtain ⟨fE, hfE⟩ : ∃ x, x = rdE De fr s := ⟨_, rfl⟩
    rw [← hm] at a3
    rw [← hfE] at hor
    have tm : decide (rn ≤ m) = true := decide_eq_true a3
    have hor2 : (fr.toList == to.toList) = true ∨ ((fr.toList == to.toList) = false ∧ (fE == 3) = true) := hor.imp id (fun h => ⟨h.1, by rw [h.2]; rfl⟩)
    have A1 := Lib.hid a1; have A2 := Lib.hid a2; have A4 := Lib.hid a4; have A5 := Lib.hid a5
    have HM := Lib.hid hm.symm; have HFO := Lib.hid hfO.symm; have HFE := Lib.hid hfE.symm
    clear hwas hw1e hDe her hrn hrne hu0 t0 hv a1 a2 a3 a4 a5 hm hfO hfE hor
    rcases hor2 with tq | ⟨tq, tr⟩
    all_goals
      go_enter Try.func9, Try.ntmps9
      go_wp2_with fail
      rw [← HU0.out]
      refine (lives_any _).mono ?_
      rintro e w501 ⟨rfl, b501⟩
      have x_d := X_d.out.below b501; have v_d := V_d.out.below b501
      have bb := BB.out.trans (b501.mono BB.out.size)
      have q502 : w501.cell? ⟨w.heap.size, 0, none⟩ = some (.int .i64 D.size) := by exact x_d.cell 0 (by simp)
      have q503 : w501.cell? ⟨w.heap.size, 1, none⟩ = some (.slice dv.pE dv.nE dv.cE) := by exact x_d.cell 1 (by simp)
      have q504 : w501.cell? ⟨w.heap.size, 2, none⟩ = some (.slice dv.pW dv.nW dv.cW) := by exact x_d.cell 2 (by simp)
      have q505 : w501.cell? ⟨w.heap.size, 3, none⟩ = some (.int .i64 D.fuse) := by exact x_d.cell 3 (by simp)
      have q506 : w501.cell? ⟨w.heap.size, 4, none⟩ = some (.bool D.down) := by exact x_d.cell 4 (by simp)
      have X_d := Lib.hid x_d; have V_d := Lib.hid v_d
      have BB := Lib.hid bb
      clear bb x_d v_d
      clear b501
      go_wp2_with fail
      refine (rd_call V_d.out fr s).mono ?_
      rw [HWAS.out, HW1.out]
      rintro e w507 ⟨rfl, b507⟩
      have x_d := X_d.out.below b507; have v_d := V_d.out.below b507
      have bb := BB.out.trans (b507.mono BB.out.size)
      have q508 : w507.cell? ⟨w.heap.size, 0, none⟩ = some (.int .i64 D.size) := by exact x_d.cell 0 (by simp)
      have q509 : w507.cell? ⟨w.heap.size, 1, none⟩ = some (.slice dv.pE dv.nE dv.cE) := by exact x_d.cell 1 (by simp)
      have q510 : w507.cell? ⟨w.heap.size, 2, none⟩ = some (.slice dv.pW dv.nW dv.cW) := by exact x_d.cell 2 (by simp)
      have q511 : w507.cell? ⟨w.heap.size, 3, none⟩ = some (.int .i64 D.fuse) := by exact x_d.cell 3 (by simp)
      have q512 : w507.cell? ⟨w.heap.size, 4, none⟩ = some (.bool D.down) := by exact x_d.cell 4 (by simp)
      have X_d := Lib.hid x_d; have V_d := Lib.hid v_d
      have BB := Lib.hid bb
      clear bb x_d v_d
      clear b507
      go_wp2_with fail
      refine (rm_call V_d.out).mono ?_
      rw [HRN.out, HRNE.out]
      rintro e w513 ⟨rfl, b513⟩
      have x_d := X_d.out.below b513; have v_d := V_d.out.below b513
      have bb := BB.out.trans (b513.mono BB.out.size)
      have q514 : w513.cell? ⟨w.heap.size, 0, none⟩ = some (.int .i64 D.size) := by exact x_d.cell 0 (by simp)
      have q515 : w513.cell? ⟨w.heap.size, 1, none⟩ = some (.slice dv.pE dv.nE dv.cE) := by exact x_d.cell 1 (by simp)
      have q516 : w513.cell? ⟨w.heap.size, 2, none⟩ = some (.slice dv.pW dv.nW dv.cW) := by exact x_d.cell 2 (by simp)
      have q517 : w513.cell? ⟨w.heap.size, 3, none⟩ = some (.int .i64 D.fuse) := by exact x_d.cell 3 (by simp)
      have q518 : w513.cell? ⟨w.heap.size, 4, none⟩ = some (.bool D.down) := by exact x_d.cell 4 (by simp)
      have X_d := Lib.hid x_d; have V_d := Lib.hid v_d
      have BB := Lib.hid bb
      clear bb x_d v_d
      clear b513
      go_wp2_with fail
      refine (mv_call V_d.out fr to h2).mono ?_
      rw [HDE.out, HER.out]
      rintro e w519 ⟨dv519, rfl, va519, _, b519⟩
      have x_d := X_d.out.below b519; have v_d := V_d.out.below b519
      have bb := BB.out.trans (b519.mono BB.out.size)
      have G_e := Lib.hid bb.size
      obtain ⟨u519, hu519⟩ : ∃ u, u = (w519.alloc (.cells #[.int .i64 De.size, .slice dv519.pE dv519.nE dv519.cE, .slice dv519.pW dv519.nW dv519.cW, .int .i64 De.fuse, .bool De.down] 25)) := ⟨_, rfl⟩
      have t519 : Below w519.heap.size w519 u519 := by rw [hu519]; exact (Below.refl _ _).alloc (Nat.le_refl _) _
      replace x_d := x_d.below t519; replace v_d := v_d.below t519
      replace bb := bb.trans (t519.mono bb.size)
      have x_e : Boxed u519 w519.heap.size [.int .i64 De.size, .slice dv519.pE dv519.nE dv519.cE, .slice dv519.pW dv519.nW dv519.cW, .int .i64 De.fuse, .bool De.down] := by rw [hu519]; exact Boxed.new w519 #[.int .i64 De.size, .slice dv519.pE dv519.nE dv519.cE, .slice dv519.pW dv519.nW dv519.cW, .int .i64 De.fuse, .bool De.down] 25
      have v_e := va519.below t519
      have q520 : (w519.alloc (.cells #[.int .i64 De.size, .slice dv519.pE dv519.nE dv519.cE, .slice dv519.pW dv519.nW dv519.cW, .int .i64 De.fuse, .bool De.down] 25)).cell? ⟨w519.heap.size, 0, none⟩ = some (.int .i64 De.size) := by rw [← hu519]; exact x_e.cell 0 (by simp)
      have q521 : (w519.alloc (.cells #[.int .i64 De.size, .slice dv519.pE dv519.nE dv519.cE, .slice dv519.pW dv519.nW dv519.cW, .int .i64 De.fuse, .bool De.down] 25)).cell? ⟨w519.heap.size, 1, none⟩ = some (.slice dv519.pE dv519.nE dv519.cE) := by rw [← hu519]; exact x_e.cell 1 (by simp)
      have q522 : (w519.alloc (.cells #[.int .i64 De.size, .slice dv519.pE dv519.nE dv519.cE, .slice dv519.pW dv519.nW dv519.cW, .int .i64 De.fuse, .bool De.down] 25)).cell? ⟨w519.heap.size, 2, none⟩ = some (.slice dv519.pW dv519.nW dv519.cW) := by rw [← hu519]; exact x_e.cell 2 (by simp)
      have q523 : (w519.alloc (.cells #[.int .i64 De.size, .slice dv519.pE dv519.nE dv519.cE, .slice dv519.pW dv519.nW dv519.cW, .int .i64 De.fuse, .bool De.down] 25)).cell? ⟨w519.heap.size, 3, none⟩ = some (.int .i64 De.fuse) := by rw [← hu519]; exact x_e.cell 3 (by simp)
      have q524 : (w519.alloc (.cells #[.int .i64 De.size, .slice dv519.pE dv519.nE dv519.cE, .slice dv519.pW dv519.nW dv519.cW, .int .i64 De.fuse, .bool De.down] 25)).cell? ⟨w519.heap.size, 4, none⟩ = some (.bool De.down) := by rw [← hu519]; exact x_e.cell 4 (by simp)
      have HU519 := Lib.hid hu519
      have X_d := Lib.hid x_d; have V_d := Lib.hid v_d
      have X_e := Lib.hid x_e; have V_e := Lib.hid v_e
      have BB := Lib.hid bb
      clear bb x_d v_d x_e v_e
      clear b519 t519 hu519 va519
      go_wp2_with fail
      rw [← HU519.out]
      refine (rd_call V_e.out to s).mono ?_
      rw [A2.out, A1.out]
      rintro e w525 ⟨rfl, b525⟩
      have x_d := X_d.out.below b525; have v_d := V_d.out.below b525
      have x_e := X_e.out.below b525; have v_e := V_e.out.below b525
      have bb := BB.out.trans (b525.mono BB.out.size)
      have q526 : w525.cell? ⟨w519.heap.size, 0, none⟩ = some (.int .i64 De.size) := by exact x_e.cell 0 (by simp)
      have q527 : w525.cell? ⟨w519.heap.size, 1, none⟩ = some (.slice dv519.pE dv519.nE dv519.cE) := by exact x_e.cell 1 (by simp)
      have q528 : w525.cell? ⟨w519.heap.size, 2, none⟩ = some (.slice dv519.pW dv519.nW dv519.cW) := by exact x_e.cell 2 (by simp)
      have q529 : w525.cell? ⟨w519.heap.size, 3, none⟩ = some (.int .i64 De.fuse) := by exact x_e.cell 3 (by simp)
      have q530 : w525.cell? ⟨w519.heap.size, 4, none⟩ = some (.bool De.down) := by exact x_e.cell 4 (by simp)
      have X_d := Lib.hid x_d; have V_d := Lib.hid v_d
      have X_e := Lib.hid x_e; have V_e := Lib.hid v_e
      have BB := Lib.hid bb
      clear bb x_d v_d x_e v_e
      clear b525
      go_wp2_with fail
      refine (rd_call V_e.out fr s).mono ?_
      rw [HFO.out, HFE.out]
      rintro e w531 ⟨rfl, b531⟩
      have x_d := X_d.out.below b531; have v_d := V_d.out.below b531
      have x_e := X_e.out.below b531; have v_e := V_e.out.below b531
      have bb := BB.out.trans (b531.mono BB.out.size)
      have q532 : w531.cell? ⟨w519.heap.size, 0, none⟩ = some (.int .i64 De.size) := by exact x_e.cell 0 (by simp)
      have q533 : w531.cell? ⟨w519.heap.size, 1, none⟩ = some (.slice dv519.pE dv519.nE dv519.cE) := by exact x_e.cell 1 (by simp)
      have q534 : w531.cell? ⟨w519.heap.size, 2, none⟩ = some (.slice dv519.pW dv519.nW dv519.cW) := by exact x_e.cell 2 (by simp)
      have q535 : w531.cell? ⟨w519.heap.size, 3, none⟩ = some (.int .i64 De.fuse) := by exact x_e.cell 3 (by simp)
      have q536 : w531.cell? ⟨w519.heap.size, 4, none⟩ = some (.bool De.down) := by exact x_e.cell 4 (by simp)
      have X_d := Lib.hid x_d; have V_d := Lib.hid v_d
      have X_e := Lib.hid x_e; have V_e := Lib.hid v_e
      have BB := Lib.hid bb
      clear bb x_d v_d x_e v_e
      clear b531
      go_wp2_with fail
      refine (rm_call V_e.out).mono ?_
      rw [HM.out, A4.out]
      rintro e w537 ⟨rfl, b537⟩
      have x_d := X_d.out.below b537; have v_d := V_d.out.below b537
      have x_e := X_e.out.below b537; have v_e := V_e.out.below b537
      have bb := BB.out.trans (b537.mono BB.out.size)
      have q538 : w537.cell? ⟨w519.heap.size, 0, none⟩ = some (.int .i64 De.size) := by exact x_e.cell 0 (by simp)
      have q539 : w537.cell? ⟨w519.heap.size, 1, none⟩ = some (.slice dv519.pE dv519.nE dv519.cE) := by exact x_e.cell 1 (by simp)
      have q540 : w537.cell? ⟨w519.heap.size, 2, none⟩ = some (.slice dv519.pW dv519.nW dv519.cW) := by exact x_e.cell 2 (by simp)
      have q541 : w537.cell? ⟨w519.heap.size, 3, none⟩ = some (.int .i64 De.fuse) := by exact x_e.cell 3 (by simp)
      have q542 : w537.cell? ⟨w519.heap.size, 4, none⟩ = some (.bool De.down) := by exact x_e.cell 4 (by simp)
      have X_d := Lib.hid x_d; have V_d := Lib.hid v_d
      have X_e := Lib.hid x_e; have V_e := Lib.hid v_e
      have BB := Lib.hid bb
      clear bb x_d v_d x_e v_e
      clear b537
      go_wp2_with fail
      refine (ck_call V_e.out).mono ?_
      rw [A5.out]
      rintro e w543 ⟨rfl, b543⟩
      have x_d := X_d.out.below b543; have v_d := V_d.out.below b543
      have x_e := X_e.out.below b543; have v_e := V_e.out.below b543
      have bb := BB.out.trans (b543.mono BB.out.size)
      have X_d := Lib.hid x_d; have V_d := Lib.hid v_d
      have X_e := Lib.hid x_e; have V_e := Lib.hid v_e
      have BB := Lib.hid bb
      clear bb x_d v_d x_e v_e
      clear b543
      go_wp2_with fail
      go_ret
      exact ⟨rfl, BB.out⟩
end Go.Proofs.Ytfdpmbjbgigkgaa.Dk

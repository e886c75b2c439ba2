/- DiskMakes: the document's Make, and the law. -/
import Derived.Test.YtfdpmbjbgigkgaaDkLives
namespace Go.Proofs.Ytfdpmbjbgigkgaa.Dk
open Go.RowKit Go.Op

set_option maxHeartbeats 4000000 in
set_option maxRecDepth 100000 in
theorem rMake_any (z : Int) (w : World) : Calls Try.prog 35 #[.int .i64 z] w (AnsP w (mkD z) (mkE z)) := by
  by_cases h : 0 ≤ z ∧ z ≤ 16384
  · have hc : (decide (0 ≤ z) && decide (z ≤ 16384)) = true := by simp [h.1, h.2]
    have F : Hid (AnsP w (mkD z) (mkE z) (.returned (.tuple #[.agg #[.int .i64 z, .slice none 0 0, .slice none 0 0, .int .i64 (-1), .bool false], .int .i64 0])) (w.alloc (.cells #[.int .i64 z, .slice none 0 0, .slice none 0 0, .int .i64 (-1), .bool false] 25))) := Lib.hid (by
      unfold mkD mkE
      rw [if_pos hc, if_pos hc]
      exact ⟨⟨none, 0, 0, none, 0, 0⟩, rfl, ⟨rfl, extAt_nil _ _, rfl, wrsAt_nil _ _, ⟨by simp, by simp, by show (-1 : Int) ≤ 9223372036854775807; omega⟩⟩, ⟨fun _ h => (by cases h), fun _ h => (by cases h)⟩, (Below.refl _ _).alloc (Nat.le_refl _) _⟩)
    have t1 : decide (z < 0) = false := decide_eq_false (by omega)
    have t2 : decide (16384 < z) = false := decide_eq_false (by omega)
    clear h hc
    go_enter Try.func35, Try.ntmps35
    go_wp2_with fail
    (try simp only [Exit.inBlock, Exit.then])
    refine bodyPost_ret (v := .tuple #[.agg #[.int .i64 z, .slice none 0 0, .slice none 0 0, .int .i64 (-1), .bool false], .int .i64 0]) ?_ rfl F.out
    rw [results_cell_tmp rfl]
    go_simp
  · have hc : (decide (0 ≤ z) && decide (z ≤ 16384)) = false := by
      rw [Bool.and_eq_false_iff, decide_eq_false_iff_not, decide_eq_false_iff_not]; omega
    have F : Hid (AnsP w (mkD z) (mkE z) (.returned (.tuple #[.agg #[.int .i64 0, .slice none 0 0, .slice none 0 0, .int .i64 0, .bool false], .int .i64 1])) (w.alloc (.cells #[.int .i64 0, .slice none 0 0, .slice none 0 0, .int .i64 0, .bool false] 25))) := Lib.hid (by
      unfold mkD mkE
      rw [hc]
      exact ⟨⟨none, 0, 0, none, 0, 0⟩, rfl, ⟨rfl, extAt_nil _ _, rfl, wrsAt_nil _ _, lim0⟩, ⟨fun _ h => (by cases h), fun _ h => (by cases h)⟩, (Below.refl _ _).alloc (Nat.le_refl _) _⟩)
    by_cases h1 : z < 0
    · have t1 : decide (z < 0) = true := decide_eq_true h1
      clear h hc h1
      go_enter Try.func35, Try.ntmps35
      go_wp2_with fail
      (try simp only [Exit.inBlock, Exit.then])
      refine bodyPost_ret (v := .tuple #[.agg #[.int .i64 0, .slice none 0 0, .slice none 0 0, .int .i64 0, .bool false], .int .i64 1]) ?_ rfl F.out
      rw [results_cell_tmp rfl]
      go_simp
    · have t1 : decide (z < 0) = false := decide_eq_false h1
      have t2 : decide (16384 < z) = true := decide_eq_true (by omega)
      clear h hc h1
      go_enter Try.func35, Try.ntmps35
      go_wp2_with fail
      (try simp only [Exit.inBlock, Exit.then])
      refine bodyPost_ret (v := .tuple #[.agg #[.int .i64 0, .slice none 0 0, .slice none 0 0, .int .i64 0, .bool false], .int .i64 1]) ?_ rfl F.out
      rw [results_cell_tmp rfl]
      go_simp

set_option maxHeartbeats 4000000 in
set_option maxRecDepth 100000 in
theorem makes_law (z : Int) (w : World) : Calls Try.prog 5 #[.int .i64 z] w fun e w' => e = .returned (.bool true) ∧ Below w.heap.size w w' := by
  obtain ⟨D, hD⟩ : ∃ D, D = mkD z := ⟨_, rfl⟩
  obtain ⟨er, her⟩ : ∃ er, er = mkE z := ⟨_, rfl⟩
  have HD := Lib.hid hD.symm; have HE := Lib.hid her.symm
  have BB : Hid (Below w.heap.size w w) := Lib.hid (Below.refl _ _)
  clear hD her
  go_enter Try.func5, Try.ntmps5
  go_wp2_with fail
  refine (mk_call z _).mono ?_
  rw [HD.out, HE.out]
  rintro e w1 ⟨dv1, rfl, va1, _, b1⟩
  have bb := BB.out.trans (b1.mono BB.out.size)
  have G_a := Lib.hid bb.size
  obtain ⟨u1, hu1⟩ : ∃ u, u = (w1.alloc (.cells #[.int .i64 D.size, .slice dv1.pE dv1.nE dv1.cE, .slice dv1.pW dv1.nW dv1.cW, .int .i64 D.fuse, .bool D.down] 25)) := ⟨_, rfl⟩
  have t1 : Below w1.heap.size w1 u1 := by rw [hu1]; exact (Below.refl _ _).alloc (Nat.le_refl _) _
  replace bb := bb.trans (t1.mono bb.size)
  have x_a : Boxed u1 w1.heap.size [.int .i64 D.size, .slice dv1.pE dv1.nE dv1.cE, .slice dv1.pW dv1.nW dv1.cW, .int .i64 D.fuse, .bool D.down] := by rw [hu1]; exact Boxed.new w1 #[.int .i64 D.size, .slice dv1.pE dv1.nE dv1.cE, .slice dv1.pW dv1.nW dv1.cW, .int .i64 D.fuse, .bool D.down] 25
  have v_a := va1.below t1
  have HU1 := Lib.hid hu1
  have X_a := Lib.hid x_a; have V_a := Lib.hid v_a
  have BB := Lib.hid bb
  clear bb x_a v_a
  clear b1 t1 hu1 va1
  go_wp2_with fail
  rw [← HU1.out]
  refine (rMake_any z _).mono ?_
  rw [HD.out, HE.out]
  rintro e w2 ⟨dv2, rfl, va2, _, b2⟩
  have x_a := X_a.out.below b2; have v_a := V_a.out.below b2
  have bb := BB.out.trans (b2.mono BB.out.size)
  have G_b := Lib.hid bb.size
  obtain ⟨u2, hu2⟩ : ∃ u, u = (w2.alloc (.cells #[.int .i64 D.size, .slice dv2.pE dv2.nE dv2.cE, .slice dv2.pW dv2.nW dv2.cW, .int .i64 D.fuse, .bool D.down] 25)) := ⟨_, rfl⟩
  have t2 : Below w2.heap.size w2 u2 := by rw [hu2]; exact (Below.refl _ _).alloc (Nat.le_refl _) _
  replace x_a := x_a.below t2; replace v_a := v_a.below t2
  replace bb := bb.trans (t2.mono bb.size)
  have x_b : Boxed u2 w2.heap.size [.int .i64 D.size, .slice dv2.pE dv2.nE dv2.cE, .slice dv2.pW dv2.nW dv2.cW, .int .i64 D.fuse, .bool D.down] := by rw [hu2]; exact Boxed.new w2 #[.int .i64 D.size, .slice dv2.pE dv2.nE dv2.cE, .slice dv2.pW dv2.nW dv2.cW, .int .i64 D.fuse, .bool D.down] 25
  have v_b := va2.below t2
  have HU2 := Lib.hid hu2
  have X_a := Lib.hid x_a; have V_a := Lib.hid v_a
  have X_b := Lib.hid x_b; have V_b := Lib.hid v_b
  have BB := Lib.hid bb
  clear bb x_a v_a x_b v_b
  clear b2 t2 hu2 va2
  go_wp2_with fail
  rw [← HU2.out]
  refine (lives_any _).mono ?_
  rintro e w3 ⟨rfl, b3⟩
  have x_a := X_a.out.below b3; have v_a := V_a.out.below b3
  have x_b := X_b.out.below b3; have v_b := V_b.out.below b3
  have bb := BB.out.trans (b3.mono BB.out.size)
  have q4 : w3.cell? ⟨w1.heap.size, 0, none⟩ = some (.int .i64 D.size) := by exact x_a.cell 0 (by simp)
  have q5 : w3.cell? ⟨w1.heap.size, 1, none⟩ = some (.slice dv1.pE dv1.nE dv1.cE) := by exact x_a.cell 1 (by simp)
  have q6 : w3.cell? ⟨w1.heap.size, 2, none⟩ = some (.slice dv1.pW dv1.nW dv1.cW) := by exact x_a.cell 2 (by simp)
  have q7 : w3.cell? ⟨w1.heap.size, 3, none⟩ = some (.int .i64 D.fuse) := by exact x_a.cell 3 (by simp)
  have q8 : w3.cell? ⟨w1.heap.size, 4, none⟩ = some (.bool D.down) := by exact x_a.cell 4 (by simp)
  have q9 : w3.cell? ⟨w2.heap.size, 0, none⟩ = some (.int .i64 D.size) := by exact x_b.cell 0 (by simp)
  have q10 : w3.cell? ⟨w2.heap.size, 1, none⟩ = some (.slice dv2.pE dv2.nE dv2.cE) := by exact x_b.cell 1 (by simp)
  have q11 : w3.cell? ⟨w2.heap.size, 2, none⟩ = some (.slice dv2.pW dv2.nW dv2.cW) := by exact x_b.cell 2 (by simp)
  have q12 : w3.cell? ⟨w2.heap.size, 3, none⟩ = some (.int .i64 D.fuse) := by exact x_b.cell 3 (by simp)
  have q13 : w3.cell? ⟨w2.heap.size, 4, none⟩ = some (.bool D.down) := by exact x_b.cell 4 (by simp)
  have X_a := Lib.hid x_a; have V_a := Lib.hid v_a
  have X_b := Lib.hid x_b; have V_b := Lib.hid v_b
  have BB := Lib.hid bb
  clear bb x_a v_a x_b v_b
  clear b3
  go_wp2_with fail
  refine (Same_any D _ _ _ V_a.out V_b.out).mono ?_
  rintro e w14 ⟨rfl, b14⟩
  have x_a := X_a.out.below b14; have v_a := V_a.out.below b14
  have x_b := X_b.out.below b14; have v_b := V_b.out.below b14
  have bb := BB.out.trans (b14.mono BB.out.size)
  have X_a := Lib.hid x_a; have V_a := Lib.hid v_a
  have X_b := Lib.hid x_b; have V_b := Lib.hid v_b
  have BB := Lib.hid bb
  clear bb x_a v_a x_b v_b
  clear b14
  go_wp2_with fail
  go_ret
  exact ⟨rfl, BB.out⟩
end Go.Proofs.Ytfdpmbjbgigkgaa.Dk

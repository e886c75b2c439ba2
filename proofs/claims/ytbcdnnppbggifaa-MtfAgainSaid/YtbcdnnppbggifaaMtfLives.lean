/- The walk of mtf's lives. -/
import Derived.Test.YtbcdnnppbggifaaMtfProg
namespace Go.Proofs.Ytbcdnnppbggifaa.Mt
open Go.RowKit Go.Lib Rw Nm Ls Od

theorem fresh_bb : (mv freshL [98, 98]).1 = [98, 0] := by kernel_rfl
theorem out_bb : out2 mv (bsN freshB) (bsN ⟨#[98, 98]⟩) = (⟨#[98, 0]⟩, ofN (mv freshL [98, 98]).2, 0) := by
  rw [bsN_fresh, show bsN ⟨#[98, 98]⟩ = [98, 98] from rfl]
  unfold out2
  rw [if_pos fresh_row, if_pos (show [98, 98].length ≤ 65536 by simp), fresh_bb]
  generalize (mv freshL [98, 98]).2 = Q
  rfl
theorem back_bb : out2 bk (bsN freshB) (bsN ⟨#[98, 0]⟩) = (⟨#[98, 98]⟩, ofN (mv freshL [98, 98]).2, 0) := by
  have h := bk_mv [98, 98] freshL fresh_row (by intro c hc; simp at hc; omega)
  rw [fresh_bb] at h
  rw [bsN_fresh, show bsN ⟨#[98, 0]⟩ = [98, 0] from rfl]
  unfold out2
  rw [if_pos fresh_row, if_pos (show [98, 0].length ≤ 65536 by simp), h]
  generalize (mv freshL [98, 98]).2 = Q
  rfl
theorem front_3 : frS (bsN freshB) 3 = ofN (front freshL 3) ∧ frI (bsN freshB) 3 = 3 := by
  rw [bsN_fresh]
  unfold frS frI
  rw [if_pos fresh_row, if_pos fresh_row, show freshL.idxOf 3 = 3 from by kernel_rfl]
  exact ⟨rfl, rfl⟩
theorem out_x : out2 mv (bsN ⟨#[120]⟩) (bsN ⟨#[]⟩) = (⟨#[]⟩, ⟨#[]⟩, 2) := by
  unfold out2
  rw [if_neg (fun h => absurd h.1 (by decide))]
theorem front_size : (ofN (front freshL 3)).size = 256 ∧ (ofN (front freshL 3)).extract 0 5 = ⟨#[3, 0, 1, 2, 4]⟩ := ⟨by kernel_rfl, by kernel_rfl⟩
theorem fresh_size : freshB.size = 256 := by rw [← bsN_length, bsN_fresh]; simp [freshL]
set_option maxHeartbeats 4000000 in
set_option maxRecDepth 100000 in
theorem lives_any (w : World) : Calls Try.prog 13 #[] w fun e w' => e = .returned (.bool true) ∧ Below w.heap.size w w' := by
  have CF0 := pfresh_any
  have CM0 := fun W => pmv_any freshB ⟨#[98, 98]⟩ W
  have CB0 := fun W => pbk_any freshB ⟨#[98, 0]⟩ W
  have CG0 := fun W => pfrontf_any freshB 3 W (by decide)
  have CX := Lib.hid (fun W => pmv_any ⟨#[120]⟩ ⟨#[]⟩ W)
  have CK0 := fun W => pcheckr_any freshB W
  rw [out_bb] at CM0
  rw [back_bb] at CB0
  rw [front_3.1, front_3.2, bsN_fresh, rowE_yes fresh_row] at CG0
  rw [bsN_fresh, rowE_yes fresh_row] at CK0
  rw [out_x] at CX
  have hf := fresh_size
  obtain ⟨hg1, hg2⟩ := front_size
  generalize freshB = F at CF0 CM0 CB0 CG0 CK0 hf
  generalize ofN (front freshL 3) = G at CG0 hg1 hg2
  generalize ofN (mv freshL [98, 98]).2 = R at CM0 CB0
  have CF := Lib.hid CF0; have CM := Lib.hid CM0; have CB := Lib.hid CB0; have CG := Lib.hid CG0; have CK := Lib.hid CK0
  have f1 : ((F.size : Int) == 256) = true := by rw [hf]; rfl
  have f2 : (F.size == 256) = true := by rw [hf]; rfl
  have g1 : ((G.size : Int) == 256) = true := by rw [hg1]; rfl
  have g2 : (G.size == 256) = true := by rw [hg1]; rfl
  have g3 : (5 : Int) ≤ (G.size : Int) := by rw [hg1]; decide
  have g4 : 5 ≤ G.size := by rw [hg1]; decide
  clear CF0 CM0 CB0 CG0 CK0 hf hg1
  have B : Hid (Below w.heap.size w w) := Lib.hid (Below.refl _ _)
  go_enter Try.func13, Try.ntmps13
  go_wp2_with fail
  refine (CF.out _).mono ?_
  rintro e w0 ⟨rfl, b⟩
  replace B := Lib.hid (B.out.trans (b.mono B.out.size))
  clear b
  go_wp2_with fail
  refine (CM.out _).mono ?_
  rintro e w1 ⟨rfl, b⟩
  replace B := Lib.hid (B.out.trans (b.mono B.out.size))
  clear b
  go_wp2_with fail
  refine (CB.out _).mono ?_
  rintro e w2 ⟨rfl, b⟩
  replace B := Lib.hid (B.out.trans (b.mono B.out.size))
  clear b
  go_wp2_with fail
  refine (CG.out _).mono ?_
  rintro e w3 ⟨rfl, b⟩
  replace B := Lib.hid (B.out.trans (b.mono B.out.size))
  clear b
  go_wp2_with fail
  refine (CX.out _).mono ?_
  rintro e w4 ⟨rfl, b⟩
  replace B := Lib.hid (B.out.trans (b.mono B.out.size))
  clear b
  go_wp2_with fail
  refine (CK.out _).mono ?_
  rintro e w5 ⟨rfl, b⟩
  replace B := Lib.hid (B.out.trans (b.mono B.out.size))
  clear b
  go_wp2_with fail
  go_ret
  exact ⟨rfl, B.out⟩
end Go.Proofs.Ytbcdnnppbggifaa.Mt

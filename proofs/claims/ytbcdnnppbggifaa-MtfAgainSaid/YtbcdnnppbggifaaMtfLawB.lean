/- The law MtfBack. -/
import Derived.Test.YtbcdnnppbggifaaMtfLives
namespace Go.Proofs.Ytbcdnnppbggifaa.Mt
open Go.RowKit Go.Lib Rw Nm Ls Od

theorem mv_bad {r s : ByteArray} (h : ¬ (Row 256 (bsN r) ∧ s.size ≤ 65536)) : ∃ x : Int, (x = 1 ∨ x = 2) ∧ out2 mv (bsN r) (bsN s) = (⟨#[]⟩, ⟨#[]⟩, x) := by
  unfold out2
  by_cases h1 : Row 256 (bsN r)
  · exact ⟨1, .inl rfl, by rw [if_pos h1, if_neg (by rw [bsN_length]; exact fun h2 => h ⟨h1, h2⟩)]⟩
  · exact ⟨2, .inr rfl, by rw [if_neg h1]⟩
theorem mv_good {r s : ByteArray} (h1 : Row 256 (bsN r)) (h2 : s.size ≤ 65536) : out2 mv (bsN r) (bsN s) = (ofN (mv (bsN r) (bsN s)).1, ofN (mv (bsN r) (bsN s)).2, 0) := by
  unfold out2
  rw [if_pos h1, if_pos (by rw [bsN_length]; exact h2)]
theorem bk_good {r s : ByteArray} (h1 : Row 256 (bsN r)) (h2 : s.size ≤ 65536) : out2 bk (bsN r) (bsN s) = (ofN (bk (bsN r) (bsN s)).1, ofN (bk (bsN r) (bsN s)).2, 0) := by
  unfold out2
  rw [if_pos h1, if_pos (by rw [bsN_length]; exact h2)]
theorem ofN_size (L : List Nat) : (ofN L).size = L.length := by
  unfold ofN
  show (L.map UInt8.ofNat).toArray.size = L.length
  simp
set_option maxHeartbeats 4000000 in
set_option maxRecDepth 100000 in
theorem back_law (r s : ByteArray) (w : World) :
    Calls Try.prog 4 #[.string r, .string s] w fun e w' => e = .returned (.bool true) ∧ Below w.heap.size w w' := by
  have CL := Lib.hid (fun W => lives_any W)
  by_cases hg : Row 256 (bsN r) ∧ s.size ≤ 65536
  case neg =>
    obtain ⟨x, hx, e⟩ := mv_bad hg
    have CA0 := fun W => pmv_any r s W
    rw [e] at CA0
    have CA := Lib.hid CA0
    clear CA0 e hg
    rcases hx with rfl | rfl
    all_goals
      have B : Hid (Below w.heap.size w w) := Lib.hid (Below.refl _ _)
      go_enter Try.func4, Try.ntmps4
      go_wp2_with fail
      refine (CL.out _).mono ?_
      rintro e w0 ⟨rfl, b⟩
      replace B := Lib.hid (B.out.trans (b.mono B.out.size))
      clear b
      go_wp2_with fail
      refine (CA.out _).mono ?_
      rintro e w1 ⟨rfl, b⟩
      replace B := Lib.hid (B.out.trans (b.mono B.out.size))
      clear b
      go_wp2_with fail
      go_ret
      exact ⟨rfl, B.out⟩
  case pos =>
    obtain ⟨h1, h2⟩ := hg
    have hs := bsN_lt s
    have CA0 := fun W => pmv_any r s W
    have CC0 := fun W => pbk_any r s W
    rw [mv_good h1 h2] at CA0
    rw [bk_good h1 h2] at CC0
    have eA : bsN (ofN (mv (bsN r) (bsN s)).1) = (mv (bsN r) (bsN s)).1 := bsN_ofN (mv_lt _ _ h1 hs)
    have eB : bsN (ofN (bk (bsN r) (bsN s)).1) = (bk (bsN r) (bsN s)).1 := bsN_ofN (bk_lt _ _ h1 hs)
    have eR : bsN (ofN (mv (bsN r) (bsN s)).2) = (mv (bsN r) (bsN s)).2 := bsN_ofN fun x hx => row_lt (mv_row _ _ h1 hs) hx
    have eP : bsN (ofN (bk (bsN r) (bsN s)).2) = (bk (bsN r) (bsN s)).2 := bsN_ofN fun x hx => row_lt (bk_row _ _ h1 hs) hx
    have hA : (ofN (mv (bsN r) (bsN s)).1).size = s.size := by rw [ofN_size, mv_length, bsN_length]
    have hB : (ofN (bk (bsN r) (bsN s)).1).size = s.size := by rw [ofN_size, bk_length, bsN_length]
    have CB0 := fun W => pbk_any r (ofN (mv (bsN r) (bsN s)).1) W
    rw [bk_good h1 (by rw [hA]; exact h2), eA, bk_mv _ _ h1 hs, ofN_bsN] at CB0
    have CD0 := fun W => pmv_any r (ofN (bk (bsN r) (bsN s)).1) W
    rw [mv_good h1 (by rw [hB]; exact h2), eB, mv_bk _ _ h1 hs, ofN_bsN] at CD0
    have CK0 := fun W => pcheckr_any (ofN (mv (bsN r) (bsN s)).2) W
    rw [eR, rowE_yes (mv_row _ _ h1 hs)] at CK0
    have CJ0 := fun W => pcheckr_any (ofN (bk (bsN r) (bsN s)).2) W
    rw [eP, rowE_yes (bk_row _ _ h1 hs)] at CJ0
    clear eA eB eR eP hB hs
    generalize ofN (mv (bsN r) (bsN s)).1 = XA at CA0 CB0 hA
    generalize ofN (mv (bsN r) (bsN s)).2 = XR at CA0 CB0 CK0
    generalize ofN (bk (bsN r) (bsN s)).1 = XB at CC0 CD0
    generalize ofN (bk (bsN r) (bsN s)).2 = XP at CC0 CD0 CJ0
    have CA := Lib.hid CA0; have CB := Lib.hid CB0; have CC := Lib.hid CC0; have CD := Lib.hid CD0; have CK := Lib.hid CK0; have CJ := Lib.hid CJ0
    have u1 : ((XA.size : Int) == (s.size : Int)) = true := by rw [hA]; exact beq_self_eq_true _
    have u2 : (XA.size == s.size) = true := by rw [hA]; exact beq_self_eq_true _
    clear CA0 CB0 CC0 CD0 CK0 CJ0 hA h1 h2
    have B : Hid (Below w.heap.size w w) := Lib.hid (Below.refl _ _)
    go_enter Try.func4, Try.ntmps4
    go_wp2_with fail
    refine (CL.out _).mono ?_
    rintro e w0 ⟨rfl, b⟩
    replace B := Lib.hid (B.out.trans (b.mono B.out.size))
    clear b
    go_wp2_with fail
    refine (CA.out _).mono ?_
    rintro e w1 ⟨rfl, b⟩
    replace B := Lib.hid (B.out.trans (b.mono B.out.size))
    clear b
    go_wp2_with fail
    refine (CB.out _).mono ?_
    rintro e w2 ⟨rfl, b⟩
    replace B := Lib.hid (B.out.trans (b.mono B.out.size))
    clear b
    go_wp2_with fail
    refine (CC.out _).mono ?_
    rintro e w3 ⟨rfl, b⟩
    replace B := Lib.hid (B.out.trans (b.mono B.out.size))
    clear b
    go_wp2_with fail
    refine (CD.out _).mono ?_
    rintro e w4 ⟨rfl, b⟩
    replace B := Lib.hid (B.out.trans (b.mono B.out.size))
    clear b
    go_wp2_with fail
    refine (CK.out _).mono ?_
    rintro e w5 ⟨rfl, b⟩
    replace B := Lib.hid (B.out.trans (b.mono B.out.size))
    clear b
    go_wp2_with fail
    refine (CJ.out _).mono ?_
    rintro e w6 ⟨rfl, b⟩
    replace B := Lib.hid (B.out.trans (b.mono B.out.size))
    clear b
    go_wp2_with fail
    go_ret
    exact ⟨rfl, B.out⟩
end Go.Proofs.Ytbcdnnppbggifaa.Mt

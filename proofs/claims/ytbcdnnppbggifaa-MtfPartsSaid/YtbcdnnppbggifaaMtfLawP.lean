/- The law MtfParts. -/
import Derived.Test.YtbcdnnppbggifaaMtfLawB
namespace Go.Proofs.Ytbcdnnppbggifaa.Mt
open Go.RowKit Go.Lib Rw Nm Ls Od

set_option maxHeartbeats 4000000 in
set_option maxRecDepth 100000 in
theorem parts_out (r s : ByteArray) (at_ : Int) (w : World) (h : at_ < 0 ∨ (s.size : Int) < at_) :
    Calls Try.prog 5 #[.string r, .string s, .int .i64 at_] w fun e w' => e = .returned (.bool true) ∧ Below w.heap.size w w' := by
  have CL := Lib.hid (fun W => lives_any W)
  have hor : (decide (at_ < 0) = true) ∨ (decide (at_ < 0) = false ∧ decide ((s.size : Int) < at_) = true) := by
    simp only [decide_eq_true_eq, decide_eq_false_iff_not]; omega
  clear h
  rcases hor with t1 | ⟨t1, t2⟩
  all_goals
    have B : Hid (Below w.heap.size w w) := Lib.hid (Below.refl _ _)
    go_enter Try.func5, Try.ntmps5
    go_wp2_with fail
    refine (CL.out _).mono ?_
    rintro e w0 ⟨rfl, b⟩
    replace B := Lib.hid (B.out.trans (b.mono B.out.size))
    clear b
    go_wp2_with fail
    go_ret
    exact ⟨rfl, B.out⟩
set_option maxHeartbeats 4000000 in
set_option maxRecDepth 100000 in
theorem parts_law (r s : ByteArray) (at_ : Int) (w : World) :
    Calls Try.prog 5 #[.string r, .string s, .int .i64 at_] w fun e w' => e = .returned (.bool true) ∧ Below w.heap.size w w' := by
  by_cases hin : at_ < 0 ∨ (s.size : Int) < at_
  · exact parts_out r s at_ w hin
  obtain ⟨n, rfl⟩ : ∃ n : Nat, at_ = (n : Int) := ⟨at_.toNat, by omega⟩
  have hn : n ≤ s.size := by omega
  have CL := Lib.hid (fun W => lives_any W)
  have t1 : decide ((n : Int) < 0) = false := decide_eq_false (by omega)
  have t2 : decide ((s.size : Int) < (n : Int)) = false := decide_eq_false (by omega)
  have t3 : decide (s.size < n) = false := decide_eq_false (by omega)
  have n0 : (0 : Int) ≤ (n : Int) := by omega
  have n1 : (n : Int) ≤ (s.size : Int) := by omega
  clear hin
  by_cases hg : Row 256 (bsN r) ∧ s.size ≤ 65536
  case neg =>
    obtain ⟨x, hx, e⟩ := mv_bad hg
    have CA0 := fun W => pmv_any r s W
    have CB0 := fun W => pmv_any r (s.extract 0 n) W
    rw [e] at CA0
    generalize out2 mv (bsN r) (bsN (s.extract 0 n)) = o1 at CB0
    obtain ⟨a1, a2, a3⟩ := o1
    have CA := Lib.hid CA0; have CB := Lib.hid CB0
    clear CA0 CB0 e hg
    rcases hx with rfl | rfl
    all_goals
      have B : Hid (Below w.heap.size w w) := Lib.hid (Below.refl _ _)
      go_enter Try.func5, Try.ntmps5
      go_wp2_with fail
      refine (CL.out _).mono ?_
      rintro e w0 ⟨rfl, b⟩
      replace B := Lib.hid (B.out.trans (b.mono B.out.size))
      clear b
      go_wp2_with fail
      refine (CA.out _).mono ?_
      rintro e w1 ⟨rfl, b⟩
      replace B := Lib.hid (B.out.trans (b.mono B.out.size))
      clear b
      go_wp2_with fail
      refine (CB.out _).mono ?_
      rintro e w2 ⟨rfl, b⟩
      replace B := Lib.hid (B.out.trans (b.mono B.out.size))
      clear b
      go_wp2_with fail
      go_ret
      exact ⟨rfl, B.out⟩
  case pos =>
    obtain ⟨h1, h2⟩ := hg
    have hs := bsN_lt s
    obtain ⟨S1, hS1⟩ : ∃ S1, S1 = s.extract 0 n := ⟨_, rfl⟩
    obtain ⟨S2, hS2⟩ : ∃ S2, S2 = s.extract n s.size := ⟨_, rfl⟩
    have b1 : bsN S1 = (bsN s).take n := by rw [hS1, bsN_cut]; rfl
    have b2 : bsN S2 = (bsN s).drop n := by
      rw [hS2, bsN_cut]; exact List.take_of_length_le (by rw [List.length_drop, bsN_length]; exact Nat.le_refl _)
    have z1 : S1.size ≤ 65536 := by rw [← bsN_length, b1, List.length_take, bsN_length]; omega
    have z2 : S2.size ≤ 65536 := by rw [← bsN_length, b2, List.length_drop, bsN_length]; omega
    have CA0 := fun W => pmv_any r s W
    have CB0 := fun W => pmv_any r S1 W
    rw [mv_good h1 h2] at CA0
    rw [mv_good h1 z1] at CB0
    have hr1 := mv_row (bsN S1) _ h1 (bsN_lt S1)
    have eQ : bsN (ofN (mv (bsN r) (bsN S1)).2) = (mv (bsN r) (bsN S1)).2 := bsN_ofN fun x hx => row_lt hr1 hx
    have CC0 := fun W => pmv_any (ofN (mv (bsN r) (bsN S1)).2) S2 W
    rw [mv_good (by rw [eQ]; exact hr1) z2, eQ] at CC0
    have happ := mv_app (bsN S1) (bsN S2) (bsN r)
    rw [show bsN S1 ++ bsN S2 = bsN s by rw [b1, b2, List.take_append_drop]] at happ
    have eA : ofN (mv (bsN r) (bsN S1)).1 ++ ofN (mv (mv (bsN r) (bsN S1)).2 (bsN S2)).1 = ofN (mv (bsN r) (bsN s)).1 := by
      rw [happ]
      rw [← ofN_bsN (ofN (mv (bsN r) (bsN S1)).1 ++ ofN (mv (mv (bsN r) (bsN S1)).2 (bsN S2)).1), bsN_app, bsN_ofN (mv_lt _ _ h1 (bsN_lt S1)), bsN_ofN (mv_lt _ _ hr1 (bsN_lt S2))]
    have eR : ofN (mv (mv (bsN r) (bsN S1)).2 (bsN S2)).2 = ofN (mv (bsN r) (bsN s)).2 := by rw [happ]
    rw [eR] at CC0
    have zb : (ofN (mv (bsN r) (bsN S1)).1).size ≤ 65536 := by rw [ofN_size, mv_length, bsN_length]; exact z1
    have zc : (ofN (mv (mv (bsN r) (bsN S1)).2 (bsN S2)).1).size ≤ 65536 := by rw [ofN_size, mv_length, bsN_length]; exact z2
    generalize ofN (mv (bsN r) (bsN s)).1 = XA at CA0 eA
    generalize ofN (mv (bsN r) (bsN s)).2 = XR at CA0 CC0
    generalize ofN (mv (mv (bsN r) (bsN S1)).2 (bsN S2)).1 = XC at CC0 eA zc
    generalize ofN (mv (bsN r) (bsN S1)).1 = XB at CB0 eA zb
    generalize ofN (mv (bsN r) (bsN S1)).2 = XQ at CB0 CC0
    rw [hS1] at CB0
    rw [hS2] at CC0
    have CA := Lib.hid CA0; have CB := Lib.hid CB0; have CC := Lib.hid CC0
    clear CA0 CB0 CC0 happ eR eQ hr1 b1 b2 z1 z2 hS1 hS2 hs h1 h2
    have B : Hid (Below w.heap.size w w) := Lib.hid (Below.refl _ _)
    go_enter Try.func5, Try.ntmps5
    go_wp2_with fail
    refine (CL.out _).mono ?_
    rintro e w0 ⟨rfl, b⟩
    replace B := Lib.hid (B.out.trans (b.mono B.out.size))
    clear b
    go_wp2_with fail
    refine (CA.out _).mono ?_
    rintro e w1 ⟨rfl, b⟩
    replace B := Lib.hid (B.out.trans (b.mono B.out.size))
    clear b
    go_wp2_with fail
    refine (CB.out _).mono ?_
    rintro e w2 ⟨rfl, b⟩
    replace B := Lib.hid (B.out.trans (b.mono B.out.size))
    clear b
    go_wp2_with fail
    refine (CC.out _).mono ?_
    rintro e w3 ⟨rfl, b⟩
    replace B := Lib.hid (B.out.trans (b.mono B.out.size))
    clear b
    go_wp2_with fail
    go_ret
    exact ⟨rfl, B.out⟩
end Go.Proofs.Ytbcdnnppbggifaa.Mt

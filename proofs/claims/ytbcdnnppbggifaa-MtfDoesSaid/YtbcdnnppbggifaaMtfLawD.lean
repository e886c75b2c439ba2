/- The law MtfDoes. -/
import Derived.Test.YtbcdnnppbggifaaMtfLives
namespace Go.Proofs.Ytbcdnnppbggifaa.Mt
open Go.RowKit Go.Lib Rw Nm Ls Od

set_option maxHeartbeats 4000000 in
set_option maxRecDepth 100000 in
theorem does_law (r s : ByteArray) (c : Nat) (w : World) (hc : c < 256) :
    Calls Try.prog 3 #[.string r, .string s, .int .u8 (c : Int)] w fun e w' => e = .returned (.bool true) ∧ Below w.heap.size w w' := by
  have CA0 := fun W => pmv_any r s W
  have CB0 := fun W => rmv_any r s W
  have CC0 := fun W => pbk_any r s W
  have CD0 := fun W => rbk_any r s W
  have CE0 := fun W => pfrontf_any r c W hc
  have CF0 : ∀ W, Calls Try.prog 12 #[.string r, .int .u8 (c : Int)] W fun e w' => e = .returned (.tuple #[.string (frS (bsN r) c), .int .i64 (frI (bsN r) c : Nat), .int .i64 (rowE (bsN r))]) ∧ Below W.heap.size W w' := fun W => (rfrontf_any r c W hc).mono fun e w' ⟨h1, n, h2⟩ => ⟨h1, by rw [h2]; exact below_drewN (Below.refl _ _) n⟩
  have CG0 := fun W => pcheckr_any r W
  have CH0 : ∀ W, Calls Try.prog 15 #[.string r] W fun e w' => e = .returned (.int .i64 (rowE (bsN r))) ∧ Below W.heap.size W w' := fun W => (rcheckr_any r W).mono fun e w' ⟨h1, h2⟩ => ⟨h1, by rw [h2]; exact Below.refl _ _⟩
  generalize out2 mv (bsN r) (bsN s) = o1 at CA0 CB0
  generalize out2 bk (bsN r) (bsN s) = o2 at CC0 CD0
  obtain ⟨a1, a2, a3⟩ := o1
  obtain ⟨b1, b2, b3⟩ := o2
  generalize frS (bsN r) c = f1 at CE0 CF0
  generalize frI (bsN r) c = f2 at CE0 CF0
  generalize rowE (bsN r) = f3 at CE0 CF0 CG0 CH0
  have CA := Lib.hid CA0; have CB := Lib.hid CB0; have CC := Lib.hid CC0; have CD := Lib.hid CD0; have CE := Lib.hid CE0; have CF := Lib.hid CF0; have CG := Lib.hid CG0; have CH := Lib.hid CH0
  have CI := Lib.hid (fun W => pfresh_any W)
  have CJ := Lib.hid (fun W => rfresh_any W)
  have CL := Lib.hid (fun W => lives_any W)
  clear CA0 CB0 CC0 CD0 CE0 CF0 CG0 CH0 hc
  have B : Hid (Below w.heap.size w w) := Lib.hid (Below.refl _ _)
  go_enter Try.func3, Try.ntmps3
  go_wp2_with fail
  refine (CA.out _).mono ?_
  rintro e w0 ⟨rfl, b⟩
  replace B := Lib.hid (B.out.trans (b.mono B.out.size))
  clear b
  go_wp2_with fail
  refine (CB.out _).mono ?_
  rintro e w1 ⟨rfl, b⟩
  replace B := Lib.hid (B.out.trans (b.mono B.out.size))
  clear b
  go_wp2_with fail
  refine (CC.out _).mono ?_
  rintro e w2 ⟨rfl, b⟩
  replace B := Lib.hid (B.out.trans (b.mono B.out.size))
  clear b
  go_wp2_with fail
  refine (CD.out _).mono ?_
  rintro e w3 ⟨rfl, b⟩
  replace B := Lib.hid (B.out.trans (b.mono B.out.size))
  clear b
  go_wp2_with fail
  refine (CE.out _).mono ?_
  rintro e w4 ⟨rfl, b⟩
  replace B := Lib.hid (B.out.trans (b.mono B.out.size))
  clear b
  go_wp2_with fail
  refine (CF.out _).mono ?_
  rintro e w5 ⟨rfl, b⟩
  replace B := Lib.hid (B.out.trans (b.mono B.out.size))
  clear b
  go_wp2_with fail
  refine (CL.out _).mono ?_
  rintro e w6 ⟨rfl, b⟩
  replace B := Lib.hid (B.out.trans (b.mono B.out.size))
  clear b
  go_wp2_with fail
  refine (CG.out _).mono ?_
  rintro e w7 ⟨rfl, b⟩
  replace B := Lib.hid (B.out.trans (b.mono B.out.size))
  clear b
  go_wp2_with fail
  refine (CH.out _).mono ?_
  rintro e w8 ⟨rfl, b⟩
  replace B := Lib.hid (B.out.trans (b.mono B.out.size))
  clear b
  go_wp2_with fail
  refine (CI.out _).mono ?_
  rintro e w9 ⟨rfl, b⟩
  replace B := Lib.hid (B.out.trans (b.mono B.out.size))
  clear b
  go_wp2_with fail
  refine (CJ.out _).mono ?_
  rintro e w10 ⟨rfl, b⟩
  replace B := Lib.hid (B.out.trans (b.mono B.out.size))
  clear b
  go_wp2_with fail
  go_ret
  exact ⟨rfl, B.out⟩
end Go.Proofs.Ytbcdnnppbggifaa.Mt

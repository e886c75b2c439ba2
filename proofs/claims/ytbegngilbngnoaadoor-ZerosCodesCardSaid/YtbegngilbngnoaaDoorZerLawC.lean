/- The law ZerosCodes. -/
import Derived.Test.YtbegngilbngnoaaDoorZerLives
namespace Go.Proofs.YtbegngilbngnoaaDoor.Ze
open Go.RowKit Go.Lib Rw Ls Od _root_.Go.Proofs.YtbegngilbngnoaaDoor.Nm

theorem same_self {w : World} {n : Nat} {L : List Nat} (hn : L.length = n) (h : n ≤ 17592186044416) (p c q d) (hp : Rd w p (nums L)) (hq : Rd w q (nums L)) :
    Calls Tryd.prog 13 #[.slice p n c, .slice q n d] w fun e w' => e = .returned (.bool true) ∧ Below w.heap.size w w' := by
  subst hn
  refine (sameOne_any L L p q c d w hp hq (by omega) (by omega)).mono ?_
  rintro e w' ⟨h, j, h2⟩
  exact ⟨by rw [h, decide_eq_true rfl], by rw [h2]; exact below_drewN (Below.refl _ _) j⟩
theorem enL_le (s : List Nat) : (enL s).length ≤ 65537 := by
  unfold enL
  split
  · have := enc_le s 0; omega
  · simp
theorem dgL_le (n : Nat) : (dgL n).length ≤ 65536 := by
  unfold dgL
  split
  · have := dg_le n; omega
  · simp
set_option maxHeartbeats 4000000 in
set_option maxRecDepth 100000 in
theorem codes_law (s : ByteArray) (l : List Nat) (p : Option Addr) (c : Nat) (w : World) (hp : Rd w p (nums l)) (hlc : l.length ≤ c) (hl : l.length ≤ 17592186044416) :
    Calls Tryd.prog 3 #[.string s, .slice p l.length c] w fun e w' => e = .returned (.bool true) ∧ Below w.heap.size w w' := by
  have h1 := enL_le (bsN s)
  obtain ⟨L, n, r, hL, hn, CA0, CB0⟩ : ∃ (L : List Nat) (n : Nat) (r : Int), L.length = n ∧ n ≤ 65537 ∧ (∀ W, Calls Tryd.prog 8 #[.string s] W (NEn W n L r)) ∧ (∀ W, Calls Tryd.prog 9 #[.string s] W (NEn W n L r)) :=
    ⟨enL (bsN s), _, enE (bsN s), rfl, h1, fun W => nen_of rfl (pencode_any s W), fun W => nen_of rfl (rencode_any s W)⟩
  obtain ⟨m, hm⟩ : ∃ m, m = l.length := ⟨_, rfl⟩
  have CC0 : ∀ W, Rd W p (nums l) → Calls Tryd.prog 10 #[.slice p l.length c] W (DeP W (dcA l)) := fun W h => pdecode_any l p c W h hlc hl
  have CD0 : ∀ W, Rd W p (nums l) → Calls Tryd.prog 11 #[.slice p l.length c] W (DeP W (dcA l)) := fun W h => rdecode_any l p c W h hl
  rw [← hm] at CC0 CD0 ⊢
  unfold DeP at CC0 CD0
  generalize dcA l = o at CC0 CD0
  obtain ⟨t, x, y⟩ := o
  generalize ofN t = S at CC0 CD0
  have CA := Lib.hid CA0; have CB := Lib.hid CB0; have CC := Lib.hid CC0; have CD := Lib.hid CD0
  have CL := Lib.hid (fun W => lives_any W)
  have CS := Lib.hid (fun W (p c q d) (h1 : Rd W p (nums L)) (h2 : Rd W q (nums L)) => same_self hL (by omega) p c q d h1 h2)
  have P := Lib.hid hp
  clear CA0 CB0 CC0 CD0 hp hl h1 hm
  have B : Hid (Below w.heap.size w w) := Lib.hid (Below.refl _ _)
  go_enter Tryd.func3, Tryd.ntmps3
  go_wp2_with fail
  refine (CA.out _).mono ?_
  rintro e w0 ⟨q1, c1, rfl, hc1, r1, b⟩
  replace P := Lib.hid (P.out.below b)
  replace B := Lib.hid (B.out.trans (b.mono B.out.size))
  have R1 := Lib.hid r1
  clear b r1
  go_wp2_with fail
  refine (CB.out _).mono ?_
  rintro e w1 ⟨q2, c2, rfl, hc2, r2, b⟩
  replace P := Lib.hid (P.out.below b)
  replace R1 := Lib.hid (R1.out.below b)
  replace B := Lib.hid (B.out.trans (b.mono B.out.size))
  have R2 := Lib.hid r2
  clear b r2
  go_wp2_with fail
  refine (CC.out _ P.out).mono ?_
  rintro e w2 ⟨rfl, b⟩
  replace P := Lib.hid (P.out.below b)
  replace R1 := Lib.hid (R1.out.below b)
  replace R2 := Lib.hid (R2.out.below b)
  replace B := Lib.hid (B.out.trans (b.mono B.out.size))
  clear b
  go_wp2_with fail
  refine (CD.out _ P.out).mono ?_
  rintro e w3 ⟨rfl, b⟩
  replace P := Lib.hid (P.out.below b)
  replace R1 := Lib.hid (R1.out.below b)
  replace R2 := Lib.hid (R2.out.below b)
  replace B := Lib.hid (B.out.trans (b.mono B.out.size))
  clear b
  go_wp2_with fail
  refine (CL.out _).mono ?_
  rintro e w4 ⟨rfl, b⟩
  replace P := Lib.hid (P.out.below b)
  replace R1 := Lib.hid (R1.out.below b)
  replace R2 := Lib.hid (R2.out.below b)
  replace B := Lib.hid (B.out.trans (b.mono B.out.size))
  clear b
  go_wp2_with fail
  refine (CS.out _ _ _ _ _ R1.out R2.out).mono ?_
  rintro e w5 ⟨rfl, b⟩
  replace P := Lib.hid (P.out.below b)
  replace R1 := Lib.hid (R1.out.below b)
  replace R2 := Lib.hid (R2.out.below b)
  replace B := Lib.hid (B.out.trans (b.mono B.out.size))
  clear b
  go_wp2_with fail
  go_ret
  exact ⟨rfl, B.out⟩
end Go.Proofs.YtbegngilbngnoaaDoor.Ze

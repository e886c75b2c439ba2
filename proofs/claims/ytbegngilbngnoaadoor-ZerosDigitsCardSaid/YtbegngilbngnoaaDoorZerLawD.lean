/- The law ZerosDigits. -/
import Derived.Test.YtbegngilbngnoaaDoorZerLawC
namespace Go.Proofs.YtbegngilbngnoaaDoor.Ze
open Go.RowKit Go.Lib Rw Ls Od _root_.Go.Proofs.YtbegngilbngnoaaDoor.Nm

set_option maxHeartbeats 4000000 in
set_option maxRecDepth 100000 in
theorem digits_law (n : Nat) (l : List Nat) (p : Option Addr) (c : Nat) (w : World) (hp : Rd w p (nums l)) (hl : l.length ≤ 17592186044416) :
    Calls Tryd.prog 4 #[.int .u64 (n : Int), .slice p l.length c] w fun e w' => e = .returned (.bool true) ∧ Below w.heap.size w w' := by
  have h1 := dgL_le n
  obtain ⟨L, k, r, hL, hn, CA0, CB0⟩ : ∃ (L : List Nat) (k : Nat) (r : Int), L.length = k ∧ k ≤ 65536 ∧ (∀ W, Calls Tryd.prog 14 #[.int .u64 (n : Int)] W (NEn W k L r)) ∧ (∀ W, Calls Tryd.prog 15 #[.int .u64 (n : Int)] W (NEn W k L r)) :=
    ⟨dgL n, _, dgE n, rfl, h1, fun W => nen_of rfl (pdigits_any n W), fun W => nen_of rfl (rdigitsf_any n W)⟩
  obtain ⟨m, hm⟩ : ∃ m, m = l.length := ⟨_, rfl⟩
  have CC0 : ∀ W, Rd W p (nums l) → Calls Tryd.prog 16 #[.slice p l.length c] W fun e w' => e = .returned (.tuple #[.int .u64 ((numR l).1 : Nat), .int .i64 (numR l).2]) ∧ Below W.heap.size W w' := fun W h => pnumber_any l p c W h hl
  have CD0 : ∀ W, Rd W p (nums l) → Calls Tryd.prog 17 #[.slice p l.length c] W fun e w' => e = .returned (.tuple #[.int .u64 ((numR l).1 : Nat), .int .i64 (numR l).2]) ∧ Below W.heap.size W w' := fun W h => (rnumberf_any l p c W h hl).mono fun e w' ⟨h1, h2⟩ => ⟨h1, by rw [h2]; exact Below.refl _ _⟩
  rw [← hm] at CC0 CD0 ⊢
  generalize numR l = o at CC0 CD0
  obtain ⟨x, y⟩ := o
  have CA := Lib.hid CA0; have CB := Lib.hid CB0; have CC := Lib.hid CC0; have CD := Lib.hid CD0
  have CL := Lib.hid (fun W => lives_any W)
  have CS := Lib.hid (fun W (p c q d) (h1 : Rd W p (nums L)) (h2 : Rd W q (nums L)) => same_self hL (by omega) p c q d h1 h2)
  have P := Lib.hid hp
  clear CA0 CB0 CC0 CD0 hp hl h1 hm
  have B : Hid (Below w.heap.size w w) := Lib.hid (Below.refl _ _)
  go_enter Tryd.func4, Tryd.ntmps4
  go_wp2_with fail
  refine (CA.out _).mono ?_
  rintro e w0 ⟨q1, c1, rfl, hc1, r1, b⟩
  replace P := Lib.hid (P.out.below b)
  replace B := Lib.hid (B.out.trans (b.mono B.out.size))
  have R1 := Lib.hid r1
  clear b r1
  go_wp2_with fail
  refine (CB.out _).mono ?_
  rintro e w1 ⟨q2, c2, rfl, hc2, r2, b⟩
  replace P := Lib.hid (P.out.below b)
  replace R1 := Lib.hid (R1.out.below b)
  replace B := Lib.hid (B.out.trans (b.mono B.out.size))
  have R2 := Lib.hid r2
  clear b r2
  go_wp2_with fail
  refine (CC.out _ P.out).mono ?_
  rintro e w2 ⟨rfl, b⟩
  replace P := Lib.hid (P.out.below b)
  replace R1 := Lib.hid (R1.out.below b)
  replace R2 := Lib.hid (R2.out.below b)
  replace B := Lib.hid (B.out.trans (b.mono B.out.size))
  clear b
  go_wp2_with fail
  refine (CD.out _ P.out).mono ?_
  rintro e w3 ⟨rfl, b⟩
  replace P := Lib.hid (P.out.below b)
  replace R1 := Lib.hid (R1.out.below b)
  replace R2 := Lib.hid (R2.out.below b)
  replace B := Lib.hid (B.out.trans (b.mono B.out.size))
  clear b
  go_wp2_with fail
  refine (CL.out _).mono ?_
  rintro e w4 ⟨rfl, b⟩
  replace P := Lib.hid (P.out.below b)
  replace R1 := Lib.hid (R1.out.below b)
  replace R2 := Lib.hid (R2.out.below b)
  replace B := Lib.hid (B.out.trans (b.mono B.out.size))
  clear b
  go_wp2_with fail
  refine (CS.out _ _ _ _ _ R1.out R2.out).mono ?_
  rintro e w5 ⟨rfl, b⟩
  replace P := Lib.hid (P.out.below b)
  replace R1 := Lib.hid (R1.out.below b)
  replace R2 := Lib.hid (R2.out.below b)
  replace B := Lib.hid (B.out.trans (b.mono B.out.size))
  clear b
  go_wp2_with fail
  go_ret
  exact ⟨rfl, B.out⟩
end Go.Proofs.YtbegngilbngnoaaDoor.Ze

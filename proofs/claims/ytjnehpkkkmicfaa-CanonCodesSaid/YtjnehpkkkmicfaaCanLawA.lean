/- The law CanonCodes. -/
import Derived.Test.YtjnehpkkkmicfaaBnM
namespace Go.Proofs.Ytjnehpkkkmicfaa.Cn
open Go.RowKit Go.Lib Rw Ls Od _root_.Go.Proofs.Ytjnehpkkkmicfaa.Nm Pk Bt

set_option maxHeartbeats 4000000 in
set_option maxRecDepth 100000 in
theorem codes_mid (n : Nat) (p : Option Addr) (c cd : Nat) (z : Int) (w : World) (h1 : 60 < n) (h2 : n ≤ 512) :
    Calls Try.prog 3 #[.slice p n c, .int .u64 (cd : Int), .int .i64 z] w fun e w' => e = .returned (.bool true) ∧ Below w.heap.size w w' := by
  have CL := Lib.hid (fun W => lives_any W)
  have t1 : decide ((60 : Int) < (n : Int)) = true := decide_eq_true (by omega)
  have t2 : decide (60 < n) = true := decide_eq_true h1
  have t3 : decide ((n : Int) ≤ 512) = true := decide_eq_true (by omega)
  have t4 : decide (n ≤ 512) = true := decide_eq_true h2
  clear h1 h2
  have B : Hid (Below w.heap.size w w) := Lib.hid (Below.refl _ _)
  go_enter Try.func3, Try.ntmps3
  go_wp2_with fail
  refine (CL.out _).mono ?_
  rintro e w0 ⟨rfl, b⟩
  replace B := Lib.hid (B.out.trans (b.mono B.out.size))
  clear b
  go_wp2_with fail
  go_ret
  exact ⟨rfl, B.out⟩
set_option maxHeartbeats 4000000 in
set_option maxRecDepth 100000 in
theorem codes_law (ls : List Int) (cd : Nat) (z : Int) (p : Option Addr) (c : Nat) (w : World) (hp : Rd w p (zs ls)) (hl : ls.length ≤ 17592186044416) (hcd : cd < 18446744073709551616) :
    Calls Try.prog 3 #[.slice p ls.length c, .int .u64 (cd : Int), .int .i64 z] w fun e w' => e = .returned (.bool true) ∧ Below w.heap.size w w' := by
  by_cases hmid : 60 < ls.length ∧ ls.length ≤ 512
  · exact codes_mid _ p c cd z w hmid.1 hmid.2
  have CL := Lib.hid (fun W => lives_any W)
  obtain ⟨L, r, he⟩ : ∃ L r, codesR ls = (L, r) := ⟨_, _, rfl⟩
  have h5 : L.length ≤ 17592186044416 := by
    unfold codesR at he
    split at he
    · obtain rfl := (congrArg Prod.fst he : codes ls = L)
      rw [codes_length]; exact hl
    · obtain rfl := (congrArg Prod.fst he : [] = L)
      simp
  obtain ⟨k, hk⟩ : ∃ k, k = L.length := ⟨_, rfl⟩
  have CA0 : ∀ W, Rd W p (zs ls) → Calls Try.prog 12 #[.slice p ls.length c] W (NUn W k L r) := fun W h => nun_of he hk.symm (pcodes_any ls p c W h hl)
  have CB0 : ∀ W, Rd W p (zs ls) → Calls Try.prog 13 #[.slice p ls.length c] W (NUn W k L r) := fun W h => nun_of he hk.symm (rcodes_any ls p c W h hl)
  have CC0 : ∀ W, Rd W p (zs ls) → Calls Try.prog 14 #[.slice p ls.length c, .int .u64 (cd : Int), .int .i64 z] W fun e w' => e = .returned (.tuple #[.int .i64 (findR ls cd z).1, .int .i64 (findR ls cd z).2]) ∧ Below W.heap.size W w' := fun W h1 => pfindc_any ls cd z p c W h1 hl hcd
  have CD0 : ∀ W, Rd W p (zs ls) → Calls Try.prog 15 #[.slice p ls.length c, .int .u64 (cd : Int), .int .i64 z] W fun e w' => e = .returned (.tuple #[.int .i64 (findR ls cd z).1, .int .i64 (findR ls cd z).2]) ∧ Below W.heap.size W w' := fun W h1 => rfindc_any ls cd z p c W h1 hl
  have CE0 : ∀ W, Rd W p (zs ls) → Calls Try.prog 17 #[.slice p ls.length c] W fun e w' => e = .returned (.int .i64 (chkC ls)) ∧ Below W.heap.size W w' := fun W h1 => pcheckc_any ls p c W h1 hl
  have CF0 : ∀ W, Rd W p (zs ls) → Calls Try.prog 18 #[.slice p ls.length c] W fun e w' => e = .returned (.int .i64 (chkC ls)) ∧ Below W.heap.size W w' := fun W h1 => (rchkc_any ls p c W h1 hl).mono fun e w' ⟨h1, h2⟩ => ⟨h1, by rw [h2]; exact Below.refl _ _⟩
  have CS := Lib.hid (fun W (p c q d) (h1 : Rd W p (nums L)) (h2 : Rd W q (nums L)) => by
    have := sameOne_any L L p q c d W h1 h2 (by omega) (by omega)
    rw [decide_eq_true rfl, ← hk] at this
    exact this)
  generalize findR ls cd z = o1 at CC0 CD0
  generalize chkC ls = o2 at CE0 CF0
  obtain ⟨x1, y1⟩ := o1
  obtain ⟨n, hn⟩ : ∃ n, n = ls.length := ⟨_, rfl⟩
  rw [← hn] at CA0 CB0 CC0 CD0 CE0 CF0 hmid hl ⊢
  have CA := Lib.hid CA0; have CB := Lib.hid CB0; have CC := Lib.hid CC0; have CD := Lib.hid CD0; have CE := Lib.hid CE0; have CF := Lib.hid CF0
  have P := Lib.hid hp
  have hor : (decide ((60 : Int) < (n : Int)) = false ∧ decide (60 < n) = false) ∨ (decide ((60 : Int) < (n : Int)) = true ∧ decide (60 < n) = true ∧ decide ((n : Int) ≤ 512) = false ∧ decide (n ≤ 512) = false) := by
    by_cases h : 60 < n
    · exact .inr ⟨decide_eq_true (by omega), decide_eq_true h, decide_eq_false (by omega), decide_eq_false (by omega)⟩
    · exact .inl ⟨decide_eq_false (by omega), decide_eq_false h⟩
  clear CA0 CB0 CC0 CD0 CE0 CF0 hp hl hmid he hk hn h5
  rcases hor with ⟨t1, t2⟩ | ⟨t1, t2, t3, t4⟩
  all_goals
    have B : Hid (Below w.heap.size w w) := Lib.hid (Below.refl _ _)
    go_enter Try.func3, Try.ntmps3
    go_wp2_with fail
    refine (CA.out _ P.out).mono ?_
    rintro e w0 ⟨q1, c1, rfl, hc1, r1, b⟩
    replace P := Lib.hid (P.out.below b)
    replace B := Lib.hid (B.out.trans (b.mono B.out.size))
    have R1 := Lib.hid r1
    clear b r1
    go_wp2_with fail
    refine (CB.out _ P.out).mono ?_
    rintro e w1 ⟨q2, c2, rfl, hc2, r2, b⟩
    replace P := Lib.hid (P.out.below b)
    replace R1 := Lib.hid (R1.out.below b)
    replace B := Lib.hid (B.out.trans (b.mono B.out.size))
    have R2 := Lib.hid r2
    clear b r2
    go_wp2_with fail
    refine (CC.out _ P.out).mono ?_
    rintro e w2 ⟨rfl, b⟩
    replace P := Lib.hid (P.out.below b)
    replace R1 := Lib.hid (R1.out.below b)
    replace R2 := Lib.hid (R2.out.below b)
    replace B := Lib.hid (B.out.trans (b.mono B.out.size))
    clear b
    go_wp2_with fail
    refine (CD.out _ P.out).mono ?_
    rintro e w3 ⟨rfl, b⟩
    replace P := Lib.hid (P.out.below b)
    replace R1 := Lib.hid (R1.out.below b)
    replace R2 := Lib.hid (R2.out.below b)
    replace B := Lib.hid (B.out.trans (b.mono B.out.size))
    clear b
    go_wp2_with fail
    refine (CL.out _).mono ?_
    rintro e w4 ⟨rfl, b⟩
    replace P := Lib.hid (P.out.below b)
    replace R1 := Lib.hid (R1.out.below b)
    replace R2 := Lib.hid (R2.out.below b)
    replace B := Lib.hid (B.out.trans (b.mono B.out.size))
    clear b
    go_wp2_with fail
    refine (CS.out _ _ _ _ _ R1.out R2.out).mono ?_
    rintro e w5 ⟨rfl, j, rfl⟩
    replace P := Lib.hid (P.out.drewN j)
    replace R1 := Lib.hid (R1.out.drewN j)
    replace R2 := Lib.hid (R2.out.drewN j)
    replace B := Lib.hid (below_drewN B.out j)
    skip
    go_wp2_with fail
    refine (CE.out _ P.out).mono ?_
    rintro e w6 ⟨rfl, b⟩
    replace P := Lib.hid (P.out.below b)
    replace R1 := Lib.hid (R1.out.below b)
    replace R2 := Lib.hid (R2.out.below b)
    replace B := Lib.hid (B.out.trans (b.mono B.out.size))
    clear b
    go_wp2_with fail
    refine (CF.out _ P.out).mono ?_
    rintro e w7 ⟨rfl, b⟩
    replace P := Lib.hid (P.out.below b)
    replace R1 := Lib.hid (R1.out.below b)
    replace R2 := Lib.hid (R2.out.below b)
    replace B := Lib.hid (B.out.trans (b.mono B.out.size))
    clear b
    go_wp2_with fail
    go_ret
    exact ⟨rfl, B.out⟩
end Go.Proofs.Ytjnehpkkkmicfaa.Cn

/- The law SkewEnds. -/
import Derived.Test.YtonlbcibfbbpgaaSkLawP
namespace Go.Proofs.Ytonlbcibfbbpgaa.Sk
open Go.RowKit Go.Lib Rw Ls Od _root_.Go.Proofs.Ytonlbcibfbbpgaa.Nm

theorem ends13_lives (n m : Nat) (p q : Option Addr) (c d : Nat) (w : World) (h1 : 60 < n) (h2 : n ≤ 4096) :
    Calls Try.prog 4 #[.slice p n c, .slice q m d] w fun e w' => e = .returned (.bool true) ∧ Below w.heap.size w w' := by
  have CL := Lib.hid (fun W => lives_any W)
  have t1 : decide ((60 : Int) < (n : Int)) = true := decide_eq_true (by omega)
  have t2 : decide ((n : Int) ≤ 4096) = true := decide_eq_true (by omega)
  have t3 : decide (60 < n) = true := decide_eq_true h1
  have t4 : decide (n ≤ 4096) = true := decide_eq_true h2
  clear h1 h2
  go_enter Try.func4, Try.ntmps4
  go_wp2_with fail
  refine (CL.out _).mono ?_
  rintro e w1 ⟨rfl, b⟩
  have B := Lib.hid b
  clear b
  go_wp2_with fail
  go_ret
  exact ⟨rfl, B.out⟩
set_option maxHeartbeats 4000000 in
set_option maxRecDepth 100000 in
theorem ends13_law (l : List Nat) (E : List Int) (p q : Option Addr) (c d : Nat) (w : World) (hp : Rd w p (nums l)) (hq : Rd w q (zs E)) (hlc : l.length ≤ c) (hl : l.length ≤ 17592186044416) (hE : E.length ≤ 17592186044416) :
    Calls Try.prog 4 #[.slice p l.length c, .slice q E.length d] w fun e w' => e = .returned (.bool true) ∧ Below w.heap.size w w' := by
  by_cases hc : 60 < l.length ∧ l.length ≤ 4096
  · exact ends13_lives _ _ p q c d w hc.1 hc.2
  have hed : (edL l).length ≤ l.length := by
    unfold edL
    split
    · rw [ends_length]; exact Nat.le_refl _
    · simp
  have hex : (exL l E).length ≤ l.length := by
    unfold exL
    split
    · rw [ends_length]; exact Nat.le_refl _
    · simp
  obtain ⟨S, m1, r1, hS, hS1, CA0, CB0⟩ : ∃ (S : List Nat) (m1 : Nat) (r1 : Int), S.length = m1 ∧ m1 ≤ 17592186044416 ∧ (∀ W, Rd W p (nums l) → Calls Try.prog 18 #[.slice p l.length c] W (PLn W m1 S r1)) ∧ (∀ W, Rd W p (nums l) → Calls Try.prog 19 #[.slice p l.length c] W (PLn W m1 S r1)) :=
    ⟨edL l, _, smpE l, rfl, by omega, fun W h => pln_of rfl (pends13_any l p c W h hlc hl), fun W h => pln_of rfl (rends13_any l p c W h hlc hl)⟩
  obtain ⟨R, m3, r3, hR, hR1, CE0, CF0⟩ : ∃ (R : List Nat) (m3 : Nat) (r3 : Int), R.length = m3 ∧ m3 ≤ 17592186044416 ∧ (∀ W, Rd W p (nums l) → Rd W q (zs E) → Calls Try.prog 20 #[.slice p l.length c, .slice q E.length d] W (PLn W m3 R r3)) ∧ (∀ W, Rd W p (nums l) → Rd W q (zs E) → Calls Try.prog 21 #[.slice p l.length c, .slice q E.length d] W (PLn W m3 R r3)) :=
    ⟨exL l E, _, exE l E, rfl, by omega, fun W h h2 => pln_of rfl (pexpand_any l E p q c d W h h2 hlc hl hE), fun W h h2 => pln_of rfl (rexpand_any l E p q c d W h h2 hlc hl hE)⟩
  have CX := Lib.hid (fun p c q d W (h1 : Rd W p (zs (up S))) (h2 : Rd W q (zs (up S))) => same_at (c := c) (d := d) hS hS h1 h2 hS1 hS1)
  have CZ := Lib.hid (fun p c q d W (h1 : Rd W p (zs (up R))) (h2 : Rd W q (zs (up R))) => same_at (c := c) (d := d) hR hR h1 h2 hR1 hR1)
  rw [decide_eq_true rfl] at CX CZ
  obtain ⟨n, hn⟩ : ∃ n, n = l.length := ⟨_, rfl⟩
  obtain ⟨m, hm⟩ : ∃ m, m = E.length := ⟨_, rfl⟩
  rw [← hn] at CA0 CB0 CE0 CF0 hc ⊢
  rw [← hm] at CE0 CF0 ⊢
  have CA := Lib.hid CA0; have CB := Lib.hid CB0; have CE := Lib.hid CE0; have CF := Lib.hid CF0
  have CL := Lib.hid (fun W => lives_any W)
  have P := Lib.hid hp; have Q := Lib.hid hq
  have hor : (decide ((60 : Int) < (n : Int)) = false ∧ decide (60 < n) = false) ∨ (decide ((60 : Int) < (n : Int)) = true ∧ decide (60 < n) = true ∧ decide ((n : Int) ≤ 4096) = false ∧ decide (n ≤ 4096) = false) := by
    by_cases h : 60 < n
    · exact .inr ⟨decide_eq_true (by omega), decide_eq_true h, decide_eq_false (by omega), decide_eq_false (by omega)⟩
    · exact .inl ⟨decide_eq_false (by omega), decide_eq_false h⟩
  clear CA0 CB0 CE0 CF0 hp hq hn hm hS hS1 hR hR1 hc hl hlc hE hed hex
  rcases hor with ⟨t1, t2⟩ | ⟨t1, t2, t3, t4⟩
  all_goals
    have B : Hid (Below w.heap.size w w) := Lib.hid (Below.refl _ _)
    go_enter Try.func4, Try.ntmps4
    go_wp2_with fail
    refine (CA.out _ P.out).mono ?_
    rintro e w0 ⟨qa, ca, rfl, _, ra, b⟩
    replace P := Lib.hid (P.out.below b)
    replace Q := Lib.hid (Q.out.below b)
    replace B := Lib.hid (B.out.trans (b.mono B.out.size))
    have RA := Lib.hid ra
    clear b ra
    go_wp2_with fail
    refine (CB.out _ P.out).mono ?_
    rintro e w1 ⟨qb, cb, rfl, _, rb, b⟩
    replace P := Lib.hid (P.out.below b)
    replace Q := Lib.hid (Q.out.below b)
    replace RA := Lib.hid (RA.out.below b)
    replace B := Lib.hid (B.out.trans (b.mono B.out.size))
    have RB := Lib.hid rb
    clear b rb
    go_wp2_with fail
    refine (CE.out _ P.out Q.out).mono ?_
    rintro e w2 ⟨qe, ce, rfl, _, re, b⟩
    replace P := Lib.hid (P.out.below b)
    replace Q := Lib.hid (Q.out.below b)
    replace RA := Lib.hid (RA.out.below b)
    replace RB := Lib.hid (RB.out.below b)
    replace B := Lib.hid (B.out.trans (b.mono B.out.size))
    have RE := Lib.hid re
    clear b re
    go_wp2_with fail
    refine (CF.out _ P.out Q.out).mono ?_
    rintro e w3 ⟨qf, cf, rfl, _, rf, b⟩
    replace P := Lib.hid (P.out.below b)
    replace Q := Lib.hid (Q.out.below b)
    replace RA := Lib.hid (RA.out.below b)
    replace RB := Lib.hid (RB.out.below b)
    replace RE := Lib.hid (RE.out.below b)
    replace B := Lib.hid (B.out.trans (b.mono B.out.size))
    have RF := Lib.hid rf
    clear b rf
    go_wp2_with fail
    refine (CL.out _).mono ?_
    rintro e w4 ⟨rfl, b⟩
    replace P := Lib.hid (P.out.below b)
    replace Q := Lib.hid (Q.out.below b)
    replace RA := Lib.hid (RA.out.below b)
    replace RB := Lib.hid (RB.out.below b)
    replace RE := Lib.hid (RE.out.below b)
    replace RF := Lib.hid (RF.out.below b)
    replace B := Lib.hid (B.out.trans (b.mono B.out.size))
    clear b
    go_wp2_with fail
    refine (CX.out _ _ _ _ _ RA.out RB.out).mono ?_
    rintro e w5 ⟨rfl, b⟩
    replace P := Lib.hid (P.out.below b)
    replace Q := Lib.hid (Q.out.below b)
    replace RA := Lib.hid (RA.out.below b)
    replace RB := Lib.hid (RB.out.below b)
    replace RE := Lib.hid (RE.out.below b)
    replace RF := Lib.hid (RF.out.below b)
    replace B := Lib.hid (B.out.trans (b.mono B.out.size))
    clear b
    go_wp2_with fail
    refine (CZ.out _ _ _ _ _ RE.out RF.out).mono ?_
    rintro e w6 ⟨rfl, b⟩
    replace P := Lib.hid (P.out.below b)
    replace Q := Lib.hid (Q.out.below b)
    replace RA := Lib.hid (RA.out.below b)
    replace RB := Lib.hid (RB.out.below b)
    replace RE := Lib.hid (RE.out.below b)
    replace RF := Lib.hid (RF.out.below b)
    replace B := Lib.hid (B.out.trans (b.mono B.out.size))
    clear b
    go_wp2_with fail
    go_ret
    exact ⟨rfl, B.out⟩
end Go.Proofs.Ytonlbcibfbbpgaa.Sk

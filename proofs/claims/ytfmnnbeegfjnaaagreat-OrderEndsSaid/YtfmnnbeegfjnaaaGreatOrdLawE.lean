/- The law OrderEnds. -/
import Derived.Test.YtfmnnbeegfjnaaaGreatOrdLives
namespace Go.Proofs.YtfmnnbeegfjnaaaGreat.Od
open Go.RowKit Go.Lib Rw Ls _root_.Go.Proofs.YtfmnnbeegfjnaaaGreat.Nm

theorem invGo_length {N : Nat} : ∀ (L : List Int) (i : Nat) (out : List Nat) (had : List Bool) (M : List Nat), invGo N L i out had = some M → M.length = out.length
  | [], _, _, _, _, h => by rw [invGo] at h; injection h with h; rw [h]
  | n :: t, i, out, had, M, h => by
    rw [invGo] at h
    by_cases hc : n < 0 ∨ (N : Int) ≤ n ∨ had.getD n.toNat false = true
    · rw [if_pos hc] at h; cases h
    · rw [if_neg hc] at h
      rw [invGo_length t _ _ _ M h, List.length_set]
theorem invL_le (L : List Int) : (invL L).length ≤ L.length := by
  unfold invL
  cases h : inv L with
  | none => exact Nat.zero_le _
  | some M =>
    unfold inv at h
    have := invGo_length L _ _ _ M h
    simp at this
    simp [this]
theorem comL_le (l : List Nat) (E : List Int) : (comL l E).length ≤ l.length := by
  unfold comL
  split
  · rw [com_length]; exact Nat.le_refl _
  · exact Nat.zero_le _
theorem ends_lives (n m : Nat) (p q : Option Addr) (c d : Nat) (w : World) (h1 : 300 < n) (h2 : n ≤ 4096) :
    Calls Tryz.prog 3 #[.slice p n c, .slice q m d] w fun e w' => e = .returned (.bool true) ∧ Below w.heap.size w w' := by
  have CL := Lib.hid (fun W => lives_any W)
  have t1 : decide ((300 : Int) < (n : Int)) = true := decide_eq_true (by omega)
  have t2 : decide ((n : Int) ≤ 4096) = true := decide_eq_true (by omega)
  have t3 : decide (300 < n) = true := decide_eq_true h1
  have t4 : decide (n ≤ 4096) = true := decide_eq_true h2
  clear h1 h2
  go_enter Tryz.func3, Tryz.ntmps3
  go_wp2_with fail
  refine (CL.out _).mono ?_
  rintro e w1 ⟨rfl, b⟩
  have B := Lib.hid b
  clear b
  go_wp2_with fail
  go_ret
  exact ⟨rfl, B.out⟩
set_option maxHeartbeats 4000000 in
set_option maxRecDepth 100000 in
theorem ends_law (l : List Nat) (E : List Int) (p q : Option Addr) (c d : Nat) (w : World) (hp : Rd w p (nums l)) (hq : Rd w q (zs E)) (hlc : l.length ≤ c) (hl : l.length ≤ 17592186044416) (hE : E.length ≤ 17592186044416) :
    Calls Tryz.prog 3 #[.slice p l.length c, .slice q E.length d] w fun e w' => e = .returned (.bool true) ∧ Below w.heap.size w w' := by
  by_cases hc : 300 < l.length ∧ l.length ≤ 4096
  · exact ends_lives _ _ p q c d w hc.1 hc.2
  obtain ⟨n, hn⟩ : ∃ n, n = l.length := ⟨_, rfl⟩
  obtain ⟨m, hm⟩ : ∃ m, m = E.length := ⟨_, rfl⟩
  obtain ⟨M, m1, r1, hM, hM1, CA0, CB0⟩ : ∃ (M : List Nat) (m1 : Nat) (r1 : Int), M.length = m1 ∧ m1 ≤ 17592186044416 ∧ (∀ W, Rd W p (nums l) → Calls Tryz.prog 10 #[.slice p l.length c] W (Pl W m1 M r1)) ∧ (∀ W, Rd W p (nums l) → Calls Tryz.prog 11 #[.slice p l.length c] W (Pl W m1 M r1)) := by
    by_cases h : 4096 < l.length
    · exact ⟨[], 0, 1, rfl, by omega, fun W _ => pl_of rfl (pends_no l p c W hl h), fun W _ => pl_of rfl (rends_no l p c W hl h)⟩
    · exact ⟨ends l, l.length, 0, ends_length l, hl, fun W h1 => pl_of (ends_length l) (pends_any l p c W h1 hlc (by omega)), fun W h1 => pl_of (ends_length l) (rends_any l p c W h1 hlc (by omega))⟩
  obtain ⟨I, m2, r2, hI, hI1, CC0, CD0⟩ : ∃ (I : List Nat) (m2 : Nat) (r2 : Int), I.length = m2 ∧ m2 ≤ 17592186044416 ∧ (∀ W, Rd W q (zs E) → Calls Tryz.prog 12 #[.slice q E.length d] W (Pl W m2 I r2)) ∧ (∀ W, Rd W q (zs E) → Calls Tryz.prog 13 #[.slice q E.length d] W (Pl W m2 I r2)) :=
    ⟨invL E, (invL E).length, invE E, rfl, Nat.le_trans (invL_le E) hE, fun W h1 => pl_of rfl (pinverse_any E q d W h1 hE), fun W h1 => pl_of rfl (rinverse_any E q d W h1 hE)⟩
  obtain ⟨K, m3, r3, hK, hK1, CE0, CF0⟩ : ∃ (K : List Nat) (m3 : Nat) (r3 : Int), K.length = m3 ∧ m3 ≤ 17592186044416 ∧ (∀ W, Rd W p (nums l) → Rd W q (zs E) → Calls Tryz.prog 14 #[.slice p l.length c, .slice q E.length d] W (Pl W m3 K r3)) ∧ (∀ W, Rd W p (nums l) → Rd W q (zs E) → Calls Tryz.prog 15 #[.slice p l.length c, .slice q E.length d] W (Pl W m3 K r3)) :=
    ⟨comL l E, (comL l E).length, comE l E, rfl, Nat.le_trans (comL_le l E) hl, fun W h1 h2 => pl_of rfl (pcommon_any l E p q c d W h1 h2 hlc hl hE), fun W h1 h2 => pl_of rfl (rcommon_any l E p q c d W h1 h2 hlc hl hE)⟩
  have CR0 : ∀ W, Rd W p (nums l) → Rd W q (zs E) → Calls Tryz.prog 17 #[.slice p l.length c, .slice q E.length d] W fun e w' => e = .returned (.bool (right l E)) ∧ Below W.heap.size W w' := fun W h1 h2 => pright_any l E p q c d W h1 h2 hlc hl hE
  have CQ0 : ∀ W, Rd W p (nums l) → Rd W q (zs E) → Calls Tryz.prog 18 #[.slice p l.length c, .slice q E.length d] W fun e w' => e = .returned (.bool (right l E)) ∧ Below W.heap.size W w' := fun W h1 h2 => rright_any l E p q c d W h1 h2 hlc hl hE
  have CS0 : ∀ (L : List Nat) (k : Nat), L.length = k → k ≤ 17592186044416 → ∀ p c q d W, Rd W p (zs (up L)) → Rd W q (zs (up L)) → Calls Tryz.prog 16 #[.slice p k c, .slice q k d] W fun e w' => e = .returned (.bool true) ∧ Below W.heap.size W w' := fun L k h1 h2 p c q d W h3 h4 => by
    have h := same_at (c := c) (d := d) h1 h1 h3 h4 h2 h2
    rw [decide_eq_true rfl] at h
    exact h.mono fun e w' ⟨h1, j, h2⟩ => ⟨h1, by rw [h2]; exact below_drewN (Below.refl _ _) j⟩
  rw [← hn] at CA0 CB0 CE0 CF0 CR0 CQ0 hc ⊢
  rw [← hm] at CC0 CD0 CE0 CF0 CR0 CQ0 ⊢
  have CA := Lib.hid CA0; have CB := Lib.hid CB0; have CC := Lib.hid CC0; have CD := Lib.hid CD0; have CE := Lib.hid CE0; have CF := Lib.hid CF0; have CR := Lib.hid CR0; have CQ := Lib.hid CQ0
  have CX := Lib.hid (CS0 M m1 hM hM1); have CY := Lib.hid (CS0 I m2 hI hI1); have CZ := Lib.hid (CS0 K m3 hK hK1)
  have CL := Lib.hid (fun W => lives_any W)
  have P := Lib.hid hp; have Q := Lib.hid hq
  obtain ⟨rr, hrr⟩ : ∃ rr, rr = right l E := ⟨_, rfl⟩
  rw [← hrr] at CR CQ
  have hor : (decide ((300 : Int) < (n : Int)) = false ∧ decide (300 < n) = false) ∨ (decide ((300 : Int) < (n : Int)) = true ∧ decide (300 < n) = true ∧ decide ((n : Int) ≤ 4096) = false ∧ decide (n ≤ 4096) = false) := by
    by_cases h : 300 < n
    · exact .inr ⟨decide_eq_true (by omega), decide_eq_true h, decide_eq_false (by omega), decide_eq_false (by omega)⟩
    · exact .inl ⟨decide_eq_false (by omega), decide_eq_false h⟩
  clear CA0 CB0 CC0 CD0 CE0 CF0 CR0 CQ0 CS0 hp hq hn hm hM hI hK hM1 hI1 hK1 hrr hc hlc hl hE
  rcases hor with ⟨t1, t2⟩ | ⟨t1, t2, t3, t4⟩
  all_goals
    have B : Hid (Below w.heap.size w w) := Lib.hid (Below.refl _ _)
    go_enter Tryz.func3, Tryz.ntmps3
    go_wp2_with fail
    refine (CA.out _ P.out).mono ?_
    rintro e w0 ⟨qa, ca, rfl, _, ra, b⟩
    replace P := Lib.hid (P.out.below b)
    replace Q := Lib.hid (Q.out.below b)
    replace B := Lib.hid (B.out.trans (b.mono B.out.size))
    have RA := Lib.hid ra
    clear b ra
    go_wp2_with fail
    refine (CB.out _ P.out).mono ?_
    rintro e w1 ⟨qb, cb, rfl, _, rb, b⟩
    replace P := Lib.hid (P.out.below b)
    replace Q := Lib.hid (Q.out.below b)
    replace RA := Lib.hid (RA.out.below b)
    replace B := Lib.hid (B.out.trans (b.mono B.out.size))
    have RB := Lib.hid rb
    clear b rb
    go_wp2_with fail
    refine (CC.out _ Q.out).mono ?_
    rintro e w2 ⟨qc, cc, rfl, _, rc, b⟩
    replace P := Lib.hid (P.out.below b)
    replace Q := Lib.hid (Q.out.below b)
    replace RA := Lib.hid (RA.out.below b)
    replace RB := Lib.hid (RB.out.below b)
    replace B := Lib.hid (B.out.trans (b.mono B.out.size))
    have RC := Lib.hid rc
    clear b rc
    go_wp2_with fail
    refine (CD.out _ Q.out).mono ?_
    rintro e w3 ⟨qd, cd, rfl, _, rd, b⟩
    replace P := Lib.hid (P.out.below b)
    replace Q := Lib.hid (Q.out.below b)
    replace RA := Lib.hid (RA.out.below b)
    replace RB := Lib.hid (RB.out.below b)
    replace RC := Lib.hid (RC.out.below b)
    replace B := Lib.hid (B.out.trans (b.mono B.out.size))
    have RD := Lib.hid rd
    clear b rd
    go_wp2_with fail
    refine (CE.out _ P.out Q.out).mono ?_
    rintro e w4 ⟨qe, ce, rfl, _, re, b⟩
    replace P := Lib.hid (P.out.below b)
    replace Q := Lib.hid (Q.out.below b)
    replace RA := Lib.hid (RA.out.below b)
    replace RB := Lib.hid (RB.out.below b)
    replace RC := Lib.hid (RC.out.below b)
    replace RD := Lib.hid (RD.out.below b)
    replace B := Lib.hid (B.out.trans (b.mono B.out.size))
    have RE := Lib.hid re
    clear b re
    go_wp2_with fail
    refine (CF.out _ P.out Q.out).mono ?_
    rintro e w5 ⟨qf, cf, rfl, _, rf, b⟩
    replace P := Lib.hid (P.out.below b)
    replace Q := Lib.hid (Q.out.below b)
    replace RA := Lib.hid (RA.out.below b)
    replace RB := Lib.hid (RB.out.below b)
    replace RC := Lib.hid (RC.out.below b)
    replace RD := Lib.hid (RD.out.below b)
    replace RE := Lib.hid (RE.out.below b)
    replace B := Lib.hid (B.out.trans (b.mono B.out.size))
    have RF := Lib.hid rf
    clear b rf
    go_wp2_with fail
    refine (CL.out _).mono ?_
    rintro e w6 ⟨rfl, b⟩
    replace P := Lib.hid (P.out.below b)
    replace Q := Lib.hid (Q.out.below b)
    replace RA := Lib.hid (RA.out.below b)
    replace RB := Lib.hid (RB.out.below b)
    replace RC := Lib.hid (RC.out.below b)
    replace RD := Lib.hid (RD.out.below b)
    replace RE := Lib.hid (RE.out.below b)
    replace RF := Lib.hid (RF.out.below b)
    replace B := Lib.hid (B.out.trans (b.mono B.out.size))
    clear b
    go_wp2_with fail
    refine (CX.out _ _ _ _ _ RA.out RB.out).mono ?_
    rintro e w7 ⟨rfl, b⟩
    replace P := Lib.hid (P.out.below b)
    replace Q := Lib.hid (Q.out.below b)
    replace RA := Lib.hid (RA.out.below b)
    replace RB := Lib.hid (RB.out.below b)
    replace RC := Lib.hid (RC.out.below b)
    replace RD := Lib.hid (RD.out.below b)
    replace RE := Lib.hid (RE.out.below b)
    replace RF := Lib.hid (RF.out.below b)
    replace B := Lib.hid (B.out.trans (b.mono B.out.size))
    clear b
    go_wp2_with fail
    refine (CY.out _ _ _ _ _ RC.out RD.out).mono ?_
    rintro e w8 ⟨rfl, b⟩
    replace P := Lib.hid (P.out.below b)
    replace Q := Lib.hid (Q.out.below b)
    replace RA := Lib.hid (RA.out.below b)
    replace RB := Lib.hid (RB.out.below b)
    replace RC := Lib.hid (RC.out.below b)
    replace RD := Lib.hid (RD.out.below b)
    replace RE := Lib.hid (RE.out.below b)
    replace RF := Lib.hid (RF.out.below b)
    replace B := Lib.hid (B.out.trans (b.mono B.out.size))
    clear b
    go_wp2_with fail
    refine (CZ.out _ _ _ _ _ RE.out RF.out).mono ?_
    rintro e w9 ⟨rfl, b⟩
    replace P := Lib.hid (P.out.below b)
    replace Q := Lib.hid (Q.out.below b)
    replace RA := Lib.hid (RA.out.below b)
    replace RB := Lib.hid (RB.out.below b)
    replace RC := Lib.hid (RC.out.below b)
    replace RD := Lib.hid (RD.out.below b)
    replace RE := Lib.hid (RE.out.below b)
    replace RF := Lib.hid (RF.out.below b)
    replace B := Lib.hid (B.out.trans (b.mono B.out.size))
    clear b
    go_wp2_with fail
    refine (CR.out _ P.out Q.out).mono ?_
    rintro e w10 ⟨rfl, b⟩
    replace P := Lib.hid (P.out.below b)
    replace Q := Lib.hid (Q.out.below b)
    replace RA := Lib.hid (RA.out.below b)
    replace RB := Lib.hid (RB.out.below b)
    replace RC := Lib.hid (RC.out.below b)
    replace RD := Lib.hid (RD.out.below b)
    replace RE := Lib.hid (RE.out.below b)
    replace RF := Lib.hid (RF.out.below b)
    replace B := Lib.hid (B.out.trans (b.mono B.out.size))
    clear b
    go_wp2_with fail
    refine (CQ.out _ P.out Q.out).mono ?_
    rintro e w11 ⟨rfl, b⟩
    replace P := Lib.hid (P.out.below b)
    replace Q := Lib.hid (Q.out.below b)
    replace RA := Lib.hid (RA.out.below b)
    replace RB := Lib.hid (RB.out.below b)
    replace RC := Lib.hid (RC.out.below b)
    replace RD := Lib.hid (RD.out.below b)
    replace RE := Lib.hid (RE.out.below b)
    replace RF := Lib.hid (RF.out.below b)
    replace B := Lib.hid (B.out.trans (b.mono B.out.size))
    clear b
    go_wp2_with fail
    go_ret
    exact ⟨rfl, B.out⟩
end Go.Proofs.YtfmnnbeegfjnaaaGreat.Od

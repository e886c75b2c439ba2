/- The walk of lives. The law SkewParts. -/
import Derived.Test.YtonlbcibfbbpgaaSkPT
import Derived.Test.YtonlbcibfbbpgaaSameN
namespace Go.Proofs.Ytonlbcibfbbpgaa.Sk
open Go.RowKit Go.Lib Rw Ls Od _root_.Go.Proofs.Ytonlbcibfbbpgaa.Nm

theorem same_at {w : World} {M N : List Nat} {p q : Option Addr} {c d m n : Nat} (hm : M.length = m) (hn : N.length = n) (hp : Rd w p (zs (up M))) (hq : Rd w q (zs (up N))) (hx : m ≤ 17592186044416) (hy : n ≤ 17592186044416) :
    Calls Try.prog 13 #[.slice p m c, .slice q n d] w fun e w' => e = .returned (.bool (decide (M = N))) ∧ Below w.heap.size w w' := by
  have h := samenum_any (up M) (up N) p q c d w hp hq (by rw [up_length]; omega) (by rw [up_length]; omega)
  have e : decide (up M = up N) = decide (M = N) := by
    by_cases h : M = N
    · rw [h]; simp
    · rw [decide_eq_false h, decide_eq_false (fun h2 => h (up_inj h2))]
  rw [up_length, up_length, hm, hn, e] at h
  exact h.mono fun e w' ⟨h1, j, h2⟩ => ⟨h1, by rw [h2]; exact below_drewN (Below.refl _ _) j⟩
/-- rows, and an error's number; how many a number -/
def TrQ (W : World) (n : Nat) (M : List (List Nat)) (r : Int) (e : Ending) (w' : World) : Prop := ∃ (q : Option Addr) (c : Nat), e = .returned (.tuple #[.slice q n c, .int .i64 r]) ∧ n ≤ c ∧ RecsAt w' q M ∧ Below W.heap.size W w'
theorem trq_of {W : World} {n : Nat} {M : List (List Nat)} {r : Int} (h : M.length = n) {f : FuncId} {a : Array Value} {P : Program} (hc : Calls P f a W (TrP W M r)) : Calls P f a W (TrQ W n M r) :=
  hc.mono fun _ _ ⟨q, c, e, h1, h2, h4⟩ => ⟨q, c, by rw [e, h], by rw [← h]; exact h1, h2, h4⟩
def RdQ (W : World) (n : Nat) (L : List Nat) (m : Nat) (r : Int) (e : Ending) (w' : World) : Prop := ∃ (q : Option Addr) (c : Nat), e = .returned (.tuple #[.slice q n c, .int .i64 (m : Nat), .int .i64 r]) ∧ n ≤ c ∧ Rd w' q (nums L) ∧ Below W.heap.size W w'
theorem rdq_of {W : World} {n : Nat} {L : List Nat} {m : Nat} {r : Int} (h : L.length = n) {f : FuncId} {a : Array Value} {P : Program} (hc : Calls P f a W (RdP W L m r)) : Calls P f a W (RdQ W n L m r) :=
  hc.mono fun _ _ ⟨q, c, e, h1, h2, h4⟩ => ⟨q, c, by rw [e, h], by rw [← h]; exact h1, h2, h4⟩
def eg : List Nat := [2, 1, 4, 1, 4, 1]
theorem smp_eg : smpL eg = [1, 4, 2, 5] ∧ smpE eg = 0 := ⟨by decide, by decide⟩
theorem tr_eg : trL eg = [[1, 4, 1], [4, 1, 0], [4, 1, 4], [1, 0, 0]] := by decide
theorem rd_eg : rdL eg = [2, 3, 4, 1] ∧ rdM eg = 4 := ⟨by decide, by decide⟩
theorem ends_eg : edL eg = [5, 3, 1, 0, 4, 2] := by decide
theorem ex_eg : exL eg (up [0, 3, 2, 1]) = [] ∧ exE eg (up [0, 3, 2, 1]) = 2 ∧ exL eg (up [0, 1, 2, 3]) = [] ∧ exE eg (up [0, 1, 2, 3]) = 2 := ⟨by decide, by decide, by decide, by decide⟩
theorem zs_lit (L : List Nat) (w : World) (t : TypeId) : Rd (w.alloc (.cells (zs (up L)).toArray t)) (some ⟨w.heap.size, 0, none⟩) (zs (up L)) := by
  have := Rd.new w (zs (up L)).toArray t
  simpa using this
theorem nums_lit (L : List Nat) (w : World) (t : TypeId) : Rd (w.alloc (.cells (nums L).toArray t)) (some ⟨w.heap.size, 0, none⟩) (nums L) := by
  have := Rd.new w (nums L).toArray t
  simpa using this
set_option maxHeartbeats 4000000 in
set_option maxRecDepth 100000 in
theorem lives_any (w : World) : Calls Try.prog 6 #[] w fun e w' => e = .returned (.bool true) ∧ Below w.heap.size w w' := by
  have CS : Hid (∀ q W, Rd W q (nums eg) → Calls Try.prog 7 #[.slice q 6 6] W (PLn W 4 [1, 4, 2, 5] 0)) := Lib.hid (fun q W h1 => by
    have h := psamples_any eg q 6 W h1 (by decide)
    rw [smp_eg.1, smp_eg.2] at h
    exact pln_of rfl h)
  have CT : Hid (∀ q W, Rd W q (nums eg) → Calls Try.prog 9 #[.slice q 6 6] W (TrQ W 4 [[1, 4, 1], [4, 1, 0], [4, 1, 4], [1, 0, 0]] 0)) := Lib.hid (fun q W h1 => by
    have h := ptriples_any eg q 6 W h1 (by decide)
    rw [tr_eg, smp_eg.2] at h
    exact trq_of rfl h)
  have CR : Hid (∀ q W, Rd W q (nums eg) → Calls Try.prog 11 #[.slice q 6 6] W (RdQ W 4 [2, 3, 4, 1] 4 0)) := Lib.hid (fun q W h1 => by
    have h := preduce_any eg q 6 W h1 (by decide)
    rw [rd_eg.1, rd_eg.2, smp_eg.2] at h
    exact rdq_of rfl h)
  have CE : Hid (∀ q W, Rd W q (nums eg) → Calls Try.prog 18 #[.slice q 6 6] W (PLn W 6 [5, 3, 1, 0, 4, 2] 0)) := Lib.hid (fun q W h1 => by
    have h := pends13_any eg q 6 W h1 (by decide) (by decide)
    rw [ends_eg, smp_eg.2] at h
    exact pln_of rfl h)
  have CX : Hid (∀ p q W, Rd W p (nums eg) → Rd W q (zs (up [0, 3, 2, 1])) → Calls Try.prog 20 #[.slice p 6 6, .slice q 4 4] W (PLn W 0 [] 2)) := Lib.hid (fun p q W h1 h2 => by
    have h := pexpand_any eg (up [0, 3, 2, 1]) p q 6 4 W h1 h2 (by decide) (by decide) (by decide)
    rw [ex_eg.1, ex_eg.2.1] at h
    exact pln_of rfl h)
  have CY : Hid (∀ p q W, Rd W p (nums eg) → Rd W q (zs (up [0, 1, 2, 3])) → Calls Try.prog 20 #[.slice p 6 6, .slice q 4 4] W (PLn W 0 [] 2)) := Lib.hid (fun p q W h1 h2 => by
    have h := pexpand_any eg (up [0, 1, 2, 3]) p q 6 4 W h1 h2 (by decide) (by decide) (by decide)
    rw [ex_eg.2.2.1, ex_eg.2.2.2] at h
    exact pln_of rfl h)
  have CK : Hid (∀ q W, Rd W q (nums [0]) → Calls Try.prog 16 #[.slice q 1 1] W fun e w' => e = .returned (.int .i64 1) ∧ Below W.heap.size W w') := Lib.hid (fun q W h1 => pcheckb_any [0] q 1 W h1 (by decide))
  have CM : Hid (∀ (L : List Nat) (n : Nat), L.length = n → n ≤ 6 → ∀ p c q d W, Rd W p (zs (up L)) → Rd W q (zs (up L)) → Calls Try.prog 13 #[.slice p n c, .slice q n d] W fun e w' => e = .returned (.bool true) ∧ Below W.heap.size W w') := Lib.hid (fun L n hl hn p c q d W h1 h2 => by
    have h := same_at (c := c) (d := d) hl hl h1 h2 (by omega) (by omega)
    rw [decide_eq_true rfl] at h
    exact h)
  have B : Hid (Below w.heap.size w w) := Lib.hid (Below.refl _ _)
  go_enter Try.func6, Try.ntmps6
  go_wp2_with fail
  refine (CS.out _ _ (nums_lit [2, 1, 4, 1, 4, 1] _ _)).mono ?_
  rintro e w0 ⟨q1, c1, rfl, _, r1, b⟩
  have G : Hid (Rd w0 (some ⟨w.heap.size, 0, none⟩) (nums eg)) := Lib.hid ((nums_lit [2, 1, 4, 1, 4, 1] w 41).below b)
  replace B := Lib.hid ((B.out.alloc (Nat.le_refl _) _).trans (b.mono (B.out.alloc (Nat.le_refl _) _).size))
  have R1 := Lib.hid r1
  obtain ⟨gg, hgg⟩ : ∃ gg, gg = w.heap.size := ⟨_, rfl⟩
  rw [← hgg] at G ⊢
  have HGG := Lib.hid hgg
  clear b r1 hgg
  go_wp2_with fail
  refine (CT.out _ _ G.out).mono ?_
  rintro e w1 ⟨q2, c2, rfl, _, r2, b⟩
  replace G := Lib.hid (G.out.below b)
  replace R1 := Lib.hid (R1.out.below b)
  replace B := Lib.hid (B.out.trans (b.mono B.out.size))
  have R2 := Lib.hid r2
  clear b r2
  go_wp2_with fail
  refine (CR.out _ _ G.out).mono ?_
  rintro e w2 ⟨q3, c3, rfl, _, r3, b⟩
  replace G := Lib.hid (G.out.below b)
  replace R1 := Lib.hid (R1.out.below b)
  replace R2 := Lib.hid (R2.out.below b)
  replace B := Lib.hid (B.out.trans (b.mono B.out.size))
  have R3 := Lib.hid r3
  clear b r3
  go_wp2_with fail
  refine (CE.out _ _ G.out).mono ?_
  rintro e w3 ⟨q4, c4, rfl, _, r4, b⟩
  replace G := Lib.hid (G.out.below b)
  replace R1 := Lib.hid (R1.out.below b)
  replace R2 := Lib.hid (R2.out.below b)
  replace R3 := Lib.hid (R3.out.below b)
  replace B := Lib.hid (B.out.trans (b.mono B.out.size))
  have R4 := Lib.hid r4
  clear b r4
  go_wp2_with fail
  refine (CX.out _ _ _ (G.out.alloc _) (zs_lit [0, 3, 2, 1] _ _)).mono ?_
  rintro e w4 ⟨q5, c5, rfl, _, _, b⟩
  replace G := Lib.hid ((G.out.alloc _).below b)
  replace R1 := Lib.hid ((R1.out.alloc _).below b)
  replace R2 := Lib.hid ((R2.out.alloc _).below b)
  replace R3 := Lib.hid ((R3.out.alloc _).below b)
  replace R4 := Lib.hid ((R4.out.alloc _).below b)
  replace B := Lib.hid ((B.out.alloc (B.out.size) _).trans (b.mono (B.out.alloc (B.out.size) _).size))
  clear b
  go_wp2_with fail
  refine (CY.out _ _ _ (G.out.alloc _) (zs_lit [0, 1, 2, 3] _ _)).mono ?_
  rintro e w5 ⟨q6, c6, rfl, _, _, b⟩
  replace G := Lib.hid ((G.out.alloc _).below b)
  replace R1 := Lib.hid ((R1.out.alloc _).below b)
  replace R2 := Lib.hid ((R2.out.alloc _).below b)
  replace R3 := Lib.hid ((R3.out.alloc _).below b)
  replace R4 := Lib.hid ((R4.out.alloc _).below b)
  replace B := Lib.hid ((B.out.alloc (B.out.size) _).trans (b.mono (B.out.alloc (B.out.size) _).size))
  clear b
  go_wp2_with fail
  refine (CM.out [1, 4, 2, 5] 4 rfl (by decide) _ _ _ _ _ (R1.out.alloc _) (zs_lit [1, 4, 2, 5] _ _)).mono ?_
  rintro e w6 ⟨rfl, b⟩
  replace G := Lib.hid ((G.out.alloc _).below b)
  replace R1 := Lib.hid ((R1.out.alloc _).below b)
  replace R2 := Lib.hid ((R2.out.alloc _).below b)
  replace R3 := Lib.hid ((R3.out.alloc _).below b)
  replace R4 := Lib.hid ((R4.out.alloc _).below b)
  replace B := Lib.hid ((B.out.alloc (B.out.size) _).trans (b.mono (B.out.alloc (B.out.size) _).size))
  clear b
  obtain ⟨a2, qt, ct, rfl, _, l2, rt, _⟩ := R2.out 3 (by decide)
  obtain ⟨at_, rfl, k0⟩ := rd_num rt 0 (by decide)
  obtain ⟨at2, e2, k1⟩ := rd_num rt 1 (by decide)
  cases e2
  obtain ⟨a3, rfl, m0⟩ := rd_num R3.out 0 (by decide)
  obtain ⟨a3b, e3, m1⟩ := rd_num R3.out 1 (by decide)
  cases e3
  obtain ⟨a3c, e3, m2⟩ := rd_num R3.out 2 (by decide)
  cases e3
  obtain ⟨a3d, e3, m3⟩ := rd_num R3.out 3 (by decide)
  cases e3
  have L2 : w6.cell? ⟨a2.block, a2.off + 3, none⟩ = some (.slice (some at_) 3 ct) := l2
  have K0 : w6.cell? at_ = some (.int .u64 1) := k0
  have K1 : w6.cell? ⟨at_.block, at_.off + 1, none⟩ = some (.int .u64 0) := k1
  have M0 : w6.cell? a3 = some (.int .u64 2) := m0
  have M1 : w6.cell? ⟨a3.block, a3.off + 1, none⟩ = some (.int .u64 3) := m1
  have M2 : w6.cell? ⟨a3.block, a3.off + 2, none⟩ = some (.int .u64 4) := m2
  have M3 : w6.cell? ⟨a3.block, a3.off + 3, none⟩ = some (.int .u64 1) := m3
  clear l2 rt k0 k1 m0 m1 m2 m3
  go_wp2_with fail
  clear L2 K0 K1 M0 M1 M2 M3
  refine (CM.out [5, 3, 1, 0, 4, 2] 6 rfl (by decide) _ _ _ _ _ (R4.out.alloc _) (zs_lit [5, 3, 1, 0, 4, 2] _ _)).mono ?_
  rintro e w7 ⟨rfl, b⟩
  replace G := Lib.hid ((G.out.alloc _).below b)
  replace R4 := Lib.hid ((R4.out.alloc _).below b)
  replace B := Lib.hid ((B.out.alloc (B.out.size) _).trans (b.mono (B.out.alloc (B.out.size) _).size))
  clear b
  go_wp2_with fail
  refine (CK.out _ _ (nums_lit [0] _ _)).mono ?_
  rintro e w8 ⟨rfl, b⟩
  replace B := Lib.hid ((B.out.alloc (B.out.size) _).trans (b.mono (B.out.alloc (B.out.size) _).size))
  clear b
  go_wp2_with fail
  go_ret
  exact ⟨rfl, B.out⟩
end Go.Proofs.Ytonlbcibfbbpgaa.Sk
namespace Go.Proofs.Ytonlbcibfbbpgaa.Sk
open Go.RowKit Go.Lib Rw Ls Od _root_.Go.Proofs.Ytonlbcibfbbpgaa.Nm

theorem smpL_le (l : List Nat) : (smpL l).length ≤ 10000 := by
  unfold smpL
  split
  · rename_i h
    have := ok_len h
    rw [places_length]; have := mm_le l.length; omega
  · simp
theorem trL_le (l : List Nat) : (trL l).length ≤ 10000 := by
  unfold trL
  split
  · rename_i h
    have := ok_len h
    rw [trips_length]; have := mm_le l.length; omega
  · simp
theorem rdL_le (l : List Nat) : (rdL l).length ≤ 10000 := by
  unfold rdL
  split
  · rename_i h
    have := ok_len h
    rw [red_length]; have := mm_le l.length; omega
  · simp
theorem parts_lives (n : Nat) (p : Option Addr) (c : Nat) (w : World) (h1 : 60 < n) (h2 : n ≤ 4096) :
    Calls Try.prog 3 #[.slice p n c] w fun e w' => e = .returned (.bool true) ∧ Below w.heap.size w w' := by
  have CL := Lib.hid (fun W => lives_any W)
  have t1 : decide ((60 : Int) < (n : Int)) = true := decide_eq_true (by omega)
  have t2 : decide ((n : Int) ≤ 4096) = true := decide_eq_true (by omega)
  have t3 : decide (60 < n) = true := decide_eq_true h1
  have t4 : decide (n ≤ 4096) = true := decide_eq_true h2
  clear h1 h2
  go_enter Try.func3, Try.ntmps3
  go_wp2_with fail
  refine (CL.out _).mono ?_
  rintro e w1 ⟨rfl, b⟩
  have B := Lib.hid b
  clear b
  go_wp2_with fail
  go_ret
  exact ⟨rfl, B.out⟩
set_option maxHeartbeats 4000000 in
set_option maxRecDepth 100000 in
theorem parts_law (l : List Nat) (p : Option Addr) (c : Nat) (w : World) (hp : Rd w p (nums l)) (hl : l.length ≤ 17592186044416) :
    Calls Try.prog 3 #[.slice p l.length c] w fun e w' => e = .returned (.bool true) ∧ Below w.heap.size w w' := by
  by_cases hc : 60 < l.length ∧ l.length ≤ 4096
  · exact parts_lives _ p c w hc.1 hc.2
  obtain ⟨S, m1, r1, hS, hS1, CA0, CB0⟩ : ∃ (S : List Nat) (m1 : Nat) (r1 : Int), S.length = m1 ∧ m1 ≤ 17592186044416 ∧ (∀ W, Rd W p (nums l) → Calls Try.prog 7 #[.slice p l.length c] W (PLn W m1 S r1)) ∧ (∀ W, Rd W p (nums l) → Calls Try.prog 8 #[.slice p l.length c] W (PLn W m1 S r1)) :=
    ⟨smpL l, _, smpE l, rfl, by have := smpL_le l; omega, fun W h => pln_of rfl (psamples_any l p c W h hl), fun W h => pln_of rfl (rsamples_any l p c W h hl)⟩
  obtain ⟨T, m2, r2, hT, hT1, CC0, CD0⟩ : ∃ (T : List (List Nat)) (m2 : Nat) (r2 : Int), T.length = m2 ∧ m2 ≤ 17592186044416 ∧ (∀ W, Rd W p (nums l) → Calls Try.prog 9 #[.slice p l.length c] W (TrQ W m2 T r2)) ∧ (∀ W, Rd W p (nums l) → Calls Try.prog 10 #[.slice p l.length c] W (TrQ W m2 T r2)) :=
    ⟨trL l, _, smpE l, rfl, by have := trL_le l; omega, fun W h => trq_of rfl (ptriples_any l p c W h hl), fun W h => trq_of rfl (rtriples_any l p c W h hl)⟩
  obtain ⟨R, m3, mn, r3, hR, hR1, CE0, CF0⟩ : ∃ (R : List Nat) (m3 mn : Nat) (r3 : Int), R.length = m3 ∧ m3 ≤ 17592186044416 ∧ (∀ W, Rd W p (nums l) → Calls Try.prog 11 #[.slice p l.length c] W (RdQ W m3 R mn r3)) ∧ (∀ W, Rd W p (nums l) → Calls Try.prog 12 #[.slice p l.length c] W (RdQ W m3 R mn r3)) :=
    ⟨rdL l, _, rdM l, smpE l, rfl, by have := rdL_le l; omega, fun W h => rdq_of rfl (preduce_any l p c W h hl), fun W h => rdq_of rfl (rreduce_any l p c W h hl)⟩
  have CK0 : ∀ W, Rd W p (nums l) → Calls Try.prog 16 #[.slice p l.length c] W fun e w' => e = .returned (.int .i64 (chkS l)) ∧ Below W.heap.size W w' := fun W h => pcheckb_any l p c W h hl
  have CJ0 : ∀ W, Rd W p (nums l) → Calls Try.prog 17 #[.slice p l.length c] W fun e w' => e = .returned (.int .i64 (chkS l)) ∧ Below W.heap.size W w' := fun W h => (rchecks_any l p c W h hl).mono fun e w' ⟨h1, h2⟩ => ⟨h1, by rw [h2]; exact Below.refl _ _⟩
  have CX := Lib.hid (fun p c q d W (h1 : Rd W p (zs (up S))) (h2 : Rd W q (zs (up S))) => same_at (c := c) (d := d) hS hS h1 h2 (by omega) (by omega))
  have CY := Lib.hid (fun p c q d W (h1 : RecsAt W p T) (h2 : RecsAt W q T) => (same_any T T p q c d W h1 h2 (by omega) (by omega)).mono fun e w' (h : _ ∧ _) => (⟨h.1, by obtain ⟨j, h2⟩ := h.2; rw [h2]; exact below_drewN (Below.refl _ _) j⟩ : e = .returned (.bool (decide (T = T))) ∧ Below W.heap.size W w'))
  have CZ := Lib.hid (fun p c q d W (h1 : Rd W p (nums R)) (h2 : Rd W q (nums R)) => (sameOne_any R R p q c d W h1 h2 (by omega) (by omega)).mono fun e w' (h : _ ∧ _) => (⟨h.1, by obtain ⟨j, h2⟩ := h.2; rw [h2]; exact below_drewN (Below.refl _ _) j⟩ : e = .returned (.bool (decide (R = R))) ∧ Below W.heap.size W w'))
  rw [decide_eq_true rfl] at CX CY CZ
  rw [hT] at CY
  rw [hR] at CZ
  obtain ⟨n, hn⟩ : ∃ n, n = l.length := ⟨_, rfl⟩
  obtain ⟨r4, hr4⟩ : ∃ r4, r4 = chkS l := ⟨_, rfl⟩
  rw [← hn] at CA0 CB0 CC0 CD0 CE0 CF0 CK0 CJ0 hc ⊢
  rw [← hr4] at CK0 CJ0
  have CA := Lib.hid CA0; have CB := Lib.hid CB0; have CC := Lib.hid CC0; have CD := Lib.hid CD0; have CE := Lib.hid CE0; have CF := Lib.hid CF0; have CK := Lib.hid CK0; have CJ := Lib.hid CJ0
  have CL := Lib.hid (fun W => lives_any W)
  have P := Lib.hid hp
  have hor : (decide ((60 : Int) < (n : Int)) = false ∧ decide (60 < n) = false) ∨ (decide ((60 : Int) < (n : Int)) = true ∧ decide (60 < n) = true ∧ decide ((n : Int) ≤ 4096) = false ∧ decide (n ≤ 4096) = false) := by
    by_cases h : 60 < n
    · exact .inr ⟨decide_eq_true (by omega), decide_eq_true h, decide_eq_false (by omega), decide_eq_false (by omega)⟩
    · exact .inl ⟨decide_eq_false (by omega), decide_eq_false h⟩
  clear CA0 CB0 CC0 CD0 CE0 CF0 CK0 CJ0 hp hn hr4 hS hS1 hT hT1 hR hR1 hc hl
  rcases hor with ⟨t1, t2⟩ | ⟨t1, t2, t3, t4⟩
  all_goals
    have B : Hid (Below w.heap.size w w) := Lib.hid (Below.refl _ _)
    go_enter Try.func3, Try.ntmps3
    go_wp2_with fail
    refine (CA.out _ P.out).mono ?_
    rintro e w0 ⟨qa, ca, rfl, _, ra, b⟩
    replace P := Lib.hid (P.out.below b)
    replace B := Lib.hid (B.out.trans (b.mono B.out.size))
    have RA := Lib.hid ra
    clear b ra
    go_wp2_with fail
    refine (CB.out _ P.out).mono ?_
    rintro e w1 ⟨qb, cb, rfl, _, rb, b⟩
    replace P := Lib.hid (P.out.below b)
    replace RA := Lib.hid (RA.out.below b)
    replace B := Lib.hid (B.out.trans (b.mono B.out.size))
    have RB := Lib.hid rb
    clear b rb
    go_wp2_with fail
    refine (CC.out _ P.out).mono ?_
    rintro e w2 ⟨qc, cc, rfl, _, rc, b⟩
    replace P := Lib.hid (P.out.below b)
    replace RA := Lib.hid (RA.out.below b)
    replace RB := Lib.hid (RB.out.below b)
    replace B := Lib.hid (B.out.trans (b.mono B.out.size))
    have RC := Lib.hid rc
    clear b rc
    go_wp2_with fail
    refine (CD.out _ P.out).mono ?_
    rintro e w3 ⟨qd, cd, rfl, _, rd, b⟩
    replace P := Lib.hid (P.out.below b)
    replace RA := Lib.hid (RA.out.below b)
    replace RB := Lib.hid (RB.out.below b)
    replace RC := Lib.hid (RC.out.below b)
    replace B := Lib.hid (B.out.trans (b.mono B.out.size))
    have RD := Lib.hid rd
    clear b rd
    go_wp2_with fail
    refine (CE.out _ P.out).mono ?_
    rintro e w4 ⟨qe, ce, rfl, _, re, b⟩
    replace P := Lib.hid (P.out.below b)
    replace RA := Lib.hid (RA.out.below b)
    replace RB := Lib.hid (RB.out.below b)
    replace RC := Lib.hid (RC.out.below b)
    replace RD := Lib.hid (RD.out.below b)
    replace B := Lib.hid (B.out.trans (b.mono B.out.size))
    have RE := Lib.hid re
    clear b re
    go_wp2_with fail
    refine (CF.out _ P.out).mono ?_
    rintro e w5 ⟨qf, cf, rfl, _, rf, b⟩
    replace P := Lib.hid (P.out.below b)
    replace RA := Lib.hid (RA.out.below b)
    replace RB := Lib.hid (RB.out.below b)
    replace RC := Lib.hid (RC.out.below b)
    replace RD := Lib.hid (RD.out.below b)
    replace RE := Lib.hid (RE.out.below b)
    replace B := Lib.hid (B.out.trans (b.mono B.out.size))
    have RF := Lib.hid rf
    clear b rf
    go_wp2_with fail
    refine (CL.out _).mono ?_
    rintro e w6 ⟨rfl, b⟩
    replace P := Lib.hid (P.out.below b)
    replace RA := Lib.hid (RA.out.below b)
    replace RB := Lib.hid (RB.out.below b)
    replace RC := Lib.hid (RC.out.below b)
    replace RD := Lib.hid (RD.out.below b)
    replace RE := Lib.hid (RE.out.below b)
    replace RF := Lib.hid (RF.out.below b)
    replace B := Lib.hid (B.out.trans (b.mono B.out.size))
    clear b
    go_wp2_with fail
    refine (CX.out _ _ _ _ _ RA.out RB.out).mono ?_
    rintro e w7 ⟨rfl, b⟩
    replace P := Lib.hid (P.out.below b)
    replace RA := Lib.hid (RA.out.below b)
    replace RB := Lib.hid (RB.out.below b)
    replace RC := Lib.hid (RC.out.below b)
    replace RD := Lib.hid (RD.out.below b)
    replace RE := Lib.hid (RE.out.below b)
    replace RF := Lib.hid (RF.out.below b)
    replace B := Lib.hid (B.out.trans (b.mono B.out.size))
    clear b
    go_wp2_with fail
    refine (CY.out _ _ _ _ _ RC.out RD.out).mono ?_
    rintro e w8 ⟨rfl, b⟩
    replace P := Lib.hid (P.out.below b)
    replace RA := Lib.hid (RA.out.below b)
    replace RB := Lib.hid (RB.out.below b)
    replace RC := Lib.hid (RC.out.below b)
    replace RD := Lib.hid (RD.out.below b)
    replace RE := Lib.hid (RE.out.below b)
    replace RF := Lib.hid (RF.out.below b)
    replace B := Lib.hid (B.out.trans (b.mono B.out.size))
    clear b
    go_wp2_with fail
    refine (CZ.out _ _ _ _ _ RE.out RF.out).mono ?_
    rintro e w9 ⟨rfl, b⟩
    replace P := Lib.hid (P.out.below b)
    replace RA := Lib.hid (RA.out.below b)
    replace RB := Lib.hid (RB.out.below b)
    replace RC := Lib.hid (RC.out.below b)
    replace RD := Lib.hid (RD.out.below b)
    replace RE := Lib.hid (RE.out.below b)
    replace RF := Lib.hid (RF.out.below b)
    replace B := Lib.hid (B.out.trans (b.mono B.out.size))
    clear b
    go_wp2_with fail
    refine (CK.out _ P.out).mono ?_
    rintro e w10 ⟨rfl, b⟩
    replace P := Lib.hid (P.out.below b)
    replace RA := Lib.hid (RA.out.below b)
    replace RB := Lib.hid (RB.out.below b)
    replace RC := Lib.hid (RC.out.below b)
    replace RD := Lib.hid (RD.out.below b)
    replace RE := Lib.hid (RE.out.below b)
    replace RF := Lib.hid (RF.out.below b)
    replace B := Lib.hid (B.out.trans (b.mono B.out.size))
    clear b
    go_wp2_with fail
    refine (CJ.out _ P.out).mono ?_
    rintro e w11 ⟨rfl, b⟩
    replace P := Lib.hid (P.out.below b)
    replace RA := Lib.hid (RA.out.below b)
    replace RB := Lib.hid (RB.out.below b)
    replace RC := Lib.hid (RC.out.below b)
    replace RD := Lib.hid (RD.out.below b)
    replace RE := Lib.hid (RE.out.below b)
    replace RF := Lib.hid (RF.out.below b)
    replace B := Lib.hid (B.out.trans (b.mono B.out.size))
    clear b
    go_wp2_with fail
    go_ret
    exact ⟨rfl, B.out⟩
end Go.Proofs.Ytonlbcibfbbpgaa.Sk

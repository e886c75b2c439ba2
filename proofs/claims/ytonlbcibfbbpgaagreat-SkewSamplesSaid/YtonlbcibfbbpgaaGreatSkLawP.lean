/- The walk of lives. The law SkewParts. -/
import Derived.Test.YtonlbcibfbbpgaaGreatSkPT
import Derived.Test.YtonlbcibfbbpgaaGreatSameN
namespace Go.Proofs.YtonlbcibfbbpgaaGreat.Sk
open Go.RowKit Go.Lib Rw Ls Od _root_.Go.Proofs.YtonlbcibfbbpgaaGreat.Nm

theorem same_at {w : World} {M N : List Nat} {p q : Option Addr} {c d m n : Nat} (hm : M.length = m) (hn : N.length = n) (hp : Rd w p (zs (up M))) (hq : Rd w q (zs (up N))) (hx : m ≤ 17592186044416) (hy : n ≤ 17592186044416) :
    Calls Tryz.prog 13 #[.slice p m c, .slice q n d] w fun e w' => e = .returned (.bool (decide (M = N))) ∧ Below w.heap.size w w' := by
  have h := samenum_any (up M) (up N) p q c d w hp hq (by rw [up_length]; omega) (by rw [up_length]; omega)
  have e : decide (up M = up N) = decide (M = N) := by
    by_cases h : M = N
    · rw [h]; simp
    · rw [decide_eq_false h, decide_eq_false (fun h2 => h (up_inj h2))]
  rw [up_length, up_length, hm, hn, e] at h
  exact h.mono fun e w' ⟨h1, j, h2⟩ => ⟨h1, by rw [h2]; exact below_drewN (Below.refl _ _) j⟩
/-- rows, and an error's number; how many a number -/
def TrQ (W : World) (n : Nat) (M : List (List Nat)) (r : Int) (e : Ending) (w' : World) : Prop := ∃ (q : Option Addr) (c : Nat), e = .returned (.tuple #[.slice q n c, .int .i64 r]) ∧ n ≤ c ∧ RecsAt w' q M ∧ Below W.heap.size W w'
theorem trq_of {W : World} {n : Nat} {M : List (List Nat)} {r : Int} (h : M.length = n) {f : FuncId} {a : Array Value} {P : Program} (hc : Calls P f a W (TrP W M r)) : Calls P f a W (TrQ W n M r) :=
  hc.mono fun _ _ ⟨q, c, e, h1, h2, h4⟩ => ⟨q, c, by rw [e, h], by rw [← h]; exact h1, h2, h4⟩
def RdQ (W : World) (n : Nat) (L : List Nat) (m : Nat) (r : Int) (e : Ending) (w' : World) : Prop := ∃ (q : Option Addr) (c : Nat), e = .returned (.tuple #[.slice q n c, .int .i64 (m : Nat), .int .i64 r]) ∧ n ≤ c ∧ Rd w' q (nums L) ∧ Below W.heap.size W w'
theorem rdq_of {W : World} {n : Nat} {L : List Nat} {m : Nat} {r : Int} (h : L.length = n) {f : FuncId} {a : Array Value} {P : Program} (hc : Calls P f a W (RdP W L m r)) : Calls P f a W (RdQ W n L m r) :=
  hc.mono fun _ _ ⟨q, c, e, h1, h2, h4⟩ => ⟨q, c, by rw [e, h], by rw [← h]; exact h1, h2, h4⟩
def eg : List Nat := [2, 1, 4, 1, 4, 1]
theorem smp_eg : smpL eg = [1, 4, 2, 5] ∧ smpE eg = 0 := ⟨by decide, by decide⟩
theorem tr_eg : trL eg = [[1, 4, 1], [4, 1, 0], [4, 1, 4], [1, 0, 0]] := by decide
theorem rd_eg : rdL eg = [2, 3, 4, 1] ∧ rdM eg = 4 := ⟨by decide, by decide⟩
theorem ends_eg : edL eg = [5, 3, 1, 0, 4, 2] := by decide
theorem ex_eg : exL eg (up [0, 3, 2, 1]) = [] ∧ exE eg (up [0, 3, 2, 1]) = 2 ∧ exL eg (up [0, 1, 2, 3]) = [] ∧ exE eg (up [0, 1, 2, 3]) = 2 := ⟨by decide, by decide, by decide, by decide⟩
theorem zs_lit (L : List Nat) (w : World) (t : TypeId) : Rd (w.alloc (.cells (zs (up L)).toArray t)) (some ⟨w.heap.size, 0, none⟩) (zs (up L)) := by
  have := Rd.new w (zs (up L)).toArray t
  simpa using this
theorem nums_lit (L : List Nat) (w : World) (t : TypeId) : Rd (w.alloc (.cells (nums L).toArray t)) (some ⟨w.heap.size, 0, none⟩) (nums L) := by
  have := Rd.new w (nums L).toArray t
  simpa using this
set_option maxHeartbeats 4000000 in
set_option maxRecDepth 100000 in
theorem lives_any (w : World) : Calls Tryz.prog 4 #[] w fun e w' => e = .returned (.bool true) ∧ Below w.heap.size w w' := by
  have CS : Hid (∀ q W, Rd W q (nums eg) → Calls Tryz.prog 6 #[.slice q 6 6] W (PLn W 4 [1, 4, 2, 5] 0)) := Lib.hid (fun q W h1 => by
    have h := psamples_any eg q 6 W h1 (by decide)
    rw [smp_eg.1, smp_eg.2] at h
    exact pln_of rfl h)
  have CT : Hid (∀ q W, Rd W q (nums eg) → Calls Tryz.prog 11 #[.slice q 6 6] W (TrQ W 4 [[1, 4, 1], [4, 1, 0], [4, 1, 4], [1, 0, 0]] 0)) := Lib.hid (fun q W h1 => by
    have h := ptriples_any eg q 6 W h1 (by decide)
    rw [tr_eg, smp_eg.2] at h
    exact trq_of rfl h)
  have CR : Hid (∀ q W, Rd W q (nums eg) → Calls Tryz.prog 5 #[.slice q 6 6] W (RdQ W 4 [2, 3, 4, 1] 4 0)) := Lib.hid (fun q W h1 => by
    have h := preduce_any eg q 6 W h1 (by decide)
    rw [rd_eg.1, rd_eg.2, smp_eg.2] at h
    exact rdq_of rfl h)
  have CE : Hid (∀ q W, Rd W q (nums eg) → Calls Tryz.prog 12 #[.slice q 6 6] W (PLn W 6 [5, 3, 1, 0, 4, 2] 0)) := Lib.hid (fun q W h1 => by
    have h := pends13_any eg q 6 W h1 (by decide) (by decide)
    rw [ends_eg, smp_eg.2] at h
    exact pln_of rfl h)
  have CX : Hid (∀ p q W, Rd W p (nums eg) → Rd W q (zs (up [0, 3, 2, 1])) → Calls Tryz.prog 8 #[.slice p 6 6, .slice q 4 4] W (PLn W 0 [] 2)) := Lib.hid (fun p q W h1 h2 => by
    have h := pexpand_any eg (up [0, 3, 2, 1]) p q 6 4 W h1 h2 (by decide) (by decide) (by decide)
    rw [ex_eg.1, ex_eg.2.1] at h
    exact pln_of rfl h)
  have CY : Hid (∀ p q W, Rd W p (nums eg) → Rd W q (zs (up [0, 1, 2, 3])) → Calls Tryz.prog 8 #[.slice p 6 6, .slice q 4 4] W (PLn W 0 [] 2)) := Lib.hid (fun p q W h1 h2 => by
    have h := pexpand_any eg (up [0, 1, 2, 3]) p q 6 4 W h1 h2 (by decide) (by decide) (by decide)
    rw [ex_eg.2.2.1, ex_eg.2.2.2] at h
    exact pln_of rfl h)
  have CK : Hid (∀ q W, Rd W q (nums [0]) → Calls Tryz.prog 14 #[.slice q 1 1] W fun e w' => e = .returned (.int .i64 1) ∧ Below W.heap.size W w') := Lib.hid (fun q W h1 => pcheckb_any [0] q 1 W h1 (by decide))
  have CM : Hid (∀ (L : List Nat) (n : Nat), L.length = n → n ≤ 6 → ∀ p c q d W, Rd W p (zs (up L)) → Rd W q (zs (up L)) → Calls Tryz.prog 13 #[.slice p n c, .slice q n d] W fun e w' => e = .returned (.bool true) ∧ Below W.heap.size W w') := Lib.hid (fun L n hl hn p c q d W h1 h2 => by
    have h := same_at (c := c) (d := d) hl hl h1 h2 (by omega) (by omega)
    rw [decide_eq_true rfl] at h
    exact h)
  have B : Hid (Below w.heap.size w w) := Lib.hid (Below.refl _ _)
  go_enter Tryz.func4, Tryz.ntmps4
  go_wp2_with fail
  refine (CS.out _ _ (nums_lit [2, 1, 4, 1, 4, 1] _ _)).mono ?_
  rintro e w0 ⟨q1, c1, rfl, _, r1, b⟩
  have G : Hid (Rd w0 (some ⟨w.heap.size, 0, none⟩) (nums eg)) := Lib.hid ((nums_lit [2, 1, 4, 1, 4, 1] w 34).below b)
  replace B := Lib.hid ((B.out.alloc (Nat.le_refl _) _).trans (b.mono (B.out.alloc (Nat.le_refl _) _).size))
  have R1 := Lib.hid r1
  obtain ⟨gg, hgg⟩ : ∃ gg, gg = w.heap.size := ⟨_, rfl⟩
  rw [← hgg] at G ⊢
  have HGG := Lib.hid hgg
  clear b r1 hgg
  go_wp2_with fail
  refine (CT.out _ _ G.out).mono ?_
  rintro e w1 ⟨q2, c2, rfl, _, r2, b⟩
  replace G := Lib.hid (G.out.below b)
  replace R1 := Lib.hid (R1.out.below b)
  replace B := Lib.hid (B.out.trans (b.mono B.out.size))
  have R2 := Lib.hid r2
  clear b r2
  go_wp2_with fail
  refine (CR.out _ _ G.out).mono ?_
  rintro e w2 ⟨q3, c3, rfl, _, r3, b⟩
  replace G := Lib.hid (G.out.below b)
  replace R1 := Lib.hid (R1.out.below b)
  replace R2 := Lib.hid (R2.out.below b)
  replace B := Lib.hid (B.out.trans (b.mono B.out.size))
  have R3 := Lib.hid r3
  clear b r3
  go_wp2_with fail
  refine (CE.out _ _ G.out).mono ?_
  rintro e w3 ⟨q4, c4, rfl, _, r4, b⟩
  replace G := Lib.hid (G.out.below b)
  replace R1 := Lib.hid (R1.out.below b)
  replace R2 := Lib.hid (R2.out.below b)
  replace R3 := Lib.hid (R3.out.below b)
  replace B := Lib.hid (B.out.trans (b.mono B.out.size))
  have R4 := Lib.hid r4
  clear b r4
  go_wp2_with fail
  refine (CX.out _ _ _ (G.out.alloc _) (zs_lit [0, 3, 2, 1] _ _)).mono ?_
  rintro e w4 ⟨q5, c5, rfl, _, _, b⟩
  replace G := Lib.hid ((G.out.alloc _).below b)
  replace R1 := Lib.hid ((R1.out.alloc _).below b)
  replace R2 := Lib.hid ((R2.out.alloc _).below b)
  replace R3 := Lib.hid ((R3.out.alloc _).below b)
  replace R4 := Lib.hid ((R4.out.alloc _).below b)
  replace B := Lib.hid ((B.out.alloc (B.out.size) _).trans (b.mono (B.out.alloc (B.out.size) _).size))
  clear b
  go_wp2_with fail
  refine (CY.out _ _ _ (G.out.alloc _) (zs_lit [0, 1, 2, 3] _ _)).mono ?_
  rintro e w5 ⟨q6, c6, rfl, _, _, b⟩
  replace G := Lib.hid ((G.out.alloc _).below b)
  replace R1 := Lib.hid ((R1.out.alloc _).below b)
  replace R2 := Lib.hid ((R2.out.alloc _).below b)
  replace R3 := Lib.hid ((R3.out.alloc _).below b)
  replace R4 := Lib.hid ((R4.out.alloc _).below b)
  replace B := Lib.hid ((B.out.alloc (B.out.size) _).trans (b.mono (B.out.alloc (B.out.size) _).size))
  clear b
  go_wp2_with fail
  refine (CM.out [1, 4, 2, 5] 4 rfl (by decide) _ _ _ _ _ (R1.out.alloc _) (zs_lit [1, 4, 2, 5] _ _)).mono ?_
  rintro e w6 ⟨rfl, b⟩
  replace G := Lib.hid ((G.out.alloc _).below b)
  replace R1 := Lib.hid ((R1.out.alloc _).below b)
  replace R2 := Lib.hid ((R2.out.alloc _).below b)
  replace R3 := Lib.hid ((R3.out.alloc _).below b)
  replace R4 := Lib.hid ((R4.out.alloc _).below b)
  replace B := Lib.hid ((B.out.alloc (B.out.size) _).trans (b.mono (B.out.alloc (B.out.size) _).size))
  clear b
  obtain ⟨a2, qt, ct, rfl, _, l2, rt, _⟩ := R2.out 3 (by decide)
  obtain ⟨at_, rfl, k0⟩ := rd_num rt 0 (by decide)
  obtain ⟨at2, e2, k1⟩ := rd_num rt 1 (by decide)
  cases e2
  obtain ⟨a3, rfl, m0⟩ := rd_num R3.out 0 (by decide)
  obtain ⟨a3b, e3, m1⟩ := rd_num R3.out 1 (by decide)
  cases e3
  obtain ⟨a3c, e3, m2⟩ := rd_num R3.out 2 (by decide)
  cases e3
  obtain ⟨a3d, e3, m3⟩ := rd_num R3.out 3 (by decide)
  cases e3
  have L2 : w6.cell? ⟨a2.block, a2.off + 3, none⟩ = some (.slice (some at_) 3 ct) := l2
  have K0 : w6.cell? at_ = some (.int .u64 1) := k0
  have K1 : w6.cell? ⟨at_.block, at_.off + 1, none⟩ = some (.int .u64 0) := k1
  have M0 : w6.cell? a3 = some (.int .u64 2) := m0
  have M1 : w6.cell? ⟨a3.block, a3.off + 1, none⟩ = some (.int .u64 3) := m1
  have M2 : w6.cell? ⟨a3.block, a3.off + 2, none⟩ = some (.int .u64 4) := m2
  have M3 : w6.cell? ⟨a3.block, a3.off + 3, none⟩ = some (.int .u64 1) := m3
  clear l2 rt k0 k1 m0 m1 m2 m3
  go_wp2_with fail
  clear L2 K0 K1 M0 M1 M2 M3
  refine (CM.out [5, 3, 1, 0, 4, 2] 6 rfl (by decide) _ _ _ _ _ (R4.out.alloc _) (zs_lit [5, 3, 1, 0, 4, 2] _ _)).mono ?_
  rintro e w7 ⟨rfl, b⟩
  replace G := Lib.hid ((G.out.alloc _).below b)
  replace R4 := Lib.hid ((R4.out.alloc _).below b)
  replace B := Lib.hid ((B.out.alloc (B.out.size) _).trans (b.mono (B.out.alloc (B.out.size) _).size))
  clear b
  go_wp2_with fail
  refine (CK.out _ _ (nums_lit [0] _ _)).mono ?_
  rintro e w8 ⟨rfl, b⟩
  replace B := Lib.hid ((B.out.alloc (B.out.size) _).trans (b.mono (B.out.alloc (B.out.size) _).size))
  clear b
  go_wp2_with fail
  go_ret
  exact ⟨rfl, B.out⟩
end Go.Proofs.YtonlbcibfbbpgaaGreat.Sk
namespace Go.Proofs.YtonlbcibfbbpgaaGreat.Sk
open Go.RowKit Go.Lib Rw Ls Od _root_.Go.Proofs.YtonlbcibfbbpgaaGreat.Nm

theorem smpL_le (l : List Nat) : (smpL l).length ≤ 10000 := by
  unfold smpL
  split
  · rename_i h
    have := ok_len h
    rw [places_length]; have := mm_le l.length; omega
  · simp
theorem trL_le (l : List Nat) : (trL l).length ≤ 10000 := by
  unfold trL
  split
  · rename_i h
    have := ok_len h
    rw [trips_length]; have := mm_le l.length; omega
  · simp
theorem rdL_le (l : List Nat) : (rdL l).length ≤ 10000 := by
  unfold rdL
  split
  · rename_i h
    have := ok_len h
    rw [red_length]; have := mm_le l.length; omega
  · simp
end Go.Proofs.YtonlbcibfbbpgaaGreat.Sk

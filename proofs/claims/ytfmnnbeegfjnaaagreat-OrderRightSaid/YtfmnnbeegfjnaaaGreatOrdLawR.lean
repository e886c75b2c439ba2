/- The law OrderRight. -/
import Derived.Test.YtfmnnbeegfjnaaaGreatOrdLives
namespace Go.Proofs.YtfmnnbeegfjnaaaGreat.Od
open Go.RowKit Go.Lib Rw Ls _root_.Go.Proofs.YtfmnnbeegfjnaaaGreat.Nm

theorem add_ne {a : Addr} {i k : Nat} (h : i ≠ k) : a.add i ≠ a.add k := by
  intro e
  have h1 : ∀ n, (a.add n).off = a.off + n := fun n => by unfold Addr.add; split <;> simp_all
  have := congrArg Addr.off e
  rw [h1, h1] at this
  omega
theorem rd_store {w : World} {a : Addr} {xs : List Value} (h : Rd w (some a) xs) {k : Nat} (hk : k < xs.length) (v : Value) : Rd (w.setCell (a.add k) v) (some a) (xs.set k v) := fun i hi => by
  rw [List.length_set] at hi
  obtain ⟨a', e, hl, hc⟩ := h i hi
  cases e
  refine ⟨a, rfl, by simpa using hl, ?_⟩
  by_cases e : i = k
  · subst e
    rw [World.cell?_setCell_same' _ _ _ (by rw [hc]; rfl)]
    simp [List.getD_eq_getElem?_getD, hi]
  · rw [World.cell?_setCell_other w _ _ v (add_ne (fun h => e h.symm)), hc]
    simp [List.getD_eq_getElem?_getD, List.getElem?_set_ne (fun h => e h.symm)]
theorem right_swap {l : List Nat} {i j : Nat} (hi : i < l.length) (hj : j < l.length) (h : i ≠ j) : right l (up (((ends l).set i ((ends l).getD j 0)).set j ((ends l).getD i 0))) = false := by
  cases hr : right l (up (((ends l).set i ((ends l).getD j 0)).set j ((ends l).getD i 0))) with
  | false => rfl
  | true => exact absurd (up_inj (right_iff.1 hr)) (swap_ne hi hj h)
theorem right_big (n : Nat) (p : Option Addr) (c : Nat) (i j : Int) (w : World) (h : 300 < n) (m : Nat) (M : List Nat) (r : Int) (hr : r = 0 ∨ r = 1)
    (hC : ∀ W, Below w.heap.size w W → Calls Tryz.prog 10 #[.slice p n c] W (Pl W m M r)) :
    Calls Tryz.prog 7 #[.slice p n c, .int .i64 i, .int .i64 j] w fun e w' => e = .returned (.bool true) ∧ Below w.heap.size w w' := by
  have CL := Lib.hid (fun W => lives_any W)
  have CE := Lib.hid hC
  have t1 : decide ((300 : Int) < (n : Int)) = true := decide_eq_true (by omega)
  have t3 : decide (300 < n) = true := decide_eq_true h
  clear h hC
  rcases hr with rfl | rfl
  all_goals
    go_enter Tryz.func7, Tryz.ntmps7
    go_wp2_with fail
    refine (CL.out _).mono ?_
    rintro e w1 ⟨rfl, b⟩
    have B := Lib.hid b
    clear b
    go_wp2_with fail
    refine (CE.out _ B.out).mono ?_
    rintro e w2 ⟨q2, c2, rfl, _, _, b⟩
    replace B := Lib.hid (B.out.trans (b.mono B.out.size))
    clear b
    go_wp2_with fail
    go_ret
    exact ⟨rfl, B.out⟩
/-- places and their owner -/
def Pf (W : World) (n : Nat) (L : List Nat) (e : Ending) (w' : World) : Prop := ∃ (q : Option Addr) (c : Nat), e = .returned (.tuple #[.slice q n c, .int .i64 0]) ∧ Rd w' q (zs (up L)) ∧ NewAt W.heap.size q ∧ Fz w' q n ∧ Below W.heap.size W w'
set_option maxHeartbeats 8000000 in
set_option maxRecDepth 100000 in
theorem right_law (l : List Nat) (p : Option Addr) (c : Nat) (i j : Int) (w : World) (hp : Rd w p (nums l)) (hlc : l.length ≤ c) (hl : l.length ≤ 17592186044416) :
    Calls Tryz.prog 7 #[.slice p l.length c, .int .i64 i, .int .i64 j] w fun e w' => e = .returned (.bool true) ∧ Below w.heap.size w w' := by
  by_cases hc : 300 < l.length
  · by_cases h : 4096 < l.length
    · exact right_big _ p c i j w hc 0 [] 1 (.inr rfl) (fun W _ => pl_of rfl (pends_no l p c W hl h))
    · exact right_big _ p c i j w hc l.length (ends l) 0 (.inl rfl) (fun W hb => pl_of (ends_length l) (pends_any l p c W (hp.below hb) hlc (by omega)))
  obtain ⟨n, hn⟩ : ∃ n, n = l.length := ⟨_, rfl⟩
  have hel := ends_length l
  rw [← hn] at hel
  have hperm : (ends l).Perm (List.range (ends l).length) := by rw [hel, hn]; exact ends_perm l
  have CA0 : ∀ W, Rd W p (nums l) → Calls Tryz.prog 10 #[.slice p l.length c] W (Pf W n (ends l)) := fun W h =>
    (pends_any l p c W h hlc (by omega)).mono fun _ _ ⟨q, c, e, h1, h2, h3, h4, h5⟩ => ⟨q, c, by rw [e, hel], h2, h3, by rw [← hel]; exact h4, h5⟩
  obtain ⟨M, hM, hMl, _⟩ := inv_perm hperm
  obtain ⟨hMl2, hMp, hMM⟩ := inv_inv hperm hM
  rw [hel] at hMl
  have CI0 : ∀ q d W, Rd W q (zs (up (ends l))) → Calls Tryz.prog 12 #[.slice q n d] W (Pl W n M 0) := fun q d W h => by
    have h2 := pinverse_any (up (ends l)) q d W h (by rw [up_length]; omega)
    rw [(inv_yes hM).1, (inv_yes hM).2, up_length, hel] at h2
    exact pl_of hMl h2
  have CJ0 : ∀ q d W, Rd W q (zs (up M)) → Calls Tryz.prog 12 #[.slice q n d] W (Pl W n (ends l) 0) := fun q d W h => by
    have h2 := pinverse_any (up M) q d W h (by rw [up_length]; omega)
    rw [(inv_yes hMM).1, (inv_yes hMM).2, up_length, hMl] at h2
    exact pl_of hel h2
  have CS0 : ∀ p c q d W, Rd W p (zs (up (ends l))) → Rd W q (zs (up (ends l))) → Calls Tryz.prog 16 #[.slice p n c, .slice q n d] W fun e w' => e = .returned (.bool true) ∧ Below W.heap.size W w' := fun p c q d W h3 h4 => by
    have h := same_at (c := c) (d := d) hel hel h3 h4 (by omega) (by omega)
    rw [decide_eq_true rfl] at h
    exact h.mono fun e w' ⟨h1, j, h2⟩ => ⟨h1, by rw [h2]; exact below_drewN (Below.refl _ _) j⟩
  have CR0 : ∀ (E : List Nat) q d W, E.length = n → right l (up E) = false → Rd W p (nums l) → Rd W q (zs (up E)) → Calls Tryz.prog 17 #[.slice p n c, .slice q n d] W fun e w' => e = .returned (.bool false) ∧ Below W.heap.size W w' := fun E q d W h0 h1 h2 h3 => by
    have h := pright_any l (up E) p q c d W h2 h3 hlc (by omega) (by rw [up_length]; omega)
    rw [h1, up_length, h0, ← hn] at h
    exact h
  rw [← hn] at CA0 hc hlc hl ⊢
  have CA := Lib.hid CA0; have CI := Lib.hid CI0; have CJ := Lib.hid CJ0; have CS := Lib.hid CS0; have CR := Lib.hid CR0
  have CL := Lib.hid (fun W => lives_any W)
  have P := Lib.hid hp; have P0 := Lib.hid hp
  have HEL := Lib.hid hel
  have HN := Lib.hid hn
  have t1 : decide ((300 : Int) < (n : Int)) = false := decide_eq_false (by omega)
  have t2 : decide (300 < n) = false := decide_eq_false hc
  clear CA0 CI0 CJ0 CS0 CR0 hp hn hel hM hMl hMl2 hMp hMM hperm
  by_cases hin : (0 ≤ i ∧ i < n) ∧ (0 ≤ j ∧ j < n) ∧ i ≠ j
  case neg =>
    have hor : (decide (i < 0) = true) ∨ (decide (i < 0) = false ∧ decide (j < 0) = true) ∨ (decide (i < 0) = false ∧ decide (j < 0) = false ∧ decide ((n : Int) ≤ i) = true) ∨ (decide (i < 0) = false ∧ decide (j < 0) = false ∧ decide ((n : Int) ≤ i) = false ∧ decide ((n : Int) ≤ j) = true) ∨
        (decide (i < 0) = false ∧ decide (j < 0) = false ∧ decide ((n : Int) ≤ i) = false ∧ decide ((n : Int) ≤ j) = false ∧ (i == j) = true) := by
      simp only [decide_eq_true_eq, decide_eq_false_iff_not, beq_iff_eq]
      omega
    clear hin
    rcases hor with v1 | ⟨v1, v2⟩ | ⟨v1, v2, v3⟩ | ⟨v1, v2, v3, v4⟩ | ⟨v1, v2, v3, v4, v5⟩
    all_goals
      have B : Hid (Below w.heap.size w w) := Lib.hid (Below.refl _ _)
      go_enter Tryz.func7, Tryz.ntmps7
      go_wp2_with fail
      refine (CL.out _).mono ?_
      rintro e w0 ⟨rfl, b⟩
      replace P := Lib.hid (P.out.below b)
      replace B := Lib.hid (B.out.trans (b.mono B.out.size))
      clear b
      have hB0 := Lib.hid B.out.size
      go_wp2_with fail
      refine (CA.out _ P.out).mono ?_
      rintro e w1 ⟨qa, ca, rfl, ra, na, fa, b⟩
      replace P := Lib.hid (P.out.below b)
      replace B := Lib.hid (B.out.trans (b.mono B.out.size))
      have RA := Lib.hid ra
      clear b ra
      have NA : Hid (NewAt w.heap.size qa) := Lib.hid (fun a e => Nat.le_trans hB0.out (na a e))
      have FA := Lib.hid fa
      clear na fa
      go_wp2_with fail
      refine (CI.out _ _ _ RA.out).mono ?_
      rintro e w2 ⟨qb, cb, rfl, _, rb, b⟩
      replace FA := Lib.hid (FA.out.below b RA.out (by rw [zs_length, up_length, HEL.out]; exact Nat.le_refl _))
      replace P := Lib.hid (P.out.below b)
      replace RA := Lib.hid (RA.out.below b)
      replace B := Lib.hid (B.out.trans (b.mono B.out.size))
      have RB := Lib.hid rb
      clear b rb
      go_wp2_with fail
      refine (CJ.out _ _ _ RB.out).mono ?_
      rintro e w3 ⟨qc, cc, rfl, _, rc, b⟩
      replace FA := Lib.hid (FA.out.below b RA.out (by rw [zs_length, up_length, HEL.out]; exact Nat.le_refl _))
      replace P := Lib.hid (P.out.below b)
      replace RA := Lib.hid (RA.out.below b)
      replace RB := Lib.hid (RB.out.below b)
      replace B := Lib.hid (B.out.trans (b.mono B.out.size))
      have RC := Lib.hid rc
      clear b rc
      go_wp2_with fail
      refine (CS.out _ _ _ _ _ RC.out RA.out).mono ?_
      rintro e w4 ⟨rfl, b⟩
      replace FA := Lib.hid (FA.out.below b RA.out (by rw [zs_length, up_length, HEL.out]; exact Nat.le_refl _))
      replace P := Lib.hid (P.out.below b)
      replace RA := Lib.hid (RA.out.below b)
      replace RB := Lib.hid (RB.out.below b)
      replace RC := Lib.hid (RC.out.below b)
      replace B := Lib.hid (B.out.trans (b.mono B.out.size))
      clear b 
      go_wp2_with fail
      go_ret
      exact ⟨rfl, B.out⟩
  obtain ⟨⟨i0, i1⟩, ⟨j0, j1⟩, hij⟩ := hin
  obtain ⟨x, rfl⟩ : ∃ x : Nat, i = (x : Int) := ⟨i.toNat, by omega⟩
  obtain ⟨y, rfl⟩ : ∃ y : Nat, j = (y : Int) := ⟨j.toNat, by omega⟩
  have hxn : x < n := by omega
  have hyn : y < n := by omega
  have hxy : x ≠ y := by omega
  have v1 : decide ((x : Int) < 0) = false := decide_eq_false (by omega)
  have v2 : decide ((y : Int) < 0) = false := decide_eq_false (by omega)
  have v3 : decide ((n : Int) ≤ (x : Int)) = false := decide_eq_false (by omega)
  have v4 : decide ((n : Int) ≤ (y : Int)) = false := decide_eq_false (by omega)
  have v5 : ((x : Int) == (y : Int)) = false := by rw [beq_eq_false_iff_ne]; omega
  have v6 : decide (n ≤ x) = false := decide_eq_false (by omega)
  have v7 : decide (n ≤ y) = false := decide_eq_false (by omega)
  have v8 : (x == y) = false := by rw [beq_eq_false_iff_ne]; exact hxy
  have B : Hid (Below w.heap.size w w) := Lib.hid (Below.refl _ _)
  go_enter Tryz.func7, Tryz.ntmps7
  go_wp2_with fail
  refine (CL.out _).mono ?_
  rintro e w0 ⟨rfl, b⟩
  replace P := Lib.hid (P.out.below b)
  replace B := Lib.hid (B.out.trans (b.mono B.out.size))
  clear b
  have hB0 := Lib.hid B.out.size
  go_wp2_with fail
  refine (CA.out _ P.out).mono ?_
  rintro e w1 ⟨qa, ca, rfl, ra, na, fa, b⟩
  replace P := Lib.hid (P.out.below b)
  replace B := Lib.hid (B.out.trans (b.mono B.out.size))
  have RA := Lib.hid ra
  clear b ra
  have NA : Hid (NewAt w.heap.size qa) := Lib.hid (fun a e => Nat.le_trans hB0.out (na a e))
  have FA := Lib.hid fa
  clear na fa
  go_wp2_with fail
  refine (CI.out _ _ _ RA.out).mono ?_
  rintro e w2 ⟨qb, cb, rfl, _, rb, b⟩
  replace FA := Lib.hid (FA.out.below b RA.out (by rw [zs_length, up_length, HEL.out]; exact Nat.le_refl _))
  replace P := Lib.hid (P.out.below b)
  replace RA := Lib.hid (RA.out.below b)
  replace B := Lib.hid (B.out.trans (b.mono B.out.size))
  have RB := Lib.hid rb
  clear b rb
  go_wp2_with fail
  refine (CJ.out _ _ _ RB.out).mono ?_
  rintro e w3 ⟨qc, cc, rfl, _, rc, b⟩
  replace FA := Lib.hid (FA.out.below b RA.out (by rw [zs_length, up_length, HEL.out]; exact Nat.le_refl _))
  replace P := Lib.hid (P.out.below b)
  replace RA := Lib.hid (RA.out.below b)
  replace RB := Lib.hid (RB.out.below b)
  replace B := Lib.hid (B.out.trans (b.mono B.out.size))
  have RC := Lib.hid rc
  clear b rc
  go_wp2_with fail
  refine (CS.out _ _ _ _ _ RC.out RA.out).mono ?_
  rintro e w4 ⟨rfl, b⟩
  replace FA := Lib.hid (FA.out.below b RA.out (by rw [zs_length, up_length, HEL.out]; exact Nat.le_refl _))
  replace P := Lib.hid (P.out.below b)
  replace RA := Lib.hid (RA.out.below b)
  replace RB := Lib.hid (RB.out.below b)
  replace RC := Lib.hid (RC.out.below b)
  replace B := Lib.hid (B.out.trans (b.mono B.out.size))
  clear b 
  obtain ⟨W1, hW1⟩ : ∃ W1, W1 = w4 := ⟨_, rfl⟩
  rw [← hW1] at P RA B FA
  rw [← hW1]
  clear hW1 RB RC hij
  obtain ⟨ad, rfl, cx⟩ := rd_z RA.out x (by rw [up_length, HEL.out]; exact hxn)
  obtain ⟨ad', hbb, cy⟩ := rd_z RA.out y (by rw [up_length, HEL.out]; exact hyn)
  cases hbb
  have fx := FA.out ad rfl x hxn
  have fy := FA.out ad rfl y hyn
  rw [up_getD _ _ (by rw [HEL.out]; exact hxn)] at cx
  rw [up_getD _ _ (by rw [HEL.out]; exact hyn)] at cy
  have hne := add_ne (a := ad) hxy
  have hne2 := add_ne (a := ad) (fun h => hxy h.symm)
  have hnb : Hid (∀ a, p = some a → a.block ≠ ad.block) := Lib.hid (fun a e => by
    have h1 := NA.out ad rfl
    intro h2
    have h0 := P0.out 0
    by_cases h3 : 0 < n
    · obtain ⟨a', e', hl', _⟩ := P0.out 0 (by rw [nums_length, ← HN.out]; exact h3)
      rw [e] at e'
      cases e'
      omega
    · omega)
  obtain ⟨E, hE⟩ : ∃ E, E = ((ends l).set x ((ends l).getD y 0)).set y ((ends l).getD x 0) := ⟨_, rfl⟩
  obtain ⟨u, hu⟩ : ∃ u, u = (ends l).getD x 0 := ⟨_, rfl⟩
  obtain ⟨v, hv⟩ : ∃ v, v = (ends l).getD y 0 := ⟨_, rfl⟩
  rw [← hu, ← hv] at hE
  rw [← hu] at cx
  rw [← hv] at cy
  have HE1 : Hid (E.length = n ∧ right l (up E) = false) := Lib.hid ⟨by rw [hE, List.length_set, List.length_set, HEL.out], by
    rw [hE, hu, hv]; exact right_swap (by rw [← HN.out]; exact hxn) (by rw [← HN.out]; exact hyn) hxy⟩
  have HE2 : Hid (Rd ((W1.setCell (ad.add x) (.int .i64 (v : Nat))).setCell (ad.add y) (.int .i64 (u : Nat))) (some ad) (zs (up E))) := Lib.hid (by
    have h1 := rd_store RA.out (k := x) (by rw [zs_length, up_length, HEL.out]; exact hxn) (.int .i64 (v : Nat))
    rw [zs_set, up_set] at h1
    have h2 := rd_store h1 (k := y) (by rw [zs_length, up_length, List.length_set, HEL.out]; exact hyn) (.int .i64 (u : Nat))
    rw [zs_set, up_set, ← hE] at h2
    exact h2)
  have HP2 : Hid (Rd ((W1.setCell (ad.add x) (.int .i64 (v : Nat))).setCell (ad.add y) (.int .i64 (u : Nat))) p (nums l)) := Lib.hid (Ls.Rd.put (Ls.Rd.put P.out (fun q e => by rw [add_block]; exact hnb.out q e) _) (fun q e => by rw [add_block]; exact hnb.out q e) _)
  have HB2 : Hid (Below w.heap.size w ((W1.setCell (ad.add x) (.int .i64 (v : Nat))).setCell (ad.add y) (.int .i64 (u : Nat)))) := Lib.hid (below_put (below_put B.out (by rw [add_block]; exact NA.out ad rfl) _) (by rw [add_block]; exact NA.out ad rfl) _)
  clear hE hu hv
  go_wp2_with fail
  go_region
  all_goals
    go_wp2_with fail
    refine (CR.out E _ _ _ HE1.out.1 HE1.out.2 (HP2.out.below (Below.drew (Below.refl _ _))) (HE2.out.below (Below.drew (Below.refl _ _)))).mono ?_
    rintro e w9 ⟨rfl, b⟩
    have B9 := Lib.hid ((Below.drew HB2.out).trans (b.mono (Below.drew HB2.out).size))
    clear b
    go_wp2_with fail
    go_ret
    exact ⟨rfl, B9.out⟩
end Go.Proofs.YtfmnnbeegfjnaaaGreat.Od

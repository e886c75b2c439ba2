/- The law SkewSamples. -/
import Derived.Test.YtonlbcibfbbpgaaGreatSkLawP
import Derived.Test.YtonlbcibfbbpgaaGreatOrdPEnds
import Derived.Test.YtonlbcibfbbpgaaGreatOrdPRight
namespace Go.Proofs.YtonlbcibfbbpgaaGreat.Sk
open Go.RowKit Go.Lib Rw Ls Od _root_.Go.Proofs.YtonlbcibfbbpgaaGreat.Nm

theorem pless_tail (l : List Nat) (ad : Addr) (n c x y : Nat) (w : World) (hn : n = l.length) (hr : Rd w (some ad) (nums l)) (hl : n ≤ 17592186044416) (hx : x < n) (hy : y < n) :
    ∀ z, Calls Tryz.prog 10 #[.slice (some (ad.add x)) (n - x) (c - x), .slice (some (ad.add y)) (n - y) (c - y)] (w.drewN z) fun e w' => e = .returned (.bool (lt l x y)) ∧ w' = w.drewN z := fun z => by
  have h1 := hr.cut x (by rw [nums_length]; omega)
  have h2 := hr.cut y (by rw [nums_length]; omega)
  have e1 : (nums l).drop x = nums (l.drop x) := by simp [nums, List.map_drop]
  have e2 : (nums l).drop y = nums (l.drop y) := by simp [nums, List.map_drop]
  rw [e1] at h1
  rw [e2] at h2
  have h := less_any (l.drop x) (l.drop y) _ _ (c - x) (c - y) (w.drewN z) (h1.drewN z) (h2.drewN z) (by rw [List.length_drop]; omega) (by rw [List.length_drop]; omega)
  rw [List.length_drop, List.length_drop, ← hn] at h
  exact h.mono fun e w' ⟨h1, h2⟩ => ⟨h1, h2.symm⟩
theorem samples_big (n : Nat) (p : Option Addr) (c : Nat) (w : World) (h : 300 < n) :
    Calls Tryz.prog 3 #[.slice p n c] w fun e w' => e = .returned (.bool true) ∧ Below w.heap.size w w' := by
  have CL := Lib.hid (fun W => lives_any W)
  have t1 : decide ((300 : Int) < (n : Int)) = true := decide_eq_true (by omega)
  have t3 : decide (300 < n) = true := decide_eq_true h
  clear h
  go_enter Tryz.func3, Tryz.ntmps3
  go_wp2_with fail
  refine (CL.out _).mono ?_
  rintro e w1 ⟨rfl, b⟩
  have B := Lib.hid b
  clear b
  go_wp2_with fail
  go_ret
  exact ⟨rfl, B.out⟩
theorem samples_no (l : List Nat) (p : Option Addr) (c : Nat) (w : World) (hp : Rd w p (nums l)) (hl : l.length ≤ 300) (ho : okL l = false) :
    Calls Tryz.prog 3 #[.slice p l.length c] w fun e w' => e = .returned (.bool true) ∧ Below w.heap.size w w' := by
  have CL := Lib.hid (fun W => lives_any W)
  have CR0 : ∀ W, Rd W p (nums l) → Calls Tryz.prog 5 #[.slice p l.length c] W (RdQ W 0 [] 0 1) := fun W h => by
    have h2 := preduce_any l p c W h (by omega)
    rw [(rd_no ho).1, (rd_no ho).2, (smp_no ho).2] at h2
    exact rdq_of rfl h2
  have CT0 : ∀ W, Rd W p (nums l) → Calls Tryz.prog 6 #[.slice p l.length c] W (PLn W 0 [] 1) := fun W h => by
    have h2 := psamples_any l p c W h (by omega)
    rw [(smp_no ho).1, (smp_no ho).2] at h2
    exact pln_of rfl h2
  obtain ⟨n, hn⟩ : ∃ n, n = l.length := ⟨_, rfl⟩
  rw [← hn] at CR0 CT0 hl ⊢
  have CR := Lib.hid CR0; have CT := Lib.hid CT0
  have P := Lib.hid hp
  have t1 : decide ((300 : Int) < (n : Int)) = false := decide_eq_false (by omega)
  have t3 : decide (300 < n) = false := decide_eq_false (by omega)
  clear CR0 CT0 hp hn ho
  have B : Hid (Below w.heap.size w w) := Lib.hid (Below.refl _ _)
  go_enter Tryz.func3, Tryz.ntmps3
  go_wp2_with fail
  refine (CL.out _).mono ?_
  rintro e w0 ⟨rfl, b⟩
  replace P := Lib.hid (P.out.below b)
  replace B := Lib.hid (B.out.trans (b.mono B.out.size))
  clear b
  go_wp2_with fail
  refine (CR.out _ P.out).mono ?_
  rintro e w1 ⟨qa, ca, rfl, _, _, b⟩
  replace P := Lib.hid (P.out.below b)
  replace B := Lib.hid (B.out.trans (b.mono B.out.size))
  clear b
  go_wp2_with fail
  refine (CT.out _ P.out).mono ?_
  rintro e w2 ⟨qb, cb, rfl, _, _, b⟩
  replace P := Lib.hid (P.out.below b)
  replace B := Lib.hid (B.out.trans (b.mono B.out.size))
  clear b
  go_wp2_with fail
  go_ret
  exact ⟨rfl, B.out⟩
set_option maxHeartbeats 8000000 in
set_option maxRecDepth 100000 in
theorem samples_law (l : List Nat) (p : Option Addr) (c : Nat) (w : World) (hp : Rd w p (nums l)) (hlc : l.length ≤ c) :
    Calls Tryz.prog 3 #[.slice p l.length c] w fun e w' => e = .returned (.bool true) ∧ Below w.heap.size w w' := by
  by_cases hc : 300 < l.length
  · exact samples_big _ p c w hc
  cases ho : okL l with
  | false => exact samples_no l p c w hp (by omega) ho
  | true =>
    have CL := Lib.hid (fun W => lives_any W)
    obtain ⟨m, hm⟩ : ∃ m, m = mm l.length := ⟨_, rfl⟩
    have hm2 := mm_le l.length
    rw [← hm] at hm2
    have hrl : (red l).length = m := by rw [red_length, hm]
    have hpl : (places l.length).length = m := by rw [places_length, hm]
    have hel : (ends (red l)).length = m := by rw [ends_length, hrl]
    have hml : (ends l).length = l.length := ends_length l
    have CR0 : ∀ W, Rd W p (nums l) → Calls Tryz.prog 5 #[.slice p l.length c] W (RdQ W m (red l) (many l) 0) := fun W h => by
      have h2 := preduce_any l p c W h (by omega)
      rw [(rd_yes ho).1, (rd_yes ho).2, (smp_yes ho).2] at h2
      exact rdq_of hrl h2
    have CT0 : ∀ W, Rd W p (nums l) → Calls Tryz.prog 6 #[.slice p l.length c] W (PLn W m (places l.length) 0) := fun W h => by
      have h2 := psamples_any l p c W h (by omega)
      rw [(smp_yes ho).1, (smp_yes ho).2] at h2
      exact pln_of hpl h2
    have CE0 : ∀ q d W, Rd W q (nums (red l)) → m ≤ d → Calls Tryz.prog 7 #[.slice q m d] W (PLn W m (ends (red l)) 0) := fun q d W h hd => by
      have h2 := pends_any (red l) q d W h (by rw [hrl]; exact hd) (by rw [hrl]; omega)
      rw [hrl] at h2
      exact h2.mono fun _ _ ⟨q, c, e, h1, h2, _, _, h4⟩ => ⟨q, c, by rw [e, hel], by rw [← hel]; exact h1, h2, h4⟩
    have CX0 : ∀ q d W, Rd W p (nums l) → Rd W q (zs (up (ends (red l)))) → Calls Tryz.prog 8 #[.slice p l.length c, .slice q m d] W (PLn W l.length (ends l) 0) := fun q d W h h2 => by
      have h3 := pexpand_any l (up (ends (red l))) p q c d W h h2 hlc (by omega) (by rw [up_length, hel]; omega)
      have e1 : exL l (up (ends (red l))) = ends l := if_pos ⟨ho, right_iff.2 rfl⟩
      have e2 : exE l (up (ends (red l))) = 0 := by unfold exE; rw [if_pos ho, if_pos (right_iff.2 rfl)]
      rw [e1, e2, up_length, hel] at h3
      exact pln_of hml h3
    have CG0 : ∀ q d W, Rd W p (nums l) → Rd W q (zs (up (ends l))) → Calls Tryz.prog 9 #[.slice p l.length c, .slice q l.length d] W fun e w' => e = .returned (.bool true) ∧ Below W.heap.size W w' := fun q d W h1 h2 => by
      have h := pright_any l (up (ends l)) p q c d W h1 h2 hlc (by omega) (by rw [up_length, hml]; omega)
      rw [right_iff.2 rfl, up_length, hml] at h
      exact h
    have HUP : Hid (Up (red l) (ends (red l))) := Lib.hid (ends_up (red l))
    have hmem : ∀ i, i < m → (ends (red l)).getD i 0 < m := fun i hi => by
      rw [← hrl]
      refine ends_mem.1 ?_
      rw [gd (by omega)]; exact List.getElem_mem _
    have HPA : Hid (∀ x, x < m → (places l.length).getD x 0 = pl l.length x ∧ pl l.length x ≤ l.length) := Lib.hid (fun x h => ⟨places_at _ _ (by rw [← hm]; exact h), pl_le (by rw [← hm]; exact h)⟩)
    have HCH : Hid (∀ k, 0 < k → k < m → ∀ x y, x = (ends (red l)).getD (k - 1) 0 → y = (ends (red l)).getD k 0 → lt l (pl l.length x) (pl l.length y) = true) := Lib.hid (fun k hk hkm x y hx hy => by
      have h1 := hmem (k - 1) (by omega)
      have h2 := hmem k hkm
      rw [← hx] at h1
      rw [← hy] at h2
      rw [← skew_lt (ok_pos ho) _ x y (by rw [← hm]; exact h1) (by rw [← hm]; exact h2) (Nat.le_refl _)]
      rw [hx, hy, gd (by rw [hel]; omega), gd (by rw [hel]; exact hkm)]
      exact List.pairwise_iff_getElem.1 HUP.out (k - 1) k (by rw [hel]; omega) (by rw [hel]; exact hkm) (by omega))
    have HMEM := Lib.hid hmem
    obtain ⟨n, hn⟩ : ∃ n, n = l.length := ⟨_, rfl⟩
    obtain ⟨M, hM⟩ : ∃ M, M = many l := ⟨_, rfl⟩
    rw [← hn] at CR0 CT0 CX0 CG0 hm2 hc hlc HPA HCH hpl ⊢
    rw [← hM] at CR0
    obtain ⟨E, hE⟩ : ∃ E, E = ends (red l) := ⟨_, rfl⟩
    rw [← hE] at CE0 CX0 HCH HMEM hel
    obtain ⟨S, hS⟩ : ∃ S, S = places n := ⟨_, rfl⟩
    rw [← hS] at CT0 HPA hpl
    have CR := Lib.hid CR0; have CT := Lib.hid CT0; have CE := Lib.hid CE0; have CX := Lib.hid CX0; have CG := Lib.hid CG0
    have P := Lib.hid hp
    have HEL := Lib.hid hel; have HSL := Lib.hid hpl; have HN := Lib.hid hn
    have t1 : decide ((300 : Int) < (n : Int)) = false := decide_eq_false (by omega)
    have t3 : decide (300 < n) = false := decide_eq_false hc
    have hn3 : n ≤ 300 := by omega
    have hm3 : m ≤ 201 := by omega
    clear CR0 CT0 CE0 CX0 CG0 hp hn hM hE hS hm ho hm2 hc hrl hpl hel hml hmem HUP
    have B : Hid (Below w.heap.size w w) := Lib.hid (Below.refl _ _)
    go_enter Tryz.func3, Tryz.ntmps3
    go_wp2_with fail
    refine (CL.out _).mono ?_
    rintro e w0 ⟨rfl, b⟩
    replace P := Lib.hid (P.out.below b)
    replace B := Lib.hid (B.out.trans (b.mono B.out.size))
    clear b
    go_wp2_with fail
    refine (CR.out _ P.out).mono ?_
    rintro e w1 ⟨qa, ca, rfl, hca, ra, b⟩
    replace P := Lib.hid (P.out.below b)
    replace B := Lib.hid (B.out.trans (b.mono B.out.size))
    have RA := Lib.hid ra
    clear b ra
    go_wp2_with fail
    refine (CT.out _ P.out).mono ?_
    rintro e w2 ⟨qb, cb, rfl, _, rb, b⟩
    replace P := Lib.hid (P.out.below b)
    replace RA := Lib.hid (RA.out.below b)
    replace B := Lib.hid (B.out.trans (b.mono B.out.size))
    have RB := Lib.hid rb
    clear b rb
    go_wp2_with fail
    refine (CE.out _ _ _ RA.out hca).mono ?_
    rintro e w3 ⟨qe, ce, rfl, _, re, b⟩
    replace P := Lib.hid (P.out.below b)
    replace RA := Lib.hid (RA.out.below b)
    replace RB := Lib.hid (RB.out.below b)
    replace B := Lib.hid (B.out.trans (b.mono B.out.size))
    have RE := Lib.hid re
    clear b re
    go_wp2_with fail
    refine (CX.out _ _ _ P.out RE.out).mono ?_
    rintro e w4 ⟨qx, cx, rfl, _, rx, b⟩
    replace P := Lib.hid (P.out.below b)
    replace RA := Lib.hid (RA.out.below b)
    replace RB := Lib.hid (RB.out.below b)
    replace RE := Lib.hid (RE.out.below b)
    replace B := Lib.hid (B.out.trans (b.mono B.out.size))
    have RX := Lib.hid rx
    clear b rx
    go_wp2_with fail
    refine (CG.out _ _ _ P.out RX.out).mono ?_
    rintro e w5 ⟨rfl, b⟩
    replace P := Lib.hid (P.out.below b)
    replace RA := Lib.hid (RA.out.below b)
    replace RB := Lib.hid (RB.out.below b)
    replace RE := Lib.hid (RE.out.below b)
    replace RX := Lib.hid (RX.out.below b)
    replace B := Lib.hid (B.out.trans (b.mono B.out.size))
    clear b
    obtain ⟨W1, hW1⟩ : ∃ W1, W1 = w5 := ⟨_, rfl⟩
    rw [← hW1] at P RB RE B
    rw [← hW1]
    clear hW1 RA RX
    go_wp2_with fail
    go_loopw [70] (fun i wr => ∃ k j : Nat, k ≤ m ∧ i = .int .i64 k ∧ wr = W1.drewN j) (fun i _ => m - (intOf i).toNat)
    case atStart => exact ⟨0, 0, by omega, rfl, rfl⟩
    case round =>
      obtain ⟨k, j, hk, rfl, hw⟩ := hrel
      have HW := Lib.hid hw
      have P2 : Hid (Rd wr p (nums l)) := Lib.hid (by rw [hw]; exact P.out.drewN j)
      have Q2 : Hid (Rd wr qe (zs (up E))) := Lib.hid (by rw [hw]; exact RE.out.drewN j)
      have S2 : Hid (Rd wr qb (zs (up S))) := Lib.hid (by rw [hw]; exact RB.out.drewN j)
      have B2 : Hid (∀ z, Below w.heap.size w (wr.drewN z)) := Lib.hid (fun z => by rw [hw]; exact below_drewN (below_drewN B.out j) z)
      clear hw
      by_cases hlt : k < m
      · by_cases h0 : k = 0
        · subst h0
          go_wp2_with fail
          go_roundw
          case rel => exact ⟨1, _, by omega, by go_num, HW.out⟩
          case measure => simp [intOf]; omega
        · obtain ⟨x, hx⟩ : ∃ x, x = E.getD (k - 1) 0 := ⟨_, rfl⟩
          obtain ⟨y, hy⟩ : ∃ y, y = E.getD k 0 := ⟨_, rfl⟩
          have hxm : x < m := by rw [hx]; exact HMEM.out _ (by omega)
          have hym : y < m := by rw [hy]; exact HMEM.out _ hlt
          have hch := HCH.out k (by omega) hlt x y hx hy
          obtain ⟨b, rfl, cx⟩ := rd_z Q2.out (k - 1) (by rw [up_length, HEL.out]; omega)
          obtain ⟨b', hbb, cy⟩ := rd_z Q2.out k (by rw [up_length, HEL.out]; omega)
          cases hbb
          rw [up_getD _ _ (by rw [HEL.out]; omega), ← hx] at cx
          rw [up_getD _ _ (by rw [HEL.out]; exact hlt), ← hy] at cy
          obtain ⟨s, rfl, cs⟩ := rd_z S2.out x (by rw [up_length, HSL.out]; exact hxm)
          obtain ⟨s', hbb, ct⟩ := rd_z S2.out y (by rw [up_length, HSL.out]; exact hym)
          cases hbb
          obtain ⟨ea, la⟩ := HPA.out x hxm
          obtain ⟨eb, lb⟩ := HPA.out y hym
          obtain ⟨u, hu⟩ : ∃ u, u = pl n x := ⟨_, rfl⟩
          obtain ⟨v, hv⟩ : ∃ v, v = pl n y := ⟨_, rfl⟩
          rw [← hu] at ea la hch
          rw [← hv] at eb lb hch
          rw [up_getD _ _ (by rw [HSL.out]; exact hxm), ea] at cs
          rw [up_getD _ _ (by rw [HSL.out]; exact hym), eb] at ct
          have e0 : (k == 0) = false := by simp [h0]
          have e0i : ((k : Int) == 0) = false := by
            have : (k : Int) ≠ 0 := by omega
            exact beq_eq_false_iff_ne.2 this
          have e1 : ((k : Int) - 1).toNat = k - 1 := by omega
          have k1 : (0 : Int) ≤ (k : Int) - 1 := by omega
          have k2 : (k : Int) - 1 < (m : Int) := by omega
          have k3 : (k : Int) < (m : Int) := by omega
          have x0 : (0 : Int) ≤ (x : Int) := by omega
          have y0 : (0 : Int) ≤ (y : Int) := by omega
          have x1 : (x : Int) < (m : Int) := by omega
          have y1 : (y : Int) < (m : Int) := by omega
          by_cases hun : u < n
          · have hvn : v < n := by
              rcases Nat.lt_or_ge v n with h | h
              · exact h
              · exfalso
                unfold lt at hch
                rw [show l.drop v = [] from List.drop_of_length_le (by rw [← HN.out]; exact h), lexL_nil_right] at hch
                exact Bool.noConfusion hch
            obtain ⟨ad, rfl, _⟩ := P2.out.form (by rw [nums_length, ← HN.out]; omega)
            have LE : ∀ a z, Calls Tryz.prog 10 #[.slice (some (ad.add u)) (n - u) (c - u), .slice (some (ad.add v)) (n - v) (c - v)] (wr.drewN (a + z)) fun e w' => e = .returned (.bool (lt l u v)) ∧ ∃ m, w' = wr.drewN (a + m) :=
              fun a z => (pless_tail l ad n c u v wr HN.out P2.out (by omega) hun hvn (a + z)).mono fun e w' ⟨h1, h2⟩ => ⟨h1, z, h2⟩
            rw [hch] at LE
            have HLE := Lib.hid LE
            have u0 : (0 : Int) ≤ (u : Int) := by omega
            have v0 : (0 : Int) ≤ (v : Int) := by omega
            have u1 : (u : Int) ≤ (n : Int) := by omega
            have v1 : (v : Int) ≤ (n : Int) := by omega
            have u2 : decide ((u : Int) < (n : Int)) = true := decide_eq_true (by omega)
            have v2 : decide ((n : Int) ≤ (v : Int)) = false := decide_eq_false (by omega)
            have u3 : decide (u < n) = true := decide_eq_true hun
            have v3 : decide (n ≤ v) = false := decide_eq_false (by omega)
            have cu1 : ¬ (c = u) := by omega
            have cv1 : ¬ (c = v) := by omega
            clear hx hy LE hch ea eb hu hv
            go_wp2_with fail
            go_quiet (fail)
            go_wp2_with fail
            go_quiet ((go_at_call 10; exact HLE.out _ _))
            go_wp2_with fail
            go_roundw
            case rel => exact ⟨k + 1, _, by omega, by go_num, by rw [HW.out, World.drewN_drewN]⟩
            case measure => simp [intOf]; omega
          · have u2 : decide ((u : Int) < (n : Int)) = false := decide_eq_false (by omega)
            have u3 : decide (u < n) = false := decide_eq_false hun
            clear hx hy hch ea eb hu hv
            go_wp2_with fail
            go_quiet (fail)
            go_wp2_with fail
            go_quiet (fail)
            go_wp2_with fail
            go_roundw
            case rel => exact ⟨k + 1, _, by omega, by go_num, by rw [HW.out, World.drewN_drewN]⟩
            case measure => simp [intOf]; omega
      · obtain rfl : k = m := by omega
        have B3 : Hid (Below w.heap.size w wr) := Lib.hid (by have := B2.out 0; exact this)
        go_wp2_with fail
        go_ret
        exact ⟨rfl, B3.out⟩
end Go.Proofs.YtonlbcibfbbpgaaGreat.Sk

/- The law ZerosRuns. -/
import Derived.Test.YtbegngilbngnoaaDoorZerLawC
namespace Go.Proofs.YtbegngilbngnoaaDoor.Ze
open Go.RowKit Go.Lib Rw Ls Od _root_.Go.Proofs.YtbegngilbngnoaaDoor.Nm

theorem nu_dg {n : Nat} (h1 : 1 ≤ n) (h2 : n ≤ 65536) : numR (dg n) = (n, 0) := by
  unfold numR
  rw [if_neg (fun e => by have := nm_dg n; rw [e] at this; simp [nm] at this; omega), if_pos (all_two.2 (dg_lt n)), nm_dg, if_neg (by omega)]
theorem nu_bad {l : List Nat} {x : Nat} {y : Int} (h : numR l = (x, y)) (hy : y ≠ 0) : x = 0 := by
  unfold numR at h
  split at h
  · simp only [Prod.mk.injEq] at h; omega
  · split at h
    · split at h
      · simp only [Prod.mk.injEq] at h; omega
      · simp only [Prod.mk.injEq] at h; omega
    · simp only [Prod.mk.injEq] at h; omega
theorem nu_good {l : List Nat} {x : Nat} (h : numR l = (x, 0)) : dgL x = l ∧ dgE x = 0 := by
  unfold numR at h
  split at h
  · simp only [Prod.mk.injEq] at h; omega
  · rename_i hne
    split at h
    · rename_i hall
      split at h
      · simp only [Prod.mk.injEq] at h; omega
      · simp only [Prod.mk.injEq] at h
        obtain ⟨rfl, _⟩ := h
        have hp : 1 ≤ nm l := by
          rcases Nat.eq_zero_or_pos (nm l) with e | e
          · exact absurd (nm_zero e) hne
          · exact e
        exact ⟨by rw [show dgL (nm l) = dg (nm l) from if_pos ⟨hp, by omega⟩, dg_nm l (all_two.1 hall)], if_pos ⟨hp, by omega⟩⟩
    · simp only [Prod.mk.injEq] at h; omega
theorem log_half {k : Nat} (h : 1 < k) : Nat.log2 k = Nat.log2 (k / 2) + 1 := by rw [Nat.log2_def k, if_pos (by omega)]
set_option maxHeartbeats 4000000 in
set_option maxRecDepth 100000 in
theorem runs_yy (n : Nat) (l : List Nat) (p : Option Addr) (m c : Nat) (w : World) (hm : m = l.length) (hp : Rd w p (nums l)) (hl : m ≤ 17592186044416) (h1 : 1 ≤ n) (h2 : n ≤ 65536) (x : Nat) (hd : numR l = (x, 0)) :
    Calls Tryd.prog 6 #[.int .u64 (n : Int), .slice p m c] w fun e w' => e = .returned (.bool true) ∧ Below w.heap.size w w' := by
  have CL := Lib.hid (fun W => lives_any W)
  obtain ⟨D, hD⟩ : ∃ D, D = dg n := ⟨_, rfl⟩
  obtain ⟨k, hk⟩ : ∃ k, k = D.length := ⟨_, rfl⟩
  have hkl : k ≤ 65536 := by rw [hk, hD]; have := dg_le n; omega
  have HLG : Hid (Nat.log2 (n + 1) = k) := Lib.hid (by rw [hk, hD, dg_length])
  have CA : Hid (∀ W, Calls Tryd.prog 14 #[.int .u64 (n : Int)] W (NEn W k D 0)) := Lib.hid (fun W => by
    have h3 := pdigits_any n W
    rw [show dgL n = dg n from if_pos ⟨h1, h2⟩, show dgE n = 0 from if_pos ⟨h1, h2⟩, ← hD] at h3
    exact nen_of hk.symm h3)
  have CB0 : ∀ q d W, Rd W q (nums D) → Calls Tryd.prog 16 #[.slice q D.length d] W fun e w' => e = .returned (.tuple #[.int .u64 (n : Nat), .int .i64 0]) ∧ Below W.heap.size W w' := fun q d W h => by
    have h3 := pnumber_any D q d W h (by omega)
    rw [hD, nu_dg h1 h2, ← hD] at h3
    exact h3
  rw [← hk] at CB0
  have CB := Lib.hid CB0
  obtain ⟨n1, hn1⟩ : ∃ n1, n1 = n + 1 := ⟨_, rfl⟩
  rw [← hn1] at HLG
  have s1 : (n : Int) + 1 = (n1 : Int) := by omega
  have s2 : IntKind.u64.wrap ((n1 : Int)) = (n1 : Int) := IntWalk.u64_in _ (by omega)
  have hn2 : 1 ≤ n1 ∧ n1 ≤ 65537 := by omega
  have s3 : ((n : Int) == (n : Int)) = true := by rw [beq_iff_eq]
  have s4 : ((k : Int) == (k : Int)) = true := by rw [beq_iff_eq]
  have HN1 := Lib.hid hn2
  clear CB0 hD hk hn1 hn2 h1 h2
  obtain ⟨hg1, hg2⟩ := nu_good hd
  have CD0 : ∀ W, Rd W p (nums l) → Calls Tryd.prog 16 #[.slice p l.length c] W fun e w' => e = .returned (.tuple #[.int .u64 (x : Nat), .int .i64 0]) ∧ Below W.heap.size W w' := fun W h => by
    have h3 := pnumber_any l p c W h (by omega)
    rw [hd] at h3
    exact h3
  have CE : Hid (∀ W, Calls Tryd.prog 14 #[.int .u64 (x : Int)] W (NEn W m l 0)) := Lib.hid (fun W => by
    have h3 := pdigits_any x W
    rw [hg1, hg2] at h3
    exact nen_of hm.symm h3)
  have CS := Lib.hid (fun W (p c q d) (h1 : Rd W p (nums l)) (h2 : Rd W q (nums l)) => same_self (n := m) hm.symm (by omega) p c q d h1 h2)
  rw [← hm] at CD0
  have CD := Lib.hid CD0
  have P := Lib.hid hp
  clear CD0 hg1 hg2 hd hp hm
  have B : Hid (Below w.heap.size w w) := Lib.hid (Below.refl _ _)
  go_enter Tryd.func6, Tryd.ntmps6
  go_wp2_with fail
  refine (CL.out _).mono ?_
  rintro e w0 ⟨rfl, b⟩
  replace P := Lib.hid (P.out.below b)
  replace B := Lib.hid (B.out.trans (b.mono B.out.size))
  clear b
  go_wp2_with fail
  refine (CA.out _).mono ?_
  rintro e w1 ⟨q1, c1, rfl, hc1, r1, b⟩
  replace P := Lib.hid (P.out.below b)
  replace B := Lib.hid (B.out.trans (b.mono B.out.size))
  have R1 := Lib.hid r1
  clear b r1
  go_wp2_with fail
  refine (CB.out _ _ _ R1.out).mono ?_
  rintro e w2 ⟨rfl, b⟩
  replace P := Lib.hid (P.out.below b)
  replace R1 := Lib.hid (R1.out.below b)
  replace B := Lib.hid (B.out.trans (b.mono B.out.size))
  clear b
  clear R1
  go_wp2_with fail
  have s7 : IntKind.u64.wrap ((n : Int) + 1) = (n1 : Int) := by rw [s1]; exact s2
  go_loopw [9, 10] (fun b z wr => ∃ b9 z9 : Nat, b = .int .i64 b9 ∧ z = .int .u64 z9 ∧ 1 ≤ z9 ∧ z9 ≤ 65537 ∧ Hid (b9 + Nat.log2 z9 = k) ∧ wr = w2) (fun _ z _ => (intOf z).toNat)
  case atStart => exact ⟨0, n1, rfl, rfl, HN1.out.1, HN1.out.2, Lib.hid (by rw [Nat.zero_add]; exact HLG.out), rfl⟩
  case round =>
    obtain ⟨b9, z9, rfl, rfl, hz1, hz2, HZ, rfl⟩ := hrel
    have hb9 : b9 ≤ 65536 := by have := HZ.out; omega
    by_cases hgt : 1 < z9
    · obtain ⟨z2, hz2e⟩ : ∃ z2, z2 = z9 / 2 := ⟨_, rfl⟩
      obtain ⟨b2, hb2e⟩ : ∃ b2, b2 = b9 + 1 := ⟨_, rfl⟩
      have HZ2 : Hid (b2 + Nat.log2 z2 = k) := Lib.hid (by rw [hb2e, hz2e, ← HZ.out, log_half hgt]; omega)
      have t1 : decide ((1 : Int) < (z9 : Int)) = true := decide_eq_true (by omega)
      have t2 : decide (1 < z9) = true := decide_eq_true hgt
      have t3 : (z9 : Int).tdiv 2 = (z2 : Int) := by rw [Int.tdiv_eq_ediv_of_nonneg (by omega)]; omega
      have t4 : IntKind.u64.wrap ((z2 : Int)) = (z2 : Int) := IntWalk.u64_in _ (by omega)
      have t5 : (b9 : Int) + 1 = (b2 : Int) := by omega
      have t6 : IntKind.i64.wrap ((b2 : Int)) = (b2 : Int) := IntWalk.i64_in _ (by omega)
      have hz3 : 1 ≤ z2 ∧ z2 ≤ 65537 ∧ z2 < z9 := by omega
      clear hz2e hb2e
      go_wp2_with fail
      go_roundw
      case rel => exact ⟨b2, z2, by first | rfl | go_num, by first | rfl | go_num, hz3.1, hz3.2.1, HZ2, trivial⟩
      case measure => simp [intOf]; omega
    · obtain rfl : z9 = 1 := by omega
      obtain rfl : b9 = k := by have := HZ.out; rwa [show Nat.log2 1 = 0 by decide] at this
      have t1 : decide ((1 : Int) < ((1 : Nat) : Int)) = false := decide_eq_false (by omega)
      clear hgt
      go_wp2_with fail
      refine (CD.out _ P.out).mono ?_
      rintro e w3 ⟨rfl, b⟩
      replace P := Lib.hid (P.out.below b)
      replace B := Lib.hid (B.out.trans (b.mono B.out.size))
      clear b
      go_wp2_with fail
      refine (CE.out _).mono ?_
      rintro e w4 ⟨q4, c4, rfl, hc4, r4, b⟩
      replace P := Lib.hid (P.out.below b)
      replace B := Lib.hid (B.out.trans (b.mono B.out.size))
      have R4 := Lib.hid r4
      clear b r4
      go_wp2_with fail
      refine (CS.out _ _ _ _ _ R4.out P.out).mono ?_
      rintro e w5 ⟨rfl, b⟩
      replace P := Lib.hid (P.out.below b)
      replace R4 := Lib.hid (R4.out.below b)
      replace B := Lib.hid (B.out.trans (b.mono B.out.size))
      clear b
      go_wp2_with fail
      go_ret
      exact ⟨rfl, B.out⟩
set_option maxHeartbeats 4000000 in
set_option maxRecDepth 100000 in
theorem runs_yn (n : Nat) (l : List Nat) (p : Option Addr) (m c : Nat) (w : World) (hm : m = l.length) (hp : Rd w p (nums l)) (hl : m ≤ 17592186044416) (h1 : 1 ≤ n) (h2 : n ≤ 65536) (y : Int) (hy : y ≠ 0) (hd : numR l = (0, y)) :
    Calls Tryd.prog 6 #[.int .u64 (n : Int), .slice p m c] w fun e w' => e = .returned (.bool true) ∧ Below w.heap.size w w' := by
  have CL := Lib.hid (fun W => lives_any W)
  obtain ⟨D, hD⟩ : ∃ D, D = dg n := ⟨_, rfl⟩
  obtain ⟨k, hk⟩ : ∃ k, k = D.length := ⟨_, rfl⟩
  have hkl : k ≤ 65536 := by rw [hk, hD]; have := dg_le n; omega
  have HLG : Hid (Nat.log2 (n + 1) = k) := Lib.hid (by rw [hk, hD, dg_length])
  have CA : Hid (∀ W, Calls Tryd.prog 14 #[.int .u64 (n : Int)] W (NEn W k D 0)) := Lib.hid (fun W => by
    have h3 := pdigits_any n W
    rw [show dgL n = dg n from if_pos ⟨h1, h2⟩, show dgE n = 0 from if_pos ⟨h1, h2⟩, ← hD] at h3
    exact nen_of hk.symm h3)
  have CB0 : ∀ q d W, Rd W q (nums D) → Calls Tryd.prog 16 #[.slice q D.length d] W fun e w' => e = .returned (.tuple #[.int .u64 (n : Nat), .int .i64 0]) ∧ Below W.heap.size W w' := fun q d W h => by
    have h3 := pnumber_any D q d W h (by omega)
    rw [hD, nu_dg h1 h2, ← hD] at h3
    exact h3
  rw [← hk] at CB0
  have CB := Lib.hid CB0
  obtain ⟨n1, hn1⟩ : ∃ n1, n1 = n + 1 := ⟨_, rfl⟩
  rw [← hn1] at HLG
  have s1 : (n : Int) + 1 = (n1 : Int) := by omega
  have s2 : IntKind.u64.wrap ((n1 : Int)) = (n1 : Int) := IntWalk.u64_in _ (by omega)
  have hn2 : 1 ≤ n1 ∧ n1 ≤ 65537 := by omega
  have s3 : ((n : Int) == (n : Int)) = true := by rw [beq_iff_eq]
  have s4 : ((k : Int) == (k : Int)) = true := by rw [beq_iff_eq]
  have HN1 := Lib.hid hn2
  clear CB0 hD hk hn1 hn2 h1 h2
  have CD0 : ∀ W, Rd W p (nums l) → Calls Tryd.prog 16 #[.slice p l.length c] W fun e w' => e = .returned (.tuple #[.int .u64 0, .int .i64 y]) ∧ Below W.heap.size W w' := fun W h => by
    have h3 := pnumber_any l p c W h (by omega)
    rw [hd] at h3
    exact h3
  rw [← hm] at CD0
  have CD := Lib.hid CD0
  have P := Lib.hid hp
  have y1 : (y == 0) = false := by rw [beq_eq_false_iff_ne]; omega
  clear CD0 hd hp hm hy hl
  have B : Hid (Below w.heap.size w w) := Lib.hid (Below.refl _ _)
  go_enter Tryd.func6, Tryd.ntmps6
  go_wp2_with fail
  refine (CL.out _).mono ?_
  rintro e w0 ⟨rfl, b⟩
  replace P := Lib.hid (P.out.below b)
  replace B := Lib.hid (B.out.trans (b.mono B.out.size))
  clear b
  go_wp2_with fail
  refine (CA.out _).mono ?_
  rintro e w1 ⟨q1, c1, rfl, hc1, r1, b⟩
  replace P := Lib.hid (P.out.below b)
  replace B := Lib.hid (B.out.trans (b.mono B.out.size))
  have R1 := Lib.hid r1
  clear b r1
  go_wp2_with fail
  refine (CB.out _ _ _ R1.out).mono ?_
  rintro e w2 ⟨rfl, b⟩
  replace P := Lib.hid (P.out.below b)
  replace R1 := Lib.hid (R1.out.below b)
  replace B := Lib.hid (B.out.trans (b.mono B.out.size))
  clear b
  clear R1
  go_wp2_with fail
  have s7 : IntKind.u64.wrap ((n : Int) + 1) = (n1 : Int) := by rw [s1]; exact s2
  go_loopw [9, 10] (fun b z wr => ∃ b9 z9 : Nat, b = .int .i64 b9 ∧ z = .int .u64 z9 ∧ 1 ≤ z9 ∧ z9 ≤ 65537 ∧ Hid (b9 + Nat.log2 z9 = k) ∧ wr = w2) (fun _ z _ => (intOf z).toNat)
  case atStart => exact ⟨0, n1, rfl, rfl, HN1.out.1, HN1.out.2, Lib.hid (by rw [Nat.zero_add]; exact HLG.out), rfl⟩
  case round =>
    obtain ⟨b9, z9, rfl, rfl, hz1, hz2, HZ, rfl⟩ := hrel
    have hb9 : b9 ≤ 65536 := by have := HZ.out; omega
    by_cases hgt : 1 < z9
    · obtain ⟨z2, hz2e⟩ : ∃ z2, z2 = z9 / 2 := ⟨_, rfl⟩
      obtain ⟨b2, hb2e⟩ : ∃ b2, b2 = b9 + 1 := ⟨_, rfl⟩
      have HZ2 : Hid (b2 + Nat.log2 z2 = k) := Lib.hid (by rw [hb2e, hz2e, ← HZ.out, log_half hgt]; omega)
      have t1 : decide ((1 : Int) < (z9 : Int)) = true := decide_eq_true (by omega)
      have t2 : decide (1 < z9) = true := decide_eq_true hgt
      have t3 : (z9 : Int).tdiv 2 = (z2 : Int) := by rw [Int.tdiv_eq_ediv_of_nonneg (by omega)]; omega
      have t4 : IntKind.u64.wrap ((z2 : Int)) = (z2 : Int) := IntWalk.u64_in _ (by omega)
      have t5 : (b9 : Int) + 1 = (b2 : Int) := by omega
      have t6 : IntKind.i64.wrap ((b2 : Int)) = (b2 : Int) := IntWalk.i64_in _ (by omega)
      have hz3 : 1 ≤ z2 ∧ z2 ≤ 65537 ∧ z2 < z9 := by omega
      clear hz2e hb2e
      go_wp2_with fail
      go_roundw
      case rel => exact ⟨b2, z2, by first | rfl | go_num, by first | rfl | go_num, hz3.1, hz3.2.1, HZ2, trivial⟩
      case measure => simp [intOf]; omega
    · obtain rfl : z9 = 1 := by omega
      obtain rfl : b9 = k := by have := HZ.out; rwa [show Nat.log2 1 = 0 by decide] at this
      have t1 : decide ((1 : Int) < ((1 : Nat) : Int)) = false := decide_eq_false (by omega)
      clear hgt
      go_wp2_with fail
      refine (CD.out _ P.out).mono ?_
      rintro e w3 ⟨rfl, b⟩
      replace P := Lib.hid (P.out.below b)
      replace B := Lib.hid (B.out.trans (b.mono B.out.size))
      clear b
      go_wp2_with fail
      go_ret
      exact ⟨rfl, B.out⟩
set_option maxHeartbeats 4000000 in
set_option maxRecDepth 100000 in
theorem runs_ny (n : Nat) (l : List Nat) (p : Option Addr) (m c : Nat) (w : World) (hm : m = l.length) (hp : Rd w p (nums l)) (hl : m ≤ 17592186044416) (hn : ¬ (1 ≤ n ∧ n ≤ 65536)) (x : Nat) (hd : numR l = (x, 0)) :
    Calls Tryd.prog 6 #[.int .u64 (n : Int), .slice p m c] w fun e w' => e = .returned (.bool true) ∧ Below w.heap.size w w' := by
  have CL := Lib.hid (fun W => lives_any W)
  have CA : Hid (∀ W, Calls Tryd.prog 14 #[.int .u64 (n : Int)] W (NEn W 0 [] 1)) := Lib.hid (fun W => by
    have h3 := pdigits_any n W
    rw [show dgL n = [] from if_neg hn, show dgE n = 1 from if_neg hn] at h3
    exact nen_of rfl h3)
  clear hn
  obtain ⟨hg1, hg2⟩ := nu_good hd
  have CD0 : ∀ W, Rd W p (nums l) → Calls Tryd.prog 16 #[.slice p l.length c] W fun e w' => e = .returned (.tuple #[.int .u64 (x : Nat), .int .i64 0]) ∧ Below W.heap.size W w' := fun W h => by
    have h3 := pnumber_any l p c W h (by omega)
    rw [hd] at h3
    exact h3
  have CE : Hid (∀ W, Calls Tryd.prog 14 #[.int .u64 (x : Int)] W (NEn W m l 0)) := Lib.hid (fun W => by
    have h3 := pdigits_any x W
    rw [hg1, hg2] at h3
    exact nen_of hm.symm h3)
  have CS := Lib.hid (fun W (p c q d) (h1 : Rd W p (nums l)) (h2 : Rd W q (nums l)) => same_self (n := m) hm.symm (by omega) p c q d h1 h2)
  rw [← hm] at CD0
  have CD := Lib.hid CD0
  have P := Lib.hid hp
  clear CD0 hg1 hg2 hd hp hm
  have B : Hid (Below w.heap.size w w) := Lib.hid (Below.refl _ _)
  go_enter Tryd.func6, Tryd.ntmps6
  go_wp2_with fail
  refine (CL.out _).mono ?_
  rintro e w0 ⟨rfl, b⟩
  replace P := Lib.hid (P.out.below b)
  replace B := Lib.hid (B.out.trans (b.mono B.out.size))
  clear b
  go_wp2_with fail
  refine (CA.out _).mono ?_
  rintro e w1 ⟨q1, c1, rfl, hc1, r1, b⟩
  replace P := Lib.hid (P.out.below b)
  replace B := Lib.hid (B.out.trans (b.mono B.out.size))
  have R1 := Lib.hid r1
  clear b r1
  clear R1
  go_wp2_with fail
  refine (CD.out _ P.out).mono ?_
  rintro e w2 ⟨rfl, b⟩
  replace P := Lib.hid (P.out.below b)
  replace B := Lib.hid (B.out.trans (b.mono B.out.size))
  clear b
  go_wp2_with fail
  refine (CE.out _).mono ?_
  rintro e w3 ⟨q4, c4, rfl, hc4, r4, b⟩
  replace P := Lib.hid (P.out.below b)
  replace B := Lib.hid (B.out.trans (b.mono B.out.size))
  have R4 := Lib.hid r4
  clear b r4
  go_wp2_with fail
  refine (CS.out _ _ _ _ _ R4.out P.out).mono ?_
  rintro e w4 ⟨rfl, b⟩
  replace P := Lib.hid (P.out.below b)
  replace R4 := Lib.hid (R4.out.below b)
  replace B := Lib.hid (B.out.trans (b.mono B.out.size))
  clear b
  go_wp2_with fail
  go_ret
  exact ⟨rfl, B.out⟩
set_option maxHeartbeats 4000000 in
set_option maxRecDepth 100000 in
theorem runs_nn (n : Nat) (l : List Nat) (p : Option Addr) (m c : Nat) (w : World) (hm : m = l.length) (hp : Rd w p (nums l)) (hl : m ≤ 17592186044416) (hn : ¬ (1 ≤ n ∧ n ≤ 65536)) (y : Int) (hy : y ≠ 0) (hd : numR l = (0, y)) :
    Calls Tryd.prog 6 #[.int .u64 (n : Int), .slice p m c] w fun e w' => e = .returned (.bool true) ∧ Below w.heap.size w w' := by
  have CL := Lib.hid (fun W => lives_any W)
  have CA : Hid (∀ W, Calls Tryd.prog 14 #[.int .u64 (n : Int)] W (NEn W 0 [] 1)) := Lib.hid (fun W => by
    have h3 := pdigits_any n W
    rw [show dgL n = [] from if_neg hn, show dgE n = 1 from if_neg hn] at h3
    exact nen_of rfl h3)
  clear hn
  have CD0 : ∀ W, Rd W p (nums l) → Calls Tryd.prog 16 #[.slice p l.length c] W fun e w' => e = .returned (.tuple #[.int .u64 0, .int .i64 y]) ∧ Below W.heap.size W w' := fun W h => by
    have h3 := pnumber_any l p c W h (by omega)
    rw [hd] at h3
    exact h3
  rw [← hm] at CD0
  have CD := Lib.hid CD0
  have P := Lib.hid hp
  have y1 : (y == 0) = false := by rw [beq_eq_false_iff_ne]; omega
  clear CD0 hd hp hm hy hl
  have B : Hid (Below w.heap.size w w) := Lib.hid (Below.refl _ _)
  go_enter Tryd.func6, Tryd.ntmps6
  go_wp2_with fail
  refine (CL.out _).mono ?_
  rintro e w0 ⟨rfl, b⟩
  replace P := Lib.hid (P.out.below b)
  replace B := Lib.hid (B.out.trans (b.mono B.out.size))
  clear b
  go_wp2_with fail
  refine (CA.out _).mono ?_
  rintro e w1 ⟨q1, c1, rfl, hc1, r1, b⟩
  replace P := Lib.hid (P.out.below b)
  replace B := Lib.hid (B.out.trans (b.mono B.out.size))
  have R1 := Lib.hid r1
  clear b r1
  clear R1
  go_wp2_with fail
  refine (CD.out _ P.out).mono ?_
  rintro e w2 ⟨rfl, b⟩
  replace P := Lib.hid (P.out.below b)
  replace B := Lib.hid (B.out.trans (b.mono B.out.size))
  clear b
  go_wp2_with fail
  go_ret
  exact ⟨rfl, B.out⟩
theorem runs_law (n : Nat) (l : List Nat) (p : Option Addr) (c : Nat) (w : World) (hp : Rd w p (nums l)) (hl : l.length ≤ 17592186044416) :
    Calls Tryd.prog 6 #[.int .u64 (n : Int), .slice p l.length c] w fun e w' => e = .returned (.bool true) ∧ Below w.heap.size w w' := by
  obtain ⟨x, y, hd⟩ : ∃ x y, numR l = (x, y) := ⟨_, _, rfl⟩
  by_cases hy : y = 0
  · subst hy
    by_cases hs : 1 ≤ n ∧ n ≤ 65536
    · exact runs_yy n l p _ c w rfl hp hl hs.1 hs.2 x hd
    · exact runs_ny n l p _ c w rfl hp hl hs x hd
  · obtain rfl := nu_bad hd hy
    by_cases hs : 1 ≤ n ∧ n ≤ 65536
    · exact runs_yn n l p _ c w rfl hp hl hs.1 hs.2 y hy hd
    · exact runs_nn n l p _ c w rfl hp hl hs y hy hd
end Go.Proofs.YtbegngilbngnoaaDoor.Ze

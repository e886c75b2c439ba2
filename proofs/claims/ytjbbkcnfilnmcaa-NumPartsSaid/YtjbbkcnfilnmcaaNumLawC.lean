/- The walk of the law NumOrder. -/
import Derived.Test.YtjbbkcnfilnmcaaNumLawA
namespace Go.Proofs.Ytjbbkcnfilnmcaa.Nm
open Go.RowKit Rw Go.Op

theorem ofL_go (l : List UInt8) : ∀ a, l.foldl (fun a b => 256 * a + b.toNat) a = a * 256 ^ l.length + ofL l := by
  induction l with
  | nil => intro a; simp [ofL]
  | cons b l ih =>
    intro a
    have h2 : ofL (b :: l) = b.toNat * 256 ^ l.length + ofL l := by
      have := ih (256 * 0 + b.toNat)
      unfold ofL at this ⊢
      rw [List.foldl_cons, this]; simp
    rw [List.foldl_cons, ih, h2, List.length_cons, Nat.pow_succ, Nat.add_mul, Nat.add_assoc]
    congr 1
    rw [Nat.mul_comm 256 a, Nat.mul_assoc, Nat.mul_comm 256 (256 ^ l.length)]
theorem ofL_cons (b : UInt8) (l : List UInt8) : ofL (b :: l) = b.toNat * 256 ^ l.length + ofL l := by
  have := ofL_go l (256 * 0 + b.toNat)
  unfold ofL at this ⊢
  rw [List.foldl_cons, this]; simp
theorem less_num : ∀ (u v : List UInt8), u.length = v.length → bytesLess u v = decide (ofL u < ofL v)
  | [], [], _ => by simp [bytesLess]
  | a :: u, b :: v, h => by
    have hl : u.length = v.length := by simpa using h
    have hu := ofL_lt u; have hv := ofL_lt v
    rw [bytesLess, less_num u v hl, ofL_cons, ofL_cons, hl]
    rw [hl] at hu
    obtain ⟨P, hP⟩ : ∃ P, P = 256 ^ v.length := ⟨_, rfl⟩
    rw [← hP] at hu hv ⊢
    by_cases h1 : a < b
    · have h2 : a.toNat + 1 ≤ b.toNat := UInt8.lt_iff_toNat_lt.1 h1
      have h3 : (a.toNat + 1) * P ≤ b.toNat * P := Nat.mul_le_mul_right P h2
      rw [Nat.add_mul] at h3
      rw [decide_eq_true h1, Bool.true_or]
      exact (decide_eq_true (by omega)).symm
    · rw [decide_eq_false h1, Bool.false_or]
      by_cases h4 : a = b
      · subst h4
        simp
      · have h2 : b.toNat + 1 ≤ a.toNat := by
          have e1 : ¬ a.toNat < b.toNat := fun h => h1 (UInt8.lt_iff_toNat_lt.2 h)
          have e2 : a.toNat ≠ b.toNat := fun h => h4 (UInt8.toNat_inj.1 h)
          omega
        have h3 : (b.toNat + 1) * P ≤ a.toNat * P := Nat.mul_le_mul_right P h2
        rw [Nat.add_mul] at h3
        have e3 : (a == b) = false := by rw [beq_eq_false_iff_ne]; exact h4
        rw [e3, Bool.false_and]
        exact (decide_eq_false (by omega)).symm
theorem less_pre : ∀ (u v x y : List UInt8), u.length = v.length → bytesLess (u ++ x) (v ++ y) = if u = v then bytesLess x y else bytesLess u v
  | [], [], x, y, _ => by simp
  | a :: u, b :: v, x, y, h => by
    have hl : u.length = v.length := by simpa using h
    rw [List.cons_append, List.cons_append, bytesLess, bytesLess, less_pre u v x y hl]
    by_cases h4 : a = b
    · subst h4
      by_cases h5 : u = v
      · subst h5
        have e : ¬ a < a := fun h => by have := UInt8.lt_iff_toNat_lt.1 h; omega
        simp [e]
      · simp [h5]
    · have e3 : (a == b) = false := by rw [beq_eq_false_iff_ne]; exact h4
      have e5 : ¬ (a :: u = b :: v) := fun h => h4 (by injection h)
      rw [if_neg e5, e3]; simp
theorem less_five (n m : Nat) (hn : n < 1099511627776) (hm : m < 1099511627776) : bytesLess (fiveL n) (fiveL m) = decide (n < m) := by
  rw [less_num (fiveL n) (fiveL m) rfl, ofL_five n hn, ofL_five m hm]
theorem five_inj {n m : Nat} (hn : n < 1099511627776) (hm : m < 1099511627776) : fiveL n = fiveL m ↔ n = m := by
  constructor
  · intro h; rw [← ofL_five n hn, ← ofL_five m hm, h]
  · intro h; rw [h]
theorem less_fives : ∀ (a b : List Nat), a.length = b.length → (∀ n ∈ a, n < 1099511627776) → (∀ n ∈ b, n < 1099511627776) → bytesLess (fives a) (fives b) = lexL a b
  | [], [], _, _, _ => rfl
  | n :: a, m :: b, h, ha, hb => by
    have hl : a.length = b.length := by simpa using h
    have h1 := ha n (by simp); have h2 := hb m (by simp)
    have e1 : fives (n :: a) = fiveL n ++ fives a := by simp [fives]
    have e2 : fives (m :: b) = fiveL m ++ fives b := by simp [fives]
    rw [e1, e2, less_pre (fiveL n) (fiveL m) _ _ rfl, lexL]
    by_cases hnm : n = m
    · rw [if_pos ((five_inj h1 h2).2 hnm), if_pos hnm]
      exact less_fives a b hl (fun k hk => ha k (by simp [hk])) (fun k hk => hb k (by simp [hk]))
    · rw [if_neg (fun h => hnm ((five_inj h1 h2).1 h)), if_neg hnm, less_five n m h1 h2]
theorem data_ofB (l : List UInt8) : (ofB l).toList = l := by rw [toList_data, ofB_data]

theorem b3 {w w' : World} (h : Below w.heap.size w w') : Below w.heap.size w w' := h
theorem record_at (L : List Nat) (p : Option Addr) (c n : Nat) (hn : n = L.length) (w : World) (hp : Rd w p (nums L)) (hx : n ≤ 9223372036854775807) :
    Calls Try.prog 28 #[.slice p n c] w fun e w' => e = .returned (.tuple #[.string (recS L), .int .i64 (recE L)]) ∧ Below w.heap.size w w' := by
  subst hn
  exact record_any L p c w hp hx
theorem less_at (x y : List Nat) (p q : Option Addr) (c d n m : Nat) (hn : n = x.length) (hm : m = y.length) (w : World) (hp : Rd w p (nums x)) (hq : Rd w q (nums y)) (hx : n ≤ 9223372036854775807) (hy : m ≤ 9223372036854775807) :
    Calls Try.prog 33 #[.slice p n c, .slice q m d] w fun e w' => e = .returned (.bool (lexL x y)) ∧ w = w' := by
  subst hn; subst hm
  exact less_any x y p q c d w hp hq hx hy

set_option maxHeartbeats 64000000 in
set_option maxRecDepth 100000 in
theorem order_law (x y : List Nat) (p q : Option Addr) (c d : Nat) (n m : Nat) (w : World) (hp : Rd w p (nums x)) (hq : Rd w q (nums y)) (hx : x.length ≤ 9223372036854775807) (hy : y.length ≤ 9223372036854775807) :
    Calls Try.prog 8 #[.slice p x.length c, .slice q y.length d, .int .u64 n, .int .u64 m] w fun e w' => e = .returned (.bool true) ∧ Below w.heap.size w w' := by
  have HP := Lib.hid hp; have HQ := Lib.hid hq
  clear hp hq
  obtain ⟨X, hX⟩ : ∃ X, X = putS n := ⟨_, rfl⟩
  obtain ⟨Y, hY⟩ : ∃ Y, Y = putS m := ⟨_, rfl⟩
  obtain ⟨E1, hE1⟩ : ∃ E, E = putE n := ⟨_, rfl⟩
  obtain ⟨E2, hE2⟩ : ∃ E, E = putE m := ⟨_, rfl⟩
  obtain ⟨S, hS⟩ : ∃ S, S = recS x := ⟨_, rfl⟩
  obtain ⟨T, hT⟩ : ∃ T, T = recS y := ⟨_, rfl⟩
  obtain ⟨E3, hE3⟩ : ∃ E, E = recE x := ⟨_, rfl⟩
  obtain ⟨E4, hE4⟩ : ∃ E, E = recE y := ⟨_, rfl⟩
  -- the two numbers
  have g1 : (E1 == 0) = decide (n < 1099511627776) := by
    rw [hE1]; unfold putE
    by_cases h : n < 1099511627776
    · rw [if_pos h, decide_eq_true h]; rfl
    · rw [if_neg h, decide_eq_false h]; rfl
  have g2 : (E2 == 0) = decide (m < 1099511627776) := by
    rw [hE2]; unfold putE
    by_cases h : m < 1099511627776
    · rw [if_pos h, decide_eq_true h]; rfl
    · rw [if_neg h, decide_eq_false h]; rfl
  have g3 : n < 1099511627776 → m < 1099511627776 → bytesLess X.toList Y.toList = decide (n < m) := by
    intro h1 h2
    rw [hX, hY]; unfold putS
    rw [if_pos h1, if_pos h2, data_ofB, data_ofB, less_five n m h1 h2]
  have g4 : (E3 != 0) = !decide (recOk x) := by
    rw [hE3]; unfold recE
    by_cases h : recOk x
    · rw [if_pos h, decide_eq_true h]; rfl
    · rw [if_neg h, decide_eq_false h]; rfl
  have g5 : (E4 != 0) = !decide (recOk y) := by
    rw [hE4]; unfold recE
    by_cases h : recOk y
    · rw [if_pos h, decide_eq_true h]; rfl
    · rw [if_neg h, decide_eq_false h]; rfl
  have g6 : recOk x → recOk y → x.length = y.length → bytesLess S.toList T.toList = lexL x y := by
    intro h1 h2 h3
    rw [hS, hT]; unfold recS
    rw [if_pos h1, if_pos h2, data_ofB, data_ofB, less_fives x y h3 h1.2.2 h2.2.2]
  have HX := Lib.hid hX; have HY := Lib.hid hY; have HE1 := Lib.hid hE1; have HE2 := Lib.hid hE2; have HS := Lib.hid hS; have HT := Lib.hid hT; have HE3 := Lib.hid hE3; have HE4 := Lib.hid hE4
  clear hX hY hE1 hE2 hS hT hE3 hE4
  have G3 := Lib.hid g3; have G6 := Lib.hid g6
  clear g3 g6
  obtain ⟨u, hu⟩ : ∃ u, u = x.length := ⟨_, rfl⟩
  obtain ⟨v, hv⟩ : ∃ v, v = y.length := ⟨_, rfl⟩
  rw [← hu, ← hv]; rw [← hu] at hx; rw [← hv] at hy
  have HU := Lib.hid hu; have HV := Lib.hid hv
  clear hu hv
  by_cases h1 : n < 1099511627776
  case neg =>
    rw [decide_eq_false h1] at g1
    clear h1 g2
    by_cases h4 : recOk x
    case neg =>
      rw [decide_eq_false h4] at g4
      clear h4 g5
      go_enter Try.func8, Try.ntmps8
      go_wp2_with fail
      refine (lives_any _).mono ?_
      rintro e w1 ⟨rfl, b⟩
      have B1 := Lib.hid b; clear b
      go_wp2_with fail
      refine (put_any n _).mono ?_
      rw [← HX.out, ← HE1.out]
      rintro e w2 ⟨rfl, b⟩
      have B2 := Lib.hid (B1.out.trans (b.mono B1.out.size)); clear b B1
      go_wp2_with fail
      refine (put_any m _).mono ?_
      rw [← HY.out, ← HE2.out]
      rintro e w3 ⟨rfl, b⟩
      have B3 := Lib.hid (B2.out.trans (b.mono B2.out.size)); clear b B2
      have RP := Lib.hid (HP.out.below (b3 B3.out)); have RQ := Lib.hid (HQ.out.below (b3 B3.out))
      go_wp2_with fail
      refine (record_at x p c u HU.out _ RP.out hx).mono ?_
      rw [← HS.out, ← HE3.out]
      rintro e w4 ⟨rfl, b⟩
      have RP4 := Lib.hid (RP.out.below b); have RQ4 := Lib.hid (RQ.out.below b)
      have B4 := Lib.hid (B3.out.trans (b.mono B3.out.size)); clear b B3 RP RQ
      go_wp2_with fail
      refine (record_at y q d v HV.out _ RQ4.out hy).mono ?_
      rw [← HT.out, ← HE4.out]
      rintro e w5 ⟨rfl, b⟩
      have RP5 := Lib.hid (RP4.out.below b); have RQ5 := Lib.hid (RQ4.out.below b)
      have B5 := Lib.hid (B4.out.trans (b.mono B4.out.size)); clear b B4 RP4 RQ4
      go_wp2_with fail
      go_ret
      exact ⟨rfl, B5.out⟩
    by_cases h5 : recOk y
    case neg =>
      rw [decide_eq_true h4] at g4; rw [decide_eq_false h5] at g5
      clear h4 h5
      go_enter Try.func8, Try.ntmps8
      go_wp2_with fail
      refine (lives_any _).mono ?_
      rintro e w1 ⟨rfl, b⟩
      have B1 := Lib.hid b; clear b
      go_wp2_with fail
      refine (put_any n _).mono ?_
      rw [← HX.out, ← HE1.out]
      rintro e w2 ⟨rfl, b⟩
      have B2 := Lib.hid (B1.out.trans (b.mono B1.out.size)); clear b B1
      go_wp2_with fail
      refine (put_any m _).mono ?_
      rw [← HY.out, ← HE2.out]
      rintro e w3 ⟨rfl, b⟩
      have B3 := Lib.hid (B2.out.trans (b.mono B2.out.size)); clear b B2
      have RP := Lib.hid (HP.out.below (b3 B3.out)); have RQ := Lib.hid (HQ.out.below (b3 B3.out))
      go_wp2_with fail
      refine (record_at x p c u HU.out _ RP.out hx).mono ?_
      rw [← HS.out, ← HE3.out]
      rintro e w4 ⟨rfl, b⟩
      have RP4 := Lib.hid (RP.out.below b); have RQ4 := Lib.hid (RQ.out.below b)
      have B4 := Lib.hid (B3.out.trans (b.mono B3.out.size)); clear b B3 RP RQ
      go_wp2_with fail
      refine (record_at y q d v HV.out _ RQ4.out hy).mono ?_
      rw [← HT.out, ← HE4.out]
      rintro e w5 ⟨rfl, b⟩
      have RP5 := Lib.hid (RP4.out.below b); have RQ5 := Lib.hid (RQ4.out.below b)
      have B5 := Lib.hid (B4.out.trans (b.mono B4.out.size)); clear b B4 RP4 RQ4
      go_wp2_with fail
      go_ret
      exact ⟨rfl, B5.out⟩
    rw [decide_eq_true h4] at g4; rw [decide_eq_true h5] at g5
    by_cases h6 : u = v
    case neg =>
      have t7 : ((u : Int) != (v : Int)) = true := by rw [bne_iff_ne]; omega
      clear h4 h5 h6
      go_enter Try.func8, Try.ntmps8
      go_wp2_with fail
      refine (lives_any _).mono ?_
      rintro e w1 ⟨rfl, b⟩
      have B1 := Lib.hid b; clear b
      go_wp2_with fail
      refine (put_any n _).mono ?_
      rw [← HX.out, ← HE1.out]
      rintro e w2 ⟨rfl, b⟩
      have B2 := Lib.hid (B1.out.trans (b.mono B1.out.size)); clear b B1
      go_wp2_with fail
      refine (put_any m _).mono ?_
      rw [← HY.out, ← HE2.out]
      rintro e w3 ⟨rfl, b⟩
      have B3 := Lib.hid (B2.out.trans (b.mono B2.out.size)); clear b B2
      have RP := Lib.hid (HP.out.below (b3 B3.out)); have RQ := Lib.hid (HQ.out.below (b3 B3.out))
      go_wp2_with fail
      refine (record_at x p c u HU.out _ RP.out hx).mono ?_
      rw [← HS.out, ← HE3.out]
      rintro e w4 ⟨rfl, b⟩
      have RP4 := Lib.hid (RP.out.below b); have RQ4 := Lib.hid (RQ.out.below b)
      have B4 := Lib.hid (B3.out.trans (b.mono B3.out.size)); clear b B3 RP RQ
      go_wp2_with fail
      refine (record_at y q d v HV.out _ RQ4.out hy).mono ?_
      rw [← HT.out, ← HE4.out]
      rintro e w5 ⟨rfl, b⟩
      have RP5 := Lib.hid (RP4.out.below b); have RQ5 := Lib.hid (RQ4.out.below b)
      have B5 := Lib.hid (B4.out.trans (b.mono B4.out.size)); clear b B4 RP4 RQ4
      go_wp2_with fail
      go_ret
      exact ⟨rfl, B5.out⟩
    have t6 : bytesLess S.toList T.toList = lexL x y := G6.out h4 h5 (by rw [← HU.out, ← HV.out, h6])
    have t7 : ((u : Int) != (v : Int)) = false := by rw [bne_eq_false_iff_eq]; omega
    clear h4 h5 h6
    obtain ⟨LL, hLL⟩ : ∃ LL, LL = lexL x y := ⟨_, rfl⟩
    rw [← hLL] at t6
    have HLL := Lib.hid hLL; clear hLL
    go_enter Try.func8, Try.ntmps8
    go_wp2_with fail
    refine (lives_any _).mono ?_
    rintro e w1 ⟨rfl, b⟩
    have B1 := Lib.hid b; clear b
    go_wp2_with fail
    refine (put_any n _).mono ?_
    rw [← HX.out, ← HE1.out]
    rintro e w2 ⟨rfl, b⟩
    have B2 := Lib.hid (B1.out.trans (b.mono B1.out.size)); clear b B1
    go_wp2_with fail
    refine (put_any m _).mono ?_
    rw [← HY.out, ← HE2.out]
    rintro e w3 ⟨rfl, b⟩
    have B3 := Lib.hid (B2.out.trans (b.mono B2.out.size)); clear b B2
    have RP := Lib.hid (HP.out.below (b3 B3.out)); have RQ := Lib.hid (HQ.out.below (b3 B3.out))
    go_wp2_with fail
    refine (record_at x p c u HU.out _ RP.out hx).mono ?_
    rw [← HS.out, ← HE3.out]
    rintro e w4 ⟨rfl, b⟩
    have RP4 := Lib.hid (RP.out.below b); have RQ4 := Lib.hid (RQ.out.below b)
    have B4 := Lib.hid (B3.out.trans (b.mono B3.out.size)); clear b B3 RP RQ
    go_wp2_with fail
    refine (record_at y q d v HV.out _ RQ4.out hy).mono ?_
    rw [← HT.out, ← HE4.out]
    rintro e w5 ⟨rfl, b⟩
    have RP5 := Lib.hid (RP4.out.below b); have RQ5 := Lib.hid (RQ4.out.below b)
    have B5 := Lib.hid (B4.out.trans (b.mono B4.out.size)); clear b B4 RP4 RQ4
    go_wp2_with fail
    refine (less_at x y p q c d u v HU.out HV.out _ RP5.out RQ5.out hx hy).mono ?_
    rw [← HLL.out]
    rintro e w6 ⟨rfl, rfl⟩
    go_wp2_with fail
    go_ret
    exact ⟨rfl, B5.out⟩
  by_cases h2 : m < 1099511627776
  case neg =>
    rw [decide_eq_true h1] at g1; rw [decide_eq_false h2] at g2
    clear h1 h2
    by_cases h4 : recOk x
    case neg =>
      rw [decide_eq_false h4] at g4
      clear h4 g5
      go_enter Try.func8, Try.ntmps8
      go_wp2_with fail
      refine (lives_any _).mono ?_
      rintro e w1 ⟨rfl, b⟩
      have B1 := Lib.hid b; clear b
      go_wp2_with fail
      refine (put_any n _).mono ?_
      rw [← HX.out, ← HE1.out]
      rintro e w2 ⟨rfl, b⟩
      have B2 := Lib.hid (B1.out.trans (b.mono B1.out.size)); clear b B1
      go_wp2_with fail
      refine (put_any m _).mono ?_
      rw [← HY.out, ← HE2.out]
      rintro e w3 ⟨rfl, b⟩
      have B3 := Lib.hid (B2.out.trans (b.mono B2.out.size)); clear b B2
      have RP := Lib.hid (HP.out.below (b3 B3.out)); have RQ := Lib.hid (HQ.out.below (b3 B3.out))
      go_wp2_with fail
      refine (record_at x p c u HU.out _ RP.out hx).mono ?_
      rw [← HS.out, ← HE3.out]
      rintro e w4 ⟨rfl, b⟩
      have RP4 := Lib.hid (RP.out.below b); have RQ4 := Lib.hid (RQ.out.below b)
      have B4 := Lib.hid (B3.out.trans (b.mono B3.out.size)); clear b B3 RP RQ
      go_wp2_with fail
      refine (record_at y q d v HV.out _ RQ4.out hy).mono ?_
      rw [← HT.out, ← HE4.out]
      rintro e w5 ⟨rfl, b⟩
      have RP5 := Lib.hid (RP4.out.below b); have RQ5 := Lib.hid (RQ4.out.below b)
      have B5 := Lib.hid (B4.out.trans (b.mono B4.out.size)); clear b B4 RP4 RQ4
      go_wp2_with fail
      go_ret
      exact ⟨rfl, B5.out⟩
    by_cases h5 : recOk y
    case neg =>
      rw [decide_eq_true h4] at g4; rw [decide_eq_false h5] at g5
      clear h4 h5
      go_enter Try.func8, Try.ntmps8
      go_wp2_with fail
      refine (lives_any _).mono ?_
      rintro e w1 ⟨rfl, b⟩
      have B1 := Lib.hid b; clear b
      go_wp2_with fail
      refine (put_any n _).mono ?_
      rw [← HX.out, ← HE1.out]
      rintro e w2 ⟨rfl, b⟩
      have B2 := Lib.hid (B1.out.trans (b.mono B1.out.size)); clear b B1
      go_wp2_with fail
      refine (put_any m _).mono ?_
      rw [← HY.out, ← HE2.out]
      rintro e w3 ⟨rfl, b⟩
      have B3 := Lib.hid (B2.out.trans (b.mono B2.out.size)); clear b B2
      have RP := Lib.hid (HP.out.below (b3 B3.out)); have RQ := Lib.hid (HQ.out.below (b3 B3.out))
      go_wp2_with fail
      refine (record_at x p c u HU.out _ RP.out hx).mono ?_
      rw [← HS.out, ← HE3.out]
      rintro e w4 ⟨rfl, b⟩
      have RP4 := Lib.hid (RP.out.below b); have RQ4 := Lib.hid (RQ.out.below b)
      have B4 := Lib.hid (B3.out.trans (b.mono B3.out.size)); clear b B3 RP RQ
      go_wp2_with fail
      refine (record_at y q d v HV.out _ RQ4.out hy).mono ?_
      rw [← HT.out, ← HE4.out]
      rintro e w5 ⟨rfl, b⟩
      have RP5 := Lib.hid (RP4.out.below b); have RQ5 := Lib.hid (RQ4.out.below b)
      have B5 := Lib.hid (B4.out.trans (b.mono B4.out.size)); clear b B4 RP4 RQ4
      go_wp2_with fail
      go_ret
      exact ⟨rfl, B5.out⟩
    rw [decide_eq_true h4] at g4; rw [decide_eq_true h5] at g5
    by_cases h6 : u = v
    case neg =>
      have t7 : ((u : Int) != (v : Int)) = true := by rw [bne_iff_ne]; omega
      clear h4 h5 h6
      go_enter Try.func8, Try.ntmps8
      go_wp2_with fail
      refine (lives_any _).mono ?_
      rintro e w1 ⟨rfl, b⟩
      have B1 := Lib.hid b; clear b
      go_wp2_with fail
      refine (put_any n _).mono ?_
      rw [← HX.out, ← HE1.out]
      rintro e w2 ⟨rfl, b⟩
      have B2 := Lib.hid (B1.out.trans (b.mono B1.out.size)); clear b B1
      go_wp2_with fail
      refine (put_any m _).mono ?_
      rw [← HY.out, ← HE2.out]
      rintro e w3 ⟨rfl, b⟩
      have B3 := Lib.hid (B2.out.trans (b.mono B2.out.size)); clear b B2
      have RP := Lib.hid (HP.out.below (b3 B3.out)); have RQ := Lib.hid (HQ.out.below (b3 B3.out))
      go_wp2_with fail
      refine (record_at x p c u HU.out _ RP.out hx).mono ?_
      rw [← HS.out, ← HE3.out]
      rintro e w4 ⟨rfl, b⟩
      have RP4 := Lib.hid (RP.out.below b); have RQ4 := Lib.hid (RQ.out.below b)
      have B4 := Lib.hid (B3.out.trans (b.mono B3.out.size)); clear b B3 RP RQ
      go_wp2_with fail
      refine (record_at y q d v HV.out _ RQ4.out hy).mono ?_
      rw [← HT.out, ← HE4.out]
      rintro e w5 ⟨rfl, b⟩
      have RP5 := Lib.hid (RP4.out.below b); have RQ5 := Lib.hid (RQ4.out.below b)
      have B5 := Lib.hid (B4.out.trans (b.mono B4.out.size)); clear b B4 RP4 RQ4
      go_wp2_with fail
      go_ret
      exact ⟨rfl, B5.out⟩
    have t6 : bytesLess S.toList T.toList = lexL x y := G6.out h4 h5 (by rw [← HU.out, ← HV.out, h6])
    have t7 : ((u : Int) != (v : Int)) = false := by rw [bne_eq_false_iff_eq]; omega
    clear h4 h5 h6
    obtain ⟨LL, hLL⟩ : ∃ LL, LL = lexL x y := ⟨_, rfl⟩
    rw [← hLL] at t6
    have HLL := Lib.hid hLL; clear hLL
    go_enter Try.func8, Try.ntmps8
    go_wp2_with fail
    refine (lives_any _).mono ?_
    rintro e w1 ⟨rfl, b⟩
    have B1 := Lib.hid b; clear b
    go_wp2_with fail
    refine (put_any n _).mono ?_
    rw [← HX.out, ← HE1.out]
    rintro e w2 ⟨rfl, b⟩
    have B2 := Lib.hid (B1.out.trans (b.mono B1.out.size)); clear b B1
    go_wp2_with fail
    refine (put_any m _).mono ?_
    rw [← HY.out, ← HE2.out]
    rintro e w3 ⟨rfl, b⟩
    have B3 := Lib.hid (B2.out.trans (b.mono B2.out.size)); clear b B2
    have RP := Lib.hid (HP.out.below (b3 B3.out)); have RQ := Lib.hid (HQ.out.below (b3 B3.out))
    go_wp2_with fail
    refine (record_at x p c u HU.out _ RP.out hx).mono ?_
    rw [← HS.out, ← HE3.out]
    rintro e w4 ⟨rfl, b⟩
    have RP4 := Lib.hid (RP.out.below b); have RQ4 := Lib.hid (RQ.out.below b)
    have B4 := Lib.hid (B3.out.trans (b.mono B3.out.size)); clear b B3 RP RQ
    go_wp2_with fail
    refine (record_at y q d v HV.out _ RQ4.out hy).mono ?_
    rw [← HT.out, ← HE4.out]
    rintro e w5 ⟨rfl, b⟩
    have RP5 := Lib.hid (RP4.out.below b); have RQ5 := Lib.hid (RQ4.out.below b)
    have B5 := Lib.hid (B4.out.trans (b.mono B4.out.size)); clear b B4 RP4 RQ4
    go_wp2_with fail
    refine (less_at x y p q c d u v HU.out HV.out _ RP5.out RQ5.out hx hy).mono ?_
    rw [← HLL.out]
    rintro e w6 ⟨rfl, rfl⟩
    go_wp2_with fail
    go_ret
    exact ⟨rfl, B5.out⟩
  rw [decide_eq_true h1] at g1; rw [decide_eq_true h2] at g2
  have t3 : bytesLess X.toList Y.toList = decide (n < m) := G3.out h1 h2
  clear h1 h2
  by_cases h4 : recOk x
  case neg =>
    rw [decide_eq_false h4] at g4
    clear h4 g5
    go_enter Try.func8, Try.ntmps8
    go_wp2_with fail
    refine (lives_any _).mono ?_
    rintro e w1 ⟨rfl, b⟩
    have B1 := Lib.hid b; clear b
    go_wp2_with fail
    refine (put_any n _).mono ?_
    rw [← HX.out, ← HE1.out]
    rintro e w2 ⟨rfl, b⟩
    have B2 := Lib.hid (B1.out.trans (b.mono B1.out.size)); clear b B1
    go_wp2_with fail
    refine (put_any m _).mono ?_
    rw [← HY.out, ← HE2.out]
    rintro e w3 ⟨rfl, b⟩
    have B3 := Lib.hid (B2.out.trans (b.mono B2.out.size)); clear b B2
    have RP := Lib.hid (HP.out.below (b3 B3.out)); have RQ := Lib.hid (HQ.out.below (b3 B3.out))
    go_wp2_with fail
    refine (record_at x p c u HU.out _ RP.out hx).mono ?_
    rw [← HS.out, ← HE3.out]
    rintro e w4 ⟨rfl, b⟩
    have RP4 := Lib.hid (RP.out.below b); have RQ4 := Lib.hid (RQ.out.below b)
    have B4 := Lib.hid (B3.out.trans (b.mono B3.out.size)); clear b B3 RP RQ
    go_wp2_with fail
    refine (record_at y q d v HV.out _ RQ4.out hy).mono ?_
    rw [← HT.out, ← HE4.out]
    rintro e w5 ⟨rfl, b⟩
    have RP5 := Lib.hid (RP4.out.below b); have RQ5 := Lib.hid (RQ4.out.below b)
    have B5 := Lib.hid (B4.out.trans (b.mono B4.out.size)); clear b B4 RP4 RQ4
    go_wp2_with fail
    go_ret
    exact ⟨rfl, B5.out⟩
  by_cases h5 : recOk y
  case neg =>
    rw [decide_eq_true h4] at g4; rw [decide_eq_false h5] at g5
    clear h4 h5
    go_enter Try.func8, Try.ntmps8
    go_wp2_with fail
    refine (lives_any _).mono ?_
    rintro e w1 ⟨rfl, b⟩
    have B1 := Lib.hid b; clear b
    go_wp2_with fail
    refine (put_any n _).mono ?_
    rw [← HX.out, ← HE1.out]
    rintro e w2 ⟨rfl, b⟩
    have B2 := Lib.hid (B1.out.trans (b.mono B1.out.size)); clear b B1
    go_wp2_with fail
    refine (put_any m _).mono ?_
    rw [← HY.out, ← HE2.out]
    rintro e w3 ⟨rfl, b⟩
    have B3 := Lib.hid (B2.out.trans (b.mono B2.out.size)); clear b B2
    have RP := Lib.hid (HP.out.below (b3 B3.out)); have RQ := Lib.hid (HQ.out.below (b3 B3.out))
    go_wp2_with fail
    refine (record_at x p c u HU.out _ RP.out hx).mono ?_
    rw [← HS.out, ← HE3.out]
    rintro e w4 ⟨rfl, b⟩
    have RP4 := Lib.hid (RP.out.below b); have RQ4 := Lib.hid (RQ.out.below b)
    have B4 := Lib.hid (B3.out.trans (b.mono B3.out.size)); clear b B3 RP RQ
    go_wp2_with fail
    refine (record_at y q d v HV.out _ RQ4.out hy).mono ?_
    rw [← HT.out, ← HE4.out]
    rintro e w5 ⟨rfl, b⟩
    have RP5 := Lib.hid (RP4.out.below b); have RQ5 := Lib.hid (RQ4.out.below b)
    have B5 := Lib.hid (B4.out.trans (b.mono B4.out.size)); clear b B4 RP4 RQ4
    go_wp2_with fail
    go_ret
    exact ⟨rfl, B5.out⟩
  rw [decide_eq_true h4] at g4; rw [decide_eq_true h5] at g5
  by_cases h6 : u = v
  case neg =>
    have t7 : ((u : Int) != (v : Int)) = true := by rw [bne_iff_ne]; omega
    clear h4 h5 h6
    go_enter Try.func8, Try.ntmps8
    go_wp2_with fail
    refine (lives_any _).mono ?_
    rintro e w1 ⟨rfl, b⟩
    have B1 := Lib.hid b; clear b
    go_wp2_with fail
    refine (put_any n _).mono ?_
    rw [← HX.out, ← HE1.out]
    rintro e w2 ⟨rfl, b⟩
    have B2 := Lib.hid (B1.out.trans (b.mono B1.out.size)); clear b B1
    go_wp2_with fail
    refine (put_any m _).mono ?_
    rw [← HY.out, ← HE2.out]
    rintro e w3 ⟨rfl, b⟩
    have B3 := Lib.hid (B2.out.trans (b.mono B2.out.size)); clear b B2
    have RP := Lib.hid (HP.out.below (b3 B3.out)); have RQ := Lib.hid (HQ.out.below (b3 B3.out))
    go_wp2_with fail
    refine (record_at x p c u HU.out _ RP.out hx).mono ?_
    rw [← HS.out, ← HE3.out]
    rintro e w4 ⟨rfl, b⟩
    have RP4 := Lib.hid (RP.out.below b); have RQ4 := Lib.hid (RQ.out.below b)
    have B4 := Lib.hid (B3.out.trans (b.mono B3.out.size)); clear b B3 RP RQ
    go_wp2_with fail
    refine (record_at y q d v HV.out _ RQ4.out hy).mono ?_
    rw [← HT.out, ← HE4.out]
    rintro e w5 ⟨rfl, b⟩
    have RP5 := Lib.hid (RP4.out.below b); have RQ5 := Lib.hid (RQ4.out.below b)
    have B5 := Lib.hid (B4.out.trans (b.mono B4.out.size)); clear b B4 RP4 RQ4
    go_wp2_with fail
    go_ret
    exact ⟨rfl, B5.out⟩
  have t6 : bytesLess S.toList T.toList = lexL x y := G6.out h4 h5 (by rw [← HU.out, ← HV.out, h6])
  have t7 : ((u : Int) != (v : Int)) = false := by rw [bne_eq_false_iff_eq]; omega
  clear h4 h5 h6
  obtain ⟨LL, hLL⟩ : ∃ LL, LL = lexL x y := ⟨_, rfl⟩
  rw [← hLL] at t6
  have HLL := Lib.hid hLL; clear hLL
  go_enter Try.func8, Try.ntmps8
  go_wp2_with fail
  refine (lives_any _).mono ?_
  rintro e w1 ⟨rfl, b⟩
  have B1 := Lib.hid b; clear b
  go_wp2_with fail
  refine (put_any n _).mono ?_
  rw [← HX.out, ← HE1.out]
  rintro e w2 ⟨rfl, b⟩
  have B2 := Lib.hid (B1.out.trans (b.mono B1.out.size)); clear b B1
  go_wp2_with fail
  refine (put_any m _).mono ?_
  rw [← HY.out, ← HE2.out]
  rintro e w3 ⟨rfl, b⟩
  have B3 := Lib.hid (B2.out.trans (b.mono B2.out.size)); clear b B2
  have RP := Lib.hid (HP.out.below (b3 B3.out)); have RQ := Lib.hid (HQ.out.below (b3 B3.out))
  go_wp2_with fail
  refine (record_at x p c u HU.out _ RP.out hx).mono ?_
  rw [← HS.out, ← HE3.out]
  rintro e w4 ⟨rfl, b⟩
  have RP4 := Lib.hid (RP.out.below b); have RQ4 := Lib.hid (RQ.out.below b)
  have B4 := Lib.hid (B3.out.trans (b.mono B3.out.size)); clear b B3 RP RQ
  go_wp2_with fail
  refine (record_at y q d v HV.out _ RQ4.out hy).mono ?_
  rw [← HT.out, ← HE4.out]
  rintro e w5 ⟨rfl, b⟩
  have RP5 := Lib.hid (RP4.out.below b); have RQ5 := Lib.hid (RQ4.out.below b)
  have B5 := Lib.hid (B4.out.trans (b.mono B4.out.size)); clear b B4 RP4 RQ4
  go_wp2_with fail
  refine (less_at x y p q c d u v HU.out HV.out _ RP5.out RQ5.out hx hy).mono ?_
  rw [← HLL.out]
  rintro e w6 ⟨rfl, rfl⟩
  go_wp2_with fail
  go_ret
  exact ⟨rfl, B5.out⟩
end Go.Proofs.Ytjbbkcnfilnmcaa.Nm

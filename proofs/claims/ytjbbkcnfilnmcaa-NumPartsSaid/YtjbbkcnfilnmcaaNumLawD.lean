/- The walk of the law NumRecords. -/
import Derived.Test.YtjbbkcnfilnmcaaNumLawC
namespace Go.Proofs.Ytjbbkcnfilnmcaa.Nm
open Go.RowKit Rw Go.Op

theorem spM_len (l : List UInt8) (w : Int) : (spM l w).length ≤ l.length := by
  unfold spM
  split
  · rw [recsN_length]; exact Nat.div_le_self _ _
  · simp
theorem same_at (M N : List (List Nat)) (n m : Nat) (hn : n = M.length) (hm : m = N.length) (p q : Option Addr) (c d : Nat) (w : World) (hp : RecsAt w p M) (hq : RecsAt w q N) (hx : n ≤ 9223372036854775807) (hy : m ≤ 9223372036854775807) :
    Calls Try.prog 32 #[.slice p n c, .slice q m d] w fun e w' => e = .returned (.bool (decide (M = N))) ∧ ∃ n, w' = w.drewN n := by
  subst hn; subst hm
  exact same_any M N p q c d w hp hq hx hy
theorem rrecord_at (L : List Nat) (p : Option Addr) (c n : Nat) (hn : n = L.length) (w : World) (hp : Rd w p (nums L)) (hx : n ≤ 9223372036854775807) :
    Calls Try.prog 29 #[.slice p n c] w fun e w' => e = .returned (.tuple #[.string (recS L), .int .i64 (recE L)]) ∧ Below w.heap.size w w' := by
  subst hn
  exact rrecord_any L p c w hp hx
theorem rless_at (x y : List Nat) (p q : Option Addr) (c d n m : Nat) (hn : n = x.length) (hm : m = y.length) (w : World) (hp : Rd w p (nums x)) (hq : Rd w q (nums y)) (hx : n ≤ 9223372036854775807) (hy : m ≤ 9223372036854775807) :
    Calls Try.prog 34 #[.slice p n c, .slice q m d] w fun e w' => e = .returned (.bool (lexL x y)) ∧ ∃ k, w' = w.drewN k := by
  subst hn; subst hm
  exact rless_any x y p q c d w hp hq hx hy

set_option maxHeartbeats 16000000 in
set_option maxRecDepth 100000 in
theorem records_law (x y : List Nat) (p q : Option Addr) (c d : Nat) (s : ByteArray) (wd : Int) (w : World) (hp : Rd w p (nums x)) (hq : Rd w q (nums y)) (hx : x.length ≤ 9223372036854775807) (hy : y.length ≤ 9223372036854775807) (hs : s.size ≤ 1048576) :
    Calls Try.prog 6 #[.slice p x.length c, .slice q y.length d, .string s, .int .i64 wd] w fun e w' => e = .returned (.bool true) ∧ Below w.heap.size w w' := by
  have HP := Lib.hid hp; have HQ := Lib.hid hq
  clear hp hq
  obtain ⟨S, hS⟩ : ∃ S, S = recS x := ⟨_, rfl⟩
  obtain ⟨E, hE⟩ : ∃ E, E = recE x := ⟨_, rfl⟩
  obtain ⟨M, hM⟩ : ∃ M, M = spM s.data.toList wd := ⟨_, rfl⟩
  obtain ⟨F, hF⟩ : ∃ F, F = spE s.data.toList wd := ⟨_, rfl⟩
  obtain ⟨u, hu⟩ : ∃ u, u = x.length := ⟨_, rfl⟩
  obtain ⟨v, hv⟩ : ∃ v, v = y.length := ⟨_, rfl⟩
  obtain ⟨t, ht⟩ : ∃ t, t = M.length := ⟨_, rfl⟩
  obtain ⟨LL, hLL⟩ : ∃ LL, LL = lexL x y := ⟨_, rfl⟩
  have hMl : t ≤ 1048576 := by rw [ht, hM]; have := spM_len s.data.toList wd; rw [size_data] at this; omega
  have htm : t ≤ 9223372036854775807 := by omega
  rw [← hu, ← hv]; rw [← hu] at hx; rw [← hv] at hy
  have HS := Lib.hid hS; have HE := Lib.hid hE; have HM := Lib.hid hM; have HF := Lib.hid hF; have HU := Lib.hid hu; have HV := Lib.hid hv; have HT := Lib.hid ht; have HLL := Lib.hid hLL
  have HZ : Hid (s.size ≤ 2000000) := Lib.hid (by omega)
  clear hS hE hM hF hu hv ht hLL hs hMl
  go_enter Try.func6, Try.ntmps6
  go_wp2_with fail
  refine (record_at x p c u HU.out _ HP.out hx).mono ?_
  rw [← HS.out, ← HE.out]
  rintro e w1 ⟨rfl, b⟩
  have RP := Lib.hid (HP.out.below b); have RQ := Lib.hid (HQ.out.below b)
  have B1 := Lib.hid b; clear b
  go_wp2_with fail
  refine (rrecord_at x p c u HU.out _ RP.out hx).mono ?_
  rw [← HS.out, ← HE.out]
  rintro e w2 ⟨rfl, b⟩
  have RP2 := Lib.hid (RP.out.below b); have RQ2 := Lib.hid (RQ.out.below b)
  have B2 := Lib.hid (B1.out.trans (b.mono B1.out.size)); clear b B1 RP RQ
  go_wp2_with fail
  refine (split_any s wd _ HZ.out).mono ?_
  rw [← HM.out, ← HF.out]
  rintro e w3 ⟨A1, c1, rfl, hr, b⟩
  rw [← HT.out]
  have RP3 := Lib.hid (RP2.out.below b); have RQ3 := Lib.hid (RQ2.out.below b); have RM3 := Lib.hid hr
  have B3 := Lib.hid (B2.out.trans (b.mono B2.out.size)); clear b B2 RP2 RQ2 hr
  go_wp2_with fail
  refine (rsplit_any s wd _ HZ.out).mono ?_
  rw [← HM.out, ← HF.out]
  rintro e w4 ⟨A2, c2, rfl, hr, b⟩
  rw [← HT.out]
  have RP4 := Lib.hid (RP3.out.below b); have RQ4 := Lib.hid (RQ3.out.below b); have RM4 := Lib.hid (RM3.out.below b); have RN4 := Lib.hid hr
  have B4 := Lib.hid (B3.out.trans (b.mono B3.out.size)); clear b B3 RP3 RQ3 RM3 hr
  go_wp2_with fail
  refine (lives_any _).mono ?_
  rintro e w5 ⟨rfl, b⟩
  have RP5 := Lib.hid (RP4.out.below b); have RQ5 := Lib.hid (RQ4.out.below b); have RM5 := Lib.hid (RM4.out.below b); have RN5 := Lib.hid (RN4.out.below b)
  have B5 := Lib.hid (B4.out.trans (b.mono B4.out.size)); clear b B4 RP4 RQ4 RM4 RN4
  go_wp2_with fail
  refine (same_at M M t t HT.out HT.out A1 A2 c1 c2 _ RM5.out RN5.out htm htm).mono ?_
  rw [decide_eq_true (rfl : M = M)]
  rintro e w6 ⟨rfl, k6, rfl⟩
  have RP6 := Lib.hid (RP5.out.drewN k6); have RQ6 := Lib.hid (RQ5.out.drewN k6)
  clear RP5 RQ5
  go_wp2_with fail
  refine (less_at x y p q c d u v HU.out HV.out _ RP6.out RQ6.out hx hy).mono ?_
  rw [← HLL.out]
  rintro e w7 ⟨rfl, rfl⟩
  go_wp2_with fail
  refine (rless_at x y p q c d u v HU.out HV.out _ RP6.out RQ6.out hx hy).mono ?_
  rw [← HLL.out]
  rintro e w7 ⟨rfl, k7, rfl⟩
  have B7 := Lib.hid (below_drewN B5.out (k6 + k7)); clear B5
  go_wp2_with fail
  go_ret
  exact ⟨rfl, B7.out⟩
end Go.Proofs.Ytjbbkcnfilnmcaa.Nm

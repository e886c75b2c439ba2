/- As much in common as the place ahead, less one: the mathematics. No function of the program in sight. The walk of order's alike and of the iterator shared. -/
import Derived.Test.YtfmnnbeegfjnaaaGreatOrdCom
import Derived.Test.YtfmnnbeegfjnaaaGreatOrdPRight
import Derived.Laws.EntriesVeiled
namespace Go.Proofs.YtfmnnbeegfjnaaaGreat.Od
open Ls _root_.Go.Proofs.YtfmnnbeegfjnaaaGreat.Nm

theorem lcp_same_head {a b : Nat} {x y : List Nat} : lcp (a :: x) (b :: y) = if a = b then lcp x y + 1 else 0 := by
  simp only [lcp]
theorem lcp_cut : ∀ (m : Nat) (x y : List Nat), m ≤ lcp x y → m + lcp (x.drop m) (y.drop m) = lcp x y
  | 0, x, y, _ => by simp
  | m + 1, [], y, h => by rw [lcp_nil_left] at h; omega
  | m + 1, a :: x, [], h => by rw [lcp_nil_right] at h; omega
  | m + 1, a :: x, b :: y, h => by
    rw [lcp_same_head] at h ⊢
    by_cases e : a = b
    · rw [if_pos e] at h ⊢
      have := lcp_cut m x y (by omega)
      simp only [List.drop_succ_cons]
      omega
    · rw [if_neg e] at h; omega
theorem lcp_le : ∀ (x y : List Nat), lcp x y ≤ x.length ∧ lcp x y ≤ y.length
  | [], y => by rw [lcp_nil_left]; simp
  | a :: x, [] => by rw [lcp_nil_right]; simp
  | a :: x, b :: y => by
    have := lcp_le x y
    rw [lcp_same_head]
    split <;> simp <;> omega
/-- what stands between two has as much in common with the greater one -/
theorem lcp_mid : ∀ (x y z : List Nat), lexL x y = true → lexL y z = true → lcp x z ≤ lcp y z
  | [], y, z, _, _ => by rw [lcp_nil_left]; exact Nat.zero_le _
  | a :: x, y, [], _, h => by rw [lexL_nil_right] at h; cases h
  | a :: x, [], c :: z, h, _ => by rw [lexL_nil_right] at h; cases h
  | a :: x, b :: y, c :: z, h1, h2 => by
    simp only [lexL] at h1 h2
    rw [lcp_same_head, lcp_same_head]
    by_cases e1 : a = c
    · by_cases e2 : b = c
      · have e3 : a = b := by omega
        rw [if_pos e3] at h1
        rw [if_pos e2] at h2
        rw [if_pos e1, if_pos e2]
        have := lcp_mid x y z h1 h2
        omega
      · rw [if_neg e2] at h2
        have h3 := of_decide_eq_true h2
        by_cases e4 : a = b
        · omega
        · rw [if_neg e4] at h1
          have := of_decide_eq_true h1
          omega
    · rw [if_neg e1]; exact Nat.zero_le _
/-- the row of a place among a list's ends, and who is ahead of it -/
theorem ends_row {l M : List Nat} (hinv : ∀ j, j < l.length → M.getD ((ends l).getD j 0) 0 = j) {p : Nat} (hp : p < l.length) : M.getD p 0 < l.length ∧ (ends l).getD (M.getD p 0) 0 = p := by
  have hm : p ∈ ends l := ends_mem.2 hp
  obtain ⟨j, hj, e⟩ := List.getElem_of_mem hm
  have hj2 : j < l.length := by rw [← ends_length]; exact hj
  have e2 : (ends l).getD j 0 = p := by rw [gd hj]; exact e
  have e3 := hinv j hj2
  rw [e2] at e3
  rw [e3]
  exact ⟨hj2, e2⟩
theorem ends_rise {l : List Nat} {i j : Nat} (hij : i < j) (hj : j < l.length) : lt l ((ends l).getD i 0) ((ends l).getD j 0) = true := by
  have hj2 : j < (ends l).length := by rw [ends_length]; exact hj
  have hi2 : i < (ends l).length := Nat.lt_trans hij hj2
  rw [gd hi2, gd hj2]
  exact (List.pairwise_iff_getElem.1 (ends_up l)) i j hi2 hj2 hij
theorem ends_lt {l : List Nat} {j : Nat} (hj : j < l.length) : (ends l).getD j 0 < l.length := by
  have hj2 : j < (ends l).length := by rw [ends_length]; exact hj
  rw [gd hj2]
  exact ends_mem.1 (List.getElem_mem hj2)
/-- how much a place has in common with the one ahead of it in order -/
def ahd (l M : List Nat) (p : Nat) : Nat := if M.getD p 0 = 0 then 0 else lcp (l.drop ((ends l).getD (M.getD p 0 - 1) 0)) (l.drop p)
theorem ahd_next {l M : List Nat} (hinv : ∀ j, j < l.length → M.getD ((ends l).getD j 0) 0 = j) {p : Nat} (hp : p + 1 < l.length) (h0 : M.getD (p + 1) 0 ≠ 0) : ahd l M p - 1 ≤ ahd l M (p + 1) := by
  unfold ahd
  rw [if_neg h0]
  by_cases h1 : M.getD p 0 = 0
  · rw [if_pos h1]; omega
  · rw [if_neg h1]
    obtain ⟨r1, r2⟩ := ends_row hinv (p := p) (by omega)
    obtain ⟨s1, s2⟩ := ends_row hinv hp
    generalize hr : M.getD p 0 = r at *
    generalize hs : M.getD (p + 1) 0 = s at *
    have hq := ends_lt (l := l) (j := r - 1) (by omega)
    have hlt := ends_rise (l := l) (i := r - 1) (j := r) (by omega) r1
    rw [r2] at hlt
    generalize hqe : (ends l).getD (r - 1) 0 = q at *
    have hpl : p < l.length := by omega
    rw [List.drop_eq_getElem_cons hq, List.drop_eq_getElem_cons hpl, lcp_same_head]
    by_cases e : l[q] = l[p]
    · rw [if_pos e, Nat.add_sub_cancel]
      -- q + 1 is ahead of p + 1
      have hlt2 : lt l (q + 1) (p + 1) = true := by
        rw [lt_step l q p hq hpl, gd hq, gd hpl, e] at hlt
        simpa using hlt
      by_cases hq1 : q + 1 < l.length
      · obtain ⟨t1, t2⟩ := ends_row hinv hq1
        generalize ht : M.getD (q + 1) 0 = t at *
        have hts : t < s := by
          rcases Nat.lt_trichotomy t s with h | h | h
          · exact h
          · subst h; rw [t2] at s2; rw [s2, lt_same] at hlt2; cases hlt2
          · have := ends_rise h t1
            rw [s2, t2] at this
            rw [lt_asym this] at hlt2; cases hlt2
        by_cases he : t = s - 1
        · rw [← he, t2]; exact Nat.le_refl _
        · have h5 := ends_rise (l := l) (i := t) (j := s - 1) (by omega) (by omega)
          have h6 := ends_rise (l := l) (i := s - 1) (j := s) (by omega) s1
          rw [t2] at h5
          rw [s2] at h6
          exact lcp_mid _ _ _ h5 h6
      · have : l.drop (q + 1) = [] := List.drop_of_length_le (by omega)
        rw [this, lcp_nil_left]; exact Nat.zero_le _
    · rw [if_neg e]; omega
theorem comV_row {l M : List Nat} (hinv : ∀ j, j < l.length → M.getD ((ends l).getD j 0) 0 = j) {p : Nat} (hp : p < l.length) : comV l (ends l) (M.getD p 0) = ahd l M p := by
  obtain ⟨r1, r2⟩ := ends_row hinv hp
  unfold comV ahd
  split
  · rfl
  · rw [r2]
end Go.Proofs.YtfmnnbeegfjnaaaGreat.Od
namespace Go.Proofs.YtfmnnbeegfjnaaaGreat.Od
open Go.RowKit Go.Lib Rw Ls _root_.Go.Proofs.YtfmnnbeegfjnaaaGreat.Nm

theorem drop_drop_nil {l : List Nat} {a v : Nat} (h : l.length ≤ a + v) : (l.drop a).drop v = [] := by rw [List.drop_drop]; exact List.drop_of_length_le h
set_option maxHeartbeats 4000000 in
set_option maxRecDepth 100000 in
theorem alike_any (l : List Nat) (n c a b v t : Nat) (p : Option Addr) (w : World) (hr : Rd w p (nums l)) (hn : n = l.length) (hl : n ≤ 17592186044416) (ha : a < n) (hb : b < n) (hv : v + lcp ((l.drop a).drop v) ((l.drop b).drop v) = t) (hva : a + v ≤ n) (hvb : b + v ≤ n) :
    Calls Tryz.prog 56 #[.slice p n c, .int .i64 a, .int .i64 b, .int .i64 v] w fun e w' => e = .returned (.int .i64 t) ∧ ∃ z, w' = w.drewN z := by
  obtain ⟨A, rfl, _⟩ := hr.form (by rw [nums_length, ← hn]; omega)
  have HR := Lib.hid hr; have HN := Lib.hid hn; have HV := Lib.hid hv
  obtain ⟨m, hm⟩ : ∃ m, m = max a b := ⟨_, rfl⟩
  have mz : max (a : Int) (b : Int) = (m : Int) := by omega
  have ma : a ≤ m ∧ b ≤ m ∧ (m = a ∨ m = b) := by omega
  clear hr hn hv hm
  go_enter Tryz.func56, Tryz.ntmps56
  go_wp2
  go_loopg [3] n (fun gk v3 wr => ∃ v z : Nat, v3 = .int .i64 v ∧ a + v ≤ n ∧ b + v ≤ n ∧ n - v ≤ gk ∧ Hid (v + lcp ((l.drop a).drop v) ((l.drop b).drop v) = t) ∧ wr = w.drewN z)
  case atStart => exact ⟨v, 0, rfl, hva, hvb, by omega, HV, rfl⟩
  case round =>
    clear HV hva hvb
    obtain ⟨v, z, rfl, hva, hvb, hg, HV, hz⟩ := hrel
    have HZ := Lib.hid hz
    by_cases hlt : m + v < n
    · have gz : decide ((m : Int) + (v : Int) < (n : Int)) = true := decide_eq_true (by omega)
      have gz2 : (m : Int) + (v : Int) < (n : Int) := by omega
      have gz3 : decide (m + v < n) = true := decide_eq_true hlt
      have hrz : Rd wr (some A) (nums l) := by rw [hz]; exact HR.out.drewN z
      have c1 := hrz.at (i := a + v) (by rw [nums_length, ← HN.out]; omega)
      have c2 := hrz.at (i := b + v) (by rw [nums_length, ← HN.out]; omega)
      rw [nums_getD _ _ (by rw [← HN.out]; omega)] at c1 c2
      obtain ⟨x, hx⟩ : ∃ x, x = l.getD (a + v) 0 := ⟨_, rfl⟩
      obtain ⟨y, hy⟩ : ∃ y, y = l.getD (b + v) 0 := ⟨_, rfl⟩
      rw [← hx] at c1
      rw [← hy] at c2
      obtain ⟨q, hq⟩ : ∃ q, q = a + v := ⟨_, rfl⟩
      obtain ⟨r, hr⟩ : ∃ r, r = b + v := ⟨_, rfl⟩
      rw [← hq] at c1
      rw [← hr] at c2
      have qz : (a : Int) + (v : Int) = (q : Int) := by omega
      have rz : (b : Int) + (v : Int) = (r : Int) := by omega
      have qn : (q : Int) < (n : Int) := by omega
      have rn : (r : Int) < (n : Int) := by omega
      have qw : IntKind.i64.wrap (q : Int) = (q : Int) := IntWalk.i64_in _ (by omega)
      have rw_ : IntKind.i64.wrap (r : Int) = (r : Int) := IntWalk.i64_in _ (by omega)
      have mw : IntKind.i64.wrap ((m : Int) + (v : Int)) = (m : Int) + (v : Int) := IntWalk.i64_in _ (by omega)
      have hst := lcp_step (l.drop a) (l.drop b) v (by rw [List.length_drop, ← HN.out]; omega) (by rw [List.length_drop, ← HN.out]; omega)
      have g1 : (l.drop a).getD v 0 = x := by rw [hx, List.getD_eq_getElem?_getD, List.getElem?_drop, ← List.getD_eq_getElem?_getD]
      have g2 : (l.drop b).getD v 0 = y := by rw [hy, List.getD_eq_getElem?_getD, List.getElem?_drop, ← List.getD_eq_getElem?_getD]
      rw [g1, g2] at hst
      have HST := Lib.hid hst
      clear hst g1 g2 hx hy hq hr hrz hz
      by_cases hxy : x = y
      · have t1 : ((x : Int) == (y : Int)) = true := by simp [hxy]
        have t2 : (x == y) = true := by simpa using hxy
        have H2 : Hid (v + 1 + lcp ((l.drop a).drop (v + 1)) ((l.drop b).drop (v + 1)) = t) := Lib.hid (by have h1 := HST.out; rw [if_pos hxy] at h1; have := HV.out; omega)
        clear hxy
        go_wp2_with fail
        go_big_quiet (fail)
        go_wp2
        go_roundg (n - (v + 1))
        case measure => omega
        case rel => exact ⟨v + 1, z + nq, by first | rfl | go_num, by omega, by omega, Nat.le_refl _, H2, by rw [HZ.out, World.drewN_drewN]⟩
      · have t1 : ((x : Int) == (y : Int)) = false := by simp; omega
        have t2 : (x == y) = false := by simpa using hxy
        have E : Hid (v = t) := Lib.hid (by have h1 := HST.out; rw [if_neg hxy] at h1; have := HV.out; omega)
        clear hxy
        go_wp2_with fail
        go_big_quiet (fail)
        go_wp2
        go_ret
        exact ⟨ret_int (by rw [E.out]), z + nq, by rw [HZ.out, World.drewN_drewN]⟩
    · have gz : decide ((m : Int) + (v : Int) < (n : Int)) = false := decide_eq_false (by omega)
      have gz2 : ¬ (m : Int) + (v : Int) < (n : Int) := by omega
      have gz3 : decide (m + v < n) = false := decide_eq_false hlt
      have mw : IntKind.i64.wrap ((m : Int) + (v : Int)) = (m : Int) + (v : Int) := IntWalk.i64_in _ (by omega)
      have E : Hid (v = t) := Lib.hid (by
        have h1 := HV.out
        have h2 : lcp ((l.drop a).drop v) ((l.drop b).drop v) = 0 := by
          rcases ma.2.2 with h | h
          · rw [drop_drop_nil (l := l) (a := a) (v := v) (by rw [← HN.out]; omega), lcp_nil_left]
          · rw [drop_drop_nil (l := l) (a := b) (v := v) (by rw [← HN.out]; omega), lcp_nil_right]
        omega)
      clear hz
      go_wp2_with fail
      go_big_quiet (fail)
      go_wp2
      go_ret
      exact ⟨ret_int (by rw [E.out]), z + nq, by rw [HZ.out, World.drewN_drewN]⟩
end Go.Proofs.YtfmnnbeegfjnaaaGreat.Od

/- TopPacked: what symbols' counts cost. -/
import Derived.Test.YtjnehpkkkmicfaaPkN
import Derived.Test.YtjnehpkkkmicfaaBnF
import Derived.Test.YtjnehpkkkmicfaaZerM
namespace Go.Proofs.Ytjnehpkkkmicfaa.Tp
open Go.RowKit Go.Lib Rw Ls Od _root_.Go.Proofs.Ytjnehpkkkmicfaa.Nm Pk Ze

theorem enc_lt : ∀ (s : List Nat) (r : Nat), (∀ c ∈ s, c < 256) → ∀ x ∈ encR r s, x < 258
  | [], r, _, x, hx => by
    simp only [encR, List.mem_append, List.mem_singleton] at hx
    rcases hx with h | h
    · have := dg_lt r x h; omega
    · omega
  | c :: s, r, h, x, hx => by
    unfold encR at hx
    split at hx
    · exact enc_lt s (r + 1) (fun y hy => h y (List.mem_cons_of_mem _ hy)) x hx
    · simp only [List.mem_append, List.mem_cons] at hx
      have hc := h c (List.mem_cons_self ..)
      rcases hx with h1 | h1 | h1
      · have := dg_lt r x h1; omega
      · omega
      · exact enc_lt s 0 (fun y hy => h y (List.mem_cons_of_mem _ hy)) x h1
/-- how often each symbol is among the first k -/
def cts (l : List Nat) (k : Nat) : List Nat := (List.range 258).map fun v => (l.take k).count v
theorem cts_length (l : List Nat) (k : Nat) : (cts l k).length = 258 := by simp [cts]
theorem cts_zero (l : List Nat) : cts l 0 = List.replicate 258 0 := by simp [cts, List.map_const']
theorem cts_at (l : List Nat) (k : Nat) {v : Nat} (hv : v < 258) : (cts l k).getD v 0 = (l.take k).count v := by simp [cts, List.getD_eq_getElem?_getD, hv]
theorem cts_succ (l : List Nat) {k : Nat} (hk : k < l.length) : cts l (k + 1) = (cts l k).set (l.getD k 0) ((l.take k).count (l.getD k 0) + 1) := by
  have hg : l.getD k 0 = l[k] := gd hk
  obtain ⟨x, hx⟩ : ∃ x, x = l.getD k 0 := ⟨_, rfl⟩
  rw [← hx] at hg ⊢
  apply List.ext_getElem (by simp [cts_length])
  intro v h1 h2
  rw [List.getElem_set]
  simp only [cts, List.getElem_map, List.getElem_range]
  rw [List.take_succ_eq_append_getElem hk, List.count_append, ← hg]
  by_cases e : x = v
  · rw [if_pos e, e]; simp
  · rw [if_neg e]; simp [e]
theorem cts_le (l : List Nat) (k v : Nat) : (cts l k).getD v 0 ≤ l.length := by
  rcases Nat.lt_or_ge v 258 with h | h
  · rw [cts_at l k h]
    exact Nat.le_trans List.count_le_length (by rw [List.length_take]; exact Nat.min_le_right _ _)
  · rw [List.getD_eq_getElem?_getD, List.getElem?_eq_none (by rw [cts_length]; exact h)]; exact Nat.zero_le _
theorem cts_okW {l : List Nat} {k : Nat} (h : l.length ≤ 1099511627776) : okW (cts l k) = true := by
  unfold okW
  simp only [Bool.and_eq_true, decide_eq_true_eq, List.all_eq_true]
  refine ⟨by rw [cts_length]; omega, fun x hx => ?_⟩
  obtain ⟨i, hi, rfl⟩ := List.getElem_of_mem hx
  have := cts_le l k i
  rw [gd hi] at this
  omega
theorem count_total : ∀ {l : List Nat} {n : Nat}, (∀ x ∈ l, x < n) → sum (fun v => l.count v) (List.range n) = l.length
  | [], n, _ => by
    have : sum (fun v => ([] : List Nat).count v) (List.range n) = sum (fun _ => 0) (List.range n) := sum_congr fun x _ => by simp
    rw [this, sum_const]; simp
  | y :: l, n, h => by
    have ih := count_total (l := l) (n := n) (fun x hx => h x (List.mem_cons_of_mem _ hx))
    have hy := h y (List.mem_cons_self ..)
    have e : sum (fun v => (y :: l).count v) (List.range n) = sum (fun v => l.count v + if y = v then 1 else 0) (List.range n) := sum_congr fun v _ => by
      rw [List.count_cons]; simp
    rw [e, sum_add, ih, List.length_cons]
    congr 1
    have := count_sum (L := List.range n) (s := [y]) List.nodup_range (fun x hx => by simp at hx; subst hx; exact List.mem_range.2 hy) (fun _ => 1)
    have e2 : sum (fun v => if y = v then 1 else 0) (List.range n) = sum (fun x => 1 * [y].count x) (List.range n) := sum_congr fun v _ => by
      rw [List.count_cons, List.count_nil]; simp
    rw [e2, this]
    simp [sum]
/-- nine bits for each that is there -/
def nine (ws : List Nat) : List Int := ws.map fun y => if 0 < y then 9 else 0
theorem nine_at (ws : List Nat) (i : Nat) : (nine ws).getD i 0 = if 0 < ws.getD i 0 then 9 else 0 := by
  unfold nine
  rw [List.getD_eq_getElem?_getD, List.getD_eq_getElem?_getD, List.getElem?_map]
  cases ws[i]? <;> simp
theorem nine_cost {ws : List Nat} (ho : okW ws = true) : costR ws (nine ws) = (9 * sum (fun i => ws.getD i 0) (List.range ws.length), 0) := by
  unfold costR
  rw [if_pos ho, if_pos (by simp [nine]), if_pos]
  · refine Prod.ext ?_ rfl
    unfold costT
    show sum _ _ = _
    have : sum (fun i => ws.getD i 0 * ((nine ws).getD i 0).toNat) (List.range ws.length) = sum (fun i => 9 * ws.getD i 0) (List.range ws.length) := sum_congr fun i _ => by
      rw [nine_at]
      split
      · rename_i h; rw [Nat.mul_comm]; rfl
      · rename_i h; have : ws.getD i 0 = 0 := by omega
        rw [this]; simp
    rw [this]
    generalize List.range ws.length = R
    induction R with
    | nil => rfl
    | cons x R ih => rw [sum_cons, sum_cons, ih]; omega
  · rw [List.all_eq_true]
    intro i _
    rw [nine_at, good_iff]
    split <;> omega
theorem nine_room {ws : List Nat} (h : ws.length ≤ 258) : ∃ n : Int, roomR (nine ws) 15 = (n, 0) ∧ 0 ≤ n := by
  have hl : (nine ws).length = ws.length := by simp [nine]
  have ht : tookT (nine ws) 15 ws.length ≤ ws.length * 64 := by
    unfold tookT
    have : sum (fun i => if 0 < (nine ws).getD i 0 then 2 ^ (15 - ((nine ws).getD i 0).toNat) else 0) (List.range ws.length) ≤ sum (fun _ => 64) (List.range ws.length) := sum_le fun i _ => by
      rw [nine_at]
      split
      · split
        · exact Nat.le_refl _
        · rename_i h1 h2; exact absurd (by decide : (0 : Int) < 9) h2
      · exact Nat.zero_le _
    rw [sum_const, List.length_range] at this
    exact this
  refine ⟨((2 ^ 15 : Nat) : Int) - (tookT (nine ws) 15 ws.length : Nat), ?_, by omega⟩
  unfold roomR
  rw [if_pos (by unfold okR; simp only [Bool.and_eq_true, decide_eq_true_eq]; omega), if_pos, hl]
  · rfl
  · rw [List.all_eq_true]
    intro z hz
    obtain ⟨i, hi, he⟩ := List.getElem_of_mem hz
    have := nine_at ws i
    rw [List.getD_eq_getElem?_getD, List.getElem?_eq_getElem hi, Option.getD_some, he] at this
    rw [this]
    simp only [Bool.and_eq_true, decide_eq_true_eq]
    split <;> omega
set_option maxRecDepth 100000 in
/-- lengths of a limit of 15 cost at most nine bits each -/
theorem cost_nine {l : List Nat} (h : ∀ x ∈ l, x < 258) (hl : l.length ≤ 1099511627776) : cost (cts l l.length) (lens (cts l l.length) 15) ≤ 9 * l.length := by
  have ho := cts_okW (l := l) (k := l.length) hl
  have hk : (sy (cts l l.length)).length ≤ 2 ^ 15 := Nat.le_trans (sy_len _) (by rw [cts_length]; decide)
  obtain ⟨n, h1, h2⟩ := nine_room (ws := cts l l.length) (by rw [cts_length]; omega)
  have h3 := nine_cost ho
  generalize hW : cts l l.length = ws at ho hk h1 h2 h3 ⊢
  have h1' : roomR (nine ws) ((15 : Nat) : Int) = (n, 0) := h1
  have h4 := lens_least (ws := ws) (lim := 15) (ls := nine ws) (n := n) (b := 9 * sum (fun i => ws.getD i 0) (List.range ws.length)) (by decide) hk h1' h2 h3
  have h5 : sum (fun i => ws.getD i 0) (List.range ws.length) = l.length := by
    have e := count_total h
    rw [← hW, cts_length]
    refine Eq.trans (sum_congr fun v hv => ?_) e
    rw [cts_at l _ (List.mem_range.1 hv), List.take_length]
  rw [h5] at h4
  exact h4
theorem wider_all {ws : List Nat} {lim : Nat} (h1 : 1 ≤ lim) (hk : (sy ws).length ≤ 2 ^ lim) : ∀ d, cost ws (lens ws (lim + d)) ≤ cost ws (lens ws lim)
  | 0 => Nat.le_refl _
  | d + 1 => Nat.le_trans (lens_wider (lim := lim + d) (Nat.le_trans h1 (Nat.le_add_right lim d)) (Nat.le_trans hk (Nat.pow_le_pow_right (n := 2) (by decide) (Nat.le_add_right lim d)))) (wider_all h1 hk d)
/-- what the law asks of any other limit -/
theorem other_limit {ws : List Nat} (ho : okW ws = true) (lim : Int) : (lenR ws lim).2 ≠ 0 ∨ ((costR ws (up (lenR ws lim).1)).2 = 0 ∧ cost ws (lens ws 15) ≤ (costR ws (up (lenR ws lim).1)).1) := by
  unfold lenR
  split
  · rename_i h
    unfold okL at h
    simp only [Bool.and_eq_true, decide_eq_true_eq] at h
    obtain ⟨m, rfl⟩ := Int.eq_ofNat_of_zero_le (show 0 ≤ lim by omega)
    split
    · exact .inl (by decide)
    · rename_i h2
      right
      rw [Int.toNat_natCast] at h2 ⊢
      have hm1 : 1 ≤ m := by omega
      have hm15 : m ≤ 15 := by omega
      rw [show ((lens ws m, (0 : Int)).1) = lens ws m from rfl, lens_cost ho hm1 hm15 (by omega)]
      refine ⟨rfl, ?_⟩
      have := wider_all (ws := ws) hm1 (by omega) (15 - m)
      rw [show m + (15 - m) = 15 by omega] at this
      exact this
  · exact .inl (by decide)
theorem len15 {ws : List Nat} (ho : okW ws = true) : lenR ws 15 = (lens ws 15, 0) ∧ costR ws (up (lens ws 15)) = (cost ws (lens ws 15), 0) := by
  have hk : (sy ws).length ≤ 2 ^ 15 := Nat.le_trans (sy_len ws) (by have := okW_len ho; omega)
  refine ⟨?_, lens_cost ho (by decide) (by decide) hk⟩
  unfold lenR
  rw [if_pos (by unfold okL; simp [ho]), if_neg (by rw [show (15 : Int).toNat = 15 from rfl]; omega)]
  rfl
end Go.Proofs.Ytjnehpkkkmicfaa.Tp

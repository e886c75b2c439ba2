/- What the lengths are, cost and leave: the mathematics that the laws ask for. -/
import Derived.Test.YtjnehpkkkmicfaaBnD
namespace Go.Proofs.Ytjnehpkkkmicfaa.Pk
open Go.RowKit Go.Lib Rw Ls Od _root_.Go.Proofs.Ytjnehpkkkmicfaa.Nm

theorem up_at (L : List Nat) (i : Nat) : (up L).getD i 0 = ((L.getD i 0 : Nat) : Int) := by
  unfold up
  rw [List.getD_eq_getElem?_getD, List.getD_eq_getElem?_getD, List.getElem?_map]
  cases L[i]? <;> rfl
/-- each length is at most the limit, and is there where there is a weight -/
theorem lens_one {ws : List Nat} {lim : Nat} (h1 : 1 ≤ lim) (hk : (sy ws).length ≤ 2 ^ lim) {i : Nat} (hi : i < ws.length) : (lens ws lim).getD i 0 ≤ lim ∧ (0 < ws.getD i 0 ↔ 0 < (lens ws lim).getD i 0) := by
  have hm : i ∈ lv ws ↔ 0 < ws.getD i 0 := by rw [lv_mem]; exact ⟨fun h => h.2, fun h => ⟨hi, h⟩⟩
  rw [lens_at hi, ← hm]
  split
  · by_cases h : i ∈ lv ws
    · rw [if_pos h]; exact ⟨h1, by simp [h]⟩
    · rw [if_neg h]; exact ⟨by omega, by simp [h]⟩
  · rename_i h2
    obtain ⟨f1, _, _, f4⟩ := len_full (k := lim - 1) (lv_up ws) (lv_nodup ws) (by omega) (by rw [lv_len, show lim - 1 + 1 = lim by omega]; exact hk)
    by_cases h : i ∈ lv ws
    · have := f1 i h
      exact ⟨by omega, by simp only [h, true_iff]; omega⟩
    · have := f4 i h
      exact ⟨by omega, by simp only [h, false_iff]; omega⟩
/-- what is asked of what has a weight is asked of the leaves -/
theorem sum_lv (ws : List Nat) (g : Nat → Nat) (h0 : ∀ i, i < ws.length → ws.getD i 0 = 0 → g i = 0) : sum g (List.range ws.length) = sum g (lv ws) := by
  rw [sum_perm (lv_perm ws), sy, sum_filter]
  refine sum_congr fun x hx => ?_
  by_cases h : 0 < ws.getD x 0
  · rw [if_pos (decide_eq_true h)]
  · rw [if_neg (by simpa using h)]
    exact h0 x (List.mem_range.1 hx) (by omega)
/-- two leaves or more leave no room -/
theorem lens_room {ws : List Nat} {lim : Nat} (h1 : 1 ≤ lim) (hk : (sy ws).length ≤ 2 ^ lim) (h2 : 2 ≤ (sy ws).length) : tookT (up (lens ws lim)) lim ws.length = 2 ^ lim := by
  obtain ⟨f1, f2, _, f4⟩ := len_full (k := lim - 1) (lv_up ws) (lv_nodup ws) (by rw [lv_len]; exact h2) (by rw [lv_len, show lim - 1 + 1 = lim by omega]; exact hk)
  rw [show lim - 1 + 1 = lim by omega] at f2
  rw [← f2]
  unfold tookT
  rw [sum_lv ws]
  · refine sum_congr fun x hx => ?_
    have hx2 := (lv_mem.1 hx).1
    have := f1 x hx
    have e : (lens ws lim).getD x 0 = len (wf ws) (lv ws) (lim - 1) x := by rw [lens_at hx2, if_neg (by rw [lv_len]; omega)]
    rw [up_at, e, if_pos (by omega), Int.toNat_natCast]
  · intro i hi h0
    have := (lens_one h1 hk hi).2
    rw [up_at, if_neg (by omega)]
theorem lens_cost {ws : List Nat} {lim : Nat} (ho : okW ws = true) (h1 : 1 ≤ lim) (h15 : lim ≤ 15) (hk : (sy ws).length ≤ 2 ^ lim) : costR ws (up (lens ws lim)) = (cost ws (lens ws lim), 0) := by
  have hl : (up (lens ws lim)).length = ws.length := by unfold up; rw [List.length_map, lens_length]
  unfold costR
  rw [if_pos ho, if_pos hl.symm, if_pos]
  · refine Prod.ext ?_ rfl
    unfold costT cost
    refine sum_congr fun x _ => ?_
    rw [up_at, Int.toNat_natCast]
  · rw [List.all_eq_true]
    intro i hi
    obtain ⟨h3, h4⟩ := lens_one h1 hk (List.mem_range.1 hi)
    rw [up_at]
    unfold good
    simp only [Bool.and_eq_true, Bool.not_eq_true', decide_eq_true_eq, Bool.and_eq_false_imp, decide_eq_false_iff_not]
    refine ⟨⟨by omega, by omega⟩, fun h5 => by omega⟩
theorem lens_left {ws : List Nat} {lim : Nat} (ho : okW ws = true) (h1 : 1 ≤ lim) (h15 : lim ≤ 15) (hk : (sy ws).length ≤ 2 ^ lim) : ∃ n : Int, roomR (up (lens ws lim)) lim = (n, 0) ∧ (2 ≤ (sy ws).length → n = 0) := by
  have hl : (up (lens ws lim)).length = ws.length := by unfold up; rw [List.length_map, lens_length]
  have h512 := okW_len ho
  refine ⟨((2 ^ lim : Nat) : Int) - (tookT (up (lens ws lim)) lim ws.length : Nat), ?_, ?_⟩
  · unfold roomR
    rw [if_pos (by unfold okR; simp only [Bool.and_eq_true, decide_eq_true_eq]; omega), if_pos, hl, Int.toNat_natCast]
    rw [List.all_eq_true]
    intro z hz
    obtain ⟨i, hi, he⟩ := List.getElem_of_mem hz
    have h3 := (lens_one h1 hk (by omega : i < ws.length)).1
    have h4 := up_at (lens ws lim) i
    rw [List.getD_eq_getElem?_getD, List.getElem?_eq_getElem hi, Option.getD_some, he] at h4
    simp only [Bool.and_eq_true, decide_eq_true_eq]
    omega
  · intro h2
    rw [lens_room h1 hk h2]; omega
/-- who weighs more has no longer code -/
theorem lens_order {ws : List Nat} {lim : Nat} (h1 : 1 ≤ lim) (hk : (sy ws).length ≤ 2 ^ lim) {i j : Nat} (hi : i < ws.length) (hj : j < ws.length) (h0 : 0 < ws.getD j 0) (hw : ws.getD j 0 < ws.getD i 0) : (lens ws lim).getD i 0 ≤ (lens ws lim).getD j 0 := by
  have mi : i ∈ lv ws := lv_mem.2 ⟨hi, by unfold wf; omega⟩
  have mj : j ∈ lv ws := lv_mem.2 ⟨hj, h0⟩
  rw [lens_at hi, lens_at hj]
  split
  · simp
  · rename_i h2
    exact len_order (lv_up ws) (lv_nodup ws) (by omega) (by rw [lv_len, show lim - 1 + 1 = lim by omega]; exact hk) mi mj hw
theorem cost_len {ws : List Nat} {lim : Nat} (h2 : 2 ≤ (sy ws).length) : cost ws (lens ws lim) = sum (fun i => wf ws i * len (wf ws) (lv ws) (lim - 1) i) (lv ws) := by
  rw [← cost_lv]
  unfold cost
  refine sum_congr fun x hx => ?_
  rw [lens_at (List.mem_range.1 hx), if_neg (by rw [lv_len]; omega)]
  rfl
/-- a wider limit costs no more -/
theorem lens_wider {ws : List Nat} {lim : Nat} (h1 : 1 ≤ lim) (hk : (sy ws).length ≤ 2 ^ lim) : cost ws (lens ws (lim + 1)) ≤ cost ws (lens ws lim) := by
  rcases Nat.lt_or_ge (sy ws).length 2 with h2 | h2
  · refine Nat.le_of_eq ?_
    unfold cost
    refine sum_congr fun x hx => ?_
    have hs : (lv ws).length < 2 := by rw [lv_len]; omega
    simp only [lens_at (List.mem_range.1 hx), if_pos hs]
  · rw [cost_len h2, cost_len h2]
    have := len_wider (k := lim - 1) (lv_up ws) (lv_nodup ws) (by rw [lv_len]; exact h2) (by rw [lv_len, show lim - 1 + 1 = lim by omega]; exact hk)
    rw [show lim - 1 + 1 = lim by omega] at this
    exact this
theorem sum_le {f g : Nat → Nat} : ∀ {l : List Nat}, (∀ x ∈ l, f x ≤ g x) → sum f l ≤ sum g l
  | [], _ => Nat.le_refl _
  | x :: l, h => by rw [sum_cons, sum_cons]; exact Nat.add_le_add (h x (by simp)) (sum_le fun y hy => h y (by simp [hy]))
theorem sum_sub (f : Nat → Nat) {l m : List Nat} (h : l.Sublist m) : sum f l ≤ sum f m := by
  induction h with
  | slnil => exact Nat.le_refl _
  | cons a _ ih => rw [sum_cons]; omega
  | cons_cons a _ ih => rw [sum_cons, sum_cons]; omega
/-- no other lengths that have room cost less -/
theorem lens_least {ws : List Nat} {lim : Nat} (h1 : 1 ≤ lim) (hk : (sy ws).length ≤ 2 ^ lim) {ls : List Int} {n : Int} {b : Nat} (hr : roomR ls lim = (n, 0)) (hn : 0 ≤ n) (hc : costR ws ls = (b, 0)) : cost ws (lens ws lim) ≤ b := by
  unfold costR at hc
  split at hc
  · split at hc
    · rename_i hl
      split at hc
      · rename_i hg
        obtain rfl : costT ws ls ws.length = b := congrArg Prod.fst hc
        unfold roomR at hr
        split at hr
        · split at hr
          · rename_i ha
            have hn2 : ((2 ^ lim : Nat) : Int) - (tookT ls lim ls.length : Nat) = n := by have := congrArg Prod.fst hr; rw [Int.toNat_natCast] at this; exact this
            rw [List.all_eq_true] at hg ha
            have hone : ∀ x ∈ lv ws, 1 ≤ (ls.getD x 0).toNat ∧ (ls.getD x 0).toNat ≤ lim ∧ 0 < ls.getD x 0 := fun x hx => by
              obtain ⟨hx1, hx2⟩ := lv_mem.1 hx
              have g1 := hg x (List.mem_range.2 hx1)
              unfold good at g1
              simp only [Bool.and_eq_true, Bool.not_eq_true', decide_eq_true_eq, Bool.and_eq_false_imp, decide_eq_false_iff_not] at g1
              have g2 : ls.getD x 0 ≠ 0 := fun e => g1.2 e hx2
              have g3 := ha (ls.getD x 0) (by rw [List.getD_eq_getElem?_getD, List.getElem?_eq_getElem (by omega : x < ls.length)]; exact List.getElem_mem _)
              simp only [Bool.and_eq_true, decide_eq_true_eq] at g3
              omega
            have hcost : costT ws ls ws.length = sum (fun i => wf ws i * (ls.getD i 0).toNat) (lv ws) := cost_lv ws _
            rw [hcost]
            rcases Nat.lt_or_ge (sy ws).length 2 with h2 | h2
            · have : cost ws (lens ws lim) = sum (fun i => wf ws i * (if i ∈ lv ws then 1 else 0)) (lv ws) := by
                rw [← cost_lv]
                unfold cost
                refine sum_congr fun x hx => ?_
                rw [lens_at (List.mem_range.1 hx), if_pos (by rw [lv_len]; omega)]
                rfl
              rw [this]
              refine sum_le fun x hx => ?_
              rw [if_pos hx]
              exact Nat.mul_le_mul_left _ (hone x hx).1
            · rw [cost_len h2]
              have hk2 : lim - 1 + 1 = lim := by omega
              refine len_least (lv_up ws) (lv_nodup ws) (by rw [lv_len]; exact h2) (by rw [lv_len, hk2]; exact hk) (fun x => (ls.getD x 0).toNat) (fun x hx => by rw [hk2]; exact ⟨(hone x hx).1, (hone x hx).2.1⟩) ?_
              rw [hk2]
              have ht : tookT ls lim ls.length ≤ 2 ^ lim := by omega
              refine Nat.le_trans ?_ ht
              unfold tookT
              rw [← hl]
              have e1 : sum (fun x => 2 ^ (lim - (ls.getD x 0).toNat)) (lv ws) = sum (fun i => if 0 < ls.getD i 0 then 2 ^ (lim - (ls.getD i 0).toNat) else 0) (lv ws) := sum_congr fun x hx => by rw [if_pos (hone x hx).2.2]
              rw [e1, sum_perm (lv_perm ws)]
              exact sum_sub _ List.filter_sublist
          · exact absurd (congrArg Prod.snd hr) (by simp)
        · exact absurd (congrArg Prod.snd hr) (by simp)
      · exact absurd (congrArg Prod.snd hc) (by simp)
    · exact absurd (congrArg Prod.snd hc) (by simp)
  · exact absurd (congrArg Prod.snd hc) (by simp)
end Go.Proofs.Ytjnehpkkkmicfaa.Pk

/- The maths of a bit turned. -/
import Derived.Test.YtbbokhelmhmgfaaBitCuts0
import Derived.Test.YtbbokhelmhmgfaaBitBack
namespace Go.Proofs.Ytbbokhelmhmgfaa.Bt
open Go.RowKit

theorem packS_self {s : ByteArray} {n : Int} (h : chk s n = 0) : packS (bl (bytes s) n.toNat) = s := by
  have hp := (chk_zero h).packs
  rw [packS_of hp]
  unfold bytes
  cases s; simp
theorem flip_flip (X : List Bool) (i : Nat) (hi : i < X.length) : flip (flip X i) i = X := by
  apply ext_getD (by rw [flip_length, flip_length])
  intro j hj
  rw [flip_getD _ i j (by rw [flip_length]; exact hi), flip_getD X i i hi, flip_getD X i j hi]
  by_cases h : i = j
  · subst h; simp
  · simp [h]
theorem turnS_zero {s : ByteArray} {n i : Int} (h : turnE s n i = 0) : turnS s n i = packS (flip (bl (bytes s) n.toNat) i.toNat) := if_pos h
theorem cnt_flip (X : List Bool) (i : Nat) (hi : i < X.length) : cnt (flip X i) + (X.getD i false).toNat = cnt X + (!X.getD i false).toNat := by
  have e1 : X = X.take i ++ X.getD i false :: X.drop (i + 1) := by
    rw [List.getD_eq_getElem?_getD, List.getElem?_eq_getElem hi, Option.getD_some, ← List.drop_eq_getElem_cons hi, List.take_append_drop]
  have e2 : flip X i = X.take i ++ (!X.getD i false) :: X.drop (i + 1) := by
    unfold flip
    rw [List.set_eq_take_append_cons_drop, if_pos hi]
  rw [e2]
  unfold cnt
  rw [List.count_append, List.count_cons]
  have e3 : X.count true = (X.take i).count true + ((X.drop (i + 1)).count true + if X.getD i false == true then 1 else 0) := by
    conv => lhs; rw [e1]
    rw [List.count_append, List.count_cons]
  rw [e3]
  cases X.getD i false <;> simp <;> omega
theorem num_one (X : List Bool) (i : Nat) (hi : i < X.length) : num ((X.drop i).take 1) = (X.getD i false).toNat := by
  rw [List.drop_eq_getElem_cons hi]
  have e : X.getD i false = X[i]'hi := by simp [List.getD_eq_getElem?_getD, List.getElem?_eq_getElem hi]
  rw [e]
  show 2 * 0 + (X[i]'hi).toNat = _
  omega
/-- all that the law asks of a bit that is turned -/
theorem turned_all {s : ByteArray} {n i : Int} (h : turnE s n i = 0) : ∃ x y : Nat, x + y = 1 ∧ turnN s n i = n ∧ turnE (turnS s n i) n i = 0 ∧ turnS (turnS s n i) n i = s ∧ turnN (turnS s n i) n i = n ∧ getE s n i 1 = 0 ∧ getV s n i 1 = x ∧ getE (turnS s n i) n i 1 = 0 ∧ getV (turnS s n i) n i 1 = y ∧ chk s n = 0 ∧ chk (turnS s n i) n = 0 ∧ onesN (turnS s n i) n + x = onesN s n + y ∧ (turnS s n i).size ≤ 200000 := by
  have hc : chk s n = 0 := by
    rcases chk_cases s n with h0 | h2
    · exact h0
    · exfalso; unfold turnE at h; rw [if_pos (by omega)] at h; cases h
  have hi : 0 ≤ i ∧ i < n := by
    unfold turnE at h
    rw [if_neg (by omega)] at h
    split at h
    · cases h
    · omega
  have hR := chk_zero hc
  obtain ⟨m, rfl⟩ := Int.eq_ofNat_of_zero_le hR.1
  obtain ⟨i, rfl⟩ := Int.eq_ofNat_of_zero_le hi.1
  have hm : m ≤ 1048576 := by have := hR.2.1; omega
  have him : i < m := by omega
  have eS : turnS s m i = packS (flip (bl (bytes s) m) i) := by unfold turnS; rw [if_pos h]; simp
  have hself := packS_self hc
  rw [Int.toNat_natCast] at hself
  have hl := bl_length (bytes s) m
  have hgs : ∀ t : ByteArray, chk t m = 0 → getE t m i 1 = 0 := fun t ht => get_of ht (by omega) (by omega) (by omega) (by omega) (by omega)
  have hvs : ∀ t : ByteArray, chk t m = 0 → getV t m i 1 = ((bl (bytes t) m).getD i false).toNat := fun t ht => by
    unfold getV
    rw [if_pos (hgs t ht), Int.toNat_natCast, Int.toNat_natCast]
    exact num_one _ _ (by rw [bl_length]; exact him)
  have hfl := flip_length (bl (bytes s) m) i
  have hcC : chk (turnS s m i) m = 0 := by
    have := packS_chk (X := flip (bl (bytes s) m) i) (by omega)
    rw [hfl, hl] at this
    rw [eS]; exact this
  have hbC : bl (bytes (turnS s m i)) m = flip (bl (bytes s) m) i := by
    have := packS_bits (flip (bl (bytes s) m) i)
    rw [hfl, hl] at this
    rw [eS]; exact this
  have hE2 : turnE (turnS s m i) m i = 0 := by unfold turnE; rw [if_neg (by omega), if_neg (by omega)]
  have hS2 : turnS (turnS s m i) m i = s := by
    have e : turnS (turnS s m i) m i = packS (flip (bl (bytes (turnS s m i)) m) i) := by
      have h2 := turnS_zero hE2
      rw [Int.toNat_natCast, Int.toNat_natCast] at h2
      exact h2
    rw [e, hbC, flip_flip _ _ (by rw [hl]; exact him)]; exact hself
  have hx := hvs s hc
  have hy := hvs _ hcC
  rw [hbC, flip_getD _ i i (by rw [hl]; exact him), if_pos rfl] at hy
  have hcnt := cnt_flip (bl (bytes s) m) i (by rw [hl]; exact him)
  refine ⟨_, _, ?_, by unfold turnN; rw [if_neg (by omega)], hE2, hS2, by unfold turnN; rw [if_neg (by omega)], hgs s hc, hx, hgs _ hcC, hy, hc, hcC, ?_, by rw [eS]; exact packS_size (by omega)⟩
  · cases (bl (bytes s) m).getD i false <;> rfl
  · unfold onesN
    rw [if_pos hc, if_pos hcC, Int.toNat_natCast, hbC]
    exact hcnt
theorem turn_cases (s : ByteArray) (n i : Int) : turnE s n i = 0 ∨ turnE s n i = 2 ∨ (turnE s n i ≠ 0 ∧ turnE s n i ≠ 2 ∧ turnS s n i = s ∧ turnN s n i = n) := by
  by_cases h0 : turnE s n i = 0
  · exact .inl h0
  · by_cases h2 : turnE s n i = 2
    · exact .inr (.inl h2)
    · exact .inr (.inr ⟨h0, h2, by unfold turnS; rw [if_neg h0, if_neg h2], by unfold turnN; rw [if_neg h2]⟩)
end Go.Proofs.Ytbbokhelmhmgfaa.Bt

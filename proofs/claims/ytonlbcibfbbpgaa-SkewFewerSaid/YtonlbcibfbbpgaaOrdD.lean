/- Ends held against each other by twice as much of them: the mathematics. No function of the program in sight. -/
import Derived.Test.YtonlbcibfbbpgaaOrdI
import Derived.Lib.Small
namespace Go.Proofs.Ytonlbcibfbbpgaa.Od
open Nm Ls Go.Lib

def pre (l : List Nat) (s a : Nat) : List Nat := (l.drop a).take s
theorem lexL_take2 : ∀ (s t : Nat) (X Y : List Nat), lexL (X.take (s + t)) (Y.take (s + t)) = (lexL (X.take s) (Y.take s) || (decide (X.take s = Y.take s) && lexL ((X.drop s).take t) ((Y.drop s).take t)))
  | 0, t, X, Y => by simp [lexL_nil_nil]
  | s + 1, t, [], [] => by simp [lexL_nil_nil]
  | s + 1, t, [], b :: y => by simp [lexL, show s + 1 + t = (s + t) + 1 by omega]
  | s + 1, t, a :: x, [] => by simp [lexL, show s + 1 + t = (s + t) + 1 by omega]
  | s + 1, t, a :: x, b :: y => by
    rw [show s + 1 + t = (s + t) + 1 by omega]
    simp only [List.take_succ_cons, lexL, List.drop_succ_cons]
    by_cases e : a = b
    · subst e
      simp only [if_true, lexL_take2 s t x y, List.cons.injEq, true_and]
    · simp [e]
theorem lexL_of_take {X Y : List Nat} {s : Nat} (h : lexL (X.take s) (Y.take s) = true) : lexL X Y = true := by
  have e := lexL_take2 s (X.length + Y.length) X Y
  rw [h, Bool.true_or, List.take_of_length_le (by omega), List.take_of_length_le (by omega)] at e
  exact e
theorem lexL_ntrans {x y z : List Nat} (h : lexL x y = false) (k : lexL y z = false) : lexL x z = false := by
  cases hxz : lexL x z with
  | false => rfl
  | true =>
    cases hyx : lexL y x with
    | true => rw [lexL_trans _ _ _ hyx hxz] at k; cases k
    | false => rw [lexL_none _ _ h hyx, k] at hxz; cases hxz
/-- ranks that are of as many things as s -/
structure IsR (l R : List Nat) (s : Nat) : Prop where
  len : R.length = l.length
  ord : ∀ a b, a < l.length → b < l.length → (R.getD a 0 < R.getD b 0 ↔ lexL (pre l s a) (pre l s b) = true)
def beh (R : List Nat) (s e : Nat) : Int := if e + s < R.length then ((R.getD (e + s) 0 : Nat) : Int) else -1
def orI (x y : Int) : Int := if x = 0 then y else x
def cf (R : List Nat) (s a b : Nat) : Int := orI (compareInt (R.getD a 0 : Nat) (R.getD b 0 : Nat)) (compareInt (beh R s a) (beh R s b))
section
variable {l R : List Nat} {s : Nat}
theorem pre_out {a : Nat} (h : l.length ≤ a) : pre l s a = [] := by unfold pre; rw [List.drop_of_length_le h]; simp
theorem pre_len {a : Nat} (h : a < l.length) (hs : 1 ≤ s) : 0 < (pre l s a).length := by unfold pre; rw [List.length_take, List.length_drop]; omega
theorem IsR.eq (h : IsR l R s) {a b : Nat} (ha : a < l.length) (hb : b < l.length) : R.getD a 0 = R.getD b 0 ↔ pre l s a = pre l s b := by
  have h1 := h.ord a b ha hb
  have h2 := h.ord b a hb ha
  constructor
  · intro e
    refine lexL_none _ _ ?_ ?_
    · cases hx : lexL (pre l s a) (pre l s b) with
      | false => rfl
      | true => have := h1.2 hx; omega
    · cases hx : lexL (pre l s b) (pre l s a) with
      | false => rfl
      | true => have := h2.2 hx; omega
  · intro e
    rw [e, lexL_same] at h1
    rw [e, lexL_same] at h2
    have n1 : ¬ R.getD a 0 < R.getD b 0 := fun x => by have := h1.1 x; cases this
    have n2 : ¬ R.getD b 0 < R.getD a 0 := fun x => by have := h2.1 x; cases this
    omega
theorem beh_lt (h : IsR l R s) (hs : 1 ≤ s) (a b : Nat) : beh R s a < beh R s b ↔ lexL (pre l s (a + s)) (pre l s (b + s)) = true := by
  unfold beh
  rw [h.len]
  by_cases ha : a + s < l.length <;> by_cases hb : b + s < l.length
  · rw [if_pos ha, if_pos hb, ← h.ord _ _ ha hb]; omega
  · rw [if_pos ha, if_neg hb, pre_out (s := s) (a := b + s) (by omega), lexL_nil_right]
    constructor
    · intro x; omega
    · intro x; cases x
  · rw [if_neg ha, if_pos hb, pre_out (s := s) (a := a + s) (by omega), lexL_nil_left]
    have := pre_len hb hs
    constructor
    · intro _; exact decide_eq_true this
    · intro _; omega
  · rw [if_neg ha, if_neg hb, pre_out (s := s) (a := a + s) (by omega), pre_out (s := s) (a := b + s) (by omega), lexL_same]
    constructor
    · intro x; omega
    · intro x; cases x
theorem cmp_lt (x y : Int) : compareInt x y < 0 ↔ x < y := by unfold compareInt; split <;> (try split) <;> omega
theorem cmp_zero (x y : Int) : compareInt x y = 0 ↔ x = y := by unfold compareInt; split <;> (try split) <;> omega
theorem cf_lt (h : IsR l R s) (hs : 1 ≤ s) {a b : Nat} (ha : a < l.length) (hb : b < l.length) : cf R s a b < 0 ↔ lexL (pre l (s + s) a) (pre l (s + s) b) = true := by
  have e : lexL (pre l (s + s) a) (pre l (s + s) b) = (lexL (pre l s a) (pre l s b) || (decide (pre l s a = pre l s b) && lexL (pre l s (a + s)) (pre l s (b + s)))) := by
    unfold pre
    rw [lexL_take2, List.drop_drop, List.drop_drop]
  rw [e, Bool.or_eq_true, Bool.and_eq_true, decide_eq_true_eq, ← h.ord a b ha hb, ← h.eq ha hb, ← beh_lt h hs]
  unfold cf orI
  have c1 := cmp_zero ((R.getD a 0 : Nat) : Int) ((R.getD b 0 : Nat) : Int)
  have c2 := cmp_lt ((R.getD a 0 : Nat) : Int) ((R.getD b 0 : Nat) : Int)
  have c3 := cmp_lt (beh R s a) (beh R s b)
  split
  · rename_i hz
    have := c1.1 hz
    rw [c3]
    constructor
    · intro x; exact .inr ⟨by omega, x⟩
    · rintro (x | ⟨_, x⟩)
      · omega
      · exact x
  · rename_i hz
    have n1 : ¬ ((R.getD a 0 : Nat) : Int) = ((R.getD b 0 : Nat) : Int) := fun x => hz (c1.2 x)
    rw [c2]
    constructor
    · intro x; exact .inl (by omega)
    · rintro (x | ⟨x, _⟩)
      · omega
      · omega
theorem cmp_flip (x y : Int) : compareInt y x = - compareInt x y := by unfold compareInt; split <;> (try split) <;> (try split) <;> (try split) <;> omega
theorem cf_flip (R : List Nat) (s a b : Nat) : cf R s b a = - cf R s a b := by
  unfold cf orI
  rw [cmp_flip ((R.getD a 0 : Nat) : Int), cmp_flip (beh R s a)]
  split <;> split <;> omega
theorem cf_zero (h : IsR l R s) (hs : 1 ≤ s) {a b : Nat} (ha : a < l.length) (hb : b < l.length) : cf R s a b = 0 ↔ pre l (s + s) a = pre l (s + s) b := by
  have h1 := cf_lt h hs ha hb
  have h2 := cf_lt h hs hb ha
  have h3 := cf_flip R s a b
  constructor
  · intro e
    refine lexL_none _ _ ?_ ?_
    · cases hx : lexL (pre l (s + s) a) (pre l (s + s) b) with
      | false => rfl
      | true => have := h1.2 hx; omega
    · cases hx : lexL (pre l (s + s) b) (pre l (s + s) a) with
      | false => rfl
      | true => have := h2.2 hx; omega
  · intro e
    rw [e, lexL_same] at h1
    rw [e, lexL_same] at h2
    have n1 : ¬ cf R s a b < 0 := fun x => by have := h1.1 x; cases this
    have n2 : ¬ cf R s b a < 0 := fun x => by have := h2.1 x; cases this
    omega
end

/-! ### ranked anew -/
def cls (f : Nat → Nat → Int) (E : List Nat) : Nat → Nat
  | 0 => 1
  | k + 1 => cls f E k + if f (E.getD k 0) (E.getD (k + 1) 0) = 0 then 0 else 1
def rrO (f : Nat → Nat → Int) (E : List Nat) (n : Nat) : Nat → List Nat
  | 0 => List.replicate n 0
  | k + 1 => (rrO f E n k).set (E.getD k 0) (cls f E k)
theorem rrO_length (f : Nat → Nat → Int) (E : List Nat) (n : Nat) : ∀ k, (rrO f E n k).length = n
  | 0 => by simp [rrO]
  | k + 1 => by rw [rrO, List.length_set]; exact rrO_length f E n k
theorem cls_le (f : Nat → Nat → Int) (E : List Nat) : ∀ k, 1 ≤ cls f E k ∧ cls f E k ≤ k + 1
  | 0 => ⟨Nat.le_refl _, Nat.le_refl _⟩
  | k + 1 => by have := cls_le f E k; rw [cls]; split <;> omega
theorem cls_step (f : Nat → Nat → Int) (E : List Nat) (k : Nat) : cls f E k ≤ cls f E (k + 1) ∧ cls f E (k + 1) ≤ cls f E k + 1 := by rw [cls]; split <;> omega
theorem cls_far (f : Nat → Nat → Int) (E : List Nat) (i : Nat) : ∀ d, cls f E i ≤ cls f E (i + d) ∧ cls f E (i + d) ≤ cls f E i + d
  | 0 => ⟨Nat.le_refl _, Nat.le_refl _⟩
  | d + 1 => by have h1 := cls_far f E i d; have h2 := cls_step f E (i + d); rw [← Nat.add_assoc]; omega
theorem rrO_at {f : Nat → Nat → Int} {E : List Nat} {n : Nat} (hE : E.Nodup) (hlt : ∀ x ∈ E, x < n) : ∀ k, k ≤ E.length → ∀ i, i < k → (rrO f E n k).getD (E.getD i 0) 0 = cls f E i
  | 0, _, i, h => absurd h (by omega)
  | k + 1, hk, i, hi => by
    have hki : k < E.length := by omega
    have h1 : E.getD k 0 < (rrO f E n k).length := by rw [rrO_length, gd hki]; exact hlt _ (List.getElem_mem hki)
    rw [rrO]
    by_cases e : i = k
    · subst e
      rw [List.getD_eq_getElem?_getD, List.getElem?_set_self h1]; rfl
    · have hne : E.getD k 0 ≠ E.getD i 0 := by
        rw [gd hki, gd (by omega : i < E.length)]
        exact fun x => e (nodup_inj hE (by omega) hki x.symm)
      rw [List.getD_eq_getElem?_getD, List.getElem?_set_ne hne, ← List.getD_eq_getElem?_getD]
      exact rrO_at hE hlt k (by omega) i (by omega)
section
variable {f : Nat → Nat → Int} {E : List Nat} {key : Nat → List Nat} {m : Nat}
theorem cls_lt (hz : ∀ i, i + 1 < m → (f (E.getD i 0) (E.getD (i + 1) 0) = 0 ↔ key i = key (i + 1))) (hs : ∀ i, i + 1 < m → lexL (key (i + 1)) (key i) = false) :
    ∀ j, j < m → ∀ i, i ≤ j → (cls f E i = cls f E j ∧ key i = key j) ∨ (cls f E i < cls f E j ∧ lexL (key i) (key j) = true)
  | 0, _, i, hi => by obtain rfl : i = 0 := by omega
                      exact .inl ⟨rfl, rfl⟩
  | j + 1, hj, i, hi => by
    by_cases e : i = j + 1
    · subst e; exact .inl ⟨rfl, rfl⟩
    · have ih := cls_lt hz hs j (by omega) i (by omega)
      rw [show cls f E (j + 1) = cls f E j + if f (E.getD j 0) (E.getD (j + 1) 0) = 0 then 0 else 1 from rfl]
      by_cases h0 : f (E.getD j 0) (E.getD (j + 1) 0) = 0
      · rw [if_pos h0, ← (hz j hj).1 h0]; exact ih
      · rw [if_neg h0]
        have hne : key j ≠ key (j + 1) := fun x => h0 ((hz j hj).2 x)
        have hl : lexL (key j) (key (j + 1)) = true := by
          cases hx : lexL (key j) (key (j + 1)) with
          | true => rfl
          | false => exact absurd (lexL_none _ _ hx (hs j hj)) hne
        right
        rcases ih with ⟨h1, h2⟩ | ⟨h1, h2⟩
        · exact ⟨by omega, by rw [h2]; exact hl⟩
        · exact ⟨by omega, lexL_trans _ _ _ h2 hl⟩
theorem cls_iff (hz : ∀ i, i + 1 < m → (f (E.getD i 0) (E.getD (i + 1) 0) = 0 ↔ key i = key (i + 1))) (hs : ∀ i, i + 1 < m → lexL (key (i + 1)) (key i) = false) {i j : Nat} (hi : i < m) (hj : j < m) :
    cls f E i < cls f E j ↔ lexL (key i) (key j) = true := by
  rcases Nat.le_total i j with h | h
  · rcases cls_lt hz hs j hj i h with ⟨h1, h2⟩ | ⟨h1, h2⟩
    · rw [h2, lexL_same]
      constructor
      · intro x; omega
      · intro x; cases x
    · exact ⟨fun _ => h2, fun _ => h1⟩
  · rcases cls_lt hz hs i hi j h with ⟨h1, h2⟩ | ⟨h1, h2⟩
    · rw [h2, lexL_same]
      constructor
      · intro x; omega
      · intro x; cases x
    · rw [lexL_asym _ _ h2]
      constructor
      · intro x; omega
      · intro x; cases x
end
section
variable {l R E : List Nat} {s : Nat}
/-- ends in order, as far as they are held against each other -/
structure Sorts2 (l E : List Nat) (s : Nat) : Prop where
  perm : E.Perm (List.range l.length)
  ord : ∀ i j, i < j → j < E.length → lexL (pre l s (E.getD j 0)) (pre l s (E.getD i 0)) = false
theorem Sorts2.len (h : Sorts2 l E s) : E.length = l.length := by rw [h.perm.length_eq, List.length_range]
theorem Sorts2.lt (h : Sorts2 l E s) {i : Nat} (hi : i < l.length) : E.getD i 0 < l.length := by
  have hi2 : i < E.length := by rw [h.len]; exact hi
  rw [gd hi2]
  exact List.mem_range.1 (h.perm.mem_iff.1 (List.getElem_mem hi2))
theorem Sorts2.at (h : Sorts2 l E s) {a : Nat} (ha : a < l.length) : ∃ i, i < l.length ∧ E.getD i 0 = a := by
  obtain ⟨i, hi, e⟩ := List.getElem_of_mem (h.perm.mem_iff.2 (List.mem_range.2 ha))
  exact ⟨i, by rw [← h.len]; exact hi, by rw [gd hi]; exact e⟩
/-- the new ranks are of twice as many things -/
theorem rerank_ok (h : IsR l R s) (hs : 1 ≤ s) (hE : Sorts2 l E (s + s)) : IsR l (rrO (cf R s) E l.length l.length) (s + s) := by
  refine ⟨rrO_length _ _ _ _, fun a b ha hb => ?_⟩
  obtain ⟨i, hi, rfl⟩ := hE.at ha
  obtain ⟨j, hj, rfl⟩ := hE.at hb
  have hnd : E.Nodup := hE.perm.nodup_iff.2 List.nodup_range
  have hlt : ∀ x ∈ E, x < l.length := fun x hx => List.mem_range.1 (hE.perm.mem_iff.1 hx)
  rw [rrO_at hnd hlt l.length (by rw [hE.len]; exact Nat.le_refl _) i hi, rrO_at hnd hlt l.length (by rw [hE.len]; exact Nat.le_refl _) j hj]
  exact cls_iff (m := l.length) (key := fun i => pre l (s + s) (E.getD i 0)) (fun i hi => cf_zero h hs (hE.lt (by omega)) (hE.lt hi)) (fun i hi => hE.ord i (i + 1) (by omega) (by rw [hE.len]; exact hi)) hi hj
/-- where all are unlike they are in order -/
theorem rerank_done (h : IsR l R s) (hs : 1 ≤ s) (hE : Sorts2 l E (s + s)) (hn : 0 < l.length) (hu : cls (cf R s) E (l.length - 1) = l.length) : E = ends l := by
  refine ends_one hE.perm ?_
  unfold Up
  rw [List.pairwise_iff_getElem]
  intro i j hi hj hij
  have hj2 : j < l.length := by rw [← hE.len]; exact hj
  have h1 := cls_far (cf R s) E j (l.length - 1 - j)
  rw [show j + (l.length - 1 - j) = l.length - 1 by omega, hu] at h1
  have h2 := cls_far (cf R s) E i (j - i)
  rw [show i + (j - i) = j by omega] at h2
  have h3 := cls_le (cf R s) E i
  have h4 := cls_le (cf R s) E j
  have hlt : cls (cf R s) E i < cls (cf R s) E j := by
    have h5 := cls_far (cf R s) E i (l.length - 1 - i)
    rw [show i + (l.length - 1 - i) = l.length - 1 by omega, hu] at h5
    omega
  have h6 := (cls_iff (m := l.length) (key := fun i => pre l (s + s) (E.getD i 0)) (fun i hi => cf_zero h hs (hE.lt (by omega)) (hE.lt hi)) (fun i hi => hE.ord i (i + 1) (by omega) (by rw [hE.len]; exact hi)) (by omega) hj2).1 hlt
  simp only [gd hi, gd hj] at h6
  exact lexL_of_take h6
/-- where as much is held against as there is, all are unlike -/
theorem rerank_all (h : IsR l R s) (hs : 1 ≤ s) (hE : Sorts2 l E (s + s)) (hn : 0 < l.length) (hb : l.length ≤ s + s) : cls (cf R s) E (l.length - 1) = l.length := by
  have key : ∀ k, k < l.length → cls (cf R s) E k = k + 1 := fun k => by
    induction k with
    | zero => intro _; rfl
    | succ k ih =>
      intro hk
      rw [cls, ih (by omega), if_neg]
      rw [cf_zero h hs (hE.lt (by omega)) (hE.lt hk)]
      intro e
      have h1 := hE.lt (i := k) (by omega)
      have h2 := hE.lt hk
      have e2 := congrArg List.length e
      unfold pre at e2
      rw [List.length_take, List.length_take, List.length_drop, List.length_drop] at e2
      have e3 : E.getD k 0 = E.getD (k + 1) 0 := by omega
      have hk1 : k + 1 < E.length := by rw [hE.len]; exact hk
      rw [gd (by omega : k < E.length), gd hk1] at e3
      have := nodup_inj (hE.perm.nodup_iff.2 List.nodup_range) (by omega) hk1 e3
      omega
  rw [key _ (by omega)]
  omega
end
theorem isR_one {l R : List Nat} (hl : R.length = l.length) (h : ∀ i j, i < l.length → j < l.length → (R.getD i 0 < R.getD j 0 ↔ l.getD i 0 < l.getD j 0)) : IsR l R 1 := by
  refine ⟨hl, fun a b ha hb => ?_⟩
  rw [h a b ha hb]
  unfold pre
  rw [List.drop_eq_getElem_cons ha, List.drop_eq_getElem_cons hb, gd ha, gd hb]
  simp only [List.take_succ_cons, List.take_zero, lexL]
  by_cases e : l[a] = l[b]
  · rw [if_pos e, e]; simp
  · rw [if_neg e]; simp
end Go.Proofs.Ytonlbcibfbbpgaa.Od

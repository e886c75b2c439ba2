/- Keys told one behind the other: the model. No function of the program in sight. -/
import Derived.Test.YthkgdjclgphodaaLsLawA
namespace Go.Proofs.Ythkgdjclgphodaa.Ls
open Go.RowKit Rw Nm

/-- the keys that are not told yet -/
def cur (K : Keys) (D : List Bool) : Keys := (List.range K.length).map fun i => if D.getD i false = true then [] else kat K i
theorem cur_length (K : Keys) (D : List Bool) : (cur K D).length = K.length := by simp [cur]
theorem cur_kat {K : Keys} {D : List Bool} {i : Nat} (h : i < K.length) : kat (cur K D) i = if D.getD i false = true then [] else kat K i := by
  show (cur K D).getD i [] = _
  unfold cur
  simp [List.getD_eq_getElem?_getD, h]
theorem keys_ext {K M : Keys} (hl : K.length = M.length) (h : ∀ i, i < K.length → kat K i = kat M i) : K = M := by
  apply List.ext_getElem hl
  intro i h1 h2
  have := h i h1
  simpa [kat, List.getD_eq_getElem?_getD, h1, h2] using this
theorem cur_none (K : Keys) : cur K (List.replicate K.length false) = K := by
  refine keys_ext (cur_length _ _) (fun i hi => ?_)
  rw [cur_length] at hi
  rw [cur_kat hi, if_neg]
  simp [List.getD_eq_getElem?_getD, hi]
theorem cur_set {K : Keys} {D : List Bool} {i : Nat} (hi : i < K.length) (hl : D.length = K.length) : (cur K D).set i [] = cur K (D.set i true) := by
  refine keys_ext (by rw [List.length_set, cur_length, cur_length]) (fun j hj => ?_)
  rw [List.length_set, cur_length] at hj
  rw [cur_kat hj]
  by_cases e : i = j
  · subst e
    rw [kat_set_same [] (by rw [cur_length]; exact hi), if_pos]
    simp [List.getD_eq_getElem?_getD, hl, hi]
  · rw [kat_set_ne [] e, cur_kat hj]
    simp [List.getD_eq_getElem?_getD, List.getElem?_set_ne e]
theorem kb_cur {K : Keys} {D : List Bool} (h : Kb K) : Kb (cur K D) := by
  intro i hi
  rw [cur_length] at hi
  have := cur_kat (K := K) (D := D) hi
  unfold kat at this
  rw [this]
  split
  · simp
  · exact h i hi
/-- what holds between two -/
structure Told (K : Keys) (D : List Bool) (x : List Nat) (at_ : Int) (m : Nat) : Prop where
  len : D.length = K.length
  cnt : D.count true = m
  some : ∀ i, i < K.length → D.getD i false = true → kat K i ≠ []
  rest : ∀ j, j < K.length → D.getD j false = false → kat K j ≠ [] → lexL (kat K j) x = false ∧ (kat K j = x → at_ < j)
theorem Told.start (K : Keys) : Told K (List.replicate K.length false) [] (-1) 0 :=
  ⟨by simp, by simp [List.count_replicate], fun i hi h => by simp [List.getD_eq_getElem?_getD, hi] at h, fun j hj _ hk => ⟨by cases h : kat K j with
    | nil => exact absurd h hk
    | cons a l => rfl, fun e => absurd e hk⟩⟩
theorem count_set : ∀ (D : List Bool) (i : Nat), i < D.length → D.getD i false = false → (D.set i true).count true = D.count true + 1
  | [], i, h, _ => absurd h (by simp)
  | b :: D, 0, _, h => by
    simp only [List.getD_cons_zero] at h
    subst h
    simp
  | b :: D, i + 1, h, h2 => by
    simp only [List.length_cons, Nat.add_lt_add_iff_right] at h
    simp only [List.getD_cons_succ] at h2
    simp only [List.set_cons_succ, List.count_cons, count_set D i h h2]
    omega
theorem Told.next {K : Keys} {D : List Bool} {x : List Nat} {at_ : Int} {m i : Nat} (h : Told K D x at_ m) (h1 : 1 ≤ K.length) (hi : i = wn (cur K D) 1) (hk : kat (cur K D) i ≠ []) :
    i < K.length ∧ D.getD i false = false ∧ kat (cur K D) i = kat K i ∧ lexL (kat K i) x = false ∧ (kat K i = x → ¬ (i : Int) < at_) ∧ Told K (D.set i true) (kat K i) i (m + 1) := by
  have hl := cur_length K D
  have hik : i < K.length := by rw [hi, ← hl]; exact wn_lt (by omega) (by omega)
  have hd : D.getD i false = false := by
    cases e : D.getD i false with
    | false => rfl
    | true => rw [cur_kat hik, e, if_pos rfl] at hk; exact absurd rfl hk
  have hkk : kat (cur K D) i = kat K i := by rw [cur_kat hik, hd]; simp
  have hk0 : kat K i ≠ [] := by rw [← hkk]; exact hk
  obtain ⟨r1, r2⟩ := h.rest i hik hd hk0
  refine ⟨hik, hd, hkk, r1, fun e => by have := r2 e; omega, ⟨by rw [List.length_set]; exact h.len, by rw [count_set D i (by rw [h.len]; exact hik) hd, h.cnt], fun j hj hdj => ?_, fun j hj hdj hkj => ?_⟩⟩
  · by_cases e : i = j
    · subst e; exact hk0
    · refine h.some j hj ?_
      simpa [List.getD_eq_getElem?_getD, List.getElem?_set_ne e] using hdj
  · have e : i ≠ j := by
      intro e
      subst e
      simp [List.getD_eq_getElem?_getD, h.len, hik] at hdj
    have hdj2 : D.getD j false = false := by simpa [List.getD_eq_getElem?_getD, List.getElem?_set_ne e] using hdj
    have hkj2 : kat (cur K D) j = kat K j := by rw [cur_kat hj, hdj2]; simp
    have htop := wn_top (K := cur K D) (j := j) (by rw [hl]; exact hj)
    rw [← hi] at htop
    rcases htop with h2 | h2
    · exact absurd h2 e
    · unfold bt btk at h2
      rw [hkk, hkj2] at h2
      have l1 : 0 < (kat K i).length := List.length_pos_iff.2 hk0
      have l2 : 0 < (kat K j).length := List.length_pos_iff.2 hkj
      rw [if_neg (by omega)] at h2
      simp only [Bool.or_eq_true, Bool.and_eq_true, Bool.not_eq_true', decide_eq_true_eq] at h2
      rcases h2 with h2 | ⟨h2, h3⟩
      · refine ⟨lexL_asym _ _ h2, fun e2 => ?_⟩
        rw [e2, lexL_self] at h2
        cases h2
      · exact ⟨h2, fun _ => by omega⟩
theorem kat_none {K : Keys} (h : kat K (wn K 1) = []) {j : Nat} (hj : j < K.length) : kat K j = [] := by
  rcases wn_top (K := K) hj with e | e
  · rw [← e]; exact h
  · unfold bt btk at e
    rw [h] at e
    simp only [List.length_nil, true_or, if_true, Nat.lt_irrefl, decide_false, Bool.false_or, Bool.and_eq_true, decide_eq_true_eq] at e
    exact List.length_eq_zero_iff.1 e.1
/-- at the end: all that are not empty are told -/
def Ended (K : Keys) (D : List Bool) : Prop := ∀ j, j < K.length → D.getD j false = decide (0 < (kat K j).length)
theorem Told.ended {K : Keys} {D : List Bool} {x : List Nat} {at_ : Int} {m : Nat} (h : Told K D x at_ m) (he : ∀ j, j < K.length → D.getD j false = false → kat K j = []) : Ended K D := fun j hj => by
  cases hd : D.getD j false with
  | true =>
    have := h.some j hj hd
    exact (decide_eq_true (List.length_pos_iff.2 this)).symm
  | false =>
    have := he j hj hd
    rw [this]; rfl
theorem Told.out {K : Keys} {D : List Bool} {x : List Nat} {at_ : Int} {m : Nat} (h : Told K D x at_ m) (hk : kat (cur K D) (wn (cur K D) 1) = []) : Ended K D :=
  h.ended fun j hj hd => by
    have := kat_none hk (j := j) (by rw [cur_length]; exact hj)
    rw [cur_kat hj, hd] at this
    simpa using this
theorem count_all : ∀ (D : List Bool), D.count true = D.length → ∀ j, j < D.length → D.getD j false = true
  | [], _, j, h => absurd h (by simp)
  | b :: D, hc, j, h => by
    have hle : D.count true ≤ D.length := List.count_le_length
    cases b with
    | false => simp at hc; omega
    | true =>
      simp at hc
      cases j with
      | zero => rfl
      | succ j => simpa using count_all D (by omega) j (by simpa using h)
theorem Told.full {K : Keys} {D : List Bool} {x : List Nat} {at_ : Int} {m : Nat} (h : Told K D x at_ m) (hm : m = K.length) : Ended K D :=
  h.ended fun j hj hd => by
    have := count_all D (by rw [h.cnt, hm, h.len]) j (by rw [h.len]; exact hj)
    rw [hd] at this
    cases this
end Go.Proofs.Ythkgdjclgphodaa.Ls

/- The order of all ends by that of the samples': the mathematics. No function of the program in sight. -/
import Derived.Test.YtonlbcibfbbpgaaSkPM
namespace Go.Proofs.Ytonlbcibfbbpgaa.Sk
open Ls Od _root_.Go.Proofs.Ytonlbcibfbbpgaa.Nm

/-- a sample's place -/
def Smp (n i : Nat) : Prop := ∃ x, x < mm n ∧ pl n x = i
theorem smp_one {n i : Nat} (h : i % 3 = 1) (hi : i ≤ n) : Smp n i := by
  refine ⟨i / 3, ?_, ?_⟩
  · unfold mm top; split <;> omega
  · unfold pl c1 top
    split <;> split <;> omega
theorem smp_two {n i : Nat} (h : i % 3 = 2) (hi : i < n) : Smp n i := by
  refine ⟨c1 n + i / 3, ?_, ?_⟩
  · unfold mm c1 top; split <;> omega
  · unfold pl
    rw [if_neg (by omega)]; omega
theorem smp_mod {n i : Nat} (h : Smp n i) : (i % 3 = 1 ∧ i ≤ n) ∨ (i % 3 = 2 ∧ i < n) := by
  obtain ⟨x, hx, rfl⟩ := h
  unfold pl mm c1 top at *
  split <;> (try split at hx) <;> (try split) <;> omega
/-- at each sample's place, its end's row among them, and one -/
def rws (n : Nat) (P : List Nat) : Nat → List Nat
  | 0 => List.replicate (n + 1) 0
  | k + 1 => (rws n P k).set (pl n (P.getD k 0)) (k + 1)
theorem rws_length (n : Nat) (P : List Nat) : ∀ k, (rws n P k).length = n + 1
  | 0 => by simp [rws]
  | k + 1 => by rw [rws, List.length_set, rws_length n P k]
theorem rws_at {n : Nat} {P : List Nat} (hP : ∀ i j, i < j → j < P.length → P.getD i 0 ≠ P.getD j 0) (hm : ∀ i, i < P.length → P.getD i 0 < mm n) : ∀ k, k ≤ P.length →
    (∀ j, j < k → (rws n P k).getD (pl n (P.getD j 0)) 0 = j + 1) ∧ (∀ i, (∀ j, j < k → pl n (P.getD j 0) ≠ i) → (rws n P k).getD i 0 = 0)
  | 0, _ => ⟨fun j hj => absurd hj (Nat.not_lt_zero _), fun i _ => by simp [rws, List.getD_eq_getElem?_getD, List.getElem?_replicate]; split <;> rfl⟩
  | k + 1, h => by
    obtain ⟨h1, h2⟩ := rws_at hP hm k (by omega)
    have hlt : pl n (P.getD k 0) < (rws n P k).length := by rw [rws_length]; have := pl_le (hm k (by omega)); omega
    refine ⟨fun j hj => ?_, fun i hi => ?_⟩
    · rw [rws, List.getD_eq_getElem?_getD, List.getElem?_set]
      by_cases e : j = k
      · subst e
        rw [if_pos rfl, if_pos hlt]; rfl
      · rw [if_neg (fun e2 => hP j k (by omega) (by omega) (pl_inj e2).symm), ← List.getD_eq_getElem?_getD]
        exact h1 j (by omega)
    · rw [rws, List.getD_eq_getElem?_getD, List.getElem?_set, if_neg (hi k (by omega)), ← List.getD_eq_getElem?_getD]
      exact h2 i (fun j hj => hi j (by omega))
/-- what is asked of the rows: those of the samples are above 0 and in order, the others 0 -/
structure Rk (l R : List Nat) : Prop where
  lt : ∀ i j, Smp l.length i → Smp l.length j → i ≠ j → decide (R.getD i 0 < R.getD j 0) = Od.lt l i j
  pos : ∀ i, Smp l.length i → 1 ≤ R.getD i 0
  no : ∀ i, ¬ Smp l.length i → R.getD i 0 = 0
theorem perm_getD {P : List Nat} {m : Nat} (hp : P.Perm (List.range m)) : P.length = m ∧ (∀ i j, i < j → j < P.length → P.getD i 0 ≠ P.getD j 0) ∧ (∀ i, i < P.length → P.getD i 0 < m) ∧ (∀ x, x < m → ∃ j, j < P.length ∧ P.getD j 0 = x) := by
  have hl : P.length = m := by rw [hp.length_eq, List.length_range]
  have hn : P.Nodup := hp.nodup_iff.2 List.nodup_range
  refine ⟨hl, fun i j hij hj => ?_, fun i hi => ?_, fun x hx => ?_⟩
  · rw [gd (by omega), gd hj]
    exact (List.pairwise_iff_getElem.1 hn) i j (by omega) hj hij
  · rw [gd hi]
    exact List.mem_range.1 (hp.mem_iff.1 (List.getElem_mem hi))
  · obtain ⟨j, hj, e⟩ := List.mem_iff_getElem.1 (hp.mem_iff.2 (List.mem_range.2 hx))
    exact ⟨j, hj, by rw [gd hj, e]⟩
theorem rk_of {l : List Nat} (h : Pos l) : Rk l (rws l.length (ends (red l)) (mm l.length)) := by
  have hp : (ends (red l)).Perm (List.range (mm l.length)) := by have := ends_perm (red l); rwa [red_length] at this
  obtain ⟨e1, e2, e3, e4⟩ := perm_getD hp
  obtain ⟨a1, a2⟩ := rws_at e2 e3 (mm l.length) (by rw [e1]; exact Nat.le_refl _)
  have hup := ends_up (red l)
  refine ⟨fun i j hi hj hne => ?_, fun i hi => ?_, fun i hi => ?_⟩
  · obtain ⟨x, hx, rfl⟩ := hi
    obtain ⟨y, hy, rfl⟩ := hj
    obtain ⟨u, hu, rfl⟩ := e4 x hx
    obtain ⟨v, hv, rfl⟩ := e4 y hy
    rw [a1 u (by omega), a1 v (by omega), ← skew_lt h _ _ _ hx hy (Nat.le_refl _)]
    rcases Nat.lt_trichotomy u v with huv | huv | huv
    · rw [decide_eq_true (by omega), gd hu, gd hv]
      exact ((List.pairwise_iff_getElem.1 hup) u v hu hv huv).symm
    · subst huv; exact absurd rfl hne
    · rw [decide_eq_false (by omega), gd hu, gd hv]
      exact (lt_asym ((List.pairwise_iff_getElem.1 hup) v u hv hu huv)).symm
  · obtain ⟨x, hx, rfl⟩ := hi
    obtain ⟨u, hu, rfl⟩ := e4 x hx
    rw [a1 u (by omega)]; omega
  · exact a2 i (fun j hj e => hi ⟨_, e3 j (by omega), e⟩)
/-- rows of places that are samples, or behind the end, are in the order of the ends -/
theorem rk_lt {l R : List Nat} (h : Rk l R) {i j : Nat} (hi : Smp l.length i ∨ (¬ Smp l.length i ∧ l.length ≤ i)) (hj : Smp l.length j ∨ (¬ Smp l.length j ∧ l.length ≤ j)) (hne : i ≠ j) (hb : i < l.length ∨ j < l.length) :
    decide (R.getD i 0 < R.getD j 0) = Od.lt l i j := by
  rcases hi with hi | ⟨hi, hil⟩ <;> rcases hj with hj | ⟨hj, hjl⟩
  · exact h.lt i j hi hj hne
  · rw [h.no j hj, decide_eq_false (Nat.not_lt_zero _)]
    unfold Od.lt
    rw [List.drop_eq_nil_of_le hjl, lexL_nil_right]
  · have := h.pos j hj
    rw [h.no i hi, decide_eq_true (by omega)]
    unfold Od.lt
    rw [List.drop_eq_nil_of_le hil, lexL_nil_left, List.length_drop]
    exact (decide_eq_true (by omega)).symm
  · omega
/-- by what an end is held against a sample's -/
def keyT (l R : List Nat) (place rest : Nat) : T3 := if rest = 1 then (l.getD place 0, R.getD (place + 1) 0, 0) else (l.getD place 0, l.getD (place + 1) 0, R.getD (place + 2) 0)
theorem lex3 (a b c x y z : Nat) : lexL (tl (a, b, c)) (tl (x, y, z)) = if a = x then (if b = y then decide (c < z) else decide (b < y)) else decide (a < x) := lex_abc a b c x y z
theorem key_one {l R : List Nat} (hp : Pos l) (h : Rk l R) {f s : Nat} (hf : f % 3 = 0) (hfn : f < l.length) (hs : s ≤ l.length) (hne : f ≠ s) (hs3 : s % 3 = 0 ∨ s % 3 = 1) :
    lexL (tl (keyT l R f 1)) (tl (keyT l R s 1)) = Od.lt l f s := by
  unfold keyT
  rw [if_pos rfl, if_pos rfl, lex3]
  have p1 := pos_at hp hfn
  by_cases e : s = l.length
  · subst e
    have : l.getD l.length 0 = 0 := at_end (Nat.le_refl _)
    rw [this, if_neg (by omega), decide_eq_false (by omega), lt_no]
  · have hsn : s < l.length := by omega
    rw [lt_step l f s hfn hsn]
    by_cases e2 : l.getD f 0 = l.getD s 0
    · rw [if_pos e2, e2, decide_eq_false (Nat.lt_irrefl (l.getD s 0)), Bool.false_or, decide_eq_true rfl, Bool.true_and]
      have hG : decide (R.getD (f + 1) 0 < R.getD (s + 1) 0) = Od.lt l (f + 1) (s + 1) := by
        refine rk_lt h (.inl (smp_one (by omega) (by omega))) ?_ (by omega) ?_
        · rcases hs3 with h3 | h3
          · exact .inl (smp_one (by omega) (by omega))
          · by_cases h4 : s + 1 < l.length
            · exact .inl (smp_two (by omega) h4)
            · exact .inr ⟨fun h5 => by have := smp_mod h5; omega, by omega⟩
        · omega
      rw [← hG]
      by_cases e3 : R.getD (f + 1) 0 = R.getD (s + 1) 0
      · rw [if_pos e3, e3]; simp
      · rw [if_neg e3]
    · rw [if_neg e2, decide_eq_false e2, Bool.false_and, Bool.or_false]
theorem key_two {l R : List Nat} (hp : Pos l) (h : Rk l R) {f s : Nat} (hf : f % 3 = 0) (hfn : f < l.length) (hs : s < l.length) (hs3 : s % 3 = 2) :
    lexL (tl (keyT l R f 2)) (tl (keyT l R s 2)) = Od.lt l f s := by
  unfold keyT
  rw [if_neg (by omega), if_neg (by omega), lex3, lt_step l f s hfn hs]
  by_cases e2 : l.getD f 0 = l.getD s 0
  · rw [if_pos e2, e2, decide_eq_false (Nat.lt_irrefl (l.getD s 0)), Bool.false_or, decide_eq_true rfl, Bool.true_and]
    by_cases hf1 : f + 1 < l.length
    · by_cases hs1 : s + 1 < l.length
      · rw [lt_step l (f + 1) (s + 1) hf1 hs1]
        by_cases e3 : l.getD (f + 1) 0 = l.getD (s + 1) 0
        · rw [if_pos e3, e3, decide_eq_false (Nat.lt_irrefl (l.getD (s + 1) 0)), Bool.false_or, decide_eq_true rfl, Bool.true_and]
          refine rk_lt h ?_ (.inl (smp_one (by omega) (by omega))) (by omega) ?_
          · by_cases h4 : f + 2 < l.length
            · exact .inl (smp_two (by omega) h4)
            · exact .inr ⟨fun h5 => by have := smp_mod h5; omega, by omega⟩
          · omega
        · rw [if_neg e3, decide_eq_false e3, Bool.false_and, Bool.or_false]
      · have hse : s + 1 = l.length := by omega
        have p1 := pos_at hp hf1
        rw [hse, at_end (Nat.le_refl _), if_neg (by omega), decide_eq_false (by omega), lt_no]
    · have hfe : f + 1 = l.length := by omega
      have hs1 : s + 1 < l.length := by omega
      have p1 := pos_at hp hs1
      rw [hfe, at_end (Nat.le_refl _), if_neg (by omega), decide_eq_true (by omega), lt_end l _ hs1]
  · rw [if_neg e2, decide_eq_false e2, Bool.false_and, Bool.or_false]
/-- an end of a place that leaves 0 against a sample's -/
theorem key_lt {l R : List Nat} (hp : Pos l) (h : Rk l R) {f s : Nat} (hf : f % 3 = 0) (hfn : f < l.length) (hs : Smp l.length s) :
    lexL (tl (keyT l R f (s % 3))) (tl (keyT l R s (s % 3))) = Od.lt l f s := by
  rcases smp_mod hs with ⟨h1, h2⟩ | ⟨h1, h2⟩
  · rw [h1]; exact key_one hp h hf hfn h2 (by omega) (.inr h1)
  · rw [h1]; exact key_two hp h hf hfn h2 h1
/-! ### the merge -/
/-- some samples and some of the others are out, in order, all less than what is not -/
structure Mg (l S F : List Nat) (k f : Nat) (O : List Nat) : Prop where
  up : Up l O
  perm : O.Perm ((S.take k).filter (fun x => decide (x < l.length)) ++ F.take f)
  fs : ∀ a ∈ O, ∀ b ∈ F.drop f, Od.lt l a b = true
  ss : ∀ a ∈ O, ∀ b ∈ S.drop k, b < l.length → Od.lt l a b = true
theorem Mg.start (l S F : List Nat) : Mg l S F 0 0 [] := ⟨List.Pairwise.nil, by simp, by simp, by simp⟩
theorem drop_cons {L : List Nat} {k : Nat} (h : k < L.length) : L.drop k = L[k] :: L.drop (k + 1) := List.drop_eq_getElem_cons h
theorem Mg.first {l S F O : List Nat} {k f : Nat} (h : Mg l S F k f O) (hF : Up l F) (hS : Up l S) (hf : f < F.length) (hk : k < S.length) (hl : Od.lt l F[f] S[k] = true) : Mg l S F k (f + 1) (O ++ [F[f]]) where
  up := by
    unfold Up
    rw [List.pairwise_append]
    exact ⟨h.up, by simp, fun a ha b hb => by rw [List.mem_singleton] at hb; subst hb; exact h.fs a ha _ (by rw [drop_cons hf]; exact List.mem_cons_self ..)⟩
  perm := by
    rw [List.take_succ_eq_append_getElem hf, ← List.append_assoc]
    exact h.perm.append_right _
  fs := fun a ha b hb => by
    rcases List.mem_append.1 ha with ha | ha
    · exact h.fs a ha b (by rw [drop_cons hf]; exact List.mem_cons_of_mem _ hb)
    · rw [List.mem_singleton] at ha; subst ha
      obtain ⟨j, hj, rfl⟩ := List.mem_iff_getElem.1 hb
      rw [List.getElem_drop]
      exact (List.pairwise_iff_getElem.1 hF) f (f + 1 + j) hf (by rw [List.length_drop] at hj; omega) (by omega)
  ss := fun a ha b hb hbn => by
    rcases List.mem_append.1 ha with ha | ha
    · exact h.ss a ha b hb hbn
    · rw [List.mem_singleton] at ha; subst ha
      rw [drop_cons hk] at hb
      rcases List.mem_cons.1 hb with rfl | hb
      · exact hl
      · obtain ⟨j, hj, rfl⟩ := List.mem_iff_getElem.1 hb
        rw [List.getElem_drop]
        exact lt_trans hl ((List.pairwise_iff_getElem.1 hS) k (k + 1 + j) hk (by rw [List.length_drop] at hj; omega) (by omega))
theorem Mg.sample {l S F O : List Nat} {k f : Nat} (h : Mg l S F k f O) (hF : Up l F) (hS : Up l S) (hk : k < S.length) (hn : S[k] < l.length) (hl : ∀ hf : f < F.length, Od.lt l S[k] F[f] = true) : Mg l S F (k + 1) f (O ++ [S[k]]) where
  up := by
    unfold Up
    rw [List.pairwise_append]
    exact ⟨h.up, by simp, fun a ha b hb => by rw [List.mem_singleton] at hb; subst hb; exact h.ss a ha _ (by rw [drop_cons hk]; exact List.mem_cons_self ..) hn⟩
  perm := by
    rw [List.take_succ_eq_append_getElem hk, List.filter_append]
    have e : [S[k]].filter (fun x => decide (x < l.length)) = [S[k]] := by simp [hn]
    rw [e, List.append_assoc]
    refine (h.perm.append_right [S[k]]).trans ?_
    rw [List.append_assoc]
    exact List.Perm.append_left _ List.perm_append_comm
  fs := fun a ha b hb => by
    rcases List.mem_append.1 ha with ha | ha
    · exact h.fs a ha b hb
    · rw [List.mem_singleton] at ha; subst ha
      have hf : f < F.length := by
        rcases Nat.lt_or_ge f F.length with h | h
        · exact h
        · rw [List.drop_eq_nil_of_le h] at hb; cases hb
      rw [drop_cons hf] at hb
      rcases List.mem_cons.1 hb with rfl | hb
      · exact hl hf
      · obtain ⟨j, hj, rfl⟩ := List.mem_iff_getElem.1 hb
        rw [List.getElem_drop]
        exact lt_trans (hl hf) ((List.pairwise_iff_getElem.1 hF) f (f + 1 + j) hf (by rw [List.length_drop] at hj; omega) (by omega))
  ss := fun a ha b hb hbn => by
    rcases List.mem_append.1 ha with ha | ha
    · exact h.ss a ha b (by rw [drop_cons hk]; exact List.mem_cons_of_mem _ hb) hbn
    · rw [List.mem_singleton] at ha; subst ha
      obtain ⟨j, hj, rfl⟩ := List.mem_iff_getElem.1 hb
      rw [List.getElem_drop]
      exact (List.pairwise_iff_getElem.1 hS) k (k + 1 + j) hk (by rw [List.length_drop] at hj; omega) (by omega)
theorem Mg.skip {l S F O : List Nat} {k f : Nat} (h : Mg l S F k f O) (hk : k < S.length) (hn : ¬ S[k] < l.length) : Mg l S F (k + 1) f O where
  up := h.up
  perm := by
    rw [List.take_succ_eq_append_getElem hk, List.filter_append]
    have e : [S[k]].filter (fun x => decide (x < l.length)) = [] := by simp [hn]
    rw [e, List.append_nil]
    exact h.perm
  fs := h.fs
  ss := fun a ha b hb hbn => h.ss a ha b (by rw [drop_cons hk]; exact List.mem_cons_of_mem _ hb) hbn
/-- all samples are out: with what is left of the others it is the order of all -/
theorem Mg.done {l S F O : List Nat} {f : Nat} (h : Mg l S F S.length f O) (hF : Up l F) (hall : (S.filter (fun x => decide (x < l.length)) ++ F).Perm (List.range l.length)) : O ++ F.drop f = ends l := by
  refine ends_one ?_ ?_
  · refine List.Perm.trans ?_ hall
    have := h.perm
    rw [List.take_of_length_le (Nat.le_refl _)] at this
    refine (this.append_right _).trans ?_
    rw [List.append_assoc, List.take_append_drop]
  · unfold Up
    rw [List.pairwise_append]
    refine ⟨h.up, ?_, fun a ha b hb => h.fs a ha b hb⟩
    exact List.Pairwise.sublist (List.drop_sublist _ _) hF
/-- the places that leave 0 -/
def zer (n : Nat) : List Nat := (List.range ((n + 2) / 3)).map (3 * ·)
theorem zer_mem {n x : Nat} : x ∈ zer n ↔ x % 3 = 0 ∧ x < n := by
  unfold zer
  rw [List.mem_map]
  constructor
  · rintro ⟨a, ha, rfl⟩
    have := List.mem_range.1 ha
    omega
  · rintro ⟨h1, h2⟩
    exact ⟨x / 3, List.mem_range.2 (by omega), by omega⟩
theorem zer_nodup (n : Nat) : (zer n).Nodup := by
  unfold zer
  rw [List.Nodup, List.pairwise_map]
  exact List.nodup_range.imp fun h e => h (by omega)
theorem smp_list {l : List Nat} : (((ends (red l)).map (pl l.length)).filter (fun x => decide (x < l.length)) ++ zer l.length).Perm (List.range l.length) := by
  have hp : (ends (red l)).Perm (List.range (mm l.length)) := by have := ends_perm (red l); rwa [red_length] at this
  have hm : ∀ x, x ∈ (ends (red l)).map (pl l.length) ↔ Smp l.length x := fun x => by
    rw [List.mem_map]
    constructor
    · rintro ⟨a, ha, rfl⟩; exact ⟨a, List.mem_range.1 (hp.mem_iff.1 ha), rfl⟩
    · rintro ⟨a, ha, rfl⟩; exact ⟨a, hp.mem_iff.2 (List.mem_range.2 ha), rfl⟩
  have hn : ((ends (red l)).map (pl l.length)).Nodup := by
    rw [List.Nodup, List.pairwise_map]
    exact (hp.nodup_iff.2 List.nodup_range).imp fun h e => h (pl_inj e)
  refine (List.perm_ext_iff_of_nodup ?_ List.nodup_range).2 fun x => ?_
  · rw [List.nodup_append]
    refine ⟨hn.filter _, zer_nodup _, fun a ha b hb e => ?_⟩
    subst e
    have h1 := smp_mod ((hm a).1 (List.mem_filter.1 ha).1)
    have h2 := zer_mem.1 hb
    omega
  · rw [List.mem_append, List.mem_filter, hm, zer_mem, List.mem_range]
    constructor
    · rintro (⟨_, h⟩ | ⟨_, h⟩)
      · exact of_decide_eq_true h
      · exact h
    · intro h
      have h3 : x % 3 = 0 ∨ x % 3 = 1 ∨ x % 3 = 2 := by omega
      rcases h3 with h3 | h3 | h3
      · exact .inr ⟨h3, h⟩
      · exact .inl ⟨smp_one h3 (by omega), decide_eq_true h⟩
      · exact .inl ⟨smp_two h3 h, decide_eq_true h⟩
/-- the samples' ends in order -/
theorem smp_up {l : List Nat} (h : Pos l) : Up l ((ends (red l)).map (pl l.length)) := by
  unfold Up
  rw [List.pairwise_map]
  have hp : (ends (red l)).Perm (List.range (mm l.length)) := by have := ends_perm (red l); rwa [red_length] at this
  refine List.Pairwise.imp_of_mem ?_ (ends_up (red l))
  intro a b ha hb hab
  rw [← skew_lt h _ _ _ (List.mem_range.1 (hp.mem_iff.1 ha)) (List.mem_range.1 (hp.mem_iff.1 hb)) (Nat.le_refl _)]
  exact hab
end Go.Proofs.Ytonlbcibfbbpgaa.Sk

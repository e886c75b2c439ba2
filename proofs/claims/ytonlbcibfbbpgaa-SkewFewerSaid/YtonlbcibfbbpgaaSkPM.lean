/- The triples in order, each once: their names are those of the document. The mathematics. -/
import Derived.Test.YtonlbcibfbbpgaaSkPG
import Derived.Test.YtonlbcibfbbpgaaSkPF
namespace Go.Proofs.Ytonlbcibfbbpgaa.Sk
open Go.RowKit Go.Lib Go.Sort Rw Ls Od _root_.Go.Proofs.Ytonlbcibfbbpgaa.Nm

theorem comp_stepT (d : Array T3) (hs : ∀ i j, i < j → j < d.size → lexL (tl d[j]!) (tl d[i]!) = false) : ∀ m, m ≤ d.size → (compactUpTo d m).Pairwise (fun a b => lexL (tl a) (tl b) = true) ∧ (∀ x ∈ compactUpTo d m, 0 < m ∧ (x = d[m - 1]! ∨ lexL (tl x) (tl d[m - 1]!) = true)) ∧ (∀ x, x ∈ compactUpTo d m ↔ ∃ j, j < m ∧ d[j]! = x)
  | 0, _ => ⟨by simp [compactUpTo], by simp [compactUpTo], by simp [compactUpTo]⟩
  | m + 1, h => by
    obtain ⟨h1, h2, h3⟩ := comp_stepT d hs m (by omega)
    rw [compactUpTo_succ]
    by_cases hk : keeps d m = true
    · rw [if_pos hk]
      have hlast : ∀ x ∈ compactUpTo d m, lexL (tl x) (tl d[m]!) = true := fun x hx => by
        obtain ⟨h0, hle⟩ := h2 x hx
        have h4 := hs (m - 1) m (by omega) (by omega)
        have h5 : d[m]! ≠ d[m - 1]! := by
          simp only [keeps, decide_eq_true_eq] at hk
          rcases hk with hk | hk
          · omega
          · exact hk
        have h6 : lexL (tl d[m - 1]!) (tl d[m]!) = true := by
          by_cases e : lexL (tl d[m - 1]!) (tl d[m]!) = true
          · exact e
          · exact absurd (tl_inj (lexL_none _ _ h4 (by simpa using e))) h5
        rcases hle with hle | hle
        · rw [hle]; exact h6
        · exact lexL_trans _ _ _ hle h6
      refine ⟨?_, ?_, ?_⟩
      · rw [List.pairwise_append]
        exact ⟨h1, by simp, fun a ha b hb => by rw [List.mem_singleton] at hb; subst hb; exact hlast a ha⟩
      · intro x hx
        rw [List.mem_append, List.mem_singleton] at hx
        refine ⟨by omega, ?_⟩
        rw [Nat.add_sub_cancel]
        rcases hx with hx | hx
        · exact .inr (hlast x hx)
        · exact .inl hx
      · intro x
        rw [List.mem_append, List.mem_singleton, h3]
        constructor
        · rintro (⟨j, hj, e⟩ | rfl)
          · exact ⟨j, by omega, e⟩
          · exact ⟨m, by omega, rfl⟩
        · rintro ⟨j, hj, e⟩
          by_cases hjm : j = m
          · subst hjm; exact .inr e.symm
          · exact .inl ⟨j, by omega, e⟩
    · rw [if_neg hk, List.append_nil]
      have hk2 : ¬ m = 0 ∧ d[m]! = d[m - 1]! := by
        have : ¬ (m = 0 ∨ d[m]! ≠ d[m - 1]!) := fun h => hk (by simp only [keeps, decide_eq_true_eq]; exact h)
        exact ⟨fun h => this (.inl h), Decidable.not_not.1 fun h => this (.inr h)⟩
      refine ⟨h1, fun x hx => ?_, fun x => ?_⟩
      · obtain ⟨h0, hle⟩ := h2 x hx
        exact ⟨by omega, by rw [Nat.add_sub_cancel, hk2.2]; exact hle⟩
      · rw [h3]
        constructor
        · rintro ⟨j, hj, e⟩; exact ⟨j, by omega, e⟩
        · rintro ⟨j, hj, e⟩
          by_cases hjm : j = m
          · subst hjm; exact ⟨j - 1, by omega, by rw [← hk2.2]; exact e⟩
          · exact ⟨j, by omega, e⟩
/-- the sorted triples, each once -/
structure KnT (L K : List T3) : Prop where
  up : K.Pairwise (fun a b => lexL (tl a) (tl b) = true)
  mem : ∀ x, x ∈ K ↔ x ∈ L
theorem knT_of {L M : List T3} (hp : M.Perm L) (hs : M.Pairwise (fun a b => lexL (tl b) (tl a) = false)) : KnT L (compactUpTo M.toArray M.length) := by
  obtain ⟨h1, _, h3⟩ := comp_stepT M.toArray (fun i j hij hj => by
    have hj2 : j < M.length := by simpa using hj
    rw [getT M hj2, getT M (by omega)]
    exact List.pairwise_iff_getElem.1 hs i j (by omega) hj2 hij) M.length (by simp)
  refine ⟨h1, fun x => ?_⟩
  rw [h3, ← hp.mem_iff]
  constructor
  · rintro ⟨j, hj, rfl⟩
    rw [getT M hj]; exact List.getElem_mem hj
  · intro hx
    obtain ⟨j, hj, rfl⟩ := List.mem_iff_getElem.1 hx
    exact ⟨j, hj, getT M hj⟩
theorem knT_sorted {L K : List T3} (h : KnT L K) : K.Pairwise (fun a b => lexL (tl b) (tl a) = false) := h.up.imp fun h => lexL_asym _ _ h
/-- the document's unlike triples are these -/
theorem knT_perm {l : List Nat} {K : List T3} (h : KnT (trT l) K) : (K.map tl).Perm ((firsts (trips l)).map fun j => (trips l).getD j []) := by
  have hm : ∀ x, x ∈ K.map tl ↔ x ∈ trips l := fun x => by
    rw [← trT_tl, List.mem_map, List.mem_map]
    constructor
    · rintro ⟨a, ha, rfl⟩; exact ⟨a, (h.mem a).1 ha, rfl⟩
    · rintro ⟨a, ha, rfl⟩; exact ⟨a, (h.mem a).2 ha, rfl⟩
  have d1 : (K.map tl).Nodup := by
    rw [List.Nodup, List.pairwise_map]
    refine h.up.imp fun {a b} h e => ?_
    rw [e, lexL_same] at h
    cases h
  have d2 : ((firsts (trips l)).map fun j => (trips l).getD j []).Nodup := by
    rw [List.Nodup, List.pairwise_map, List.pairwise_iff_getElem]
    intro i j hi hj hij e
    obtain ⟨a1, a2⟩ := firsts_at hi
    obtain ⟨b1, b2⟩ := firsts_at hj
    have := first_one a1 b1 a2 b2 e
    have hn : (firsts (trips l)).Nodup := List.Pairwise.filter _ List.nodup_range
    have := (List.pairwise_iff_getElem.1 hn) i j hi hj hij
    exact this (by assumption)
  refine (List.perm_ext_iff_of_nodup d1 d2).2 fun x => ?_
  rw [hm, List.mem_map]
  constructor
  · intro hx
    obtain ⟨j, hj, hf, e⟩ := first_of hx
    exact ⟨j, List.mem_filter.2 ⟨List.mem_range.2 hj, hf⟩, e⟩
  · rintro ⟨j, hj, rfl⟩
    have := List.mem_range.1 (List.mem_filter.1 hj).1
    rw [List.getD_eq_getElem?_getD, List.getElem?_eq_getElem this]
    exact List.getElem_mem this
theorem knT_name {l : List Nat} {K : List T3} (h : KnT (trT l) K) (t : T3) : lessT K t + 1 = nameOf (trips l) (tl t) := by
  rw [nameOf_count]
  have e1 : lessT K t = (K.map tl).countP fun x => lexL x (tl t) := by
    unfold lessT; rw [List.countP_map]; rfl
  have e2 : (firsts (trips l)).countP (fun j => lexL ((trips l).getD j []) (tl t)) = ((firsts (trips l)).map fun j => (trips l).getD j []).countP fun x => lexL x (tl t) := by
    rw [List.countP_map]; rfl
  rw [e1, e2, (knT_perm h).countP_eq]
  omega
theorem knT_many {l : List Nat} {K : List T3} (h : KnT (trT l) K) : K.length = many l := by
  have := (knT_perm h).length_eq
  rw [List.length_map, List.length_map] at this
  rw [this, many_is]
end Go.Proofs.Ytonlbcibfbbpgaa.Sk

/- Numbers in order, each once; how many are less: the mathematics. No function of the program in sight. -/
import Derived.Test.YtonlbcibfbbpgaaOrdM
import Derived.Lib.SlicesCompact
import Derived.Laws.AppendOwn
namespace Go.Proofs.Ytonlbcibfbbpgaa.St
open Go.Lib

theorem comp_step (d : Array Int) (hs : ∀ i j, i < j → j < d.size → d[i]! ≤ d[j]!) : ∀ m, m ≤ d.size → (compactUpTo d m).Pairwise (· < ·) ∧ (∀ x ∈ compactUpTo d m, 0 < m ∧ x ≤ d[m - 1]!) ∧ (∀ x, x ∈ compactUpTo d m ↔ ∃ j, j < m ∧ d[j]! = x)
  | 0, _ => ⟨by simp [compactUpTo], by simp [compactUpTo], by simp [compactUpTo]⟩
  | m + 1, h => by
    obtain ⟨h1, h2, h3⟩ := comp_step d hs m (by omega)
    rw [compactUpTo_succ]
    by_cases hk : keeps d m = true
    · rw [if_pos hk]
      have hlast : ∀ x ∈ compactUpTo d m, x < d[m]! := fun x hx => by
        obtain ⟨h0, hle⟩ := h2 x hx
        have h4 := hs (m - 1) m (by omega) (by omega)
        have h5 : d[m]! ≠ d[m - 1]! := by
          simp only [keeps, decide_eq_true_eq] at hk
          rcases hk with hk | hk
          · omega
          · exact hk
        omega
      refine ⟨?_, ?_, ?_⟩
      · rw [List.pairwise_append]
        exact ⟨h1, by simp, fun a ha b hb => by rw [List.mem_singleton] at hb; subst hb; exact hlast a ha⟩
      · intro x hx
        rw [List.mem_append, List.mem_singleton] at hx
        refine ⟨by omega, ?_⟩
        rw [Nat.add_sub_cancel]
        rcases hx with hx | hx
        · exact Int.le_of_lt (hlast x hx)
        · omega
      · intro x
        rw [List.mem_append, List.mem_singleton, h3]
        constructor
        · rintro (⟨j, hj, e⟩ | rfl)
          · exact ⟨j, by omega, e⟩
          · exact ⟨m, by omega, rfl⟩
        · rintro ⟨j, hj, e⟩
          by_cases hjm : j = m
          · subst hjm; exact .inr e.symm
          · exact .inl ⟨j, by omega, e⟩
    · rw [if_neg hk, List.append_nil]
      have hk2 : ¬ m = 0 ∧ d[m]! = d[m - 1]! := by
        have : ¬ (m = 0 ∨ d[m]! ≠ d[m - 1]!) := fun h => hk (by simp only [keeps, decide_eq_true_eq]; exact h)
        exact ⟨fun h => this (.inl h), Decidable.not_not.1 fun h => this (.inr h)⟩
      refine ⟨h1, fun x hx => ?_, fun x => ?_⟩
      · obtain ⟨h0, hle⟩ := h2 x hx
        exact ⟨by omega, by rw [Nat.add_sub_cancel, hk2.2]; exact hle⟩
      · rw [h3]
        constructor
        · rintro ⟨j, hj, e⟩; exact ⟨j, by omega, e⟩
        · rintro ⟨j, hj, e⟩
          by_cases hjm : j = m
          · subst hjm; exact ⟨j - 1, by omega, by rw [← hk2.2]; exact e⟩
          · exact ⟨j, by omega, e⟩
theorem comp_len (d : Array Int) : (compactUpTo d d.size).length ≤ d.size := by
  unfold compactUpTo
  rw [List.length_map]
  exact Nat.le_trans (List.length_filter_le _ _) (by simp)
theorem comp_sorted (M : List Int) (hs : M.Pairwise (· ≤ ·)) : (compactUpTo M.toArray M.length).Pairwise (· < ·) ∧ ∀ x, x ∈ compactUpTo M.toArray M.length ↔ x ∈ M := by
  have h := comp_step M.toArray (fun i j hij hj => by
    have hj2 : j < M.length := by simpa using hj
    have := (List.pairwise_iff_getElem.1 hs) i j (by omega) hj2 hij
    simpa [hj2, Nat.lt_trans hij hj2] using this) M.length (by simp)
  refine ⟨h.1, fun x => (h.2.2 x).trans ?_⟩
  constructor
  · rintro ⟨j, hj, rfl⟩; simp [hj]
  · intro hx
    obtain ⟨j, hj, rfl⟩ := List.getElem_of_mem hx
    exact ⟨j, hj, by simp [hj]⟩
theorem bs_low {M : List Int} {t : Int} {h : Nat} (hs : M.Pairwise (· < ·)) (hx : M[h]! < t) (hh : h < M.length) : ∀ k, k < h + 1 → M[k]! < t := fun k hk => by
  by_cases e : k = h
  · subst e; exact hx
  · have := (List.pairwise_iff_getElem.1 hs) k h (by omega) hh (by omega)
    simp only [getElem!_pos M h hh, getElem!_pos M k (by omega)] at hx ⊢
    omega
theorem bs_high {M : List Int} {t : Int} {h k : Nat} (hs : M.Pairwise (· < ·)) (hx : ¬ M[h]! < t) (hk : h ≤ k) (hl : k < M.length) : ¬ M[k]! < t := by
  by_cases e : k = h
  · subst e; exact hx
  · have := (List.pairwise_iff_getElem.1 hs) h k (by omega) hl (by omega)
    simp only [getElem!_pos M h (by omega), getElem!_pos M k hl] at hx ⊢
    omega
theorem bs_count {M : List Int} {t : Int} {i : Nat} (h1 : ∀ k, k < i → M[k]! < t) (h2 : ∀ k, i ≤ k → k < M.length → ¬ M[k]! < t) (hi : i ≤ M.length) : (M.countP fun x => decide (x < t)) = i := by
  have e := List.take_append_drop i M
  rw [← e, List.countP_append]
  have a1 : (M.take i).countP (fun x => decide (x < t)) = (M.take i).length := by
    rw [List.countP_eq_length]
    intro x hx
    obtain ⟨j, hj, rfl⟩ := List.getElem_of_mem hx
    rw [List.length_take] at hj
    have := h1 j (by omega)
    rw [getElem!_pos M j (by omega)] at this
    rw [List.getElem_take]
    exact decide_eq_true this
  have a2 : (M.drop i).countP (fun x => decide (x < t)) = 0 := by
    rw [List.countP_eq_zero]
    intro x hx
    obtain ⟨j, hj, rfl⟩ := List.getElem_of_mem hx
    rw [List.length_drop] at hj
    have := h2 (i + j) (by omega) (by omega)
    rw [getElem!_pos M (i + j) (by omega)] at this
    rw [List.getElem_drop]
    simpa using this
  rw [a1, a2, List.length_take]
  omega
theorem count_mono {M : List Int} {s t : Int} (h : s ≤ t) : (M.countP fun x => decide (x < s)) ≤ M.countP fun x => decide (x < t) :=
  List.countP_mono_left fun x _ hx => decide_eq_true (by have := of_decide_eq_true hx; omega)
theorem count_lt {M : List Int} {s t : Int} (hs : s ∈ M) (h : s < t) : (M.countP fun x => decide (x < s)) < M.countP fun x => decide (x < t) := by
  obtain ⟨a, b, rfl⟩ := List.append_of_mem hs
  simp only [List.countP_append, List.countP_cons]
  have h1 := count_mono (M := a) (Int.le_of_lt h)
  have h2 := count_mono (M := b) (Int.le_of_lt h)
  simp [h]
  omega
theorem rank_iff {M L : List Int} {i j : Nat} (_hs : M.Pairwise (· < ·)) (hm : ∀ x ∈ L, x ∈ M) (hi : i < L.length) (hj : j < L.length) :
    ((L.map fun t => M.countP fun x => decide (x < t)).getD i 0 < (L.map fun t => M.countP fun x => decide (x < t)).getD j 0 ↔ L.getD i 0 < L.getD j 0) := by
  simp only [List.getD_eq_getElem?_getD, List.getElem?_map, List.getElem?_eq_getElem hi, List.getElem?_eq_getElem hj, Option.map_some, Option.getD_some]
  constructor
  · intro h
    rcases Int.lt_or_le L[i] L[j] with h2 | h2
    · exact h2
    · have := count_mono (M := M) h2
      omega
  · intro h
    exact count_lt (hm _ (List.getElem_mem hi)) h
theorem ownsRow_slice {w : World} {B : Nat} {e : TypeId} {s : Nat} {v : Value} {n : Nat} {xs : List Value} (h : w.ownsRow B e s v n xs) : ∃ (A : Option Addr) (cap : Nat), v = .slice A n cap ∧ n ≤ cap := by
  rcases h.2 with ⟨rfl, rfl⟩ | ⟨g, cap, cur, rfl, _, _, hnc, _⟩
  · exact ⟨none, 0, rfl, Nat.le_refl _⟩
  · exact ⟨_, cap, rfl, hnc⟩
end Go.Proofs.Ytonlbcibfbbpgaa.St

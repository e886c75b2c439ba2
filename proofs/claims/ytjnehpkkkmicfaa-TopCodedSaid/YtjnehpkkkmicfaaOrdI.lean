/- Where each number is; whether ends are in order: the model. No function of the program in sight. -/
import Derived.Test.YtjnehpkkkmicfaaOrdM
import Derived.Test.YtjnehpkkkmicfaaLsWalkA
namespace Go.Proofs.Ytjnehpkkkmicfaa.Od
open Nm Ls

theorem gd {L : List Nat} {i : Nat} (h : i < L.length) : L.getD i 0 = L[i] := by simp [List.getD_eq_getElem?_getD, h]
theorem nodup_inj {L : List Nat} (h : L.Nodup) {i j : Nat} (hi : i < L.length) (hj : j < L.length) (e : L[i] = L[j]) : i = j := by
  have hp := List.pairwise_iff_getElem.1 h
  rcases Nat.lt_trichotomy i j with h1 | h1 | h1
  · exact absurd e (hp i j hi hj h1)
  · exact h1
  · exact absurd e.symm (hp j i hj hi h1)
theorem nat_up (P : List Nat) : nat (up P) = P := by
  unfold nat up
  rw [List.map_map]
  have : Int.toNat ∘ (fun (n : Nat) => (n : Int)) = id := by funext n; simp
  rw [this, List.map_id]
/-- what is known when so many numbers are gone through -/
structure InvAt (N : Nat) (P : List Nat) (k : Nat) (out : List Nat) (had : List Bool) : Prop where
  lo : out.length = N
  lh : had.length = N
  is : ∀ x, x < N → (had.getD x false = true ↔ x ∈ P.take k)
  at_ : ∀ j, j < k → j < P.length → out.getD (P.getD j 0) 0 = j
theorem InvAt.start (N : Nat) (P : List Nat) : InvAt N P 0 (List.replicate N 0) (List.replicate N false) :=
  ⟨by simp, by simp, fun x hx => by simp [List.getD_eq_getElem?_getD, hx], fun j hj => by omega⟩
theorem InvAt.next {N : Nat} {P : List Nat} {k : Nat} {out : List Nat} {had : List Bool} (h : InvAt N P k out had) (hk : k < P.length) (hx : P.getD k 0 < N) (hn : had.getD (P.getD k 0) false = false) :
    InvAt N P (k + 1) (out.set (P.getD k 0) k) (had.set (P.getD k 0) true) := by
  have e := List.take_succ_eq_append_getElem hk
  have ek := gd hk
  refine ⟨by simp [h.lo], by simp [h.lh], fun x hxN => ?_, fun j hj hjP => ?_⟩
  · rw [e, List.mem_append, List.mem_singleton, ← ek]
    by_cases ex : x = P.getD k 0
    · have hh : P.getD k 0 < had.length := by rw [h.lh]; exact hx
      rw [ex]
      constructor
      · intro _; exact .inr rfl
      · intro _; simp [List.getD_eq_getElem?_getD] at hh ⊢; simp [hh]
    · have : (had.set (P.getD k 0) true).getD x false = had.getD x false := by
        simp only [List.getD_eq_getElem?_getD]
        rw [List.getElem?_set_ne (fun e2 => ex (by rw [List.getD_eq_getElem?_getD]; exact e2.symm))]
      rw [this, h.is x hxN]
      constructor
      · exact .inl
      · rintro (h1 | h1)
        · exact h1
        · exact absurd h1 ex
  · by_cases ej : j = k
    · subst ej
      have : P.getD j 0 < out.length := by rw [h.lo]; exact hx
      generalize P.getD j 0 = x at this
      simp [List.getD_eq_getElem?_getD, this]
    · have hjk : j < k := by omega
      have hne : P.getD k 0 ≠ P.getD j 0 := by
        intro e2
        have hm : P.getD j 0 ∈ P.take k := by
          rw [gd hjP]
          exact List.mem_take_iff_getElem.2 ⟨j, by omega, rfl⟩
        rw [← e2] at hm
        have := (h.is _ hx).2 hm
        rw [hn] at this; cases this
      have ha := h.at_ j hjk hjP
      generalize P.getD k 0 = x at hne
      generalize P.getD j 0 = y at hne ha
      simpa [List.getD_eq_getElem?_getD, List.getElem?_set_ne hne] using ha
theorem up_drop (P : List Nat) (k : Nat) : up (P.drop k) = (up P).drop k := by simp [up, List.map_drop]
theorem invGo_perm {N : Nat} {P : List Nat} (hN : N = P.length) (hp : P.Perm (List.range N)) : ∀ d k out had, k + d = N → InvAt N P k out had → ∃ M, invGo N ((up P).drop k) k out had = some M ∧ M.length = N ∧ ∀ j, j < N → M.getD (P.getD j 0) 0 = j
  | 0, k, out, had, hk, h => by
    refine ⟨out, ?_, h.lo, fun j hj => h.at_ j (by omega) (by omega)⟩
    rw [List.drop_eq_nil_of_le (by rw [up_length]; omega)]
    rfl
  | d + 1, k, out, had, hk, h => by
    have hkP : k < P.length := by omega
    have hx : P.getD k 0 < N := by
      rw [gd hkP]
      exact List.mem_range.1 (hp.mem_iff.1 (List.getElem_mem _))
    have hnd : P.Nodup := hp.nodup_iff.2 List.nodup_range
    have hn : had.getD (P.getD k 0) false = false := by
      cases hh : had.getD (P.getD k 0) false with
      | false => rfl
      | true =>
        have := (h.is _ hx).1 hh
        obtain ⟨j, hj, e⟩ := List.getElem_of_mem this
        rw [List.length_take] at hj
        rw [List.getElem_take, gd hkP] at e
        have := nodup_inj hnd (by omega) (by omega) e
        omega
    rw [List.drop_eq_getElem_cons (by rw [up_length]; exact hkP)]
    have e1 : (up P)[k]'(by rw [up_length]; exact hkP) = ((P.getD k 0 : Nat) : Int) := by rw [gd hkP]; simp [up]
    rw [e1, invGo, if_neg (by rw [Int.toNat_natCast, hn]; rintro (h1 | h1 | h1) <;> first | omega | cases h1), Int.toNat_natCast]
    exact invGo_perm hN hp d (k + 1) _ _ (by omega) (h.next hkP hx hn)
theorem inv_perm {P : List Nat} (hp : P.Perm (List.range P.length)) : ∃ M, inv (up P) = some M ∧ M.length = P.length ∧ ∀ j, j < P.length → M.getD (P.getD j 0) 0 = j := by
  have := invGo_perm rfl hp P.length 0 _ _ (by omega) (InvAt.start P.length P)
  unfold inv
  rw [up_length]
  simpa using this
theorem invGo_is {N : Nat} : ∀ (L : List Int) (i : Nat) (out : List Nat) (had : List Bool) (M : List Nat), had.length = N → invGo N L i out had = some M →
    ∃ P : List Nat, L = up P ∧ P.Nodup ∧ ∀ x ∈ P, x < N ∧ had.getD x false = false
  | [], _, _, _, _, _, _ => ⟨[], rfl, List.nodup_nil, fun x hx => by simp at hx⟩
  | n :: t, i, out, had, M, hl, h => by
    rw [invGo] at h
    by_cases hc : n < 0 ∨ (N : Int) ≤ n ∨ had.getD n.toNat false = true
    · rw [if_pos hc] at h; cases h
    rw [if_neg hc] at h
    obtain ⟨P, rfl, hnd, hm⟩ := invGo_is t _ _ _ M (by simp [hl]) h
    have h1 : n.toNat < N := by omega
    have h2 : had.getD n.toNat false = false := by
      cases hh : had.getD n.toNat false with
      | false => rfl
      | true => exact absurd (.inr (.inr hh)) hc
    have hset : ∀ x, x ≠ n.toNat → (had.set n.toNat true).getD x false = had.getD x false := fun x hx => by
      simp only [List.getD_eq_getElem?_getD]
      rw [List.getElem?_set_ne (fun e => hx e.symm)]
    have hself : (had.set n.toNat true).getD n.toNat false = true := by
      have : n.toNat < had.length := by rw [hl]; exact h1
      simp [List.getD_eq_getElem?_getD, this]
    refine ⟨n.toNat :: P, ?_, ?_, ?_⟩
    · simp only [up, List.map_cons]
      rw [show ((n.toNat : Nat) : Int) = n by omega]
    · rw [List.nodup_cons]
      refine ⟨fun hin => ?_, hnd⟩
      have := (hm _ hin).2
      rw [hself] at this; cases this
    · intro x hx
      rcases List.mem_cons.1 hx with rfl | hx
      · exact ⟨h1, h2⟩
      · have := hm x hx
        by_cases e : x = n.toNat
        · rw [e]; exact ⟨h1, h2⟩
        · rw [hset x e] at this; exact this
theorem nodup_perm : ∀ (n : Nat) (P : List Nat), P.Nodup → (∀ x ∈ P, x < n) → P.length = n → P.Perm (List.range n)
  | n, P, hnd, hb, hl => by
    have inj : ∀ a b, a < n → b < n → P.getD a 0 = P.getD b 0 → a = b := fun a b ha hb2 e => by
      rw [gd (by omega), gd (by omega)] at e
      exact nodup_inj hnd (by omega) (by omega) e
    rw [List.perm_iff_count]
    intro x
    have hc : ∀ m, m ≤ n → P.countP (fun y => decide (y < m)) = m := fun m hm => by
      have := countP_rank inj (fun a ha => hb _ (by rw [gd (by omega)]; exact List.getElem_mem _)) hm
      have e := range_getD P
      rw [hl] at e
      conv => lhs; rw [← e]
      rw [List.countP_map]
      exact this
    have hr := @List.nodup_range n
    by_cases hx : x < n
    · have h1 := hc (x + 1) (by omega)
      have h2 := hc x (by omega)
      have h3 := countP_split (L := P) (fun y => y) x
      rw [h1, h2] at h3
      have h4 : List.count x P = P.countP (fun j => decide (j = x)) := by
        unfold List.count
        apply List.countP_congr
        intro j _
        simp
      rw [h4]
      have h5 : List.count x (List.range n) = 1 := by
        have := List.nodup_range (n := n)
        rw [List.Nodup.count this]
        simp [hx]
      omega
    · have h1 : List.count x P = 0 := List.count_eq_zero.2 (fun hm => hx (hb x hm))
      have h2 : List.count x (List.range n) = 0 := List.count_eq_zero.2 (fun hm => hx (List.mem_range.1 hm))
      rw [h1, h2]
theorem perm_of_inv {L : List Int} {M : List Nat} (h : inv L = some M) : ∃ P : List Nat, L = up P ∧ P.Perm (List.range P.length) := by
  unfold inv at h
  obtain ⟨P, rfl, hnd, hm⟩ := invGo_is L _ _ _ M (by simp) h
  rw [up_length] at hm
  exact ⟨P, rfl, nodup_perm _ P hnd (fun x hx => (hm x hx).1) rfl⟩
theorem inv_is (L : List Int) : (inv L).isSome = true ↔ ∃ P : List Nat, L = up P ∧ P.Perm (List.range P.length) := by
  constructor
  · intro h
    obtain ⟨M, hM⟩ := Option.isSome_iff_exists.1 h
    exact perm_of_inv hM
  · rintro ⟨P, rfl, hp⟩
    obtain ⟨M, hM, _⟩ := inv_perm hp
    rw [hM]; rfl
/-- of the inverse the inverse is the list -/
theorem inv_inv {P : List Nat} (hp : P.Perm (List.range P.length)) {M : List Nat} (h : inv (up P) = some M) : M.length = P.length ∧ M.Perm (List.range M.length) ∧ inv (up M) = some P := by
  obtain ⟨M', hM, hl, hat⟩ := inv_perm hp
  rw [h] at hM
  injection hM with hM
  subst hM
  have h1 : (P.map fun x => M.getD x 0) = List.range P.length := by
    apply List.ext_getElem (by simp)
    intro i h2 h3
    rw [List.length_map] at h2
    have := hat i h2
    rw [gd h2] at this
    simpa using this
  have h2 : M.Perm (List.range M.length) := by
    have e := range_getD M
    have p1 : ((List.range M.length).map fun i => M.getD i 0).Perm (P.map fun i => M.getD i 0) := by
      rw [hl]; exact (hp.symm).map _
    rw [e, h1] at p1
    rw [hl]; exact p1
  obtain ⟨N, hN, hNl, hNat⟩ := inv_perm h2
  refine ⟨hl, h2, ?_⟩
  rw [hN]
  congr 1
  apply List.ext_getElem (by omega)
  intro i h3 h4
  have a1 := hat i h4
  have hx : P.getD i 0 < M.length := by
    rw [gd h4, hl]
    exact List.mem_range.1 (hp.mem_iff.1 (List.getElem_mem _))
  have a2 := hNat _ hx
  rw [a1, gd h3, gd h4] at a2
  exact a2
/-! ### right just if it is the order -/
theorem chain_iff (l P : List Nat) : ∀ k, k ≤ P.length → (chain l P k = true ↔ ∀ i, 0 < i → i < k → lt l (P.getD (i - 1) 0) (P.getD i 0) = true) := fun k _ => by
  simp only [chain, List.all_eq_true, List.mem_range, Bool.or_eq_true, decide_eq_true_eq]
  constructor
  · intro h i h1 h2
    rcases h i h2 with e | e
    · omega
    · exact e
  · intro h i hi
    by_cases e : i = 0
    · exact .inl e
    · exact .inr (h i (by omega) hi)
theorem up_of_chain {l P : List Nat} (h : chain l P P.length = true) : Up l P := by
  have hc := (chain_iff l P P.length (Nat.le_refl _)).1 h
  unfold Up
  rw [List.pairwise_iff_getElem]
  have key : ∀ d i, i + d + 1 < P.length → lt l (P.getD i 0) (P.getD (i + d + 1) 0) = true := by
    intro d
    induction d with
    | zero => intro i hi; exact hc (i + 1) (by omega) hi
    | succ d ih =>
      intro i hi
      exact lt_trans (ih i (by omega)) (hc (i + (d + 1) + 1) (by omega) hi)
  intro i j hi hj hij
  have := key (j - i - 1) i (by omega)
  rw [show i + (j - i - 1) + 1 = j by omega, gd hi, gd hj] at this
  exact this
theorem chain_of_up {l P : List Nat} (h : Up l P) : chain l P P.length = true := by
  rw [chain_iff l P _ (Nat.le_refl _)]
  intro i h1 h2
  rw [gd (by omega), gd h2]
  exact List.pairwise_iff_getElem.1 h (i - 1) i (by omega) h2 (by omega)
theorem right_iff {l : List Nat} {E : List Int} : right l E = true ↔ E = up (ends l) := by
  unfold right
  simp only [Bool.and_eq_true, decide_eq_true_eq]
  constructor
  · rintro ⟨⟨h1, h2⟩, h3⟩
    obtain ⟨P, rfl, hp⟩ := (inv_is E).1 h1
    rw [up_length] at h2 h3
    rw [nat_up] at h3
    rw [h2] at hp
    rw [ends_one hp (up_of_chain h3)]
  · rintro rfl
    have hp := ends_perm l
    have hl := ends_length l
    rw [up_length, nat_up]
    refine ⟨⟨(inv_is _).2 ⟨ends l, rfl, by rw [hl]; exact hp⟩, hl⟩, chain_of_up (ends_up l)⟩
/-! ### two places changed about -/
theorem swap_ne {l : List Nat} {i j : Nat} (hi : i < l.length) (hj : j < l.length) (h : i ≠ j) : ((ends l).set i ((ends l).getD j 0)).set j ((ends l).getD i 0) ≠ ends l := by
  have hl := ends_length l
  have hnd : (ends l).Nodup := (ends_perm l).nodup_iff.2 List.nodup_range
  intro e
  have h2 := congrArg (fun L => L.getD j 0) e
  have hjl : j < ((ends l).set i ((ends l).getD j 0)).length := by simp; omega
  have h3 : (((ends l).set i ((ends l).getD j 0)).set j ((ends l).getD i 0)).getD j 0 = (ends l).getD i 0 := by
    rw [gd (by simp; omega)]; simp
  rw [show (((ends l).set i ((ends l).getD j 0)).set j ((ends l).getD i 0)).getD j 0 = (ends l).getD i 0 from h3, gd (by omega), gd (by omega)] at h2
  exact h (nodup_inj hnd (by omega) (by omega) h2)
end Go.Proofs.Ytjnehpkkkmicfaa.Od

/- Two thirds of a list's ends: the model. No function of the program in sight. -/
import Derived.Test.YtonlbcibfbbpgaaOrdI
namespace Go.Proofs.Ytonlbcibfbbpgaa.Sk
open Nm Ls Od

/-! ### the samples -/
def top (n : Nat) : Nat := if n % 3 = 1 then n + 1 else n
def g1 (k : Nat) : List Nat := (List.range ((k + 1) / 3)).map fun x => 3 * x + 1
def g2 (k : Nat) : List Nat := (List.range (k / 3)).map fun x => 3 * x + 2
def places (n : Nat) : List Nat := g1 (top n) ++ g2 (top n)
theorem g1_succ (k : Nat) : g1 (k + 1) = if k % 3 = 1 then g1 k ++ [k] else g1 k := by
  unfold g1
  by_cases h : k % 3 = 1
  · rw [if_pos h, show (k + 1 + 1) / 3 = (k + 1) / 3 + 1 by omega, List.range_succ, List.map_append]
    have e : 3 * ((k + 1) / 3) + 1 = k := by omega
    simp [e]
  · rw [if_neg h, show (k + 1 + 1) / 3 = (k + 1) / 3 by omega]
theorem g2_succ (k : Nat) : g2 (k + 1) = if k % 3 = 2 then g2 k ++ [k] else g2 k := by
  unfold g2
  by_cases h : k % 3 = 2
  · rw [if_pos h, show (k + 1) / 3 = k / 3 + 1 by omega, List.range_succ, List.map_append]
    have e : 3 * (k / 3) + 2 = k := by omega
    simp [e]
  · rw [if_neg h, show (k + 1) / 3 = k / 3 by omega]
/-- how many stand in the first group, and in all -/
def c1 (n : Nat) : Nat := (top n + 1) / 3
def mm (n : Nat) : Nat := (top n + 1) / 3 + top n / 3
theorem places_length (n : Nat) : (places n).length = mm n := by simp [places, g1, g2, mm]
theorem mm_le (n : Nat) : mm n ≤ 2 * n / 3 + 1 := by unfold mm top; split <;> omega
/-- the place of a sample -/
def pl (n x : Nat) : Nat := if x < c1 n then 3 * x + 1 else 3 * (x - c1 n) + 2
theorem places_at (n x : Nat) (h : x < mm n) : (places n).getD x 0 = pl n x := by
  have hl : (g1 (top n)).length = c1 n := by simp [g1, c1]
  unfold places pl
  by_cases h1 : x < c1 n
  · rw [if_pos h1, List.getD_eq_getElem?_getD, List.getElem?_append_left (by omega)]
    unfold c1 at h1
    simp [g1, h1]
  · rw [if_neg h1, List.getD_eq_getElem?_getD, List.getElem?_append_right (by omega), hl]
    have h2 : x - c1 n < top n / 3 := by unfold mm at h; unfold c1 at h1 ⊢; omega
    simp [g2, h2]
theorem pl_le {n x : Nat} (h : x < mm n) : pl n x ≤ n := by unfold pl c1; unfold mm at h; unfold top at *; split <;> split <;> (try split at h) <;> omega
theorem pl_inj {n x y : Nat} (h : pl n x = pl n y) : x = y := by unfold pl at h; split at h <;> split at h <;> omega

/-! ### triples, and their names -/
def triple (l : List Nat) (i : Nat) : List Nat := [l.getD i 0, l.getD (i + 1) 0, l.getD (i + 2) 0]
def trips (l : List Nat) : List (List Nat) := (places l.length).map (triple l)
def first (T : List (List Nat)) (j : Nat) : Bool := decide (T.getD j [] ∉ T.take j)
def nameOf (T : List (List Nat)) (x : List Nat) : Nat := 1 + (List.range T.length).countP fun j => first T j && lexL (T.getD j []) x
def red (l : List Nat) : List Nat := (trips l).map (nameOf (trips l))
def many (l : List Nat) : Nat := (red l).foldl max 0
theorem trips_length (l : List Nat) : (trips l).length = mm l.length := by rw [trips, List.length_map, places_length]
theorem red_length (l : List Nat) : (red l).length = mm l.length := by rw [red, List.length_map, trips_length]
theorem trips_at (l : List Nat) (x : Nat) (h : x < mm l.length) : (trips l).getD x [] = triple l (pl l.length x) := by
  have hl := places_length l.length
  have := places_at l.length x h
  rw [gd (by omega)] at this
  unfold trips
  simp [List.getD_eq_getElem?_getD, hl, h, this]
theorem red_at (l : List Nat) (x : Nat) (h : x < mm l.length) : (red l).getD x 0 = nameOf (trips l) (triple l (pl l.length x)) := by
  have hl := trips_length l
  have := trips_at l x h
  rw [List.getD_eq_getElem?_getD, List.getElem?_eq_getElem (by omega)] at this
  unfold red
  simp only [List.getD_eq_getElem?_getD, List.getElem?_map]
  rw [List.getElem?_eq_getElem (by omega)]
  simp only [Option.map_some, Option.getD_some] at this ⊢
  rw [this]
/-- of whatever is told there is one that is told first -/
theorem first_of {T : List (List Nat)} : ∀ {x : List Nat}, x ∈ T → ∃ j, j < T.length ∧ first T j = true ∧ T.getD j [] = x := by
  intro x hx
  have hi := List.idxOf_lt_length_of_mem hx
  have he : T[T.idxOf x] = x := List.getElem_idxOf hi
  refine ⟨T.idxOf x, hi, ?_, ?_⟩
  · unfold first
    rw [List.getD_eq_getElem?_getD, List.getElem?_eq_getElem hi, Option.getD_some, he]
    refine decide_eq_true (fun hm => ?_)
    obtain ⟨j, hj, e⟩ := List.getElem_of_mem hm
    rw [List.length_take] at hj
    rw [List.getElem_take] at e
    have : T.idxOf x ≤ j := by
      rcases Nat.lt_or_ge j (T.idxOf x) with h | h
      · have := List.not_of_lt_findIdx (xs := T) (p := (· == x)) (i := j) (by simpa [List.idxOf] using h)
        rw [e] at this
        simp at this
      · exact h
    omega
  · rw [List.getD_eq_getElem?_getD, List.getElem?_eq_getElem hi, Option.getD_some, he]
theorem nameOf_lt {T : List (List Nat)} {x y : List Nat} (hx : x ∈ T) (h : lexL x y = true) : nameOf T x < nameOf T y := by
  unfold nameOf
  obtain ⟨j, hj, hf, e⟩ := first_of hx
  refine Nat.add_lt_add_left (countP_lt (fun i _ hi => ?_) ⟨j, List.mem_range.2 hj, ?_, ?_⟩) 1
  · simp only [Bool.and_eq_true] at hi ⊢
    exact ⟨hi.1, lexL_trans _ _ _ hi.2 h⟩
  · rw [e, lexL_same]; simp
  · rw [e, hf, h]; rfl
theorem nameOf_iff {T : List (List Nat)} {x y : List Nat} (hx : x ∈ T) (hy : y ∈ T) : decide (nameOf T x < nameOf T y) = lexL x y := by
  cases h : lexL x y with
  | true => exact decide_eq_true (nameOf_lt hx h)
  | false =>
    refine decide_eq_false (fun h2 => ?_)
    cases h3 : lexL y x with
    | true => have := nameOf_lt hy h3; omega
    | false =>
      have := lexL_none _ _ h h3
      subst this
      omega
theorem nameOf_inj {T : List (List Nat)} {x y : List Nat} (hx : x ∈ T) (hy : y ∈ T) (h : nameOf T x = nameOf T y) : x = y := by
  have h1 := nameOf_iff hx hy
  have h2 := nameOf_iff hy hx
  rw [h] at h1 h2
  simp only [Nat.lt_irrefl, decide_false] at h1 h2
  exact lexL_none _ _ h1.symm h2.symm

/-! ### the reduced list's ends stand as the samples' -/
/-- all numbers from 1 on -/
def Pos (l : List Nat) : Prop := ∀ x ∈ l, 1 ≤ x
theorem pos_at {l : List Nat} (h : Pos l) {i : Nat} (hi : i < l.length) : 1 ≤ l.getD i 0 := by rw [gd hi]; exact h _ (List.getElem_mem _)
theorem at_end {l : List Nat} {i : Nat} (hi : l.length ≤ i) : l.getD i 0 = 0 := by simp [List.getD_eq_getElem?_getD, hi]
/-- one number on, or the end -/
theorem lex_one {l : List Nat} (h : Pos l) (a b : Nat) : lexL (l.drop a) (l.drop b) = if l.getD a 0 = l.getD b 0 then lexL (l.drop (a + 1)) (l.drop (b + 1)) else decide (l.getD a 0 < l.getD b 0) := by
  by_cases ha : a < l.length
  · by_cases hb : b < l.length
    · rw [List.drop_eq_getElem_cons ha, List.drop_eq_getElem_cons hb]
      simp only [lexL, gd ha, gd hb]
    · have h1 := pos_at h ha
      rw [at_end (show l.length ≤ b by omega), if_neg (by omega), List.drop_eq_nil_of_le (show l.length ≤ b by omega), lexL_nil_right]
      simp
  · by_cases hb : b < l.length
    · have h1 := pos_at h hb
      rw [at_end (show l.length ≤ a by omega), if_neg (by omega), List.drop_eq_nil_of_le (show l.length ≤ a by omega), lexL_nil_left, List.length_drop]
      rw [decide_eq_true (by omega), decide_eq_true (by omega)]
    · rw [at_end (show l.length ≤ a by omega), at_end (show l.length ≤ b by omega), if_pos rfl]
      rw [List.drop_eq_nil_of_le (show l.length ≤ a by omega), List.drop_eq_nil_of_le (show l.length ≤ b by omega), List.drop_eq_nil_of_le (show l.length ≤ a + 1 by omega), List.drop_eq_nil_of_le (show l.length ≤ b + 1 by omega)]
theorem lex_abc (a b c x y z : Nat) : lexL [a, b, c] [x, y, z] = if a = x then (if b = y then decide (c < z) else decide (b < y)) else decide (a < x) := by
  simp only [lexL]
  split
  · split
    · split
      · rename_i h; rw [h]; simp
      · rfl
    · rfl
  · rfl
theorem lex_three {l : List Nat} (h : Pos l) (a b : Nat) : lexL (l.drop a) (l.drop b) = if triple l a = triple l b then lexL (l.drop (a + 3)) (l.drop (b + 3)) else lexL (triple l a) (triple l b) := by
  rw [lex_one h a b]
  unfold triple
  rw [lex_abc]
  by_cases e1 : l.getD a 0 = l.getD b 0
  · rw [if_pos e1, lex_one h (a + 1) (b + 1)]
    by_cases e2 : l.getD (a + 1) 0 = l.getD (b + 1) 0
    · rw [if_pos e2, lex_one h (a + 1 + 1) (b + 1 + 1)]
      by_cases e3 : l.getD (a + 2) 0 = l.getD (b + 2) 0
      · rw [if_pos e3, if_pos (by rw [e1, e2, e3])]
      · rw [if_neg e3, if_neg (by intro e; injection e with _ e; injection e with _ e; injection e with e _; exact e3 e), if_pos e1, if_pos e2]
    · rw [if_neg e2, if_neg (by intro e; injection e with _ e; injection e with e _; exact e2 e), if_pos e1, if_neg e2]
  · rw [if_neg e1, if_neg (by intro e; injection e with e _; exact e1 e), if_neg e1]
/-- the next sample, if the triple has no 0 -/
theorem pl_next {n x : Nat} (hx : x < mm n) (h : pl n x + 3 ≤ n) : (x + 1 < mm n ∧ pl n (x + 1) = pl n x + 3) ∨ (x + 1 = mm n ∧ pl n x + 3 = n ∧ n % 3 = 2) := by
  have hT : (n % 3 = 1 ∧ top n = n + 1) ∨ (n % 3 ≠ 1 ∧ top n = n) := by unfold top; split <;> omega
  unfold pl c1 at *
  unfold mm at *
  generalize top n = T at *
  by_cases h1 : x < (T + 1) / 3
  · rw [if_pos h1] at h ⊢
    by_cases h2 : x + 1 < (T + 1) / 3
    · rw [if_pos h2]; omega
    · rw [if_neg h2]; omega
  · rw [if_neg h1] at h ⊢
    rw [if_neg (by omega)]; omega
theorem pl_full {n x : Nat} (hx : x < mm n) (hn : n % 3 = 2) : pl n x < n := by
  unfold pl c1 at *
  unfold mm at *
  unfold top at *
  rw [if_neg (by omega)] at hx
  simp only [if_neg (show ¬ n % 3 = 1 by omega)]
  split <;> omega
theorem trips_mem {l : List Nat} {x : Nat} (h : x < mm l.length) : triple l (pl l.length x) ∈ trips l := by
  rw [← trips_at l x h, List.getD_eq_getElem?_getD, List.getElem?_eq_getElem (by rw [trips_length]; exact h)]
  exact List.getElem_mem _
theorem skew_lt {l : List Nat} (h : Pos l) : ∀ d x y, x < mm l.length → y < mm l.length → mm l.length - x ≤ d → lt (red l) x y = lt l (pl l.length x) (pl l.length y)
  | 0, x, y, hx, _, hd => by omega
  | d + 1, x, y, hx, hy, hd => by
    have hr := red_length l
    by_cases exy : x = y
    · subst exy; rw [lt_same, lt_same]
    have hne : pl l.length x ≠ pl l.length y := fun e => exy (pl_inj e)
    have mx := trips_mem hx
    have my := trips_mem hy
    have gx := red_at l x hx
    have gy := red_at l y hy
    have hlt : lt (red l) x y = if (red l).getD x 0 = (red l).getD y 0 then lt (red l) (x + 1) (y + 1) else decide ((red l).getD x 0 < (red l).getD y 0) := by
      unfold lt
      rw [List.drop_eq_getElem_cons (show x < (red l).length by omega), List.drop_eq_getElem_cons (show y < (red l).length by omega)]
      simp only [lexL, gd (show x < (red l).length by omega), gd (show y < (red l).length by omega)]
    have hlt2 : lt l (pl l.length x) (pl l.length y) = if triple l (pl l.length x) = triple l (pl l.length y) then lt l (pl l.length x + 3) (pl l.length y + 3) else lexL (triple l (pl l.length x)) (triple l (pl l.length y)) := lex_three h _ _
    rw [hlt, hlt2, gx, gy]
    by_cases et : triple l (pl l.length x) = triple l (pl l.length y)
    · rw [if_pos (by rw [et]), if_pos et]
      -- none of both has a 0
      obtain ⟨a, ha⟩ : ∃ a, a = pl l.length x := ⟨_, rfl⟩
      obtain ⟨b, hb⟩ : ∃ b, b = pl l.length y := ⟨_, rfl⟩
      have hal := pl_le hx
      have hbl := pl_le hy
      rw [← ha, ← hb] at et hne
      rw [← ha] at hal
      rw [← hb] at hbl
      have key : ∀ k, k < 3 → (a + k < l.length ↔ b + k < l.length) := by
        have e : ∀ k, k < 3 → l.getD (a + k) 0 = l.getD (b + k) 0 := by
          intro k hk
          unfold triple at et
          simp only [List.cons.injEq] at et
          obtain ⟨q0, q1, q2, _⟩ := et
          rcases (show k = 0 ∨ k = 1 ∨ k = 2 by omega) with rfl | rfl | rfl
          · exact q0
          · exact q1
          · exact q2
        intro k hk
        constructor
        · intro h1
          have := pos_at h h1
          rcases Nat.lt_or_ge (b + k) l.length with h2 | h2
          · exact h2
          · have e0 := e k hk
            rw [at_end h2] at e0; omega
        · intro h1
          have := pos_at h h1
          rcases Nat.lt_or_ge (a + k) l.length with h2 | h2
          · exact h2
          · have e0 := e k hk
            rw [at_end h2] at e0; omega
      have k0 := key 0 (by omega)
      have k1 := key 1 (by omega)
      have k2 := key 2 (by omega)
      have ha3 : a + 3 ≤ l.length := by omega
      have hb3 : b + 3 ≤ l.length := by omega
      rw [← ha, ← hb]
      rcases pl_next hx (by rw [← ha]; exact ha3) with ⟨x1, x2⟩ | ⟨x1, x2, x3⟩
      · rcases pl_next hy (by rw [← hb]; exact hb3) with ⟨y1, y2⟩ | ⟨y1, y2, y3⟩
        · rw [skew_lt h d (x + 1) (y + 1) x1 y1 (by omega), x2, y2, ← ha, ← hb]
        · rw [← hb] at y2
          have e1 : (red l).drop (y + 1) = [] := List.drop_eq_nil_of_le (by omega)
          unfold lt
          rw [e1, lexL_nil_right, y2, List.drop_length, lexL_nil_right]
      · rw [← ha] at x2
        have e1 : (red l).drop (x + 1) = [] := List.drop_eq_nil_of_le (by omega)
        unfold lt
        rw [e1, lexL_nil_left, x2, List.drop_length, lexL_nil_left, List.length_drop, List.length_drop]
        rcases pl_next hy (by rw [← hb]; exact hb3) with ⟨y1, y2⟩ | ⟨y1, y2, y3⟩
        · have := pl_full y1 x3
          rw [y2, ← hb] at this
          rw [decide_eq_true (by omega), decide_eq_true (by omega)]
        · exact absurd (by omega) exy
    · rw [if_neg (fun e => et (nameOf_inj mx my e)), if_neg et]
      exact nameOf_iff mx my

/-! ### names are told from 1 on, each -/
theorem foldl_max (L : List Nat) : ∀ a, a ≤ L.foldl max a ∧ (∀ x ∈ L, x ≤ L.foldl max a) ∧ (L.foldl max a = a ∨ L.foldl max a ∈ L) := by
  induction L with
  | nil => intro a; simp
  | cons y L ih =>
    intro a
    obtain ⟨h1, h2, h3⟩ := ih (max a y)
    rw [List.foldl_cons]
    refine ⟨by omega, fun x hx => ?_, ?_⟩
    · rcases List.mem_cons.1 hx with rfl | hx
      · omega
      · exact h2 x hx
    · rcases h3 with h3 | h3
      · rcases Nat.le_total a y with h | h
        · rw [Nat.max_eq_right h] at h3
          rw [Nat.max_eq_right h, h3]; exact .inr (List.mem_cons_self ..)
        · rw [Nat.max_eq_left h] at h3
          rw [Nat.max_eq_left h, h3]; exact .inl rfl
      · exact .inr (List.mem_cons_of_mem _ h3)
def firsts (T : List (List Nat)) : List Nat := (List.range T.length).filter (first T)
theorem rank_hit {n m : Nat} {f : Nat → Nat} (hf : ∀ a b, a < n → b < n → f a = f b → a = b) (hle : ∀ a, a < n → f a < n) (hm : m < n) : ∃ a, a < n ∧ f a = m := by
  have h1 := countP_rank hf hle (m := m + 1) (by omega)
  have h2 := countP_rank hf hle (m := m) (by omega)
  have h3 := countP_split (L := List.range n) f m
  have h4 : 0 < (List.range n).countP (fun j => decide (f j = m)) := by omega
  rw [List.countP_pos_iff] at h4
  obtain ⟨a, ha, e⟩ := h4
  exact ⟨a, List.mem_range.1 ha, by simpa using e⟩
theorem firsts_at {T : List (List Nat)} {i : Nat} (hi : i < (firsts T).length) : (firsts T)[i] < T.length ∧ first T (firsts T)[i] = true := by
  have := List.getElem_mem hi
  unfold firsts at this
  rw [List.mem_filter] at this
  exact ⟨List.mem_range.1 this.1, this.2⟩
theorem first_one {T : List (List Nat)} {i j : Nat} (hi : i < T.length) (hj : j < T.length) (fi : first T i = true) (fj : first T j = true) (e : T.getD i [] = T.getD j []) : i = j := by
  unfold first at fi fj
  have fi := of_decide_eq_true fi
  have fj := of_decide_eq_true fj
  have gi : T.getD i [] = T[i] := by simp [List.getD_eq_getElem?_getD, hi]
  have gj : T.getD j [] = T[j] := by simp [List.getD_eq_getElem?_getD, hj]
  rcases Nat.lt_trichotomy i j with h | h | h
  · refine absurd ?_ fj
    rw [← e, gi]
    exact List.mem_take_iff_getElem.2 ⟨i, by omega, rfl⟩
  · exact h
  · refine absurd ?_ fi
    rw [e, gj]
    exact List.mem_take_iff_getElem.2 ⟨j, by omega, rfl⟩
theorem nameOf_count (T : List (List Nat)) (x : List Nat) : nameOf T x = 1 + (firsts T).countP fun j => lexL (T.getD j []) x := by
  unfold nameOf firsts
  rw [List.countP_filter]
  congr 1
  apply List.countP_congr
  intro j _
  simp [Bool.and_comm]
theorem names_bound {T : List (List Nat)} {x : List Nat} (hx : x ∈ T) : 1 ≤ nameOf T x ∧ nameOf T x ≤ (firsts T).length := by
  obtain ⟨j, hj, hf, e⟩ := first_of hx
  have hm : j ∈ firsts T := List.mem_filter.2 ⟨List.mem_range.2 hj, hf⟩
  have : (firsts T).countP (fun j => lexL (T.getD j []) x) < (firsts T).countP fun _ => true := countP_lt (fun _ _ _ => rfl) ⟨j, hm, by rw [e, lexL_same], rfl⟩
  rw [nameOf_count]
  simp at this ⊢
  omega
theorem names_hit {T : List (List Nat)} {k : Nat} (h1 : 1 ≤ k) (h2 : k ≤ (firsts T).length) : ∃ x ∈ T, nameOf T x = k := by
  have ft := fun i (hi : i < (firsts T).length) => firsts_at (T := T) hi
  have mem : ∀ i (hi : i < (firsts T).length), T.getD (firsts T)[i] [] ∈ T := fun i hi => by
    have := (ft i hi).1
    rw [List.getD_eq_getElem?_getD, List.getElem?_eq_getElem this]
    exact List.getElem_mem _
  have nd : (firsts T).Nodup := List.Pairwise.filter _ List.nodup_range
  obtain ⟨a, ha, e⟩ := rank_hit (n := (firsts T).length) (m := k - 1) (f := fun i => nameOf T (T.getD ((firsts T).getD i 0) []) - 1) (fun a b ha hb e => by
    have ga := gd ha
    have gb := gd hb
    simp only [ga, gb] at e
    have b1 := names_bound (mem a ha)
    have b2 := names_bound (mem b hb)
    have := nameOf_inj (mem a ha) (mem b hb) (by omega)
    exact nodup_inj nd ha hb (first_one (ft a ha).1 (ft b hb).1 (ft a ha).2 (ft b hb).2 this)) (fun a ha => by
    have ga := gd ha
    simp only [ga]
    have b1 := names_bound (mem a ha)
    omega) (by omega)
  have ga := gd ha
  simp only [ga] at e
  have b1 := names_bound (mem a ha)
  exact ⟨_, mem a ha, by omega⟩
theorem red_mem {l : List Nat} {k : Nat} : k ∈ red l ↔ 1 ≤ k ∧ k ≤ (firsts (trips l)).length := by
  unfold red
  rw [List.mem_map]
  constructor
  · rintro ⟨x, hx, rfl⟩; exact names_bound hx
  · rintro ⟨h1, h2⟩
    obtain ⟨x, hx, e⟩ := names_hit h1 h2
    exact ⟨x, hx, e⟩
theorem many_is (l : List Nat) : many l = (firsts (trips l)).length := by
  obtain ⟨h1, h2, h3⟩ := foldl_max (red l) 0
  show (red l).foldl max 0 = _
  rcases Nat.eq_zero_or_pos (firsts (trips l)).length with h | h
  · rcases h3 with h3 | h3
    · omega
    · have := red_mem.1 h3; omega
  · have := h2 _ (red_mem.2 ⟨h, Nat.le_refl _⟩)
    rcases h3 with h3 | h3
    · omega
    · have := red_mem.1 h3; omega
theorem red_all {l : List Nat} {k : Nat} (h1 : 1 ≤ k) (h2 : k ≤ many l) : k ∈ red l := red_mem.2 ⟨h1, by rw [← many_is]; exact h2⟩
theorem red_bound {l : List Nat} {k : Nat} (h : k ∈ red l) : 1 ≤ k ∧ k ≤ many l := by rw [many_is]; exact red_mem.1 h
/-- which list is right -/
def okL (l : List Nat) : Bool := decide (l.length ≤ 4096) && l.all fun x => decide (1 ≤ x) && decide (x < 1099511627776)
theorem ok_pos {l : List Nat} (h : okL l = true) : Pos l := fun x hx => by
  unfold okL at h
  simp only [Bool.and_eq_true, List.all_eq_true, decide_eq_true_eq] at h
  exact (h.2 x hx).1
end Go.Proofs.Ytonlbcibfbbpgaa.Sk

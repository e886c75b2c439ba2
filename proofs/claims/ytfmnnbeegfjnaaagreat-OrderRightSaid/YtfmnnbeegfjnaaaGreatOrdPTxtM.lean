/- The rows of a text, one after the other: none twice; and where each one leads. The mathematics. No function of the program in sight. The text by the rows as they lead: the mathematics. No function of the program in sight. -/
import Derived.Test.YtfmnnbeegfjnaaaGreatOrdM
import Derived.Test.YtfmnnbeegfjnaaaGreatOrdTxt
namespace Go.Proofs.YtfmnnbeegfjnaaaGreat.Od
open Nm Ls

/-! ### none twice -/
def nx (c : List Nat) (p row : Nat) : Nat := nextRow c (atOf p row)
def runRow (c : List Nat) (p : Nat) : Nat → Nat
  | 0 => 0
  | k + 1 => nx c p (runRow c p k)
theorem atOf_lt {n p row : Nat} (hp : p ≤ n) (h : row ≤ n) (hne : row ≠ p) : atOf p row < n := by
  unfold atOf; split <;> omega
theorem atOf_inj {p a b : Nat} (ha : a ≠ p) (hb : b ≠ p) (h : atOf p a = atOf p b) : a = b := by
  unfold atOf at h
  split at h <;> split at h <;> omega
theorem nextRow_inj {c : List Nat} {a b : Nat} (ha : a < c.length) (hb : b < c.length) (h : nextRow c a = nextRow c b) : a = b := by
  have h1 := mt (nextRow_iff ha hb).2 (by omega)
  have h2 := mt (nextRow_iff hb ha).2 (by omega)
  omega
theorem nx_inj {c : List Nat} {p a b : Nat} (hp : p ≤ c.length) (ha : a ≤ c.length) (hb : b ≤ c.length) (hap : a ≠ p) (hbp : b ≠ p) (h : nx c p a = nx c p b) : a = b :=
  atOf_inj hap hbp (nextRow_inj (atOf_lt hp ha hap) (atOf_lt hp hb hbp) h)
theorem nx_le {c : List Nat} {p a : Nat} (hp : p ≤ c.length) (ha : a ≤ c.length) (hap : a ≠ p) : 1 ≤ nx c p a ∧ nx c p a ≤ c.length := nextRow_le (atOf_lt hp ha hap)
theorem runRow_le {c : List Nat} {p : Nat} (hp : p ≤ c.length) : ∀ k, (∀ j, j < k → runRow c p j ≠ p) → runRow c p k ≤ c.length
  | 0, _ => Nat.zero_le _
  | k + 1, h => (nx_le hp (runRow_le hp k (fun j hj => h j (by omega))) (h k (by omega))).2
theorem runRow_inj {c : List Nat} {p : Nat} (hp : p ≤ c.length) {k : Nat} (h : ∀ j, j < k → runRow c p j ≠ p) : ∀ i j, i < j → j ≤ k → runRow c p i ≠ runRow c p j
  | 0, j, hij, hj, he => by
    obtain ⟨j, rfl⟩ : ∃ m, j = m + 1 := ⟨j - 1, by omega⟩
    have := (nx_le hp (runRow_le hp j (fun i hi => h i (by omega))) (h j (by omega))).1
    simp only [runRow] at he
    omega
  | i + 1, j, hij, hj, he => by
    obtain ⟨j, rfl⟩ : ∃ m, j = m + 1 := ⟨j - 1, by omega⟩
    simp only [runRow] at he
    exact runRow_inj hp h i j (by omega) (by omega) (nx_inj hp (runRow_le hp i (fun m hm => h m (by omega))) (runRow_le hp j (fun m hm => h m (by omega))) (h i (by omega)) (h j (by omega)) he)
/-- if the primary was not met among as many as there are bytes, it is the one that is left -/
theorem runRow_last {c : List Nat} {p : Nat} (hp : p ≤ c.length) (h : ∀ j, j < c.length → runRow c p j ≠ p) : runRow c p c.length = p := by
  have hf : ∀ i j, i < c.length + 1 → j < c.length + 1 → runRow c p i = runRow c p j → i = j := by
    intro i j hi hj he
    rcases Nat.lt_trichotomy i j with h1 | h1 | h1
    · exact absurd he (runRow_inj hp h i j h1 (by omega))
    · exact h1
    · exact absurd he.symm (runRow_inj hp h j i h1 (by omega))
  have hs : ∀ i, i < c.length + 1 → runRow c p i < c.length + 1 := fun i hi => by
    have := runRow_le hp i (fun j hj => h j (by omega))
    omega
  have h1 := countP_rank hf hs (m := p) (by omega)
  have h2 := countP_rank hf hs (m := p + 1) (by omega)
  rw [countP_split, h1] at h2
  have h3 : 0 < (List.range (c.length + 1)).countP (fun j => decide (runRow c p j = p)) := by omega
  obtain ⟨i, hi, he⟩ := List.countP_pos_iff.1 h3
  have hi2 := List.mem_range.1 hi
  have he2 := of_decide_eq_true he
  by_cases e : i < c.length
  · exact absurd he2 (h i e)
  · obtain rfl : i = c.length := by omega
    exact he2
/-! ### where each one leads -/
/-- how many of the column's bytes stand ahead of so many rows -/
def ix (p k : Nat) : Nat := if p < k then k - 1 else k
theorem ix_at {p k : Nat} : ix p k = atOf p k := rfl
theorem ix_succ {p k : Nat} (h : k ≠ p) : ix p (k + 1) = ix p k + 1 := by unfold ix; split <;> split <;> omega
theorem ix_same (p : Nat) : ix p (p + 1) = ix p p := by unfold ix; rw [if_pos (by omega), if_neg (by omega)]; omega
/-- the rows' bytes: the column's, and one for the primary's row -/
def rowB (c : List Nat) (p : Nat) : List Nat := c.take p ++ [0] ++ c.drop p
theorem rowB_length {c : List Nat} {p : Nat} (hp : p ≤ c.length) : (rowB c p).length = c.length + 1 := by simp [rowB]; omega
theorem rowB_at {c : List Nat} {p k : Nat} (hp : p ≤ c.length) (_hk : k ≤ c.length) (h : k ≠ p) : (rowB c p).getD k 0 = c.getD (ix p k) 0 := by
  unfold rowB ix
  simp only [List.getD_eq_getElem?_getD]
  by_cases e : p < k
  · rw [if_pos e, List.getElem?_append_right (by simp; omega)]
    simp only [List.length_append, List.length_take, List.length_cons, List.length_nil, List.getElem?_drop]
    congr 2
    rw [Nat.min_eq_left hp]; omega
  · rw [if_neg e, List.append_assoc, List.getElem?_append_left (by rw [List.length_take, Nat.min_eq_left hp]; omega), List.getElem?_take, if_pos (by omega)]
def lo (c : List Nat) (v : Nat) : Nat := 1 + c.countP fun x => decide (x < v)
theorem lo_zero (c : List Nat) : lo c 0 = 1 := by simp [lo]
theorem lo_succ (c : List Nat) (v : Nat) : lo c (v + 1) = lo c v + c.count v := by
  unfold lo
  induction c with
  | nil => rfl
  | cons a c ih =>
    rw [List.countP_cons, List.countP_cons, List.count_cons]
    by_cases h1 : a < v
    · have h2 : a < v + 1 := by omega
      have h3 : ¬ a = v := by omega
      simp [h1, h2, h3]; omega
    · by_cases h3 : a = v
      · simp [h3]; omega
      · have h2 : ¬ a < v + 1 := by omega
        simp [h1, h2, h3]; omega
theorem countP_take (c : List Nat) (v : Nat) : ∀ a, a ≤ c.length → (List.range c.length).countP (fun i => decide (c.getD i 0 = v) && decide (i < a)) = (c.take a).count v := by
  intro a ha
  obtain ⟨d, hd⟩ : ∃ d, c.length = a + d := ⟨c.length - a, by omega⟩
  rw [hd, List.range_add, List.countP_append]
  have h1 : ((List.range d).map (a + ·)).countP (fun i => decide (c.getD i 0 = v) && decide (i < a)) = 0 := by
    rw [List.countP_eq_zero]
    intro x hx
    obtain ⟨y, _, rfl⟩ := List.mem_map.1 hx
    simp
  rw [h1, Nat.add_zero]
  have h2 : (List.range a).countP (fun i => decide (c.getD i 0 = v) && decide (i < a)) = (List.range a).countP ((fun x => x == v) ∘ fun i => c.getD i 0) := by
    apply List.countP_congr
    intro i hi
    have := List.mem_range.1 hi
    simp [this]
  have h3 : (List.range a).map (fun i => c.getD i 0) = c.take a := by
    apply List.ext_getElem (by simp; omega)
    intro i h4 h5
    have : i < c.length := by simp at h4; omega
    simp [List.getD_eq_getElem?_getD, this]
  rw [h2, ← List.countP_map, h3]
  rfl
/-- a row's next one: behind all that begin with less, and those ahead of it that begin with the same -/
theorem nextRow_count {c : List Nat} {a : Nat} (ha : a < c.length) : nextRow c a = lo c (c.getD a 0) + (c.take a).count (c.getD a 0) := by
  unfold nextRow lo
  have h1 : ∀ (L : List Nat) (p q : Nat → Bool), (∀ x ∈ L, p x = true → q x = false) → L.countP (fun x => p x || q x) = L.countP p + L.countP q := by
    intro L p q h
    induction L with
    | nil => rfl
    | cons a L ih =>
      rw [List.countP_cons, List.countP_cons, List.countP_cons, ih (fun x hx => h x (List.mem_cons_of_mem _ hx))]
      have := h a (List.mem_cons_self ..)
      cases hp : p a <;> cases hq : q a <;> simp_all <;> omega
  rw [h1 _ _ _ (by intro x _ h; have := of_decide_eq_true h; show (decide (c.getD x 0 = c.getD a 0) && decide (x < a)) = false; rw [decide_eq_false (by omega : ¬ (c.getD x 0 = c.getD a 0)), Bool.false_and]), countP_take c _ a (Nat.le_of_lt ha)]
  have h2 : (List.range c.length).countP (fun i => decide (c.getD i 0 < c.getD a 0)) = c.countP fun x => decide (x < c.getD a 0) := by
    generalize c.getD a 0 = v
    have h3 : (List.range c.length).countP (fun i => decide (c.getD i 0 < v)) = ((List.range c.length).map fun i => c.getD i 0).countP fun x => decide (x < v) := by rw [List.countP_map]; rfl
    rw [h3, range_getD]
  rw [h2]
  omega
/-- where the rows lead: the primary's nowhere -/
def tos (c : List Nat) (p : Nat) : List Int := (List.range (c.length + 1)).map fun row => if row = p then -1 else ((nx c p row : Nat) : Int)
theorem tos_length (c : List Nat) (p : Nat) : (tos c p).length = c.length + 1 := by simp [tos]
theorem tos_at {c : List Nat} {p row : Nat} (h : row ≤ c.length) (hp : row ≠ p) : (tos c p).getD row 0 = ((nx c p row : Nat) : Int) := by
  unfold tos
  rw [List.getD_eq_getElem?_getD, List.getElem?_map, List.getElem?_range (by omega)]
  simp [hp]
end Go.Proofs.YtfmnnbeegfjnaaaGreat.Od
namespace Go.Proofs.YtfmnnbeegfjnaaaGreat.Od
open Nm Ls

/-- the byte of the row to which so many steps lead -/
def byt (c : List Nat) (p i : Nat) : Nat := c.getD (ix p (runRow c p i)) 0
def bk (c : List Nat) (p k : Nat) : List Nat := ((List.range k).map (byt c p)).reverse
theorem bk_succ (c : List Nat) (p k : Nat) : bk c p (k + 1) = byt c p k :: bk c p k := by
  unfold bk; rw [List.range_succ, List.map_append, List.reverse_append]; rfl
theorem bk_length (c : List Nat) (p k : Nat) : (bk c p k).length = k := by simp [bk]
theorem textGo_all {c : List Nat} {p : Nat} (hp : p ≤ c.length) (h : ∀ i, i < c.length → runRow c p i ≠ p) : ∀ k j, j + k = c.length → textGo c p k (runRow c p j) (bk c p j) = some (bk c p c.length)
  | 0, j, e => by
    obtain rfl : j = c.length := by omega
    unfold textGo
    rw [if_pos (runRow_last hp h)]
  | k + 1, j, e => by
    unfold textGo
    rw [if_neg (h j (by omega))]
    have := textGo_all hp h k (j + 1) (by omega)
    rw [bk_succ] at this
    exact this
theorem textGo_met {c : List Nat} {p : Nat} : ∀ d k j acc, d < k → (∀ i, i < d → runRow c p (j + i) ≠ p) → runRow c p (j + d) = p → textGo c p k (runRow c p j) acc = none
  | 0, k + 1, j, acc, _, _, e => by
    unfold textGo
    rw [Nat.add_zero] at e
    rw [if_pos e]
  | d + 1, k + 1, j, acc, hd, h, e => by
    unfold textGo
    have h0 := h 0 (by omega)
    rw [Nat.add_zero] at h0
    rw [if_neg h0]
    exact textGo_met d k (j + 1) _ (by omega) (fun i hi => by have := h (i + 1) (by omega); rwa [show j + 1 + i = j + (i + 1) by omega]) (by rw [show j + 1 + d = j + (d + 1) by omega]; exact e)
/-- what there is of the text when so many bytes are told -/
def tx (c : List Nat) (p n k : Nat) : List Nat := List.replicate (n - k) 0 ++ bk c p k
theorem tx_zero (c : List Nat) (p n : Nat) : tx c p n 0 = List.replicate n 0 := by simp [tx, bk]
theorem tx_all (c : List Nat) (p n : Nat) : tx c p n n = bk c p n := by simp [tx]
theorem tx_length (c : List Nat) (p : Nat) {n k : Nat} (h : k ≤ n) : (tx c p n k).length = n := by simp [tx, bk_length]; omega
theorem tx_set (c : List Nat) (p : Nat) {n k : Nat} (h : k < n) : (tx c p n k).set (n - 1 - k) (byt c p k) = tx c p n (k + 1) := by
  unfold tx
  rw [bk_succ, show n - k = (n - 1 - k) + 1 by omega, show n - (k + 1) = n - 1 - k by omega]
  have e : List.replicate (n - 1 - k + 1) (0 : Nat) ++ bk c p k = List.replicate (n - 1 - k) 0 ++ 0 :: bk c p k := by
    rw [List.replicate_succ', List.append_assoc]; rfl
  rw [e, List.set_append_right _ _ (by simp)]
  simp
/-- all rows were gone, and none was the primary -/
theorem text_yes {c : List Nat} {p : Nat} (hp : p ≤ c.length) (h : ∀ i, i < c.length → runRow c p i ≠ p) : textI c (p : Int) = some (tx c p c.length c.length) := by
  rw [tx_all]
  by_cases h0 : c.length = 0
  · unfold textI text
    have : c = [] := List.length_eq_zero_iff.1 h0
    subst this
    have hp0 : p = 0 := by simpa using hp
    subst hp0
    simp [bk]
  · have h1 : 1 ≤ p := by
      have := h 0 (by omega)
      simp only [runRow] at this
      omega
    rw [textI_in h1 hp]
    exact textGo_all hp h c.length 0 (by omega)
/-- the primary was met on the way -/
theorem text_met {c : List Nat} {p k : Nat} (hp : p ≤ c.length) (hk : k < c.length) (h : ∀ i, i < k → runRow c p i ≠ p) (e : runRow c p k = p) : textI c (p : Int) = none := by
  by_cases h1 : 1 ≤ p
  · rw [textI_in h1 hp]
    exact textGo_met k c.length 0 [] hk (fun i hi => by rw [Nat.zero_add]; exact h i hi) (by rw [Nat.zero_add]; exact e)
  · exact textI_big (.inl (by omega)) (by omega)
end Go.Proofs.YtfmnnbeegfjnaaaGreat.Od

/- The order of a list's ends: the model. No function of the program in sight. The column of a text, and its text again: the model. No function of the program in sight. -/
import Derived.Test.YtjnehpkkkmicfaaLsLess
namespace Go.Proofs.Ytjnehpkkkmicfaa.Od
open Nm Ls

/-! ### which of two ends is less -/
def lt (l : List Nat) (a b : Nat) : Bool := lexL (l.drop a) (l.drop b)
theorem lt_same (l : List Nat) (a : Nat) : lt l a a = false := lexL_same _
theorem lt_asym {l : List Nat} {a b : Nat} (h : lt l a b = true) : lt l b a = false := lexL_asym _ _ h
theorem lt_trans {l : List Nat} {a b c : Nat} (h : lt l a b = true) (k : lt l b c = true) : lt l a c = true := lexL_trans _ _ _ h k
theorem lt_total {l : List Nat} {a b : Nat} (ha : a ≤ l.length) (hb : b ≤ l.length) (h : a ≠ b) (hn : lt l a b = false) : lt l b a = true := by
  cases hk : lt l b a with
  | true => rfl
  | false =>
    have e := lexL_none _ _ hn hk
    have := congrArg List.length e
    rw [List.length_drop, List.length_drop] at this
    omega

/-! ### put in, one by one -/
def spot (l : List Nat) (i : Nat) (out : List Nat) : Nat → Nat
  | 0 => 0
  | k + 1 => if lt l i (out.getD k 0) = true then spot l i out k else k + 1
def ins (l out : List Nat) (i : Nat) : List Nat := out.take (spot l i out out.length) ++ [i] ++ out.drop (spot l i out out.length)
def endsT (l : List Nat) : Nat → List Nat
  | 0 => []
  | n + 1 => ins l (endsT l n) n
def ends (l : List Nat) : List Nat := endsT l l.length
theorem spot_le (l : List Nat) (i : Nat) (out : List Nat) : ∀ k, spot l i out k ≤ k
  | 0 => Nat.le_refl _
  | k + 1 => by
    unfold spot
    split
    · have := spot_le l i out k; omega
    · exact Nat.le_refl _
theorem spot_above (l : List Nat) (i : Nat) (out : List Nat) : ∀ k j, spot l i out k ≤ j → j < k → lt l i (out.getD j 0) = true
  | 0, j, _, h => by omega
  | k + 1, j, h1, h2 => by
    unfold spot at h1
    split at h1
    · rename_i hk
      by_cases e : j = k
      · rw [e]; exact hk
      · exact spot_above l i out k j h1 (by omega)
    · omega
theorem spot_below (l : List Nat) (i : Nat) (out : List Nat) : ∀ k, 0 < spot l i out k → lt l i (out.getD (spot l i out k - 1) 0) = false
  | 0, h => by simp [spot] at h
  | k + 1, h => by
    unfold spot at h ⊢
    split
    · rename_i hk
      rw [if_pos hk] at h
      exact spot_below l i out k h
    · rename_i hk
      simpa using hk
theorem ins_length (l out : List Nat) (i : Nat) : (ins l out i).length = out.length + 1 := by
  have := spot_le l i out out.length
  simp [ins]; omega
theorem endsT_length (l : List Nat) : ∀ n, (endsT l n).length = n
  | 0 => rfl
  | n + 1 => by rw [endsT, ins_length, endsT_length l n]
theorem ins_perm (l out : List Nat) (i : Nat) : (ins l out i).Perm (i :: out) := by
  unfold ins
  generalize spot l i out out.length = k
  have h1 : (out.take k ++ [i] ++ out.drop k).Perm ([i] ++ out.take k ++ out.drop k) := (List.perm_append_comm).append_right _
  rw [List.append_assoc [i], List.take_append_drop] at h1
  exact h1
theorem endsT_mem {l : List Nat} {n a : Nat} : a ∈ endsT l n ↔ a < n := by
  induction n with
  | zero => simp [endsT]
  | succ n ih =>
    rw [endsT, (ins_perm l _ n).mem_iff, List.mem_cons, ih]
    omega
theorem endsT_perm (l : List Nat) (n : Nat) : (endsT l n).Perm (List.range n) := by
  induction n with
  | zero => exact List.Perm.refl _
  | succ n ih =>
    rw [endsT, List.range_succ]
    exact (ins_perm l _ n).trans ((List.Perm.cons n ih).trans (List.perm_append_comm (l₁ := [n]) (l₂ := List.range n)))
/-- sorted -/
def Up (l L : List Nat) : Prop := L.Pairwise fun a b => lt l a b = true
theorem ins_up {l out : List Nat} {i : Nat} (h : Up l out) (hi : i ≤ l.length) (ho : ∀ a ∈ out, a ≤ l.length ∧ a ≠ i) : Up l (ins l out i) := by
  unfold ins
  have hle := spot_le l i out out.length
  have hab := spot_above l i out out.length
  have hbe := spot_below l i out out.length
  generalize spot l i out out.length = k at hle hab hbe
  have hsp : Up l (out.take k ++ out.drop k) := by rw [List.take_append_drop]; exact h
  unfold Up at hsp ⊢
  rw [List.pairwise_append] at hsp
  obtain ⟨p1, p2, p3⟩ := hsp
  have gd : ∀ j (hj : j < out.length), out.getD j 0 = out[j] := fun j hj => by simp [List.getD_eq_getElem?_getD, hj]
  have q1 : ∀ a ∈ out.take k, lt l a i = true := by
    intro a ha
    obtain ⟨j, hj, rfl⟩ := List.getElem_of_mem ha
    rw [List.length_take] at hj
    rw [List.getElem_take]
    have hk0 : 0 < k := by omega
    have hl := hbe hk0
    rw [gd (k - 1) (by omega)] at hl
    have hm := ho out[k - 1] (List.getElem_mem _)
    have t1 := lt_total hi hm.1 (fun e => hm.2 e.symm) hl
    by_cases e : j = k - 1
    · subst e; exact t1
    · have := List.pairwise_iff_getElem.1 h j (k - 1) (by omega) (by omega) (by omega)
      exact lt_trans this t1
  have q2 : ∀ b ∈ out.drop k, lt l i b = true := by
    intro b hb
    obtain ⟨j, hj, rfl⟩ := List.getElem_of_mem hb
    rw [List.length_drop] at hj
    rw [List.getElem_drop]
    have := hab (k + j) (by omega) (by omega)
    rwa [gd (k + j) (by omega)] at this
  rw [List.append_assoc, List.pairwise_append]
  refine ⟨p1, ?_, ?_⟩
  · rw [List.singleton_append, List.pairwise_cons]
    exact ⟨q2, p2⟩
  · intro a ha b hb
    rw [List.singleton_append, List.mem_cons] at hb
    rcases hb with rfl | hb
    · exact q1 a ha
    · exact p3 a ha b hb
theorem endsT_up {l : List Nat} {n : Nat} (hn : n ≤ l.length) : Up l (endsT l n) := by
  induction n with
  | zero => exact List.Pairwise.nil
  | succ n ih =>
    refine ins_up (ih (by omega)) (by omega) (fun a ha => ?_)
    have := endsT_mem.1 ha
    omega
theorem ends_length (l : List Nat) : (ends l).length = l.length := endsT_length l _
theorem ends_perm (l : List Nat) : (ends l).Perm (List.range l.length) := endsT_perm l _
theorem ends_up (l : List Nat) : Up l (ends l) := endsT_up (Nat.le_refl _)
theorem ends_mem {l : List Nat} {a : Nat} : a ∈ ends l ↔ a < l.length := endsT_mem
/-- there is one order alone -/
theorem up_one {l : List Nat} : ∀ {A B : List Nat}, A.Perm B → Up l A → Up l B → A = B
  | [], B, h, _, _ => (List.nil_perm.1 h).symm
  | a :: A, [], h, _, _ => absurd h.length_eq (by simp)
  | a :: A, b :: B, h, h1, h2 => by
    have g1 := List.pairwise_cons.1 h1
    have g2 := List.pairwise_cons.1 h2
    have e : a = b := by
      have ma : a ∈ b :: B := h.mem_iff.1 (List.mem_cons_self ..)
      have mb : b ∈ a :: A := h.mem_iff.2 (List.mem_cons_self ..)
      rcases List.mem_cons.1 ma with e | ma
      · exact e
      rcases List.mem_cons.1 mb with e | mb
      · exact e.symm
      have := lt_asym (g1.1 b mb)
      rw [g2.1 a ma] at this
      cases this
    subst e
    rw [up_one (h.cons_inv) g1.2 g2.2]
theorem ends_one {l A : List Nat} (hp : A.Perm (List.range l.length)) (hu : Up l A) : A = ends l := up_one (hp.trans (ends_perm l).symm) hu (ends_up l)

/-! ### the inverse -/
def invGo (N : Nat) : List Int → Nat → List Nat → List Bool → Option (List Nat)
  | [], _, out, _ => some out
  | n :: t, i, out, had => if n < 0 ∨ (N : Int) ≤ n ∨ had.getD n.toNat false = true then none else invGo N t (i + 1) (out.set n.toNat i) (had.set n.toNat true)
def inv (L : List Int) : Option (List Nat) := invGo L.length L 0 (List.replicate L.length 0) (List.replicate L.length false)
/-! ### right -/
def chain (l : List Nat) (P : List Nat) (k : Nat) : Bool := (List.range k).all fun i => decide (i = 0) || lt l (P.getD (i - 1) 0) (P.getD i 0)
theorem chain_succ (l P : List Nat) (k : Nat) : chain l P (k + 1) = (chain l P k && (decide (k = 0) || lt l (P.getD (k - 1) 0) (P.getD k 0))) := by
  simp [chain, List.range_succ]
def nat (L : List Int) : List Nat := L.map Int.toNat
def right (l : List Nat) (E : List Int) : Bool := (inv E).isSome && decide (E.length = l.length) && chain l (nat E) E.length
/-! ### in common -/
def lcp : List Nat → List Nat → Nat
  | a :: x, b :: y => if a = b then lcp x y + 1 else 0
  | _, _ => 0
def com (l : List Nat) (P : List Nat) (k : Nat) : List Nat := (List.range k).map fun i => if i = 0 then 0 else lcp (l.drop (P.getD (i - 1) 0)) (l.drop (P.getD i 0))
end Go.Proofs.Ytjnehpkkkmicfaa.Od
namespace Go.Proofs.Ytjnehpkkkmicfaa.Od
open Nm Ls

/-! ### the last column -/
/-- the places of the rows -/
def rowsOf (s : List Nat) : List Nat := s.length :: ends s
/-- those in whose row there is a byte of the column -/
def placesOf (s : List Nat) : List Nat := s.length :: (ends s).filter fun e => decide (e ≠ 0)
def col (s : List Nat) : List Nat := if s = [] then [] else (placesOf s).map fun q => s.getD (q - 1) 0
def prim (s : List Nat) : Nat := if s = [] then 0 else (ends s).idxOf 0 + 1
/-- so many ends gone through -/
def colT (s : List Nat) (k : Nat) : List Nat := s.getD (s.length - 1) 0 :: (((ends s).take k).filter fun e => decide (e ≠ 0)).map fun e => s.getD (e - 1) 0
theorem colT_all (s : List Nat) (h : s ≠ []) : colT s s.length = col s := by
  unfold colT col placesOf
  rw [if_neg h, List.take_of_length_le (by rw [ends_length]; exact Nat.le_refl _)]
  rfl
theorem colT_succ (s : List Nat) (k : Nat) (hk : k < s.length) : colT s (k + 1) = if (ends s).getD k 0 = 0 then colT s k else colT s k ++ [s.getD ((ends s).getD k 0 - 1) 0] := by
  have hl := ends_length s
  have e : (ends s).take (k + 1) = (ends s).take k ++ [(ends s).getD k 0] := by
    rw [List.take_succ_eq_append_getElem (by omega)]
    simp [List.getD_eq_getElem?_getD, hl, hk]
  unfold colT
  rw [e, List.filter_append, List.map_append]
  by_cases h : (ends s).getD k 0 = 0
  · rw [if_pos h, h]; simp
  · rw [if_neg h]
    generalize (ends s).getD k 0 = x at h
    simp [h]

/-! ### the text -/
def nextRow (c : List Nat) (a : Nat) : Nat := 1 + (List.range c.length).countP fun i => decide (c.getD i 0 < c.getD a 0) || (decide (c.getD i 0 = c.getD a 0) && decide (i < a))
def atOf (p row : Nat) : Nat := if p < row then row - 1 else row
def textGo (c : List Nat) (p : Nat) : Nat → Nat → List Nat → Option (List Nat)
  | 0, row, acc => if row = p then some acc else none
  | k + 1, row, acc => if row = p then none else textGo c p k (nextRow c (atOf p row)) (c.getD (atOf p row) 0 :: acc)
def text (c : List Nat) (p : Nat) : Option (List Nat) := if c.length = 0 ∧ p = 0 then some [] else if p < 1 ∨ c.length < p then none else textGo c p c.length 0 []

/-! ### counting -/
theorem countP_lt {α : Type} {p q : α → Bool} : ∀ {L : List α}, (∀ x ∈ L, p x = true → q x = true) → (∃ x ∈ L, p x = false ∧ q x = true) → L.countP p < L.countP q
  | [], _, ⟨x, hx, _⟩ => by simp at hx
  | a :: L, h, ⟨x, hx, h1, h2⟩ => by
    have hm : ∀ x ∈ L, p x = true → q x = true := fun x hx => h x (List.mem_cons_of_mem _ hx)
    have hle := List.countP_mono_left hm
    rw [List.countP_cons, List.countP_cons]
    rcases List.mem_cons.1 hx with rfl | hx
    · rw [h1, h2]; simp; omega
    · have := countP_lt hm ⟨x, hx, h1, h2⟩
      cases hp : p a with
      | true => rw [h a (List.mem_cons_self ..) hp]; simp; omega
      | false => cases q a <;> simp <;> omega
theorem countP_one {L : List Nat} (hn : L.Nodup) {f : Nat → Nat} (hf : ∀ a ∈ L, ∀ b ∈ L, f a = f b → a = b) (m : Nat) : L.countP (fun j => decide (f j = m)) ≤ 1 := by
  induction L with
  | nil => simp
  | cons a L ih =>
    have h1 := List.nodup_cons.1 hn
    have := ih h1.2 (fun a ha b hb => hf a (List.mem_cons_of_mem _ ha) b (List.mem_cons_of_mem _ hb))
    rw [List.countP_cons]
    by_cases e : f a = m
    · have : L.countP (fun j => decide (f j = m)) = 0 := by
        rw [List.countP_eq_zero]
        intro b hb hbm
        have hbm2 : f b = m := by simpa using hbm
        have := hf a (List.mem_cons_self ..) b (List.mem_cons_of_mem _ hb) (by rw [e, hbm2])
        subst this
        exact h1.1 hb
      rw [this]; simp [e]
    · simp [e]; exact this
theorem countP_split {L : List Nat} (f : Nat → Nat) (m : Nat) : L.countP (fun j => decide (f j < m + 1)) = L.countP (fun j => decide (f j < m)) + L.countP (fun j => decide (f j = m)) := by
  induction L with
  | nil => rfl
  | cons a L ih =>
    simp only [List.countP_cons, ih]
    by_cases h1 : f a < m
    · have h2 : f a < m + 1 := by omega
      have h3 : ¬ f a = m := by omega
      simp [h1, h2, h3]; omega
    · by_cases h3 : f a = m
      · simp [h3]; omega
      · have h2 : ¬ f a < m + 1 := by omega
        simp [h1, h2, h3]
theorem countP_below {L : List Nat} (hn : L.Nodup) {f : Nat → Nat} (hf : ∀ a ∈ L, ∀ b ∈ L, f a = f b → a = b) (m d : Nat) : L.countP (fun j => decide (f j < m + d)) ≤ L.countP (fun j => decide (f j < m)) + d := by
  induction d with
  | zero => exact Nat.le_refl _
  | succ d ih =>
    have := countP_one hn hf (m + d)
    rw [show m + (d + 1) = m + d + 1 by omega, countP_split]
    omega
/-- as many stand ahead as it says, if all are told once -/
theorem countP_rank {n : Nat} {f : Nat → Nat} (hf : ∀ a b, a < n → b < n → f a = f b → a = b) (hle : ∀ a, a < n → f a < n) {m : Nat} (hm : m ≤ n) : (List.range n).countP (fun j => decide (f j < m)) = m := by
  have hf2 : ∀ a ∈ List.range n, ∀ b ∈ List.range n, f a = f b → a = b := fun a ha b hb => hf a b (List.mem_range.1 ha) (List.mem_range.1 hb)
  have h1 := countP_below List.nodup_range hf2 0 m
  have h2 := countP_below List.nodup_range hf2 m (n - m)
  have h3 : (List.range n).countP (fun j => decide (f j < n)) = n := by
    have : (List.range n).countP (fun j => decide (f j < n)) = (List.range n).length := List.countP_eq_length.2 (fun a ha => by simpa using hle a (List.mem_range.1 ha))
    rw [this, List.length_range]
  rw [show m + (n - m) = n by omega, h3] at h2
  have h4 : (List.range n).countP (fun j => decide (f j < 0)) = 0 := by simp
  rw [Nat.zero_add, h4] at h1
  omega

/-! ### the row of a place -/
def rowOf (s : List Nat) (q : Nat) : Nat := (List.range (s.length + 1)).countP fun j => lt s j q
theorem lt_end (s : List Nat) (a : Nat) (h : a < s.length) : lt s s.length a = true := by
  unfold lt
  rw [List.drop_length, lexL_nil_left, List.length_drop]
  exact decide_eq_true (by omega)
theorem lt_no (s : List Nat) (a : Nat) : lt s a s.length = false := by
  unfold lt
  rw [List.drop_length, lexL_nil_right]
theorem lt_step (s : List Nat) (a b : Nat) (ha : a < s.length) (hb : b < s.length) : lt s a b = (decide (s.getD a 0 < s.getD b 0) || (decide (s.getD a 0 = s.getD b 0) && lt s (a + 1) (b + 1))) := by
  unfold lt
  rw [List.drop_eq_getElem_cons ha, List.drop_eq_getElem_cons hb]
  simp only [lexL, List.getD_eq_getElem?_getD, List.getElem?_eq_getElem ha, List.getElem?_eq_getElem hb, Option.getD_some]
  by_cases e : s[a] = s[b]
  · rw [if_pos e]; simp [e]
  · rw [if_neg e]; simp [e]
theorem rowOf_lt {s : List Nat} {a b : Nat} (ha : a ≤ s.length) (h : lt s a b = true) : rowOf s a < rowOf s b :=
  countP_lt (fun _ _ hx => lt_trans hx h) ⟨a, List.mem_range.2 (by omega), lt_same s a, h⟩
theorem rowOf_iff {s : List Nat} {a b : Nat} (ha : a ≤ s.length) (hb : b ≤ s.length) : rowOf s a < rowOf s b ↔ lt s a b = true := by
  constructor
  · intro h
    cases hl : lt s a b with
    | true => rfl
    | false =>
      by_cases e : a = b
      · subst e; omega
      · have := rowOf_lt hb (lt_total ha hb e hl); omega
  · exact rowOf_lt ha
theorem rowOf_inj {s : List Nat} {a b : Nat} (ha : a ≤ s.length) (hb : b ≤ s.length) (h : rowOf s a = rowOf s b) : a = b := by
  by_cases e : a = b
  · exact e
  · cases hl : lt s a b with
    | true => have := rowOf_lt ha hl; omega
    | false => have := rowOf_lt hb (lt_total ha hb e hl); omega
theorem rowOf_end (s : List Nat) : rowOf s s.length = 0 := by
  unfold rowOf
  rw [List.countP_eq_zero]
  intro a _
  rw [lt_no]; simp
theorem rowOf_le (s : List Nat) {q : Nat} (hq : q ≤ s.length) : rowOf s q ≤ s.length := by
  have h1 : rowOf s q < (List.range (s.length + 1)).length := by
    have : rowOf s q < (List.range (s.length + 1)).countP fun _ => true := countP_lt (fun _ _ _ => rfl) ⟨q, List.mem_range.2 (by omega), lt_same s q, rfl⟩
    simpa using this
  rw [List.length_range] at h1
  omega
/-- rows, in order -/
theorem rows_up (s : List Nat) : Up s (rowsOf s) := by
  unfold rowsOf Up
  rw [List.pairwise_cons]
  exact ⟨fun a ha => lt_end s a (ends_mem.1 ha), ends_up s⟩
theorem rows_perm (s : List Nat) : (rowsOf s).Perm (List.range (s.length + 1)) := by
  unfold rowsOf
  rw [List.range_succ]
  exact (List.Perm.cons _ (ends_perm s)).trans (List.perm_append_comm (l₁ := [s.length]) (l₂ := List.range s.length))
theorem rows_length (s : List Nat) : (rowsOf s).length = s.length + 1 := by simp [rowsOf, ends_length]
theorem up_rank {l L : List Nat} (h : Up l L) {i : Nat} (hi : i < L.length) : L.countP (fun j => lt l j L[i]) = i := by
  have e := List.take_append_drop i L
  have h1 : (L.take i).countP (fun j => lt l j L[i]) = i := by
    have : (L.take i).countP (fun j => lt l j L[i]) = (L.take i).length := List.countP_eq_length.2 (fun a ha => by
      obtain ⟨j, hj, rfl⟩ := List.getElem_of_mem ha
      rw [List.length_take] at hj
      rw [List.getElem_take]
      exact List.pairwise_iff_getElem.1 h j i (by omega) hi (by omega))
    rw [this, List.length_take]; omega
  have h2 : (L.drop i).countP (fun j => lt l j L[i]) = 0 := by
    rw [List.countP_eq_zero]
    intro a ha
    obtain ⟨j, hj, rfl⟩ := List.getElem_of_mem ha
    rw [List.length_drop] at hj
    rw [List.getElem_drop]
    by_cases e : j = 0
    · subst e; simp [lt_same]
    · have := List.pairwise_iff_getElem.1 h i (i + j) hi (by omega) (by omega)
      rw [lt_asym this]; simp
  have := List.countP_append (p := fun j => lt l j L[i]) (l₁ := L.take i) (l₂ := L.drop i)
  rw [e, h1, h2] at this
  exact this
theorem rowOf_at (s : List Nat) {r : Nat} (hr : r < (rowsOf s).length) : rowOf s (rowsOf s)[r] = r := by
  have := up_rank (rows_up s) hr
  unfold rowOf
  exact ((rows_perm s).countP_eq _).symm.trans this
theorem at_rowOf (s : List Nat) {q : Nat} (hq : q ≤ s.length) : (rowsOf s)[rowOf s q]'(by rw [rows_length]; have := rowOf_le s hq; omega) = q := by
  have hl : rowOf s q < (rowsOf s).length := by rw [rows_length]; have := rowOf_le s hq; omega
  refine rowOf_inj ?_ hq (rowOf_at s hl)
  have hm : (rowsOf s)[rowOf s q] ∈ rowsOf s := List.getElem_mem _
  have := (rows_perm s).mem_iff.1 hm
  have := List.mem_range.1 this
  omega
theorem prim_row (s : List Nat) (h : s ≠ []) : prim s = rowOf s 0 := by
  have h0 : (0 : Nat) ∈ ends s := ends_mem.2 (List.length_pos_iff.2 h)
  unfold prim
  rw [if_neg h]
  have hi : (ends s).idxOf 0 < (ends s).length := List.idxOf_lt_length_of_mem h0
  have he : (ends s)[(ends s).idxOf 0] = 0 := List.getElem_idxOf hi
  have hr := rowOf_at s (r := (ends s).idxOf 0 + 1) (by rw [rows_length]; rw [ends_length] at hi; omega)
  have e2 : (rowsOf s)[(ends s).idxOf 0 + 1]'(by rw [rows_length]; rw [ends_length] at hi; omega) = 0 := by
    unfold rowsOf
    rw [List.getElem_cons_succ]
    exact he
  rw [e2] at hr
  exact hr.symm
/-- the places of the column: the rows' but one -/
theorem filter_erase : ∀ (L : List Nat) (i : Nat) (hi : i < L.length), L[i] = 0 → (∀ j (hj : j < L.length), j ≠ i → L[j] ≠ 0) → L.filter (fun e => decide (e ≠ 0)) = L.eraseIdx i
  | [], i, hi, _, _ => absurd hi (by simp)
  | a :: L, 0, _, h0, h1 => by
    rw [List.getElem_cons_zero] at h0
    rw [List.eraseIdx_cons_zero, List.filter_cons, h0]
    simp only [ne_eq, not_true_eq_false, decide_false, Bool.false_eq_true, if_false]
    rw [List.filter_eq_self]
    intro x hx
    obtain ⟨j, hj, rfl⟩ := List.getElem_of_mem hx
    have := h1 (j + 1) (by simp; omega) (by omega)
    rw [List.getElem_cons_succ] at this
    exact decide_eq_true this
  | a :: L, i + 1, hi, h0, h1 => by
    have ha : a ≠ 0 := by
      have := h1 0 (by simp) (by omega)
      simpa using this
    rw [List.eraseIdx_cons_succ, List.filter_cons, if_pos (decide_eq_true ha)]
    congr 1
    refine filter_erase L i (by simpa using hi) (by simpa using h0) (fun j hj hne => ?_)
    have := h1 (j + 1) (by simp; omega) (by omega)
    simpa using this
theorem places_erase (s : List Nat) (h : s ≠ []) : placesOf s = (rowsOf s).eraseIdx (prim s) := by
  have h0 : (0 : Nat) ∈ ends s := ends_mem.2 (List.length_pos_iff.2 h)
  have hi : (ends s).idxOf 0 < (ends s).length := List.idxOf_lt_length_of_mem h0
  have he : (ends s)[(ends s).idxOf 0] = 0 := List.getElem_idxOf hi
  unfold placesOf rowsOf prim
  rw [if_neg h, List.eraseIdx_cons_succ]
  congr 1
  refine filter_erase _ _ hi he (fun j hj hne h2 => ?_)
  have hup := List.pairwise_iff_getElem.1 (ends_up s)
  rcases Nat.lt_or_gt_of_ne hne with h3 | h3
  · have := hup j _ hj hi h3
    rw [h2, he, lt_same] at this; cases this
  · have := hup _ j hi hj h3
    rw [h2, he, lt_same] at this; cases this
theorem prim_le (s : List Nat) : prim s ≤ s.length := by
  by_cases h : s = []
  · subst h; simp [prim]
  · rw [prim_row s h]; exact rowOf_le s (Nat.zero_le _)
theorem prim_pos (s : List Nat) (h : s ≠ []) : 1 ≤ prim s := by unfold prim; rw [if_neg h]; omega
theorem places_length (s : List Nat) (h : s ≠ []) : (placesOf s).length = s.length := by
  have := prim_le s
  rw [places_erase s h, List.length_eraseIdx, rows_length]
  rw [if_pos (by omega)]; omega
theorem places_mem {s : List Nat} (h : s ≠ []) {q : Nat} (hq : q ∈ placesOf s) : 1 ≤ q ∧ q ≤ s.length := by
  unfold placesOf at hq
  rcases List.mem_cons.1 hq with e | hm
  · rw [e]; have := List.length_pos_iff.2 h; omega
  · rw [List.mem_filter] at hm
    have h1 := ends_mem.1 hm.1
    have h2 : q ≠ 0 := by simpa using hm.2
    omega
theorem col_length (s : List Nat) : (col s).length = s.length := by
  unfold col
  split
  · rename_i h; rw [h]
  · rename_i h; rw [List.length_map, places_length s h]
theorem places_up (s : List Nat) (h : s ≠ []) : Up s (placesOf s) := by
  rw [places_erase s h]
  exact (rows_up s).sublist (List.eraseIdx_sublist ..)
theorem places_at (s : List Nat) (h : s ≠ []) {r : Nat} (hr : r ≤ s.length) (hp : r ≠ prim s) : ∃ hl : atOf (prim s) r < (placesOf s).length, (placesOf s)[atOf (prim s) r] = (rowsOf s)[r]'(by rw [rows_length]; omega) := by
  have hle := prim_le s
  have hl : atOf (prim s) r < (placesOf s).length := by
    rw [places_length s h]; unfold atOf; split <;> omega
  refine ⟨hl, ?_⟩
  simp only [places_erase s h, List.getElem_eraseIdx]
  unfold atOf
  by_cases hlt : prim s < r
  · rw [dif_neg (by rw [if_pos hlt]; omega)]
    congr 1
    rw [if_pos hlt]; omega
  · rw [dif_pos (by rw [if_neg hlt]; omega)]
    congr 1
    rw [if_neg hlt]
theorem range_pred (m : Nat) : ((List.range (m + 1)).filter fun e => decide (e ≠ 0)).map (· - 1) = List.range m := by
  rw [List.range_succ_eq_map, List.filter_cons]
  simp [List.filter_map, List.map_map, Function.comp_def]
theorem places_perm (s : List Nat) (h : s ≠ []) : ((placesOf s).map (· - 1)).Perm (List.range s.length) := by
  have hpos := List.length_pos_iff.2 h
  obtain ⟨m, hm⟩ : ∃ m, s.length = m + 1 := ⟨s.length - 1, by omega⟩
  have h1 : (placesOf s).Perm (s.length :: (List.range s.length).filter fun e => decide (e ≠ 0)) := List.Perm.cons _ ((ends_perm s).filter _)
  have h2 := h1.map (· - 1)
  refine h2.trans ?_
  rw [List.map_cons, hm, range_pred, Nat.add_sub_cancel, List.range_succ]
  exact List.perm_append_comm (l₁ := [m]) (l₂ := List.range m)
theorem range_getD (L : List Nat) : (List.range L.length).map (fun i => L.getD i 0) = L := by
  apply List.ext_getElem
  · simp
  · intro i h1 h2
    simp [List.getD_eq_getElem?_getD, h2]
theorem col_at (s : List Nat) (h : s ≠ []) {i : Nat} (hi : i < s.length) : (col s).getD i 0 = s.getD ((placesOf s).getD i 0 - 1) 0 := by
  have hl := places_length s h
  unfold col
  rw [if_neg h]
  simp [List.getD_eq_getElem?_getD, hl, hi]
/-- from a row to that of the place ahead -/
theorem next_row (s : List Nat) (h : s ≠ []) {q : Nat} (hq : 1 ≤ q) (hq2 : q ≤ s.length) : nextRow (col s) (atOf (prim s) (rowOf s q)) = rowOf s (q - 1) ∧ (col s).getD (atOf (prim s) (rowOf s q)) 0 = s.getD (q - 1) 0 ∧ rowOf s q ≠ prim s := by
  have hne : rowOf s q ≠ prim s := by
    rw [prim_row s h]; intro e
    have := rowOf_inj hq2 (Nat.zero_le _) e; omega
  have hpl := places_length s h
  obtain ⟨hl, hat⟩ := places_at s h (rowOf_le s hq2) hne
  rw [at_rowOf s hq2] at hat
  generalize atOf (prim s) (rowOf s q) = a at hl hat ⊢
  have ha : a < s.length := by rw [← hpl]; exact hl
  have hqa : (placesOf s).getD a 0 = q := by
    rw [← hat]; simp [List.getD_eq_getElem?_getD, hl]
  have hc : (col s).getD a 0 = s.getD (q - 1) 0 := by rw [col_at s h ha, hqa]
  refine ⟨?_, hc, hne⟩
  unfold nextRow
  rw [col_length, hc]
  have e1 : (List.range s.length).countP (fun i => decide ((col s).getD i 0 < s.getD (q - 1) 0) || (decide ((col s).getD i 0 = s.getD (q - 1) 0) && decide (i < a))) = (List.range s.length).countP (fun i => lt s ((placesOf s).getD i 0 - 1) (q - 1)) := by
    apply List.countP_congr
    intro i hi
    have hi2 := List.mem_range.1 hi
    have hil : i < (placesOf s).length := by rw [hpl]; exact hi2
    have hmem : (placesOf s)[i] ∈ placesOf s := List.getElem_mem _
    have hgi : (placesOf s).getD i 0 = (placesOf s)[i] := by simp [List.getD_eq_getElem?_getD, hil]
    have hb : 1 ≤ (placesOf s)[i] ∧ (placesOf s)[i] ≤ s.length := places_mem h hmem
    have hord : decide (i < a) = lt s (placesOf s)[i] q := by
      rw [← hat]
      rcases Nat.lt_trichotomy i a with h3 | h3 | h3
      · rw [decide_eq_true h3, List.pairwise_iff_getElem.1 (places_up s h) i a hil hl h3]
      · subst h3; rw [lt_same]; simp
      · rw [decide_eq_false (by omega), lt_asym (List.pairwise_iff_getElem.1 (places_up s h) a i hl hil h3)]
    rw [col_at s h hi2, hgi, lt_step s _ _ (by omega) (by omega), hord, Nat.sub_add_cancel hb.1, Nat.sub_add_cancel hq]
  have e2 : (List.range s.length).countP (fun i => lt s ((placesOf s).getD i 0 - 1) (q - 1)) = ((placesOf s).map (· - 1)).countP (fun j => lt s j (q - 1)) := by
    have := range_getD (placesOf s)
    rw [hpl] at this
    conv => rhs; rw [← this]
    rw [List.map_map, List.countP_map]
    rfl
  rw [e1, e2, (places_perm s h).countP_eq]
  unfold rowOf
  rw [List.range_succ, List.countP_append]
  simp [lt_end s (q - 1) (by omega)]
  omega
theorem textGo_back (s : List Nat) (h : s ≠ []) : ∀ k, k ≤ s.length → textGo (col s) (prim s) k (rowOf s k) (s.drop k) = some s
  | 0, _ => by rw [textGo, if_pos (prim_row s h).symm, List.drop_zero]
  | k + 1, hk => by
    obtain ⟨h1, h2, h3⟩ := next_row s h (q := k + 1) (by omega) hk
    rw [textGo, if_neg h3, h1, h2, Nat.add_sub_cancel]
    have e : s.getD k 0 :: s.drop (k + 1) = s.drop k := by
      rw [List.drop_eq_getElem_cons (show k < s.length by omega)]
      simp [List.getD_eq_getElem?_getD, show k < s.length by omega]
    rw [e]
    exact textGo_back s h k (by omega)
theorem text_back (s : List Nat) : text (col s) (prim s) = some s := by
  unfold text
  rw [col_length]
  by_cases h : s = []
  · subst h; rfl
  · have hpos := List.length_pos_iff.2 h
    have h1 := prim_pos s h
    have h2 := prim_le s
    rw [if_neg (by omega), if_neg (by omega)]
    have := textGo_back s h s.length (Nat.le_refl _)
    rwa [rowOf_end, List.drop_length] at this

/-! ### of no other column -/
theorem nextRow_lt {c : List Nat} {a b : Nat} (ha : a < c.length) (h : c.getD a 0 < c.getD b 0 ∨ c.getD a 0 = c.getD b 0 ∧ a < b) : nextRow c a < nextRow c b := by
  unfold nextRow
  refine Nat.add_lt_add_left (countP_lt (fun i _ hi => ?_) ⟨a, List.mem_range.2 ha, ?_, ?_⟩) 1
  · simp only [Bool.or_eq_true, Bool.and_eq_true, decide_eq_true_eq] at hi ⊢
    omega
  · simp
  · simp only [Bool.or_eq_true, Bool.and_eq_true, decide_eq_true_eq]; exact h
theorem nextRow_iff {c : List Nat} {a b : Nat} (ha : a < c.length) (hb : b < c.length) : nextRow c a < nextRow c b ↔ (c.getD a 0 < c.getD b 0 ∨ c.getD a 0 = c.getD b 0 ∧ a < b) := by
  constructor
  · intro h
    by_cases hl : c.getD b 0 < c.getD a 0 ∨ c.getD b 0 = c.getD a 0 ∧ b < a
    · have := nextRow_lt hb hl; omega
    · by_cases e : a = b
      · subst e; omega
      · omega
  · exact nextRow_lt ha
theorem nextRow_le {c : List Nat} {a : Nat} (ha : a < c.length) : 1 ≤ nextRow c a ∧ nextRow c a ≤ c.length := by
  have : (List.range c.length).countP (fun i => decide (c.getD i 0 < c.getD a 0) || (decide (c.getD i 0 = c.getD a 0) && decide (i < a))) < (List.range c.length).countP fun _ => true :=
    countP_lt (fun _ _ _ => rfl) ⟨a, List.mem_range.2 ha, by simp, rfl⟩
  unfold nextRow
  simp at this ⊢
  omega
/-- the rows through which the text is told -/
theorem textGo_rows {c : List Nat} {p : Nat} (hp : p ≤ c.length) : ∀ (k row : Nat) (acc s : List Nat), row ≤ c.length → textGo c p k row acc = some s →
    ∃ r : Nat → Nat, r k = row ∧ r 0 = p ∧ (∀ j, j < k → r (j + 1) ≠ p ∧ r (j + 1) ≤ c.length ∧ r j = nextRow c (atOf p (r (j + 1)))) ∧ s = (List.range k).map (fun j => c.getD (atOf p (r (j + 1))) 0) ++ acc
  | 0, row, acc, s, _, h => by
    rw [textGo] at h
    by_cases e : row = p
    · rw [if_pos e] at h
      refine ⟨fun _ => row, rfl, e, fun j hj => by omega, ?_⟩
      simpa using h.symm
    · rw [if_neg e] at h; cases h
  | k + 1, row, acc, s, hr, h => by
    rw [textGo] at h
    by_cases e : row = p
    · rw [if_pos e] at h; cases h
    rw [if_neg e] at h
    have ha : atOf p row < c.length := by unfold atOf; split <;> omega
    obtain ⟨r, r1, r2, r3, r4⟩ := textGo_rows hp k _ _ s (nextRow_le ha).2 h
    refine ⟨fun j => if j = k + 1 then row else r j, by simp, by simp [r2], fun j hj => ?_, ?_⟩
    · by_cases ej : j = k
      · subst ej
        simp only [if_true, if_neg (show ¬ j = j + 1 by omega)]
        exact ⟨e, hr, r1⟩
      · have h5 := r3 j (by omega)
        simp only [if_neg (show ¬ j + 1 = k + 1 by omega), if_neg (show ¬ j = k + 1 by omega)]
        exact h5
    · rw [r4, List.range_succ, List.map_append, List.append_assoc]
      congr 1
      · apply List.map_congr_left
        intro j hj
        have := List.mem_range.1 hj
        show _ = c.getD (atOf p (if j + 1 = k + 1 then row else r (j + 1))) 0
        rw [if_neg (by omega)]
      · simp
theorem text_only {c : List Nat} {p : Nat} {s : List Nat} (h : text c p = some s) : col s = c ∧ prim s = p := by
  unfold text at h
  by_cases h0 : c.length = 0 ∧ p = 0
  · rw [if_pos h0] at h
    injection h with h
    subst h
    exact ⟨by rw [List.length_eq_zero_iff.1 h0.1]; rfl, by rw [h0.2]; rfl⟩
  rw [if_neg h0] at h
  by_cases h1 : p < 1 ∨ c.length < p
  · rw [if_pos h1] at h; cases h
  rw [if_neg h1] at h
  obtain ⟨r, r1, r2, r3, r4⟩ := textGo_rows (by omega) _ _ _ _ (Nat.zero_le _) h
  rw [List.append_nil] at r4
  have hl : s.length = c.length := by rw [r4]; simp
  have hs : s ≠ [] := by intro e; rw [e] at hl; simp at hl; omega
  have sg : ∀ j, j < c.length → s.getD j 0 = c.getD (atOf p (r (j + 1))) 0 := fun j hj => by
    rw [r4]; simp [List.getD_eq_getElem?_getD, hj]
  have ha : ∀ j, j < c.length → atOf p (r (j + 1)) < c.length := fun j hj => by
    have := r3 j hj
    unfold atOf; split <;> omega
  have hr0 : ∀ j, j < c.length → 1 ≤ r j ∧ r j ≤ c.length := fun j hj => by
    rw [(r3 j hj).2.2]; exact nextRow_le (ha j hj)
  have at_mono : ∀ x y, x ≠ p → y ≠ p → (atOf p x < atOf p y ↔ x < y) := fun x y hx hy => by
    unfold atOf; split <;> split <;> omega
  -- rows stand in order as the places do
  have ord : ∀ m a b, a ≤ c.length → b ≤ c.length → c.length - a ≤ m → (r a < r b ↔ lt s a b = true) := by
    intro m
    induction m with
    | zero =>
      intro a b ha1 hb1 hm
      obtain rfl : a = c.length := by omega
      rw [r1]
      by_cases e : b = c.length
      · subst e; rw [r1, lt_same]; simp
      · have := hr0 b (by omega)
        have h2 := lt_end s b (by omega)
        rw [hl] at h2
        rw [h2]; simp; omega
    | succ m ih =>
      intro a b ha1 hb1 hm
      by_cases ea : a = c.length
      · exact ih a b ha1 hb1 (by omega)
      by_cases eb : b = c.length
      · have h2 := lt_no s a
        rw [hl] at h2
        rw [eb, r1, h2]; simp
      have a1 : a < c.length := by omega
      have b1 : b < c.length := by omega
      rw [lt_step s a b (by omega) (by omega), (r3 a a1).2.2, (r3 b b1).2.2, nextRow_iff (ha a a1) (ha b b1), ← sg a a1, ← sg b b1, at_mono _ _ (r3 a a1).1 (r3 b b1).1, ih (a + 1) (b + 1) (by omega) (by omega) (by omega)]
      simp
  have inj : ∀ a b, a < c.length + 1 → b < c.length + 1 → r a = r b → a = b := fun a b h2 h3 e => by
    by_cases hne : a = b
    · exact hne
    · have o1 := ord _ a b (by omega) (by omega) (Nat.le_refl _)
      have o2 := ord _ b a (by omega) (by omega) (Nat.le_refl _)
      cases hlt : lt s a b with
      | true => have := o1.2 hlt; omega
      | false => have := o2.2 (lt_total (by omega) (by omega) hne hlt); omega
  have bd : ∀ a, a < c.length + 1 → r a < c.length + 1 := fun a h2 => by
    by_cases e : a = c.length
    · rw [e, r1]; omega
    · have := hr0 a (by omega); omega
  have row : ∀ q, q ≤ c.length → rowOf s q = r q := fun q hq => by
    have := countP_rank inj bd (m := r q) (by have := bd q (by omega); omega)
    unfold rowOf
    rw [hl]
    conv => rhs; rw [← this]
    apply List.countP_congr
    intro j hj
    have hj2 := List.mem_range.1 hj
    have o1 := ord _ j q (by omega) (by omega) (Nat.le_refl _)
    simpa using o1.symm
  have hprim : prim s = p := by rw [prim_row s hs, row 0 (by omega), r2]
  refine ⟨?_, hprim⟩
  apply List.ext_getElem (by rw [col_length, hl])
  intro i h2 h3
  have hpl := places_length s hs
  have hil : i < (placesOf s).length := by rw [hpl, hl]; exact h3
  -- the row of that place of the column
  obtain ⟨rr, hrr, hrp, hri⟩ : ∃ rr, rr ≤ s.length ∧ rr ≠ prim s ∧ atOf (prim s) rr = i := by
    unfold atOf
    by_cases hi : i < prim s
    · exact ⟨i, by omega, by omega, by rw [if_neg (by omega)]⟩
    · exact ⟨i + 1, by omega, by omega, by rw [if_pos (by omega)]; omega⟩
  obtain ⟨q1, q2⟩ := places_at s hs hrr hrp
  have hq := rowOf_at s (r := rr) (by rw [rows_length]; omega)
  obtain ⟨q, hqe⟩ : ∃ q, q = (rowsOf s)[rr]'(by rw [rows_length]; omega) := ⟨_, rfl⟩
  have hqm : q ≤ s.length := by
    have hm : q ∈ rowsOf s := by rw [hqe]; exact List.getElem_mem _
    have := List.mem_range.1 ((rows_perm s).mem_iff.1 hm)
    omega
  rw [← hqe] at q2 hq
  have hq0 : q ≠ 0 := by
    intro e
    rw [e, ← prim_row s hs] at hq
    exact hrp hq.symm
  have g1 := col_at s hs (i := i) (by omega)
  have g2 : (placesOf s).getD i 0 = q := by
    have : (placesOf s)[i] = q := by rw [← q2]; congr 1; exact hri.symm
    simp [List.getD_eq_getElem?_getD, hil, this]
  rw [g2, sg (q - 1) (by omega), Nat.sub_add_cancel (by omega), ← row q (by omega), hq, ← hprim, hri] at g1
  have e1 : (col s).getD i 0 = (col s)[i] := by simp [List.getD_eq_getElem?_getD, h2]
  have e2 : c.getD i 0 = c[i] := by simp [List.getD_eq_getElem?_getD, h3]
  rw [← e1, ← e2, g1]
end Go.Proofs.Ytjnehpkkkmicfaa.Od

/- A disk as plain data: names in order, what is right. No program in sight. -/
import Derived.WalkKit
import Derived.Lib.Strings
import Derived.Lib.Bytealg
namespace Go.Proofs.Ytgpheofdeflhdaa.Dk
open Go.Op

abbrev Ext := ByteArray × ByteArray
abbrev Wr := ByteArray × Int × ByteArray
structure Dsk where
  size : Int
  E : List Ext
  W : List Wr
  fuse : Int
  down : Bool

/-- a name stands ahead of another -/
def nlt (a b : ByteArray) : Bool := bytesLess a.toList b.toList
theorem toList_data (s : ByteArray) : s.toList = s.data.toList := by obtain ⟨⟨l⟩⟩ := s; simp
theorem toList_inj {a b : ByteArray} (h : a.toList = b.toList) : a = b := by
  rw [toList_data, toList_data] at h
  exact ByteArray.ext (Array.toList_inj.1 h)
theorem less_irrefl : ∀ l : List UInt8, bytesLess l l = false
  | [] => rfl
  | a :: l => by
    have e : ¬ a < a := fun h => by have := UInt8.lt_iff_toNat_lt.1 h; omega
    simp [bytesLess, e, less_irrefl l]
theorem less_trans : ∀ {a b c : List UInt8}, bytesLess a b = true → bytesLess b c = true → bytesLess a c = true
  | [], _ :: _, [], _, h => by simp [bytesLess] at h
  | [], [], _, h, _ => by simp [bytesLess] at h
  | [], _ :: _, _ :: _, _, _ => rfl
  | _ :: _, [], _, h, _ => by simp [bytesLess] at h
  | _ :: _, _ :: _, [], _, h => by simp [bytesLess] at h
  | a :: x, b :: y, c :: z, h, k => by
    simp only [bytesLess, Bool.or_eq_true, Bool.and_eq_true, decide_eq_true_eq, beq_iff_eq] at h k ⊢
    rcases h with h | ⟨rfl, h⟩
    · rcases k with k | ⟨rfl, k⟩
      · exact .inl (UInt8.lt_iff_toNat_lt.2 (by have := UInt8.lt_iff_toNat_lt.1 h; have := UInt8.lt_iff_toNat_lt.1 k; omega))
      · exact .inl h
    · rcases k with k | ⟨rfl, k⟩
      · exact .inl k
      · exact .inr ⟨rfl, less_trans h k⟩
theorem less_total : ∀ {a b : List UInt8}, bytesLess a b = false → bytesLess b a = false → a = b
  | [], [], _, _ => rfl
  | [], _ :: _, h, _ => by simp [bytesLess] at h
  | _ :: _, [], _, h => by simp [bytesLess] at h
  | a :: x, b :: y, h, k => by
    simp only [bytesLess, Bool.or_eq_false_iff, Bool.and_eq_false_iff, decide_eq_false_iff_not, beq_eq_false_iff_ne] at h k
    have e : a = b := by
      apply UInt8.toNat_inj.1
      have h1 : ¬ a.toNat < b.toNat := fun q => h.1 (UInt8.lt_iff_toNat_lt.2 q)
      have h2 : ¬ b.toNat < a.toNat := fun q => k.1 (UInt8.lt_iff_toNat_lt.2 q)
      omega
    subst e
    rw [less_total (h.2.resolve_left (fun q => q rfl)) (k.2.resolve_left (fun q => q rfl))]
theorem nlt_irrefl (a : ByteArray) : nlt a a = false := less_irrefl _
theorem nlt_trans {a b c : ByteArray} (h : nlt a b = true) (k : nlt b c = true) : nlt a c = true := less_trans h k
theorem nlt_total {a b : ByteArray} (h : nlt a b = false) (k : nlt b a = false) : a = b := toList_inj (less_total h k)
theorem nlt_asymm {a b : ByteArray} (h : nlt a b = true) : nlt b a = false := by
  cases k : nlt b a with
  | false => rfl
  | true => have := nlt_trans h k; rw [nlt_irrefl] at this; cases this
theorem nlt_ne {a b : ByteArray} (h : nlt a b = true) : a ≠ b := by
  intro e; subst e; rw [nlt_irrefl] at h; cases h

/-- what Compare answers -/
def ncmp (a b : ByteArray) : Int := if nlt a b = true then -1 else if nlt b a = true then 1 else 0
theorem ncmp_lt (a b : ByteArray) : decide (ncmp a b < 0) = nlt a b := by
  unfold ncmp
  cases h : nlt a b with
  | true => rfl
  | false =>
    cases k : nlt b a with
    | true => rfl
    | false => rfl
theorem ncmp_zero (a b : ByteArray) : (ncmp a b == 0) = decide (a = b) := by
  unfold ncmp
  cases h : nlt a b with
  | true => rw [decide_eq_false (nlt_ne h)]; rfl
  | false =>
    cases k : nlt b a with
    | true => rw [decide_eq_false (fun e => nlt_ne k e.symm)]; rfl
    | false => rw [decide_eq_true (nlt_total h k)]; rfl

/-- names that rise from one on -/
def rising : ByteArray → List Ext → Prop
  | _, [] => True
  | a, x :: r => nlt a x.1 = true ∧ rising x.1 r
theorem rising_all : ∀ {a : ByteArray} {E : List Ext}, rising a E → ∀ x ∈ E, nlt a x.1 = true
  | _, [], _, _, h => absurd h (by simp)
  | a, y :: r, ⟨h, k⟩, x, hx => by
    rcases List.mem_cons.1 hx with rfl | hx
    · exact h
    · exact nlt_trans h (rising_all k x hx)
/-- each name stands ahead of those behind it -/
def Sorted (E : List Ext) : Prop := ∀ i j, i < j → j < E.length → nlt (E.getD i default).1 (E.getD j default).1 = true
theorem rising_sorted : ∀ {a : ByteArray} {E : List Ext}, rising a E → Sorted E
  | _, [], _, _, _, _, h => absurd h (by simp)
  | a, y :: r, ⟨h, k⟩, 0, 0, hij, _ => absurd hij (by omega)
  | a, y :: r, ⟨h, k⟩, i + 1, 0, hij, _ => absurd hij (by omega)
  | a, y :: r, ⟨h, k⟩, 0, j + 1, hij, hj => by
    have hj2 : j < r.length := by simpa using hj
    have := rising_all k (r.getD j default) (by rw [List.getD_eq_getElem?_getD, List.getElem?_eq_getElem hj2]; exact List.getElem_mem hj2)
    simpa using this
  | a, y :: r, ⟨h, k⟩, i + 1, j + 1, hij, hj => by
    have := rising_sorted k i j (by omega) (by simpa using hj)
    simpa using this

/-- how many names stand ahead -/
def pos (E : List Ext) (n : ByteArray) : Nat := (E.takeWhile fun x => nlt x.1 n).length
/-- the extent of a name -/
def look (E : List Ext) (n : ByteArray) : Option ByteArray := (E.find? fun x => decide (x.1 = n)).map (·.2)
def has (E : List Ext) (n : ByteArray) : Bool := E.any fun x => decide (x.1 = n)
theorem pos_le (E : List Ext) (n : ByteArray) : pos E n ≤ E.length := by
  unfold pos
  induction E with
  | nil => exact Nat.le_refl _
  | cons x E ih =>
    rw [List.takeWhile_cons]
    split
    · rw [List.length_cons, List.length_cons]; omega
    · simp
theorem pos_below : ∀ (E : List Ext) (n : ByteArray) (i : Nat), i < pos E n → nlt (E.getD i default).1 n = true
  | [], n, i, h => by simp [pos] at h
  | x :: E, n, i, h => by
    unfold pos at h
    rw [List.takeWhile_cons] at h
    split at h
    · rename_i hx
      cases i with
      | zero => simpa using hx
      | succ i =>
        have := pos_below E n i (by unfold pos; simpa using h)
        simpa using this
    · simp at h
theorem pos_at : ∀ (E : List Ext) (n : ByteArray), pos E n < E.length → nlt (E.getD (pos E n) default).1 n = false
  | [], n, h => by simp [pos] at h
  | x :: E, n, h => by
    unfold pos at h ⊢
    rw [List.takeWhile_cons] at h ⊢
    split at h
    · rename_i hx
      rw [if_pos hx]
      have := pos_at E n (by unfold pos; simpa using h)
      simpa [pos] using this
    · rename_i hx
      rw [if_neg hx]
      simpa using hx
theorem pos_of {E : List Ext} {n : ByteArray} {k : Nat} (hk : k ≤ E.length) (h1 : ∀ i, i < k → nlt (E.getD i default).1 n = true) (h2 : k < E.length → nlt (E.getD k default).1 n = false) : pos E n = k := by
  rcases Nat.lt_trichotomy (pos E n) k with h | h | h
  · have := pos_at E n (by omega)
    rw [h1 _ h] at this; cases this
  · exact h
  · have := pos_below E n k h
    rw [h2 (by have := pos_le E n; omega)] at this; cases this
/-- in sorted names those from there on are not ahead -/
theorem pos_from {E : List Ext} (hs : Sorted E) (n : ByteArray) (i : Nat) (h1 : pos E n ≤ i) (h2 : i < E.length) : nlt (E.getD i default).1 n = false := by
  have hp := pos_at E n (by omega)
  rcases Nat.lt_or_ge (pos E n) i with h | h
  · cases h3 : nlt (E.getD i default).1 n with
    | false => rfl
    | true => have := nlt_trans (hs _ _ h h2) h3; rw [hp] at this; cases this
  · have : i = pos E n := by omega
    rw [this]; exact hp
/-- whether the name is there -/
def isAt (E : List Ext) (n : ByteArray) : Bool := decide (pos E n < E.length) && decide ((E.getD (pos E n) default).1 = n)
theorem cmp_nlt : ∀ a b : List UInt8, Lib.compareBytes a b = if bytesLess a b = true then -1 else if bytesLess b a = true then 1 else 0
  | [], [] => rfl
  | [], _ :: _ => rfl
  | _ :: _, [] => rfl
  | a :: x, b :: y => by
    rw [Lib.compareBytes, bytesLess, bytesLess, cmp_nlt x y]
    by_cases h1 : a < b
    · simp [h1]
    · by_cases h2 : b < a
      · have e : ¬ a = b := fun h => by subst h; exact h1 h2
        have e2 : ¬ b = a := fun h => e h.symm
        simp [h1, h2, e]
      · have e : a = b := by
          apply UInt8.toNat_inj.1
          have q1 : ¬ a.toNat < b.toNat := fun q => h1 (UInt8.lt_iff_toNat_lt.2 q)
          have q2 : ¬ b.toNat < a.toNat := fun q => h2 (UInt8.lt_iff_toNat_lt.2 q)
          omega
        subst e
        simp [h1]
theorem ncmp_eq (a b : ByteArray) : Lib.compareBytes a.data.toList b.data.toList = ncmp a b := by
  rw [cmp_nlt, ← toList_data, ← toList_data]; rfl
end Go.Proofs.Ytgpheofdeflhdaa.Dk

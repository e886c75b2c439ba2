/- Plain facts of bits: lists of bits, bytes that hold them, numbers of them. No program in sight. -/
import Derived.WalkKit
import Derived.Laws.BitsAllLaws
namespace Go.Proofs.Ytgpheofdeflhdaa.Bt

/-- the i-th bit of some bytes; behind them none is 1 -/
def bitAt (l : List UInt8) (i : Nat) : Bool := (l.getD (i / 8) 0).toNat.testBit (7 - i % 8)
/-- the bytes l hold the bits X, and no other bit is 1 -/
def Packs (l : List UInt8) (X : List Bool) : Prop := l.length = (X.length + 7) / 8 ∧ ∀ i, bitAt l i = X.getD i false
/-- their number, the first one the highest -/
def num (X : List Bool) : Nat := X.foldl (fun a b => 2 * a + b.toNat) 0
/-- the w lowest bits of v -/
def nbits (v w : Nat) : List Bool := (List.range w).map (fun i => v.testBit (w - 1 - i))
/-- the first n bits -/
def bl (l : List UInt8) (n : Nat) : List Bool := (List.range n).map (bitAt l)
/-- bits are right -/
def Right (l : List UInt8) (n : Int) : Prop := 0 ≤ n ∧ n ≤ 1048576 ∧ l.length = (n.toNat + 7) / 8 ∧ ∀ i, i < 8 * l.length → n.toNat ≤ i → bitAt l i = false
instance (l : List UInt8) (n : Int) : Decidable (Right l n) := by unfold Right; infer_instance

theorem bitAt_nil (i : Nat) : bitAt [] i = false := by simp [bitAt]
theorem bitAt_past (l : List UInt8) (i : Nat) (h : 8 * l.length ≤ i) : bitAt l i = false := by
  have : l.length ≤ i / 8 := by omega
  simp [bitAt, List.getD_eq_getElem?_getD, List.getElem?_eq_none this]
theorem byte_ext {a b : UInt8} (h : ∀ k, k < 8 → a.toNat.testBit k = b.toNat.testBit k) : a = b := by
  apply UInt8.toNat_inj.1
  apply Nat.eq_of_testBit_eq
  intro i
  by_cases hi : i < 8
  · exact h i hi
  · have ha := a.toNat_lt
    have hb := b.toNat_lt
    have hp : (256 : Nat) ≤ 2 ^ i := by
      have := Nat.pow_le_pow_right (n := 2) (by decide) (show 8 ≤ i by omega)
      simpa using this
    rw [Nat.testBit_lt_two_pow (by omega), Nat.testBit_lt_two_pow (by omega)]
theorem Packs.inj {l m : List UInt8} {X : List Bool} (h : Packs l X) (k : Packs m X) : l = m := by
  apply List.ext_getElem (by rw [h.1, k.1])
  intro j hj hk
  apply byte_ext
  intro t ht
  have e1 := h.2 (8 * j + (7 - t))
  have e2 := k.2 (8 * j + (7 - t))
  rw [← e2] at e1
  unfold bitAt at e1
  rw [show (8 * j + (7 - t)) / 8 = j from by omega, show 7 - (8 * j + (7 - t)) % 8 = t from by omega] at e1
  simpa [List.getD_eq_getElem?_getD, hj, hk] using e1
theorem bl_length (l : List UInt8) (n : Nat) : (bl l n).length = n := by simp [bl]
theorem bl_getD (l : List UInt8) (n i : Nat) : (bl l n).getD i false = if i < n then bitAt l i else false := by
  unfold bl
  rw [List.getD_eq_getElem?_getD, List.getElem?_map]
  by_cases h : i < n
  · simp [h]
  · rw [if_neg h, List.getElem?_eq_none (by simp; omega)]; rfl
theorem Right.packs {l : List UInt8} {n : Int} (h : Right l n) : Packs l (bl l n.toNat) := by
  refine ⟨by rw [bl_length]; exact h.2.2.1, fun i => ?_⟩
  rw [bl_getD]
  by_cases hi : i < n.toNat
  · rw [if_pos hi]
  · rw [if_neg hi]
    by_cases h8 : i < 8 * l.length
    · exact h.2.2.2 i h8 (by omega)
    · exact bitAt_past l i (by omega)
theorem Packs.right {l : List UInt8} {X : List Bool} (h : Packs l X) (hx : X.length ≤ 1048576) : Right l X.length := by
  refine ⟨by omega, by omega, by rw [Int.toNat_natCast]; exact h.1, fun i _ hn => ?_⟩
  rw [Int.toNat_natCast] at hn
  rw [h.2 i, List.getD_eq_getElem?_getD, List.getElem?_eq_none hn]; rfl
theorem Packs.bitsOf {l : List UInt8} {X : List Bool} (h : Packs l X) : bl l X.length = X := by
  apply List.ext_getElem (by rw [bl_length])
  intro i hi hx
  have := h.2 i
  simp [bl, this, List.getD_eq_getElem?_getD, hx]

/-! numbers -/
theorem num_nil : num [] = 0 := rfl
theorem num_go (X : List Bool) : ∀ a, X.foldl (fun a b => 2 * a + b.toNat) a = a * 2 ^ X.length + num X := by
  induction X with
  | nil => intro a; simp [num]
  | cons b X ih =>
    intro a
    have h2 : num (b :: X) = b.toNat * 2 ^ X.length + num X := by
      show X.foldl _ (2 * 0 + b.toNat) = _
      rw [ih]; simp
    rw [List.foldl_cons, ih, h2, List.length_cons, Nat.pow_succ, Nat.add_mul]
    have : 2 * a * 2 ^ X.length = a * (2 ^ X.length * 2) := by rw [Nat.mul_comm 2 a, Nat.mul_assoc, Nat.mul_comm 2]
    omega
theorem num_append (X Y : List Bool) : num (X ++ Y) = num X * 2 ^ Y.length + num Y := by
  have := num_go Y (num X)
  rw [← this]; unfold num; rw [List.foldl_append]
theorem num_snoc (X : List Bool) (b : Bool) : num (X ++ [b]) = 2 * num X + b.toNat := by
  rw [num_append]; simp [num]; omega
theorem num_lt (X : List Bool) : num X < 2 ^ X.length := by
  rcases List.eq_nil_or_concat X with rfl | ⟨Y, b, rfl⟩
  · decide
  · rw [List.concat_eq_append, num_snoc]
    have := num_lt Y
    rw [List.length_append, List.length_singleton, Nat.pow_succ]
    cases b <;> simp <;> omega
termination_by X.length
decreasing_by all_goals simp_all
theorem nbits_length (v w : Nat) : (nbits v w).length = w := by simp [nbits]
theorem nbits_getD (v w i : Nat) : (nbits v w).getD i false = if i < w then v.testBit (w - 1 - i) else false := by
  unfold nbits
  rw [List.getD_eq_getElem?_getD, List.getElem?_map]
  by_cases h : i < w
  · simp [h]
  · rw [if_neg h, List.getElem?_eq_none (by simp; omega)]; rfl
theorem ext_getD {X Y : List Bool} (hl : X.length = Y.length) (h : ∀ i, i < X.length → X.getD i false = Y.getD i false) : X = Y := by
  apply List.ext_getElem hl
  intro i h1 h2
  have := h i h1
  simpa [List.getD_eq_getElem?_getD, h1, h2] using this
theorem nbits_succ (v w : Nat) : nbits v (w + 1) = nbits (v / 2) w ++ [v.testBit 0] := by
  apply ext_getD (by simp [nbits_length])
  intro i hi
  rw [nbits_length] at hi
  rw [nbits_getD, if_pos hi]
  by_cases h : i < w
  · rw [List.getD_eq_getElem?_getD, List.getElem?_append_left (by rw [nbits_length]; exact h), ← List.getD_eq_getElem?_getD, nbits_getD, if_pos h, Nat.testBit_div_two]
    congr 1; omega
  · have : i = w := by omega
    subst this
    rw [List.getD_eq_getElem?_getD, List.getElem?_append_right (by rw [nbits_length]; omega), nbits_length]
    simp
theorem num_nbits (w : Nat) : ∀ v, v < 2 ^ w → num (nbits v w) = v := by
  induction w with
  | zero => intro v h; simp at h; subst h; rfl
  | succ w ih =>
    intro v h
    rw [nbits_succ, num_snoc, ih (v / 2) (by rw [Nat.pow_succ] at h; omega), Nat.testBit_zero]
    by_cases hb : v % 2 = 1
    · simp [hb]; omega
    · simp [hb]; omega
/-- the first d of w bits, and the others -/
theorem nbits_split (v w d : Nat) (h : d ≤ w) : nbits v w = nbits (v / 2 ^ (w - d) % 2 ^ d) d ++ nbits v (w - d) := by
  apply ext_getD (by simp [nbits_length]; omega)
  intro i hi
  rw [nbits_length] at hi
  rw [nbits_getD, if_pos hi]
  by_cases hd : i < d
  · rw [List.getD_eq_getElem?_getD, List.getElem?_append_left (by rw [nbits_length]; exact hd), ← List.getD_eq_getElem?_getD, nbits_getD, if_pos hd, Nat.testBit_mod_two_pow, Nat.testBit_div_two_pow]
    rw [show d - 1 - i + (w - d) = w - 1 - i from by omega]
    simp; omega
  · rw [List.getD_eq_getElem?_getD, List.getElem?_append_right (by rw [nbits_length]; omega), nbits_length, ← List.getD_eq_getElem?_getD, nbits_getD, if_pos (by omega)]
    congr 1; omega

/-! more bits behind those that are there -/
theorem getD_snoc0 (l : List UInt8) (j : Nat) : (l ++ [0]).getD j 0 = l.getD j 0 := by
  rw [List.getD_eq_getElem?_getD, List.getD_eq_getElem?_getD]
  by_cases h : j < l.length
  · rw [List.getElem?_append_left h]
  · rw [List.getElem?_append_right (by omega), List.getElem?_eq_none (show l.length ≤ j by omega)]
    by_cases h0 : j - l.length = 0
    · rw [h0]; rfl
    · rw [List.getElem?_eq_none (by simp; omega)]
theorem getD_set8 (l : List UInt8) (i j : Nat) (x : UInt8) (hi : i < l.length) : (l.set i x).getD j 0 = if i = j then x else l.getD j 0 := by
  simp only [List.getD_eq_getElem?_getD, List.getElem?_set]
  by_cases h : i = j
  · subst h; simp [hi]
  · simp [h]
/-- a byte that has a part put to it -/
def orb (c : UInt8) (p : Nat) : UInt8 := UInt8.ofNat (c.toNat ||| (p % 256))
theorem orb_bit (c : UInt8) (p k : Nat) (hk : k < 8) : (orb c p).toNat.testBit k = (c.toNat.testBit k || p.testBit k) := by
  unfold orb
  have h1 : c.toNat ||| (p % 256) < 2 ^ 8 := Nat.or_lt_two_pow (by have := c.toNat_lt; omega) (by omega)
  have h2 : (UInt8.ofNat (c.toNat ||| (p % 256))).toNat = c.toNat ||| (p % 256) := by simp
  rw [h2, Nat.testBit_or, show (256 : Nat) = 2 ^ 8 from rfl, Nat.testBit_mod_two_pow]
  simp [hk]
theorem put_step {l l1 : List UInt8} {X : List Bool} (h : Packs l X) (p step : Nat) (hs : step ≤ 8 - X.length % 8) (h1 : 1 ≤ step) (hp : p < 2 ^ step)
    (hl1 : l1 = if X.length % 8 = 0 then l ++ [0] else l) :
    X.length / 8 < l1.length ∧ Packs (l1.set (X.length / 8) (orb (l1.getD (X.length / 8) 0) (p * 2 ^ (8 - X.length % 8 - step)))) (X ++ nbits p step) := by
  have hg : ∀ j, l1.getD j 0 = l.getD j 0 := fun j => by
    rw [hl1]; split
    · exact getD_snoc0 l j
    · rfl
  have hlen : l1.length = (X.length + step + 7) / 8 := by
    rw [hl1]; split
    · rw [List.length_append, h.1, List.length_singleton]; omega
    · rw [h.1]; omega
  have hin : X.length / 8 < l1.length := by rw [hlen]; omega
  refine ⟨hin, by rw [List.length_set, hlen, List.length_append, nbits_length], fun i => ?_⟩
  have hX : ∀ i, X.getD i false = bitAt l i := fun i => (h.2 i).symm
  have happ : (X ++ nbits p step).getD i false = if i < X.length then bitAt l i else if i < X.length + step then p.testBit (X.length + step - 1 - i) else false := by
    rw [List.getD_eq_getElem?_getD]
    by_cases hi : i < X.length
    · rw [if_pos hi, List.getElem?_append_left hi, ← List.getD_eq_getElem?_getD, hX]
    · rw [if_neg hi, List.getElem?_append_right (by omega), ← List.getD_eq_getElem?_getD, nbits_getD]
      by_cases hj : i < X.length + step
      · rw [if_pos hj, if_pos (by omega)]; congr 1; omega
      · rw [if_neg hj, if_neg (by omega)]
  rw [happ]
  have hnone : ∀ i, X.length ≤ i → bitAt l i = false := fun i hi => by rw [← hX, List.getD_eq_getElem?_getD, List.getElem?_eq_none hi]; rfl
  unfold bitAt at *
  rw [getD_set8 _ _ _ _ hin]
  by_cases hb : X.length / 8 = i / 8
  · rw [if_pos hb, orb_bit _ _ _ (by omega), hg, hb, ← Nat.shiftLeft_eq, Nat.testBit_shiftLeft]
    by_cases hi : i < X.length
    · rw [if_pos hi]
      have : (decide (7 - i % 8 ≥ 8 - X.length % 8 - step) && p.testBit (7 - i % 8 - (8 - X.length % 8 - step))) = false := by
        rw [Nat.testBit_lt_two_pow (Nat.lt_of_lt_of_le hp (Nat.pow_le_pow_right (by decide) (by omega)))]; simp
      rw [this, Bool.or_false]
    · rw [if_neg hi, hnone i (by omega), Bool.false_or]
      by_cases hj : i < X.length + step
      · rw [if_pos hj, show 7 - i % 8 - (8 - X.length % 8 - step) = X.length + step - 1 - i from by omega]
        simp; omega
      · rw [if_neg hj]; simp; omega
  · rw [if_neg hb, hg]
    by_cases hi : i < X.length
    · rw [if_pos hi]
    · rw [if_neg hi, hnone i (by omega), if_neg (by omega)]
end Go.Proofs.Ytgpheofdeflhdaa.Bt

/- BitMath BitWalkE BitWork BitLives -/
import Derived.WalkKit
import Derived.Laws.BitsAllLaws
import Derived.Test.YtjnehpkkkmicfaaRows
import Derived.Test.YtjnehpkkkmicfaaClone
import Derived.WalkSpells
import Derived.WalkLawsBesides
import Derived.Lib.Strings
import Derived.Lib.Hide
import Derived.Deep.QuietTactic
import Derived.BigQuiet
import Derived.Lib.AppendStr
import Derived.Lib.UnsafeStr
import Derived.RegionTactic
import Derived.ChangeAlike
import Derived.BigRegion
import Derived.OneCell
import Derived.Laws.IdiomStrings
import Derived.Deep.RegionHeld3
import Derived.Laws.StructEq
namespace Go.Proofs.Ytjnehpkkkmicfaa.Bt

/-- the i-th bit of some bytes; behind them none is 1 -/
def bitAt (l : List UInt8) (i : Nat) : Bool := (l.getD (i / 8) 0).toNat.testBit (7 - i % 8)
/-- the bytes l hold the bits X, and no other bit is 1 -/
def Packs (l : List UInt8) (X : List Bool) : Prop := l.length = (X.length + 7) / 8 ∧ ∀ i, bitAt l i = X.getD i false
/-- their number, the first one the highest -/
def num (X : List Bool) : Nat := X.foldl (fun a b => 2 * a + b.toNat) 0
/-- the w lowest bits of v -/
def nbits (v w : Nat) : List Bool := (List.range w).map (fun i => v.testBit (w - 1 - i))
/-- the first n bits -/
def bl (l : List UInt8) (n : Nat) : List Bool := (List.range n).map (bitAt l)
/-- bits are right -/
def Right (l : List UInt8) (n : Int) : Prop := 0 ≤ n ∧ n ≤ 1048576 ∧ l.length = (n.toNat + 7) / 8 ∧ ∀ i, i < 8 * l.length → n.toNat ≤ i → bitAt l i = false
instance (l : List UInt8) (n : Int) : Decidable (Right l n) := by unfold Right; infer_instance

theorem bitAt_nil (i : Nat) : bitAt [] i = false := by simp [bitAt]
theorem bitAt_past (l : List UInt8) (i : Nat) (h : 8 * l.length ≤ i) : bitAt l i = false := by
  have : l.length ≤ i / 8 := by omega
  simp [bitAt, List.getD_eq_getElem?_getD, List.getElem?_eq_none this]
theorem byte_ext {a b : UInt8} (h : ∀ k, k < 8 → a.toNat.testBit k = b.toNat.testBit k) : a = b := by
  apply UInt8.toNat_inj.1
  apply Nat.eq_of_testBit_eq
  intro i
  by_cases hi : i < 8
  · exact h i hi
  · have ha := a.toNat_lt
    have hb := b.toNat_lt
    have hp : (256 : Nat) ≤ 2 ^ i := by
      have := Nat.pow_le_pow_right (n := 2) (by decide) (show 8 ≤ i by omega)
      simpa using this
    rw [Nat.testBit_lt_two_pow (by omega), Nat.testBit_lt_two_pow (by omega)]
theorem Packs.inj {l m : List UInt8} {X : List Bool} (h : Packs l X) (k : Packs m X) : l = m := by
  apply List.ext_getElem (by rw [h.1, k.1])
  intro j hj hk
  apply byte_ext
  intro t ht
  have e1 := h.2 (8 * j + (7 - t))
  have e2 := k.2 (8 * j + (7 - t))
  rw [← e2] at e1
  unfold bitAt at e1
  rw [show (8 * j + (7 - t)) / 8 = j from by omega, show 7 - (8 * j + (7 - t)) % 8 = t from by omega] at e1
  simpa [List.getD_eq_getElem?_getD, hj, hk] using e1
theorem bl_length (l : List UInt8) (n : Nat) : (bl l n).length = n := by simp [bl]
theorem bl_getD (l : List UInt8) (n i : Nat) : (bl l n).getD i false = if i < n then bitAt l i else false := by
  unfold bl
  rw [List.getD_eq_getElem?_getD, List.getElem?_map]
  by_cases h : i < n
  · simp [h]
  · rw [if_neg h, List.getElem?_eq_none (by simp; omega)]; rfl
theorem Right.packs {l : List UInt8} {n : Int} (h : Right l n) : Packs l (bl l n.toNat) := by
  refine ⟨by rw [bl_length]; exact h.2.2.1, fun i => ?_⟩
  rw [bl_getD]
  by_cases hi : i < n.toNat
  · rw [if_pos hi]
  · rw [if_neg hi]
    by_cases h8 : i < 8 * l.length
    · exact h.2.2.2 i h8 (by omega)
    · exact bitAt_past l i (by omega)
theorem Packs.right {l : List UInt8} {X : List Bool} (h : Packs l X) (hx : X.length ≤ 1048576) : Right l X.length := by
  refine ⟨by omega, by omega, by rw [Int.toNat_natCast]; exact h.1, fun i _ hn => ?_⟩
  rw [Int.toNat_natCast] at hn
  rw [h.2 i, List.getD_eq_getElem?_getD, List.getElem?_eq_none hn]; rfl
theorem Packs.bitsOf {l : List UInt8} {X : List Bool} (h : Packs l X) : bl l X.length = X := by
  apply List.ext_getElem (by rw [bl_length])
  intro i hi hx
  have := h.2 i
  simp [bl, this, List.getD_eq_getElem?_getD, hx]

/-! numbers -/
theorem num_nil : num [] = 0 := rfl
theorem num_go (X : List Bool) : ∀ a, X.foldl (fun a b => 2 * a + b.toNat) a = a * 2 ^ X.length + num X := by
  induction X with
  | nil => intro a; simp [num]
  | cons b X ih =>
    intro a
    have h2 : num (b :: X) = b.toNat * 2 ^ X.length + num X := by
      show X.foldl _ (2 * 0 + b.toNat) = _
      rw [ih]; simp
    rw [List.foldl_cons, ih, h2, List.length_cons, Nat.pow_succ, Nat.add_mul]
    have : 2 * a * 2 ^ X.length = a * (2 ^ X.length * 2) := by rw [Nat.mul_comm 2 a, Nat.mul_assoc, Nat.mul_comm 2]
    omega
theorem num_append (X Y : List Bool) : num (X ++ Y) = num X * 2 ^ Y.length + num Y := by
  have := num_go Y (num X)
  rw [← this]; unfold num; rw [List.foldl_append]
theorem num_snoc (X : List Bool) (b : Bool) : num (X ++ [b]) = 2 * num X + b.toNat := by
  rw [num_append]; simp [num]; omega
theorem num_lt (X : List Bool) : num X < 2 ^ X.length := by
  rcases List.eq_nil_or_concat X with rfl | ⟨Y, b, rfl⟩
  · decide
  · rw [List.concat_eq_append, num_snoc]
    have := num_lt Y
    rw [List.length_append, List.length_singleton, Nat.pow_succ]
    cases b <;> simp <;> omega
termination_by X.length
decreasing_by all_goals simp_all
theorem nbits_length (v w : Nat) : (nbits v w).length = w := by simp [nbits]
theorem nbits_getD (v w i : Nat) : (nbits v w).getD i false = if i < w then v.testBit (w - 1 - i) else false := by
  unfold nbits
  rw [List.getD_eq_getElem?_getD, List.getElem?_map]
  by_cases h : i < w
  · simp [h]
  · rw [if_neg h, List.getElem?_eq_none (by simp; omega)]; rfl
theorem ext_getD {X Y : List Bool} (hl : X.length = Y.length) (h : ∀ i, i < X.length → X.getD i false = Y.getD i false) : X = Y := by
  apply List.ext_getElem hl
  intro i h1 h2
  have := h i h1
  simpa [List.getD_eq_getElem?_getD, h1, h2] using this
theorem nbits_succ (v w : Nat) : nbits v (w + 1) = nbits (v / 2) w ++ [v.testBit 0] := by
  apply ext_getD (by simp [nbits_length])
  intro i hi
  rw [nbits_length] at hi
  rw [nbits_getD, if_pos hi]
  by_cases h : i < w
  · rw [List.getD_eq_getElem?_getD, List.getElem?_append_left (by rw [nbits_length]; exact h), ← List.getD_eq_getElem?_getD, nbits_getD, if_pos h, Nat.testBit_div_two]
    congr 1; omega
  · have : i = w := by omega
    subst this
    rw [List.getD_eq_getElem?_getD, List.getElem?_append_right (by rw [nbits_length]; omega), nbits_length]
    simp
theorem num_nbits (w : Nat) : ∀ v, v < 2 ^ w → num (nbits v w) = v := by
  induction w with
  | zero => intro v h; simp at h; subst h; rfl
  | succ w ih =>
    intro v h
    rw [nbits_succ, num_snoc, ih (v / 2) (by rw [Nat.pow_succ] at h; omega), Nat.testBit_zero]
    by_cases hb : v % 2 = 1
    · simp [hb]; omega
    · simp [hb]; omega
/-- the first d of w bits, and the others -/
theorem nbits_split (v w d : Nat) (h : d ≤ w) : nbits v w = nbits (v / 2 ^ (w - d) % 2 ^ d) d ++ nbits v (w - d) := by
  apply ext_getD (by simp [nbits_length]; omega)
  intro i hi
  rw [nbits_length] at hi
  rw [nbits_getD, if_pos hi]
  by_cases hd : i < d
  · rw [List.getD_eq_getElem?_getD, List.getElem?_append_left (by rw [nbits_length]; exact hd), ← List.getD_eq_getElem?_getD, nbits_getD, if_pos hd, Nat.testBit_mod_two_pow, Nat.testBit_div_two_pow]
    rw [show d - 1 - i + (w - d) = w - 1 - i from by omega]
    simp; omega
  · rw [List.getD_eq_getElem?_getD, List.getElem?_append_right (by rw [nbits_length]; omega), nbits_length, ← List.getD_eq_getElem?_getD, nbits_getD, if_pos (by omega)]
    congr 1; omega

/-! more bits behind those that are there -/
theorem getD_snoc0 (l : List UInt8) (j : Nat) : (l ++ [0]).getD j 0 = l.getD j 0 := by
  rw [List.getD_eq_getElem?_getD, List.getD_eq_getElem?_getD]
  by_cases h : j < l.length
  · rw [List.getElem?_append_left h]
  · rw [List.getElem?_append_right (by omega), List.getElem?_eq_none (show l.length ≤ j by omega)]
    by_cases h0 : j - l.length = 0
    · rw [h0]; rfl
    · rw [List.getElem?_eq_none (by simp; omega)]
theorem getD_set8 (l : List UInt8) (i j : Nat) (x : UInt8) (hi : i < l.length) : (l.set i x).getD j 0 = if i = j then x else l.getD j 0 := by
  simp only [List.getD_eq_getElem?_getD, List.getElem?_set]
  by_cases h : i = j
  · subst h; simp [hi]
  · simp [h]
/-- a byte that has a part put to it -/
def orb (c : UInt8) (p : Nat) : UInt8 := UInt8.ofNat (c.toNat ||| (p % 256))
theorem orb_bit (c : UInt8) (p k : Nat) (hk : k < 8) : (orb c p).toNat.testBit k = (c.toNat.testBit k || p.testBit k) := by
  unfold orb
  have h1 : c.toNat ||| (p % 256) < 2 ^ 8 := Nat.or_lt_two_pow (by have := c.toNat_lt; omega) (by omega)
  have h2 : (UInt8.ofNat (c.toNat ||| (p % 256))).toNat = c.toNat ||| (p % 256) := by simp
  rw [h2, Nat.testBit_or, show (256 : Nat) = 2 ^ 8 from rfl, Nat.testBit_mod_two_pow]
  simp [hk]
theorem put_step {l l1 : List UInt8} {X : List Bool} (h : Packs l X) (p step : Nat) (hs : step ≤ 8 - X.length % 8) (h1 : 1 ≤ step) (hp : p < 2 ^ step)
    (hl1 : l1 = if X.length % 8 = 0 then l ++ [0] else l) :
    X.length / 8 < l1.length ∧ Packs (l1.set (X.length / 8) (orb (l1.getD (X.length / 8) 0) (p * 2 ^ (8 - X.length % 8 - step)))) (X ++ nbits p step) := by
  have hg : ∀ j, l1.getD j 0 = l.getD j 0 := fun j => by
    rw [hl1]; split
    · exact getD_snoc0 l j
    · rfl
  have hlen : l1.length = (X.length + step + 7) / 8 := by
    rw [hl1]; split
    · rw [List.length_append, h.1, List.length_singleton]; omega
    · rw [h.1]; omega
  have hin : X.length / 8 < l1.length := by rw [hlen]; omega
  refine ⟨hin, by rw [List.length_set, hlen, List.length_append, nbits_length], fun i => ?_⟩
  have hX : ∀ i, X.getD i false = bitAt l i := fun i => (h.2 i).symm
  have happ : (X ++ nbits p step).getD i false = if i < X.length then bitAt l i else if i < X.length + step then p.testBit (X.length + step - 1 - i) else false := by
    rw [List.getD_eq_getElem?_getD]
    by_cases hi : i < X.length
    · rw [if_pos hi, List.getElem?_append_left hi, ← List.getD_eq_getElem?_getD, hX]
    · rw [if_neg hi, List.getElem?_append_right (by omega), ← List.getD_eq_getElem?_getD, nbits_getD]
      by_cases hj : i < X.length + step
      · rw [if_pos hj, if_pos (by omega)]; congr 1; omega
      · rw [if_neg hj, if_neg (by omega)]
  rw [happ]
  have hnone : ∀ i, X.length ≤ i → bitAt l i = false := fun i hi => by rw [← hX, List.getD_eq_getElem?_getD, List.getElem?_eq_none hi]; rfl
  unfold bitAt at *
  rw [getD_set8 _ _ _ _ hin]
  by_cases hb : X.length / 8 = i / 8
  · rw [if_pos hb, orb_bit _ _ _ (by omega), hg, hb, ← Nat.shiftLeft_eq, Nat.testBit_shiftLeft]
    by_cases hi : i < X.length
    · rw [if_pos hi]
      have : (decide (7 - i % 8 ≥ 8 - X.length % 8 - step) && p.testBit (7 - i % 8 - (8 - X.length % 8 - step))) = false := by
        rw [Nat.testBit_lt_two_pow (Nat.lt_of_lt_of_le hp (Nat.pow_le_pow_right (by decide) (by omega)))]; simp
      rw [this, Bool.or_false]
    · rw [if_neg hi, hnone i (by omega), Bool.false_or]
      by_cases hj : i < X.length + step
      · rw [if_pos hj, show 7 - i % 8 - (8 - X.length % 8 - step) = X.length + step - 1 - i from by omega]
        simp; omega
      · rw [if_neg hj]; simp; omega
  · rw [if_neg hb, hg]
    by_cases hi : i < X.length
    · rw [if_pos hi]
    · rw [if_neg hi, hnone i (by omega), if_neg (by omega)]
end Go.Proofs.Ytjnehpkkkmicfaa.Bt
namespace Go.Proofs.Ytjnehpkkkmicfaa.Bt
open Go.RowKit

def bytes (s : ByteArray) : List UInt8 := s.data.toList
theorem bytes_len (s : ByteArray) : (bytes s).length = s.size := (Lib.size_eq s).symm
theorem getD_bytes (s : ByteArray) (k : Nat) (h : k < s.size) : (bytes s).getD k 0 = s[k] := by
  unfold bytes
  rw [List.getD_eq_getElem?_getD, List.getElem?_eq_getElem (by simpa using h)]; rfl
/-- what Check answers -/
def chk (s : ByteArray) (n : Int) : Int := if Right (bytes s) n then 0 else 2
theorem ret_int {k : IntKind} {a b : Int} (h : a = b) : Ending.returned (.int k a) = .returned (.int k b) := by rw [h]

theorem bytesFor_any (n : Int) (h0 : 0 ≤ n) (h1 : n ≤ 2000000) (w : World) :
    Calls Try.prog 63 #[.int .i64 n] w fun e w' => e = .returned (.int .i64 ((n + 7) / 8)) ∧ w = w' := by
  go_enter Try.func63, Try.ntmps63
  go_wp2
  go_ret
  exact ⟨rfl, rfl⟩

/-- the last byte's shape: shifted by the bits that count it is 0 just if the others are -/
theorem last_zero (c : UInt8) (t : Nat) (ht : t < 8) : (c.toNat * 2 ^ t % 256 = 0) ↔ ∀ k, k < 8 → t ≤ k → c.toNat.testBit (7 - k) = false := by
  constructor
  · intro h k hk htk
    have e : (c.toNat * 2 ^ t % 256).testBit (7 - k + t) = false := by rw [h]; simp
    rw [show (256 : Nat) = 2 ^ 8 from rfl, Nat.testBit_mod_two_pow, ← Nat.shiftLeft_eq, Nat.testBit_shiftLeft] at e
    have h1 : decide (7 - k + t < 8) = true := by simp; omega
    have h2 : decide (7 - k + t ≥ t) = true := by simp
    rw [h1, h2, Bool.true_and, Bool.true_and, show 7 - k + t - t = 7 - k from by omega] at e
    exact e
  · intro h
    apply Nat.eq_of_testBit_eq
    intro i
    rw [show (256 : Nat) = 2 ^ 8 from rfl, Nat.testBit_mod_two_pow, ← Nat.shiftLeft_eq, Nat.testBit_shiftLeft, Nat.zero_testBit]
    by_cases hi : i < 8
    · by_cases hit : t ≤ i
      · have := h (7 - (i - t)) (by omega) (by omega)
        rw [show 7 - (7 - (i - t)) = i - t from by omega] at this
        rw [this]; simp
      · have : decide (i ≥ t) = false := by simp; omega
        rw [this]; simp
    · have : decide (i < 8) = false := by simp; omega
      rw [this]; simp
theorem right_iff (s : ByteArray) (n : Nat) (hn : n ≤ 1048576) (hs : s.size = (n + 7) / 8) (h8 : n % 8 ≠ 0) : Right (bytes s) (n : Int) ↔ ((bytes s).getD (s.size - 1) 0).toNat * 2 ^ (n % 8) % 256 = 0 := by
  rw [last_zero _ _ (by omega)]
  constructor
  · intro h k hk hkt
    have := h.2.2.2 (8 * (s.size - 1) + k) (by rw [bytes_len]; omega) (by simp; omega)
    unfold bitAt at this
    rw [show (8 * (s.size - 1) + k) / 8 = s.size - 1 from by omega, show 7 - (8 * (s.size - 1) + k) % 8 = 7 - k from by omega] at this
    exact this
  · intro h
    refine ⟨by omega, by omega, by rw [bytes_len, hs]; simp, fun i hi hni => ?_⟩
    rw [bytes_len] at hi
    simp at hni
    unfold bitAt
    rw [show i / 8 = s.size - 1 from by omega]
    have := h (i % 8) (by omega) (by omega)
    exact this
theorem right_full (s : ByteArray) (n : Nat) (hn : n ≤ 1048576) (hs : s.size = (n + 7) / 8) (h8 : n % 8 = 0) : Right (bytes s) (n : Int) :=
  ⟨by omega, by omega, by rw [bytes_len, hs]; simp, fun i hi hni => by rw [bytes_len] at hi; simp at hni; omega⟩

theorem byte_cast (x t : Nat) : ((x * 2 ^ t % 256 : Nat) : Int) = (x : Int) * 2 ^ t % 256 := by simp
theorem quiet_same {P : Program} {f : FuncId} {args : Array Value} {w : World} {n : Nat} {v : Value}
    (h : Calls P f args (w.drewN n) fun e w' => e = .returned v ∧ w.drewN n = w') : Calls P f args (w.drewN n) fun e w'' => e = .returned v ∧ ∃ m, w'' = w.drewN m :=
  h.mono fun _ _ ⟨he, hm⟩ => ⟨he, n, hm.symm⟩

set_option maxHeartbeats 1000000 in
theorem check_any (s : ByteArray) (n : Int) (w : World) (hs : s.size ≤ maxLen) :
    Calls Try.prog 41 #[.agg #[.string s, .int .i64 n]] w fun e w' => e = .returned (.int .i64 (chk s n)) ∧ Below w.heap.size w w' := by
  unfold maxLen at hs
  have hbx : Below w.heap.size w (w.alloc (.cells #[.string s, .int .i64 n] 35)) := (Below.refl _ _).alloc (Nat.le_refl _) _
  by_cases h1 : n < 0
  · have F : Hid (2 = chk s n) := Lib.hid (if_neg (fun h => by have := h.1; omega)).symm
    go_enter Try.func41, Try.ntmps41
    go_wp2_with fail
    go_quiet (fail)
    go_wp2_with fail
    go_ret
    exact ⟨ret_int F.out, below_drewN hbx _⟩
  by_cases h2 : 1048576 < n
  · have F : Hid (2 = chk s n) := Lib.hid (if_neg (fun h => by have := h.2.1; omega)).symm
    have d1 : decide (n < 0) = false := decide_eq_false h1
    go_enter Try.func41, Try.ntmps41
    go_wp2_with fail
    go_quiet (fail)
    go_wp2_with fail
    go_ret
    exact ⟨ret_int F.out, below_drewN hbx _⟩
  obtain ⟨m, rfl⟩ := Int.eq_ofNat_of_zero_le (show 0 ≤ n by omega)
  have hm : m ≤ 1048576 := by omega
  have d2 : decide ((1048576 : Int) < (m : Int)) = false := by simp; omega
  have d1 : decide ((m : Int) < 0) = false := by simp
  by_cases h3 : s.size = (m + 7) / 8
  case neg =>
    have F : Hid (2 = chk s m) := Lib.hid (if_neg (fun h => by have := h.2.2.1; rw [bytes_len] at this; simp at this; exact h3 this)).symm
    have d3 : ((s.size : Int) != ((m : Int) + 7) / 8) = true := by rw [bne_iff_ne]; omega
    clear h3
    go_enter Try.func41, Try.ntmps41
    go_wp2_with fail
    go_quiet ((go_at_call 63; exact quiet_same (bytesFor_any _ (by omega) (by omega) _)))
    go_wp2_with fail
    go_ret
    exact ⟨ret_int F.out, below_drewN hbx _⟩
  have d3 : ((s.size : Int) != ((m : Int) + 7) / 8) = false := by rw [bne_eq_false_iff_eq]; omega
  by_cases h8 : m % 8 = 0
  · have F : Hid (0 = chk s m) := Lib.hid (if_pos (right_full s m hm h3 h8)).symm
    have d4 : ((m : Int) % 8 != 0) = false := by rw [bne_eq_false_iff_eq]; omega
    clear h3 h8
    go_enter Try.func41, Try.ntmps41
    go_wp2_with fail
    go_quiet ((go_at_call 63; exact quiet_same (bytesFor_any _ (by omega) (by omega) _)))
    go_wp2_with fail
    go_ret
    exact ⟨ret_int F.out, below_drewN hbx _⟩
  have d4 : ((m : Int) % 8 != 0) = true := by rw [bne_iff_ne]; omega
  have l1 : 1 ≤ s.size := by omega
  have l2 : (0 : Int) ≤ (s.size : Int) - 1 := by omega
  have l3 : ((s.size : Int) - 1).toNat = s.size - 1 := by omega
  have l4 : s.size - 1 < s.size := by omega
  obtain ⟨c, hc⟩ : ∃ c, c = s[s.size - 1] := ⟨_, rfl⟩
  have hg := getD_bytes s (s.size - 1) l4
  by_cases h0 : ((bytes s).getD (s.size - 1) 0).toNat * 2 ^ (m % 8) % 256 = 0
  · have F : Hid (0 = chk s m) := Lib.hid (if_pos ((right_iff s m hm h3 h8).2 h0)).symm
    rw [hg] at h0
    have d5 : ((s[s.size - 1].toNat : Int) * 2 ^ (m % 8) % 256 != 0) = false := by
      have e := byte_cast s[s.size - 1].toNat (m % 8)
      rw [bne_eq_false_iff_eq, ← e, h0]; rfl
    clear h3 h8 hg hc h0
    go_enter Try.func41, Try.ntmps41
    go_wp2_with fail
    go_quiet ((go_at_call 63; exact quiet_same (bytesFor_any _ (by omega) (by omega) _)))
    go_wp2_with fail
    go_ret
    exact ⟨ret_int F.out, below_drewN hbx _⟩
  · have F : Hid (2 = chk s m) := Lib.hid (if_neg (fun h => h0 ((right_iff s m hm h3 h8).1 h))).symm
    rw [hg] at h0
    have d5 : ((s[s.size - 1].toNat : Int) * 2 ^ (m % 8) % 256 != 0) = true := by
      have e := byte_cast s[s.size - 1].toNat (m % 8)
      rw [bne_iff_ne, ← e]; omega
    clear h3 h8 hg hc h0
    go_enter Try.func41, Try.ntmps41
    go_wp2_with fail
    go_quiet ((go_at_call 63; exact quiet_same (bytesFor_any _ (by omega) (by omega) _)))
    go_wp2_with fail
    go_ret
    exact ⟨ret_int F.out, below_drewN hbx _⟩
end Go.Proofs.Ytjnehpkkkmicfaa.Bt
namespace Go.Proofs.Ytjnehpkkkmicfaa.Bt
open Go.RowKit

theorem get_step {l : List UInt8} {X : List Bool} (h : Packs l X) (a step : Nat) (hs : step ≤ 8 - a % 8) (hin : a + step ≤ X.length) :
    (X.drop a).take step = nbits ((l.getD (a / 8) 0).toNat / 2 ^ (8 - a % 8 - step) % 2 ^ step) step := by
  apply ext_getD (by rw [List.length_take, List.length_drop, nbits_length]; omega)
  intro i hi
  rw [List.length_take, List.length_drop] at hi
  have e1 : ((X.drop a).take step).getD i false = X.getD (a + i) false := by
    rw [List.getD_eq_getElem?_getD, List.getElem?_take, if_pos (by omega), List.getElem?_drop, ← List.getD_eq_getElem?_getD]
  rw [e1, ← h.2, nbits_getD, if_pos (by omega), Nat.testBit_mod_two_pow, Nat.testBit_div_two_pow]
  unfold bitAt
  rw [show (a + i) / 8 = a / 8 from by omega, show step - 1 - i + (8 - a % 8 - step) = 7 - (a + i) % 8 from by omega]
  simp; omega
theorem take_add (X : List Bool) (a d k : Nat) : (X.drop a).take (d + k) = (X.drop a).take d ++ (X.drop (a + d)).take k := by
  rw [List.take_add, List.drop_drop]
/-- the number goes on by a step -/
theorem num_step {l : List UInt8} {X : List Bool} (h : Packs l X) (a d step : Nat) (hs : step ≤ 8 - (a + d) % 8) (hin : a + d + step ≤ X.length) :
    num ((X.drop a).take (d + step)) = num ((X.drop a).take d) * 2 ^ step + (l.getD ((a + d) / 8) 0).toNat / 2 ^ (8 - (a + d) % 8 - step) % 2 ^ step := by
  rw [take_add, num_append, get_step h (a + d) step hs hin, nbits_length, num_nbits _ _ (Nat.mod_lt _ (Nat.two_pow_pos step))]
theorem num_take_lt (X : List Bool) (a d : Nat) : num ((X.drop a).take d) < 2 ^ d :=
  Nat.lt_of_lt_of_le (num_lt _) (Nat.pow_le_pow_right (by decide) (by rw [List.length_take]; omega))

theorem wrap_u64 (n : Int) : IntKind.u64.wrap n = n % 18446744073709551616 := by simp [IntKind.wrap, IntKind.bits, IntKind.signed]
theorem wrap_nat {n : Nat} (h : n < 18446744073709551616) : IntKind.u64.wrap (n : Int) = (n : Int) := by rw [wrap_u64]; omega
theorem pow_small {k : Nat} (h : k ≤ 8) : 2 ^ k ≤ 256 := by have := Nat.pow_le_pow_right (n := 2) (by decide) h; simpa using this
/-- a number with more bits behind it -/
theorem num_val (v d step sh : Nat) (c : UInt8) (hv : v < 2 ^ d) (hd : d + step ≤ 64) (hs : step ≤ 8) :
    bits .or .u64 (IntKind.u64.wrap ((v : Int) * 2 ^ step)) (bits .and .u64 (IntKind.u64.wrap (c.toNat : Int) / 2 ^ sh) (IntKind.u64.wrap (IntKind.u64.wrap (2 ^ step) - 1))) = ((v * 2 ^ step + c.toNat / 2 ^ sh % 2 ^ step : Nat) : Int) := by
  have hc := c.toNat_lt
  have hp := pow_small hs
  have hp1 := Nat.two_pow_pos step
  have hvs : v * 2 ^ step < 18446744073709551616 := by
    have h1 : v * 2 ^ step < 2 ^ d * 2 ^ step := Nat.mul_lt_mul_of_pos_right hv hp1
    rw [← Nat.pow_add] at h1
    have h2 := Nat.pow_le_pow_right (n := 2) (by decide) hd
    have h3 : (2 : Nat) ^ 64 = 18446744073709551616 := by decide
    omega
  have e1 : ((v : Int) * 2 ^ step) = ((v * 2 ^ step : Nat) : Int) := by simp
  have e2 : (c.toNat : Int) / 2 ^ sh = ((c.toNat / 2 ^ sh : Nat) : Int) := by simp
  have e3 : (2 : Int) ^ step = ((2 ^ step : Nat) : Int) := by simp
  have e4 : ((2 ^ step : Nat) : Int) - 1 = ((2 ^ step - 1 : Nat) : Int) := by omega
  have hcs : c.toNat / 2 ^ sh ≤ c.toNat := Nat.div_le_self _ _
  have hr : c.toNat / 2 ^ sh % 2 ^ step < 2 ^ step := Nat.mod_lt _ hp1
  rw [e1, wrap_nat hvs, wrap_nat (by omega), e2, e3, wrap_nat (by omega), e4, wrap_nat (by omega), u64_and_nat _ _ (by omega) (by omega), Nat.and_two_pow_sub_one_eq_mod, u64_or_nat _ _ hvs (by omega)]
  rw [nat_join step (v * 2 ^ step) (c.toNat / 2 ^ sh % 2 ^ step) (Nat.mul_mod_left _ _) hr]

set_option maxHeartbeats 2000000 in
theorem number_any (s : ByteArray) (n a r : Int) (X : List Bool) (hX : Packs (bytes s) X) (hn : X.length ≤ 1048576) (h0 : 0 ≤ a) (h1 : 0 ≤ r) (h2 : r ≤ 64) (h3 : a + r ≤ X.length) (w : World) :
    Calls Try.prog 68 #[.agg #[.string s, .int .i64 n], .int .i64 a, .int .i64 r] w fun e w' => e = .returned (.int .u64 (num ((X.drop a.toNat).take r.toNat) : Nat)) ∧ Below w.heap.size w w' := by
  obtain ⟨a, rfl⟩ := Int.eq_ofNat_of_zero_le h0
  obtain ⟨r, rfl⟩ := Int.eq_ofNat_of_zero_le h1
  rw [Int.toNat_natCast, Int.toNat_natCast]
  have hbx : Below w.heap.size w (w.alloc (.cells #[.string s, .int .i64 n] 35)) := (Below.refl _ _).alloc (Nat.le_refl _) _
  have hsz : s.size = (X.length + 7) / 8 := by rw [← bytes_len]; exact hX.1
  clear h0 h1
  have h2' : r ≤ 64 := by omega
  have h3' : a + r ≤ X.length := by omega
  have HX := Lib.hid hX; clear hX h2 h3
  go_enter Try.func68, Try.ntmps68
  go_wp2_with fail
  go_loopw [7, 1, 2, 8, 9, 10] (fun v at' rr _ _ _ wr => ∃ d : Nat, d ≤ r ∧ at' = .int .i64 (a + d : Nat) ∧ rr = .int .i64 (r - d : Nat) ∧ v = .int .u64 (num ((X.drop a).take d) : Nat) ∧ wr.cell? ⟨w.heap.size, 0, none⟩ = some (.string s) ∧ Below w.heap.size w wr) (fun _ _ rr _ _ _ _ => (intOf rr).toNat)
  case atStart => exact ⟨0, by omega, rfl, rfl, rfl, by simp, hbx⟩
  case round =>
    obtain ⟨d, hd, rfl, rfl, rfl, hcell, hbl⟩ := hrel
    by_cases hlt : d < r
    · obtain ⟨p, hp⟩ : ∃ p, p = a + d := ⟨_, rfl⟩
      obtain ⟨q, hq⟩ : ∃ q, q = r - d := ⟨_, rfl⟩
      obtain ⟨left, hleft⟩ : ∃ left, left = 8 - p % 8 := ⟨_, rfl⟩
      obtain ⟨step, hstep⟩ : ∃ step, step = min left q := ⟨_, rfl⟩
      obtain ⟨m, hm⟩ : ∃ m, m = p / 8 := ⟨_, rfl⟩
      have hl8 : m < s.size := by omega
      have hns := num_step HX.out a d step (by omega) (by omega)
      have hvl := num_take_lt X a d
      rw [← hp, ← hm] at hns
      have hgc := getD_bytes s m hl8
      rw [hgc] at hns
      obtain ⟨v, hv⟩ : ∃ v, v = num ((X.drop a).take d) := ⟨_, rfl⟩
      rw [← hv] at hns hvl
      have e1 : (8 : Int) - (p : Int) % 8 = (left : Int) := by omega
      have e2 : min (left : Int) (q : Int) = (step : Int) := by omega
      obtain ⟨sh, hsh⟩ : ∃ sh, sh = left - step := ⟨_, rfl⟩
      have e3 : (left : Int) - (step : Int) = (sh : Int) := by omega
      have e4 : IntKind.i64.wrap ((left : Int) - (step : Int)) = (sh : Int) := by rw [e3]; exact IntWalk.i64_in _ (by omega)
      have e5 : IntKind.i64.wrap (sh : Int) = (sh : Int) := IntWalk.i64_in _ (by omega)
      have e6 : (p : Int) / 8 = (m : Int) := by omega
      have e7 : (p : Int).tdiv 8 = (m : Int) := by rw [Int.tdiv_eq_ediv_of_nonneg (by omega)]; exact e6
      have e8 : IntKind.i64.wrap ((p : Int) / 8) = (m : Int) := by rw [e6]; exact IntWalk.i64_in _ (by omega)
      have e9 : IntKind.i64.wrap (m : Int) = (m : Int) := IntWalk.i64_in _ (by omega)
      have i0 : (0 : Int) ≤ (m : Int) := by omega
      have i1 : (m : Int) < (s.size : Int) := by omega
      have hq0 : 0 < q := by omega
      have hp2 : p ≤ 1048576 := by omega
      have hq2 : q ≤ 64 := by omega
      have hsq : step ≤ q := by omega
      have hds : d + step ≤ 64 := by omega
      have hval := num_val v d step sh s[m] hvl hds (by omega)
      rw [hsh, hleft] at hval
      rw [← hns] at hval
      rw [← hleft, ← hsh] at hval
      have HVAL := Lib.hid hval
      have HD : Hid (d + step ≤ r) := Lib.hid (by omega)
      have hst8 : step ≤ 8 := by omega
      have hsh8 : sh ≤ 8 := by omega
      have hs1 : 1 ≤ step := by omega
      clear hgc hns hvl hleft hstep hsh hm hval hds
      rw [← hv, ← hp, ← hq]
      have HP := Lib.hid hp; have HQ := Lib.hid hq; have HV := Lib.hid hv
      clear hp hq hv hlt hd hsz h2' h3'
      go_wp2_with fail
      go_quiet (fail)
      go_wp2_with fail
      go_roundw
      case rel => exact ⟨d + step, HD.out, by have := HP.out; go_num, by have := HQ.out; go_num, by rw [HVAL.out], hcell, below_drewN hbl _⟩
      case measure => simp [intOf]; omega
    · obtain rfl : d = r := by omega
      obtain ⟨v, hv⟩ : ∃ v, v = num ((X.drop a).take d) := ⟨_, rfl⟩
      rw [← hv]
      have HV := Lib.hid hv
      clear hv hsz
      go_wp2_with fail
      go_ret
      exact ⟨by show Ending.returned (.int .u64 (v : Int)) = _; rw [HV.out], hbl⟩
end Go.Proofs.Ytjnehpkkkmicfaa.Bt
namespace Go.Proofs.Ytjnehpkkkmicfaa.Bt
open Go.RowKit

def getE (s : ByteArray) (n a r : Int) : Int := if chk s n ≠ 0 then 2 else if r < 0 ∨ 64 < r ∨ a < 0 ∨ n < a then 1 else if n - a < r then 5 else 0
def getV (s : ByteArray) (n a r : Int) : Nat := if getE s n a r = 0 then num (((bl (bytes s) n.toNat).drop a.toNat).take r.toNat) else 0
theorem chk_zero {s : ByteArray} {n : Int} (h : chk s n = 0) : Right (bytes s) n := by
  unfold chk at h; split at h
  · assumption
  · omega
theorem chk_cases (s : ByteArray) (n : Int) : chk s n = 0 ∨ chk s n = 2 := by unfold chk; split <;> simp
theorem ret_vi {a b c d : Int} (h : a = c) (k : b = d) : Ending.returned (.tuple #[.int .u64 a, .int .i64 b]) = .returned (.tuple #[.int .u64 c, .int .i64 d]) := by rw [h, k]

set_option maxHeartbeats 2000000 in
theorem get_any (s : ByteArray) (n a r : Int) (w : World) (hs : s.size ≤ maxLen) :
    Calls Try.prog 46 #[.agg #[.string s, .int .i64 n], .int .i64 a, .int .i64 r] w fun e w' => e = .returned (.tuple #[.int .u64 (getV s n a r : Nat), .int .i64 (getE s n a r)]) ∧ Below w.heap.size w w' := by
  have hbx : Below w.heap.size w (w.alloc (.cells #[.string s, .int .i64 n] 35)) := (Below.refl _ _).alloc (Nat.le_refl _) _
  rcases chk_cases s n with hc | hc
  case inr =>
    have e1 : getE s n a r = 2 := if_pos (by omega)
    have F : Hid (getV s n a r = 0 ∧ getE s n a r = 2) := Lib.hid ⟨if_neg (by omega), e1⟩
    clear e1
    go_enter Try.func46, Try.ntmps46
    go_wp2_with fail
    refine (check_any _ _ _ hs).mono ?_
    rintro e w1 ⟨rfl, b1⟩
    have b2 := hbx.trans (b1.mono (by simp))
    rw [hc]
    clear b1
    go_wp2_with fail
    go_ret2
    exact ⟨ret_vi (by rw [F.out.1]; rfl) F.out.2.symm, b2⟩
  have hR := chk_zero hc
  obtain ⟨m, rfl⟩ := Int.eq_ofNat_of_zero_le hR.1
  have hm : m ≤ 1048576 := by have := hR.2.1; omega
  by_cases hbad : r < 0 ∨ 64 < r ∨ a < 0 ∨ (m : Int) < a
  · have e1 : getE s m a r = 1 := by unfold getE; rw [if_neg (by omega), if_pos hbad]
    have F : Hid (getV s m a r = 0 ∧ getE s m a r = 1) := Lib.hid ⟨if_neg (by omega), e1⟩
    clear e1
    clear hR
    by_cases q1 : r < 0
    · go_enter Try.func46, Try.ntmps46
      go_wp2_with fail
      refine (check_any _ _ _ hs).mono ?_
      rintro e w1 ⟨rfl, b1⟩
      have b2 := hbx.trans (b1.mono (by simp))
      rw [hc]
      clear b1
      go_wp2_with fail
      go_ret2
      exact ⟨ret_vi (by rw [F.out.1]; rfl) F.out.2.symm, b2⟩
    by_cases q2 : 64 < r
    · go_enter Try.func46, Try.ntmps46
      go_wp2_with fail
      refine (check_any _ _ _ hs).mono ?_
      rintro e w1 ⟨rfl, b1⟩
      have b2 := hbx.trans (b1.mono (by simp))
      rw [hc]
      clear b1
      go_wp2_with fail
      go_ret2
      exact ⟨ret_vi (by rw [F.out.1]; rfl) F.out.2.symm, b2⟩
    by_cases q3 : a < 0
    · go_enter Try.func46, Try.ntmps46
      go_wp2_with fail
      refine (check_any _ _ _ hs).mono ?_
      rintro e w1 ⟨rfl, b1⟩
      have b2 := hbx.trans (b1.mono (by simp))
      rw [hc]
      clear b1
      go_wp2_with fail
      go_ret2
      exact ⟨ret_vi (by rw [F.out.1]; rfl) F.out.2.symm, b2⟩
    have q4 : (m : Int) < a := by omega
    clear hbad
    go_enter Try.func46, Try.ntmps46
    go_wp2_with fail
    refine (check_any _ _ _ hs).mono ?_
    rintro e w1 ⟨rfl, b1⟩
    have b2 := hbx.trans (b1.mono (by simp))
    have c1 : w1.cell? ⟨w.heap.size, 1, none⟩ = some (.int .i64 m) := by rw [b1.cell (by simp)]; simp
    rw [hc]
    clear b1
    go_wp2_with fail
    go_ret2
    exact ⟨ret_vi (by rw [F.out.1]; rfl) F.out.2.symm, b2⟩
  · obtain ⟨a, rfl⟩ := Int.eq_ofNat_of_zero_le (show 0 ≤ a by omega)
    obtain ⟨r, rfl⟩ := Int.eq_ofNat_of_zero_le (show 0 ≤ r by omega)
    have q2 : r ≤ 64 := by omega
    have q4 : a ≤ m := by omega
    by_cases q5 : (m : Int) - (a : Int) < (r : Int)
    · have e1 : getE s m a r = 5 := by unfold getE; rw [if_neg (by omega), if_neg hbad, if_pos q5]
      have F : Hid (getV s m a r = 0 ∧ getE s m a r = 5) := Lib.hid ⟨if_neg (by omega), e1⟩
      clear e1 hbad hR
      go_enter Try.func46, Try.ntmps46
      go_wp2_with fail
      refine (check_any _ _ _ hs).mono ?_
      rintro e w1 ⟨rfl, b1⟩
      have b2 := hbx.trans (b1.mono (by simp))
      have c1 : w1.cell? ⟨w.heap.size, 1, none⟩ = some (.int .i64 m) := by rw [b1.cell (by simp)]; simp
      rw [hc]
      clear b1
      go_wp2_with fail
      go_ret2
      exact ⟨ret_vi (by rw [F.out.1]; rfl) F.out.2.symm, b2⟩
    · have e1 : getE s m a r = 0 := by unfold getE; rw [if_neg (by omega), if_neg hbad, if_neg q5]
      have F : Hid (getV s m a r = num (((bl (bytes s) m).drop a).take r) ∧ getE s m a r = 0) := Lib.hid ⟨if_pos e1, e1⟩
      have hp := hR.packs
      rw [Int.toNat_natCast] at hp
      have hl := bl_length (bytes s) m
      generalize bl (bytes s) m = X at hp hl F
      have HP := Lib.hid hp
      have HL := Lib.hid hl
      clear e1 hbad hR hp hl
      go_enter Try.func46, Try.ntmps46
      go_wp2_with fail
      refine (check_any _ _ _ hs).mono ?_
      rintro e w1 ⟨rfl, b1⟩
      have b2 := hbx.trans (b1.mono (by simp))
      have c1 : w1.cell? ⟨w.heap.size, 1, none⟩ = some (.int .i64 m) := by rw [b1.cell (by simp)]; simp
      have c0 : w1.cell? ⟨w.heap.size, 0, none⟩ = some (.string s) := by rw [b1.cell (by simp)]; simp
      rw [hc]
      clear b1
      go_wp2_with fail
      refine (number_any s m a r X HP.out (by rw [HL.out]; exact hm) (by omega) (by omega) (by omega) (by rw [HL.out]; omega) _).mono ?_
      rintro e w2 ⟨rfl, b3⟩
      have b4 := b2.trans (b3.mono b2.size)
      clear b2 b3 c1 c0
      go_wp2_with fail
      go_ret2
      exact ⟨ret_vi (by rw [F.out.1]) F.out.2.symm, b4⟩
end Go.Proofs.Ytjnehpkkkmicfaa.Bt
namespace Go.Proofs.Ytjnehpkkkmicfaa.Bt
open Go.RowKit

theorem bit_beq (c k : Nat) : ((c : Int) / 2 ^ k % 2 == 1) = c.testBit k := by
  have e : (c : Int) / 2 ^ k % 2 = ((c / 2 ^ k % 2 : Nat) : Int) := by simp
  rw [e, Nat.testBit_eq_decide_div_mod_eq, Bool.eq_iff_iff, beq_iff_eq, decide_eq_true_iff]
  omega
theorem bit_tmod (c k : Nat) : (((c : Int) / 2 ^ k).tmod 2 == 1) = c.testBit k := by
  rw [Int.tmod_eq_emod_of_nonneg (Int.ediv_nonneg (by omega) (Int.pow_nonneg (by decide)))]; exact bit_beq c k

set_option maxHeartbeats 1000000 in
theorem is_any (s : ByteArray) (n i : Int) (h0 : 0 ≤ i) (h1 : i < 8 * s.size) (hs : s.size ≤ 1000000) (w : World) :
    Calls Try.prog 49 #[.agg #[.string s, .int .i64 n], .int .i64 i] w fun e w' => e = .returned (.bool (bitAt (bytes s) i.toNat)) ∧ Below w.heap.size w w' := by
  obtain ⟨i, rfl⟩ := Int.eq_ofNat_of_zero_le h0
  rw [Int.toNat_natCast]
  have hbx : Below w.heap.size w (w.alloc (.cells #[.string s, .int .i64 n] 35)) := (Below.refl _ _).alloc (Nat.le_refl _) _
  obtain ⟨m, hm⟩ : ∃ m, m = i / 8 := ⟨_, rfl⟩
  have hl : m < s.size := by omega
  obtain ⟨k, hk⟩ : ∃ k, k = 7 - i % 8 := ⟨_, rfl⟩
  have hk8 : k ≤ 7 := by omega
  have e1 : (i : Int) / 8 = (m : Int) := by omega
  have e2 : (7 : Int) - (i : Int) % 8 = (k : Int) := by omega
  have i0 : (0 : Int) ≤ (m : Int) := by omega
  have i1 : (m : Int) < (s.size : Int) := by omega
  have hb : (((s[m].toNat : Int) / 2 ^ k).tmod 2 == 1) = bitAt (bytes s) i := by
    rw [bit_tmod]; unfold bitAt; rw [← hm, ← hk, getD_bytes s m hl]
  have F : Hid ((((s[m].toNat : Int) / 2 ^ k).tmod 2 == 1) = bitAt (bytes s) i) := Lib.hid hb
  clear h0 h1 hb hk hm
  go_enter Try.func49, Try.ntmps49
  go_wp2_with fail
  go_ret
  exact ⟨by rw [← F.out]; rfl, hbx⟩

set_option maxHeartbeats 2000000 in
theorem rcheck_any (s : ByteArray) (n : Int) (w : World) (hs : s.size ≤ maxLen) :
    Calls Try.prog 44 #[.agg #[.string s, .int .i64 n]] w fun e w' => e = .returned (.int .i64 (chk s n)) ∧ Below w.heap.size w w' := by
  unfold maxLen at hs
  have hbx : Below w.heap.size w (w.alloc (.cells #[.string s, .int .i64 n] 35)) := (Below.refl _ _).alloc (Nat.le_refl _) _
  by_cases h1 : n < 0
  · have F : Hid (2 = chk s n) := Lib.hid (if_neg (fun h => by have := h.1; omega)).symm
    go_enter Try.func44, Try.ntmps44
    go_wp2_with fail
    go_ret
    exact ⟨ret_int F.out, hbx⟩
  by_cases h2 : 1048576 < n
  · have F : Hid (2 = chk s n) := Lib.hid (if_neg (fun h => by have := h.2.1; omega)).symm
    go_enter Try.func44, Try.ntmps44
    go_wp2_with fail
    go_ret
    exact ⟨ret_int F.out, hbx⟩
  obtain ⟨m, rfl⟩ := Int.eq_ofNat_of_zero_le (show 0 ≤ n by omega)
  have hm : m ≤ 1048576 := by omega
  by_cases h3 : s.size = (m + 7) / 8
  case neg =>
    have F : Hid (2 = chk s m) := Lib.hid (if_neg (fun h => by have := h.2.2.1; rw [bytes_len] at this; simp at this; exact h3 this)).symm
    have d3 : ((s.size : Int) != ((m : Int) + 7) / 8) = true := by rw [bne_iff_ne]; omega
    clear h3
    go_enter Try.func44, Try.ntmps44
    go_wp2_with fail
    go_ret
    exact ⟨ret_int F.out, hbx⟩
  have d3 : ((s.size : Int) != ((m : Int) + 7) / 8) = false := by rw [bne_eq_false_iff_eq]; omega
  have hsz : s.size ≤ 1000000 := by omega
  have hmn : m ≤ 8 * s.size := by omega
  have H3 := Lib.hid h3
  clear h3 h1 h2
  go_enter Try.func44, Try.ntmps44
  go_wp2_with fail
  go_loopw [3] (fun i wr => ∃ k : Nat, m ≤ k ∧ k ≤ 8 * s.size ∧ i = .int .i64 k ∧ (∀ j, m ≤ j → j < k → bitAt (bytes s) j = false) ∧ wr.cell? ⟨w.heap.size, 0, none⟩ = some (.string s) ∧ wr.cell? ⟨w.heap.size, 1, none⟩ = some (.int .i64 m) ∧ w.heap.size < wr.heap.size ∧ Below w.heap.size w wr) (fun i _ => 8 * s.size - (intOf i).toNat)
  case atStart => exact ⟨m, by omega, hmn, rfl, fun j _ _ => by omega, by simp, by simp, by simp, hbx⟩
  case round =>
    obtain ⟨k, hk1, hk2, rfl, hz, hc0, hc1, hsz2, hbl⟩ := hrel
    have HZ := Lib.hid hz; clear hz
    by_cases hlt : k < 8 * s.size
    · go_wp2_with fail
      refine (is_any s m k (by omega) (by omega) hsz _).mono ?_
      rw [Int.toNat_natCast]
      rintro e w1 ⟨rfl, b1⟩
      have b2 := hbl.trans (b1.mono hbl.size)
      have c0 : w1.cell? ⟨w.heap.size, 0, none⟩ = some (.string s) := by rw [b1.cell hsz2]; exact hc0
      have c1 : w1.cell? ⟨w.heap.size, 1, none⟩ = some (.int .i64 m) := by rw [b1.cell hsz2]; exact hc1
      have hsz3 := Nat.lt_of_lt_of_le hsz2 b1.size
      cases hb : bitAt (bytes s) k
      · have HN : Hid (∀ j, m ≤ j → j < k + 1 → bitAt (bytes s) j = false) := Lib.hid (fun j h1 h2 => by
          by_cases e : j = k
          · subst e; exact hb
          · exact HZ.out j h1 (by omega))
        clear hc0 hc1 hbl b1 hb
        go_wp2_with fail
        go_roundw
        case rel => exact ⟨k + 1, by omega, by omega, by go_num, HN.out, c0, c1, hsz3, b2⟩
        case measure => simp [intOf]; omega
      · have F : Hid (2 = chk s m) := Lib.hid (if_neg (fun h => by
          have := h.2.2.2 k (by rw [bytes_len]; omega) (by simp; omega)
          rw [hb] at this; cases this)).symm
        clear hc0 hc1 hbl b1 hb
        go_wp2_with fail
        go_ret
        exact ⟨ret_int F.out, b2⟩
    · have F : Hid (0 = chk s m) := Lib.hid (if_pos ⟨by omega, by omega, by rw [bytes_len, H3.out]; simp, fun i hi hmi => HZ.out i (by simpa using hmi) (by rw [bytes_len] at hi; omega)⟩).symm
      go_wp2_with fail
      go_ret
      exact ⟨ret_int F.out, hbl⟩
end Go.Proofs.Ytjnehpkkkmicfaa.Bt
namespace Go.Proofs.Ytjnehpkkkmicfaa.Bt
open Go.RowKit

theorem getD_take_drop (X : List Bool) (a d : Nat) (h : a + d < X.length) : (X.drop a).take (d + 1) = (X.drop a).take d ++ [X.getD (a + d) false] := by
  have hl : d < (X.drop a).length := by rw [List.length_drop]; omega
  rw [List.take_succ_eq_append_getElem hl]
  simp [List.getD_eq_getElem?_getD, List.getElem?_eq_getElem h]

end Go.Proofs.Ytjnehpkkkmicfaa.Bt
namespace Go.Proofs.Ytjnehpkkkmicfaa.Bt
open Go.RowKit

/-- bits at work at block p: the bytes L lie in a row of the call's own (blocks from B on), N bits -/
structure Work (w : World) (B p : Nat) (L : List UInt8) (N : Int) : Prop where
  own : B ≤ p
  block : ∃ (s0 : ByteArray) (v : Value), w.heap[p]? = some (.cells #[.string s0, .int .i64 N, v] 111 (0, 0)) ∧ w.ownsRow B 5 1 v L.length (Lib.byteCells L) ∧ v ≠ .slice none 0 0

theorem info_u8 : (Try.prog.info? 5).map (fun i => (i.zero, i.size, i.bytes)) = some (some (.int .u8 0), 1, 1) := by kernel_rfl

set_option maxHeartbeats 2000000 in
theorem begin_any (s : ByteArray) (n t : Int) (h0 : 0 ≤ t) (h1 : t ≤ 1048576) (hs : s.size ≤ (t.toNat + 7) / 8) (w : World) (B : Nat) (hB : B ≤ w.heap.size) :
    Calls Try.prog 50 #[.agg #[.string s, .int .i64 n], .int .i64 t] w fun e w' => ∃ p, e = .returned (.pointer (some ⟨p, 0, none⟩)) ∧ Work w' B p (bytes s) n ∧ Below w.heap.size w w' := by
  obtain ⟨t, rfl⟩ := Int.eq_ofNat_of_zero_le h0
  obtain ⟨i0, hi, hz0, hz1, hz2⟩ := info_parts info_u8
  obtain ⟨c, hc⟩ : ∃ c, c = (t + 7) / 8 := ⟨_, rfl⟩
  have hcc : ((t : Int) + 7) / 8 = (c : Int) := by omega
  obtain ⟨M, hM⟩ : ∃ M, M = madeCells (Value.int .u8 0).cells (((c : Nat) : Int).toNat * i0.size) := ⟨_, rfl⟩
  have hMs : M.size = c := by rw [hM, size_madeCells, hz1]; simp
  have hmk : ∀ W : World, (Instr.makeSlice 55 (.int .i64 0) (.int .i64 (c : Int))).run Try.prog W = .ok (.slice (some ⟨W.heap.size, 0, none⟩) 0 c) (W.alloc (.cells M 5)) := by
    intro W
    have h := run_make (P := Try.prog) W 55 5 i0 (.int .u8 0) Try.underlying55 hi hz0 .i64 .i64 (0 : Int) (c : Int) (by omega) (by omega) (by rw [hz2]; omega) (by omega)
    rw [← hM] at h
    simpa using h
  have HCC := Lib.hid hcc; have HMS := Lib.hid hMs; have HC := Lib.hid hc
  clear hcc hM hMs hc hi hz0 hz1 hz2
  go_enter Try.func50, Try.ntmps50
  go_wp2_with fail
  refine (bytesFor_any _ (by omega) (by omega) _).mono ?_
  rw [HCC.out]
  rintro e w1 ⟨rfl, rfl⟩
  go_wp2_with fail
  obtain ⟨W0, hW0⟩ : ∃ W0, W0 = ((w.alloc (.cells #[.string s, .int .i64 n] 35)).alloc (.cells M 5)) := ⟨_, rfl⟩
  have hz : W0.heap.size = w.heap.size + 2 := by rw [hW0]; simp
  have hrow : W0.heap[w.heap.size + 1]? = some (.cells M 5 (0, 0)) := by
    rw [hW0]
    have := heap_alloc_new (w.alloc (.cells #[.string s, .int .i64 n] 35)) (.cells M 5)
    simpa using this
  have hsc : s.size ≤ c := by have := HC.out; rw [Int.toNat_natCast] at hs; omega
  have hlen : s.data.toList.length = s.size := (Lib.size_eq s).symm
  have htk : List.take s.size (List.map (fun b => Value.int IntKind.u8 (b.toNat : Int)) s.data.toList) = Lib.byteCells s.data.toList := List.take_of_length_le (by simp [hlen])
  have hst := run_storeCells_at Try.prog (w.heap.size + 1) 0 5 (Lib.byteCells s.data.toList) 0 M W0.drew hrow (by rw [Lib.byteCells_length, hlen, HMS.out]; omega) (by intro v hv; simp only [Lib.byteCells, List.mem_map] at hv; obtain ⟨b, _, rfl⟩ := hv; rfl)
  rw [← htk] at hst
  obtain ⟨Y, hY⟩ : ∃ Y, Y = (M.toList.take (0 + 0) ++ List.take s.size (List.map (fun b => Value.int IntKind.u8 (b.toNat : Int)) s.data.toList) ++ M.toList.drop (0 + 0 + (List.take s.size (List.map (fun b => Value.int IntKind.u8 (b.toNat : Int)) s.data.toList)).length)).toArray := ⟨_, rfl⟩
  rw [← hY] at hst
  have hYt : Y.toList.take s.size = Lib.byteCells (bytes s) := by
    rw [hY, htk]
    have e : (Lib.byteCells s.data.toList).length = s.size := by rw [Lib.byteCells_length, hlen]
    simp only [Nat.add_zero, List.take_zero, List.nil_append]
    rw [List.take_append_of_le_length (by omega), List.take_of_length_le (by omega)]; rfl
  have hYs : Y.size = c := by
    rw [hY, htk, ← Array.length_toList, List.toList_toArray]
    have e : (Lib.byteCells s.data.toList).length = s.size := by rw [Lib.byteCells_length, hlen]
    simp only [Nat.add_zero, List.take_zero, List.nil_append, List.length_append, List.length_drop, e, Array.length_toList, HMS.out]
    omega
  obtain ⟨W1, hW1⟩ : ∃ W1, W1 = W0.drew.setRow (w.heap.size + 1) Y := ⟨_, rfl⟩
  have hrow1 : W1.heap[w.heap.size + 1]? = some (.cells Y 5 (0, 0)) := by rw [hW1]; exact setRow_heap W0.drew _ M Y _ _ hrow
  have hoth : ∀ k, k ≠ w.heap.size + 1 → W1.heap[k]? = W0.heap[k]? := fun k hk => by rw [hW1]; exact setRow_other W0.drew _ _ _ hk
  have hz1 : W1.heap.size = W0.heap.size := by rw [hW1]; simp [World.setRow]
  have hos : W1.os = W0.os ∧ W1.tape = W0.tape ∧ W1.output = W0.output := by rw [hW1]; exact ⟨rfl, rfl, rfl⟩
  rw [← hW1] at hst
  rw [← hW0]
  have c0 : W0.cell? ⟨w.heap.size, 0, none⟩ = some (.string s) := by rw [hW0]; simp
  have c1 : W0.cell? ⟨w.heap.size, 1, none⟩ = some (.int .i64 n) := by rw [hW0]; simp
  have d0 : W1.cell? ⟨w.heap.size, 0, none⟩ = some (.string s) := by rw [World.cell?_of_block (w := W0) (hoth w.heap.size (by omega))]; exact c0
  have d1 : W1.cell? ⟨w.heap.size, 1, none⟩ = some (.int .i64 n) := by rw [World.cell?_of_block (w := W0) (hoth w.heap.size (by omega))]; exact c1
  have B0 : Below w.heap.size w W0 := by rw [hW0]; exact ((Below.refl _ _).alloc (Nat.le_refl _) _).alloc (by simp) _
  have B1 : Below w.heap.size w W1 := B0.trans ⟨hos.1, hos.2.1, hos.2.2, by omega, fun k hk => hoth k (by omega)⟩
  have HR := Lib.hid hrow1; have BB1 := Lib.hid B1; have HZ : Hid (W1.heap.size = w.heap.size + 2) := Lib.hid (by rw [hz1, hz]); have HY := Lib.hid hYt; have HYS := Lib.hid hYs
  clear hmk htk hW0 hW1 hrow hlen hY hYt hYs hoth hos hz1 hz B0 B1 hrow1 hs
  go_region
  go_wp2_with fail
  have hc9 : c ≤ maxLen := by unfold maxLen; have := HC.out; omega
  go_ret
  refine ⟨W1.heap.size, rfl, ⟨by have := HZ.out; omega, s, .slice (some ⟨w.heap.size + 1, 0, none⟩) s.size c, heap_alloc_new W1 _, ?_, by simp⟩, BB1.out.alloc (by have := HZ.out; omega) _⟩
  refine ⟨by rw [Lib.byteCells_length]; simp, .inr ⟨w.heap.size + 1, c, Y, by rw [bytes_len], by omega, ?_, by rw [bytes_len]; exact hsc, hc9, by rw [HYS.out]; simp, by rw [bytes_len, Nat.mul_one]; exact HY.out⟩⟩
  rw [Below.heap_alloc W1 _ _ (by have := HZ.out; omega)]
  exact HR.out
end Go.Proofs.Ytjnehpkkkmicfaa.Bt
namespace Go.Proofs.Ytjnehpkkkmicfaa.Bt
open Go.RowKit

/-- blocks that hold neither bytes nor bits at work stay as they are -/
def Kept (w w' : World) : Prop := ∀ (k : Nat) (cs : Array Value) (ty : TypeId) (fr : Nat × Nat), w.heap[k]? = some (Obj.cells cs ty fr) → ty ≠ 5 → ty ≠ 111 → w'.heap[k]? = w.heap[k]?
theorem Kept.refl (w : World) : Kept w w := fun _ _ _ _ _ _ _ => rfl
theorem Kept.trans {a b c : World} (h : Kept a b) (k : Kept b c) : Kept a c := fun i cs ty fr hi h1 h2 => by
  have e := h i cs ty fr hi h1 h2
  rw [k i cs ty fr (by rw [e]; exact hi) h1 h2, e]
theorem Kept.drewN {a w : World} (h : Kept a w) (n : Nat) : Kept a (w.drewN n) := h
theorem Kept.alloc {a w : World} (h : Kept a w) (o : Obj) : Kept a (w.alloc o) := h.trans fun k cs ty fr hk _ _ => by
  have hlt : k < w.heap.size := (Array.getElem?_eq_some_iff.1 hk).1
  exact Below.heap_alloc w o k hlt
theorem Kept.setCell {a w : World} (h : Kept a w) (b i : Nat) (u : Value) (hb : ∀ (cs : Array Value) (ty : TypeId) (fr : Nat × Nat), w.heap[b]? = some (Obj.cells cs ty fr) → ty = 5 ∨ ty = 111) : Kept a (w.setCell ⟨b, i, none⟩ u) := h.trans fun k cs ty fr hk h1 h2 => by
  apply heap_setCell_other
  intro e
  subst e
  rcases hb cs ty fr hk with rfl | rfl
  · exact h1 rfl
  · exact h2 rfl
theorem Kept.grown {a w w' : World} {row : Option Nat} (h : Kept a w) (hg : w.grownBy w' row) (hr : ∀ g, row = some g → ∀ (cs : Array Value) (ty : TypeId) (fr : Nat × Nat), w.heap[g]? = some (Obj.cells cs ty fr) → ty = 5 ∨ ty = 111) : Kept a w' := h.trans fun k cs ty fr hk h1 h2 => by
  apply hg.block k (Array.getElem?_eq_some_iff.1 hk).1
  intro e
  rcases hr k e.symm cs ty fr hk with rfl | rfl
  · exact h1 rfl
  · exact h2 rfl
/-- an owned row's block holds bytes -/
theorem row_type {w : World} {B : Nat} {v : Value} {n : Nat} {xs : List Value} (h : w.ownsRow B 5 1 v n xs) : ∀ g, v.ownBlock = some g → ∀ (cs : Array Value) (ty : TypeId) (fr : Nat × Nat), w.heap[g]? = some (Obj.cells cs ty fr) → ty = 5 ∨ ty = 111 := by
  intro g hg cs ty fr hk
  rcases h.2 with ⟨rfl, _⟩ | ⟨g', cap, cur, rfl, _, hh, _⟩
  · simp [Value.ownBlock] at hg
  · simp only [Value.ownBlock, Option.some.injEq] at hg
    subst hg
    rw [hh] at hk
    simp only [Option.some.injEq, Obj.cells.injEq] at hk
    exact .inl hk.2.1.symm
theorem row_ne {w : World} {B : Nat} {v : Value} {n p : Nat} {xs : List Value} {cs : Array Value} (h : w.ownsRow B 5 1 v n xs) (hp : w.heap[p]? = some (.cells cs 111 (0, 0))) : v.ownBlock ≠ some p := by
  intro e
  rcases h.2 with ⟨rfl, _⟩ | ⟨g', cap, cur, rfl, _, hh, _⟩
  · simp [Value.ownBlock] at e
  · simp only [Value.ownBlock, Option.some.injEq] at e
    subst e
    rw [hh] at hp
    simp at hp
theorem row_ge {w : World} {B : Nat} {v : Value} {n : Nat} {xs : List Value} (h : w.ownsRow B 5 1 v n xs) : ∀ g, v.ownBlock = some g → B ≤ g := by
  intro g e
  rcases h.2 with ⟨rfl, _⟩ | ⟨g', cap, cur, rfl, hb, _⟩
  · simp [Value.ownBlock] at e
  · simp only [Value.ownBlock, Option.some.injEq] at e
    subst e; exact hb

/-- bits at work, all told: the block, the row, where they lie -/
structure St (w : World) (B p : Nat) (L : List UInt8) (N : Int) (s0 : ByteArray) (v : Value) : Prop where
  own : B ≤ p
  block : w.heap[p]? = some (.cells #[.string s0, .int .i64 N, v] 111 (0, 0))
  row : w.ownsRow B 5 1 v L.length (Lib.byteCells L)
  nn : v ≠ .slice none 0 0
theorem St.work {w : World} {B p : Nat} {L : List UInt8} {N : Int} {s0 : ByteArray} {v : Value} (h : St w B p L N s0 v) : Work w B p L N := ⟨h.own, s0, v, h.block, h.row, h.nn⟩
theorem St.c1 {w : World} {B p : Nat} {L : List UInt8} {N : Int} {s0 : ByteArray} {v : Value} (h : St w B p L N s0 v) : w.cell? ⟨p, 1, none⟩ = some (.int .i64 N) := by simp [World.cell?, h.block]
theorem St.c2 {w : World} {B p : Nat} {L : List UInt8} {N : Int} {s0 : ByteArray} {v : Value} (h : St w B p L N s0 v) : w.cell? ⟨p, 2, none⟩ = some v := by simp [World.cell?, h.block]
theorem St.f {w : World} {B p : Nat} {L : List UInt8} {N : Int} {s0 : ByteArray} {v : Value} (h : St w B p L N s0 v) (i : Nat) : w.frozen? ⟨p, i, none⟩ = false := by simp [World.frozen?, h.block]
theorem St.size {w : World} {B p : Nat} {L : List UInt8} {N : Int} {s0 : ByteArray} {v : Value} (h : St w B p L N s0 v) : p < w.heap.size := (Array.getElem?_eq_some_iff.1 h.block).1
theorem St.alloc {w : World} {B p : Nat} {L : List UInt8} {N : Int} {s0 : ByteArray} {v : Value} (h : St w B p L N s0 v) (o : Obj) : St (w.alloc o) B p L N s0 v :=
  ⟨h.own, by rw [Below.heap_alloc w o p h.size]; exact h.block, h.row.alloc o, h.nn⟩
theorem St.drewN {w : World} {B p : Nat} {L : List UInt8} {N : Int} {s0 : ByteArray} {v : Value} (h : St w B p L N s0 v) (n : Nat) : St (w.drewN n) B p L N s0 v := ⟨h.own, h.block, h.row, h.nn⟩
/-- the slice is not nil -/
theorem St.shape {w : World} {B p : Nat} {L : List UInt8} {N : Int} {s0 : ByteArray} {v : Value} (h : St w B p L N s0 v) : ∃ g cap, v = .slice (some ⟨g, 0, none⟩) L.length cap ∧ L.length ≤ cap := by
  rcases h.row.2 with ⟨h0, _⟩ | ⟨g, cap, cur, hv, _, _, hn, _⟩
  · exact absurd h0 h.nn
  · exact ⟨g, cap, hv, hn⟩
/-- a byte of the row -/
theorem St.byte {w : World} {B p : Nat} {L : List UInt8} {N : Int} {s0 : ByteArray} {g cap : Nat} (h : St w B p L N s0 (.slice (some ⟨g, 0, none⟩) L.length cap)) (j : Nat) (hj : j < L.length) :
    w.cell? ⟨g, j, none⟩ = some (.int .u8 ((L.getD j 0).toNat : Int)) ∧ w.frozen? ⟨g, j, none⟩ = false := by
  refine ⟨?_, h.row.frozenAt j⟩
  rw [h.row.cellAt j (by omega)]
  simp [Lib.byteCells, List.getD_eq_getElem?_getD, hj]
/-- the row behind an append -/
theorem St.appended {w w1 : World} {B p : Nat} {L L' : List UInt8} {N : Int} {s0 : ByteArray} {v v' : Value} (h : St w B p L N s0 v) (hg : w.grownBy w1 v.ownBlock)
    (hr : w1.ownsRow B 5 1 v' L'.length (Lib.byteCells L')) (hnn : v' ≠ .slice none 0 0) : St (w1.setCell ⟨p, 2, none⟩ v') B p L' N s0 v' := by
  have hp1 : w1.heap[p]? = some (.cells #[.string s0, .int .i64 N, v] 111 (0, 0)) := by
    rw [hg.block p h.size (fun e => row_ne h.row h.block e.symm)]; exact h.block
  refine ⟨h.own, ?_, ownsRow_setCell_other hr (row_ne hr hp1) v', hnn⟩
  rw [heap_setCell_same w1 p 2 _ _ v' hp1]; rfl
/-- a byte of the row turned, and the count raised -/
theorem St.stored {w : World} {B p : Nat} {L : List UInt8} {N : Int} {s0 : ByteArray} {g cap : Nat} (h : St w B p L N s0 (.slice (some ⟨g, 0, none⟩) L.length cap)) (j : Nat) (x : UInt8) (N' : Int) :
    St ((w.setCell ⟨g, j, none⟩ (.int .u8 (x.toNat : Int))).setCell ⟨p, 1, none⟩ (.int .i64 N')) B p (L.set j x) N' s0 (.slice (some ⟨g, 0, none⟩) L.length cap) := by
  have hne : p ≠ g := by
    intro e; subst e
    exact row_ne h.row h.block rfl
  have hp1 : (w.setCell ⟨g, j, none⟩ (.int .u8 (x.toNat : Int))).heap[p]? = some (.cells #[.string s0, .int .i64 N, .slice (some ⟨g, 0, none⟩) L.length cap] 111 (0, 0)) := by
    rw [heap_setCell_other _ _ _ _ hne]; exact h.block
  have hr := (h.row.stored j (.int .u8 (x.toNat : Int))).1
  have hset : (Lib.byteCells L).set j (.int .u8 (x.toNat : Int)) = Lib.byteCells (L.set j x) := by simp [Lib.byteCells, List.map_set]
  rw [hset] at hr
  refine ⟨h.own, ?_, ?_, by simp⟩
  · rw [heap_setCell_same _ p 1 _ _ _ hp1]; rfl
  · rw [List.length_set]
    exact ownsRow_setCell_other hr (row_ne hr hp1) _
/-- what an append of a byte of noughts leaves -/
theorem St.appended0 {w w1 : World} {B p : Nat} {L : List UInt8} {N : Int} {s0 : ByteArray} {v v' : Value} (h : St w B p L N s0 v) (o : Obj) (hg : (w.alloc o).grownBy w1 v.ownBlock)
    (hr : w1.ownsRow B 5 1 v' (L.length + 1) (Lib.byteCells L ++ [.int .u8 0])) :
    w1.cell? ⟨p, 2, none⟩ = some v ∧ w1.frozen? ⟨p, 2, none⟩ = false ∧ St (w1.setCell ⟨p, 2, none⟩ v') B p (L ++ [0]) N s0 v' ∧ w1.heap[p]? = some (.cells #[.string s0, .int .i64 N, v] 111 (0, 0)) := by
  have ha := h.alloc o
  have hp1 : w1.heap[p]? = some (.cells #[.string s0, .int .i64 N, v] 111 (0, 0)) := by
    rw [hg.block p ha.size (fun e => row_ne ha.row ha.block e.symm)]; exact ha.block
  refine ⟨by simp [World.cell?, hp1], by simp [World.frozen?, hp1], ha.appended hg ?_ ?_, hp1⟩
  case refine_2 =>
    intro e; subst e
    rcases hr.2 with ⟨_, h0⟩ | ⟨_, _, _, h0, _⟩
    · omega
    · cases h0
  rw [List.length_append]
  have e : Lib.byteCells (L ++ [0]) = Lib.byteCells L ++ [.int .u8 0] := by simp [Lib.byteCells]
  rw [e]; exact hr
end Go.Proofs.Ytjnehpkkkmicfaa.Bt
namespace Go.Proofs.Ytjnehpkkkmicfaa.Bt
open Go.RowKit

theorem part_val (v rs step : Nat) (hv : v < 18446744073709551616) (hs : step ≤ 8) :
    bits .and .u64 ((v : Int) / 2 ^ rs) (IntKind.u64.wrap (IntKind.u64.wrap (2 ^ step) - 1)) = ((v / 2 ^ rs % 2 ^ step : Nat) : Int) := by
  have hp := pow_small hs
  have hp1 := Nat.two_pow_pos step
  have e2 : (v : Int) / 2 ^ rs = ((v / 2 ^ rs : Nat) : Int) := by simp
  have e3 : (2 : Int) ^ step = ((2 ^ step : Nat) : Int) := by simp
  have e4 : ((2 ^ step : Nat) : Int) - 1 = ((2 ^ step - 1 : Nat) : Int) := by omega
  have hcs : v / 2 ^ rs ≤ v := Nat.div_le_self _ _
  rw [e2, e3, wrap_nat (by omega), e4, wrap_nat (by omega), u64_and_nat _ _ (by omega) (by omega), Nat.and_two_pow_sub_one_eq_mod]

theorem or_val (c : UInt8) (part sh step : Nat) (h1 : step ≤ 8) (h2 : sh ≤ 8) (hp : part < 2 ^ step) :
    bits .or .u8 (c.toNat : Int) (IntKind.u64.wrap ((part : Int) * 2 ^ sh) % 256) = ((orb c (part * 2 ^ sh)).toNat : Int) := by
  have q1 := pow_small h1
  have q2 := pow_small h2
  have hm : part * 2 ^ sh ≤ 256 * 256 := Nat.mul_le_mul (by omega) q2
  have e1 : ((part : Int) * 2 ^ sh) = ((part * 2 ^ sh : Nat) : Int) := by simp
  have e2 : ((part * 2 ^ sh : Nat) : Int) % 256 = ((part * 2 ^ sh % 256 : Nat) : Int) := by omega
  have h3 : c.toNat ||| (part * 2 ^ sh % 256) < 2 ^ 8 := Nat.or_lt_two_pow (by have := c.toNat_lt; omega) (by omega)
  rw [e1, wrap_nat (by omega), e2, u8_or_nat _ _ c.toNat_lt (by omega)]
  unfold orb
  simp
theorem nbits_join (v a b k : Nat) : nbits (v / 2 ^ k) (a + b) = nbits (v / 2 ^ (k + b)) a ++ nbits (v / 2 ^ k % 2 ^ b) b := by
  apply ext_getD (by simp [nbits_length])
  intro i hi
  rw [nbits_length] at hi
  rw [nbits_getD, if_pos hi, Nat.testBit_div_two_pow]
  by_cases hd : i < a
  · rw [List.getD_eq_getElem?_getD, List.getElem?_append_left (by rw [nbits_length]; exact hd), ← List.getD_eq_getElem?_getD, nbits_getD, if_pos hd, Nat.testBit_div_two_pow]
    congr 1; omega
  · rw [List.getD_eq_getElem?_getD, List.getElem?_append_right (by rw [nbits_length]; omega), nbits_length, ← List.getD_eq_getElem?_getD, nbits_getD, if_pos (by omega), Nat.testBit_mod_two_pow, Nat.testBit_div_two_pow]
    have : decide (b - 1 - (i - a) < b) = true := by simp; omega
    rw [this, Bool.true_and]
    congr 1; omega

set_option maxHeartbeats 8000000 in
set_option maxRecDepth 100000 in
theorem put_any (p v r : Nat) (L : List UInt8) (X : List Bool) (w : World) (B : Nat) (hW : Work w B p L X.length) (hX : Packs L X) (hr : r ≤ 64) (hXr : X.length + r ≤ 1048576) (hv : v < 18446744073709551616) (hB : B ≤ w.heap.size) :
    Calls Try.prog 70 #[.pointer (some ⟨p, 0, none⟩), .int .u64 v, .int .i64 r] w fun e w' => e = .returned (.tuple #[]) ∧ (∃ L', Work w' B p L' (X.length + r : Nat) ∧ Packs L' (X ++ nbits v r)) ∧ Below B w w' ∧ Kept w w' := by
  obtain ⟨i0, hi, hz0, hz1, hz2⟩ := info_parts info_u8
  have HW := Lib.hid hW; have HX := Lib.hid hX
  clear hW hX
  go_enter Try.func70, Try.ntmps70
  go_wp2_with fail
  go_loopw [2, 6, 7, 8] (fun rr _ _ _ wr => ∃ (d : Nat) (L' : List UInt8), d ≤ r ∧ rr = .int .i64 (r - d : Nat) ∧ Work wr B p L' (X.length + d : Nat) ∧ Packs L' (X ++ nbits (v / 2 ^ (r - d)) d) ∧ Below B w wr ∧ Kept w wr) (fun rr _ _ _ _ => (intOf rr).toNat)
  case atStart => exact ⟨0, L, by omega, rfl, HW.out, by simpa [nbits] using HX.out, Below.refl _ _, Kept.refl _⟩
  case round =>
    obtain ⟨d, L', hd, rfl, hwk, hpk, hbl, hkp⟩ := hrel
    by_cases hlt : d < r
    · obtain ⟨Y, hY⟩ : ∃ Y, Y = X ++ nbits (v / 2 ^ (r - d)) d := ⟨_, rfl⟩
      have hYl : Y.length = X.length + d := by rw [hY, List.length_append, nbits_length]
      rw [← hY] at hpk
      rw [← hYl] at hwk
      obtain ⟨q, hq⟩ : ∃ q, q = r - d := ⟨_, rfl⟩
      rw [← hq]
      obtain ⟨N, hN⟩ : ∃ N, N = Y.length := ⟨_, rfl⟩
      rw [← hN] at hwk
      have hNb : N + q ≤ 1048576 := by omega
      have hq64 : q ≤ 64 := by omega
      have hq1 : 1 ≤ q := by omega
      obtain ⟨left, hleft⟩ : ∃ left, left = 8 - N % 8 := ⟨_, rfl⟩
      obtain ⟨step, hstep⟩ : ∃ step, step = min left q := ⟨_, rfl⟩
      obtain ⟨j, hj⟩ : ∃ j, j = N / 8 := ⟨_, rfl⟩
      obtain ⟨sh, hsh⟩ : ∃ sh, sh = left - step := ⟨_, rfl⟩
      obtain ⟨rs, hrs⟩ : ∃ rs, rs = q - step := ⟨_, rfl⟩
      obtain ⟨part, hpart⟩ : ∃ part, part = v / 2 ^ rs % 2 ^ step := ⟨_, rfl⟩
      have e1 : (8 : Int) - (N : Int) % 8 = (left : Int) := by omega
      have e2 : min (left : Int) (q : Int) = (step : Int) := by omega
      have e3 : (left : Int) - (step : Int) = (sh : Int) := by omega
      have e4 : IntKind.i64.wrap (sh : Int) = (sh : Int) := IntWalk.i64_in _ (by omega)
      have e5 : (q : Int) - (step : Int) = (rs : Int) := by omega
      have e6 : IntKind.i64.wrap (rs : Int) = (rs : Int) := IntWalk.i64_in _ (by omega)
      have e7 : (N : Int) / 8 = (j : Int) := by omega
      have e8 : (N : Int).tdiv 8 = (j : Int) := by rw [Int.tdiv_eq_ediv_of_nonneg (by omega)]; exact e7
      have e9 : IntKind.i64.wrap (j : Int) = (j : Int) := IntWalk.i64_in _ (by omega)
      have i0' : (0 : Int) ≤ (j : Int) := by omega
      have l1 : step ≤ 8 := by omega
      have l2 : sh ≤ 8 := by omega
      have l3 : rs ≤ 64 := by omega
      have l4 : 1 ≤ step := by omega
      have l5 : step ≤ q := by omega
      by_cases h8 : N % 8 = 0
      · have z8 : ((N : Int) % 8 == 0) = true := by rw [beq_iff_eq]; omega
        obtain ⟨own, s0, vr, hblk, hrow, hnn⟩ := hwk
        have st : St wr B p L' N s0 vr := ⟨own, hblk, hrow, hnn⟩
        have c1 := st.c1; have c2 := st.c2; have f1 := st.f 1; have f2 := st.f 2
        have ST := Lib.hid st
        have hLb : L'.length ≤ 200000 := by rw [hpk.1]; omega
        obtain ⟨L1, hL1⟩ : ∃ L1, L1 = L' ++ [0] := ⟨_, rfl⟩
        have hinj : j < L1.length := by rw [hL1, List.length_append, hpk.1]; simp; omega
        have HL1 : Hid (L1 = if Y.length % 8 = 0 then L' ++ [0] else L') := Lib.hid (by rw [if_pos (by rw [← hN]; exact h8)]; exact hL1)
        have HL2 := Lib.hid hL1
        have HPK := Lib.hid hpk
        have HPART := Lib.hid hpart
        have HLEFT := Lib.hid hleft; have HSH := Lib.hid hsh; have HRS := Lib.hid hrs; have HJ := Lib.hid hj; have HQ := Lib.hid hq; have HD := Lib.hid hd; have HY := Lib.hid hY; have HN := Lib.hid hN; have H8 := Lib.hid h8; have HSTEP := Lib.hid hstep; have HYL := Lib.hid hYl
        have hpl : part < 2 ^ step := by rw [hpart]; exact Nat.mod_lt _ (Nat.two_pow_pos _)
        have HPL := Lib.hid hpl; clear hpl
        clear hblk hrow hnn st h8 hleft hstep hj hsh hrs hpart hYl hq hlt hd hY hN hpk hL1
        go_wp2_with (at_builtin; refine wpList_append_own _ rfl _ _ 55 rfl B 5 i0 (.int .u8 0) 1 1 Try.underlying55 hi hz0 hz1 hz2 rfl (by decide) _ _ _ rfl (ST.out.row.alloc _) ⟨wr.heap.size, 0, none⟩ 1 1 [.int .u8 0] rfl rfl ?c1 ?c2 ?c3 ?c4 ?c5 ?_)
        case c1 =>
          intro t u ht
          match t, ht with
          | 0, ht => simp at ht; subst ht; simp [Addr.add]
        case c2 => intro u hu; simp at hu; subst hu; rfl
        case c3 => unfold maxLen; omega
        case c4 => omega
        case c5 => have := hbl.size; simp; omega
        intro v' w1 hown' hgrow _
        have hap := ST.out.appended0 _ hgrow hown'
        rw [← HL2.out] at hap
        have k2 := hap.1; have k3 := hap.2.1
        have st2 := hap.2.2.1
        have hap1 := hap.2.2.2
        obtain ⟨g, cap, rfl, hcap⟩ := st2.shape
        have m1 := st2.c1; have m2 := st2.c2; have m3 := st2.f 1
        have mb := st2.byte j hinj
        have BL2 := Lib.hid (((hbl.alloc (by have := hbl.size; omega) (.cells #[.int .u8 0] 5)).grown hgrow (by have := hbl.size; simp; omega) (fun k hk => row_ge ST.out.row k hk)).setCell (p := ⟨p, 2, none⟩) ST.out.own (.slice (some ⟨g, 0, none⟩) L1.length cap))
        have KP2 := Lib.hid (((hkp.alloc (.cells #[.int .u8 0] 5)).grown hgrow (fun g' hg' => row_type (ST.out.alloc (.cells #[.int .u8 0] 5)).row g' hg')).setCell p 2 (.slice (some ⟨g, 0, none⟩) L1.length cap) (fun cs ty fr hk => .inr (by
          rw [hap1] at hk
          simp only [Option.some.injEq, Obj.cells.injEq] at hk
          exact hk.2.1.symm)))
        clear hap1
        have hpv := part_val v rs step hv l1
        rw [HPART.out.symm] at hpv
        obtain ⟨c, hc⟩ : ∃ c, c = L1.getD j 0 := ⟨_, rfl⟩
        rw [← hc] at mb
        have mb1 := mb.1; have mb2 := mb.2
        have i1' : (j : Int) < ((L1.length : Nat) : Int) := by omega
        obtain ⟨y, hy⟩ : ∃ y, y = orb c (part * 2 ^ sh) := ⟨_, rfl⟩
        have hx := or_val c part sh step l1 l2 HPL.out
        rw [← hy] at hx
        have hstep' := put_step HPK.out part step (by have := HSTEP.out; have := HLEFT.out; have := HN.out; omega) l4 HPL.out HL1.out
        have hstep2 : Packs (L1.set j y) (X ++ nbits (v / 2 ^ (r - (d + step))) (d + step)) := by
          have e := hstep'.2
          rw [← HN.out, ← HJ.out, show 8 - N % 8 - step = sh from by have := HLEFT.out; have := HSH.out; omega, ← hc, ← hy, HY.out, List.append_assoc] at e
          have hk : r - (d + step) = rs := by have := HQ.out; have := HRS.out; have := HD.out; omega
          rw [hk, nbits_join, ← HPART.out, show rs + step = r - d from by have := HQ.out; have := HRS.out; have := HD.out; omega]
          exact e
        have HSTEP2 := Lib.hid hstep2
        have ST2 := Lib.hid st2
        have HND : Hid (N = X.length + d) := Lib.hid (by rw [HN.out, HYL.out])
        have HDR : Hid (d + step ≤ r) := Lib.hid (by have := HQ.out; have := HD.out; omega)
        have HRS2 : Hid (rs = r - (d + step)) := Lib.hid (by have := HQ.out; have := HRS.out; have := HD.out; omega)
        clear hap st2 mb hc hy hstep' hstep2
        go_wp2_with fail
        go_quiet (fail)
        go_wp2_with fail
        generalize hW2 : w1.setCell ⟨p, 2, none⟩ (.slice (some ⟨g, 0, none⟩) L1.length cap) = W2 at *
        clear hW2
        go_region
        have st3 := (ST2.out.drewN (nq + 1)).stored j y ((N : Int) + (step : Int))
        have n1 := (St.c1 (ST2.out.drewN (nq + 1)))
        have hne : p ≠ g := fun e => row_ne ST2.out.row ST2.out.block (by rw [e]; rfl)
        have n2 : ((W2.drewN (nq + 1)).setCell ⟨g, j, none⟩ (.int .u8 (y.toNat : Int))).cell? ⟨p, 1, none⟩ = some (.int .i64 (N : Int)) := by
          rw [World.cell?_setCell_other _ _ _ _ (by intro e; apply hne; injection e with e1; exact e1.symm)]; exact n1
        have n3 : ((W2.drewN (nq + 1)).setCell ⟨g, j, none⟩ (.int .u8 (y.toNat : Int))).frozen? ⟨p, 1, none⟩ = false := by
          rw [World.frozen?_setCell]; exact (ST2.out.drewN (nq + 1)).f 1
        have hgB : B ≤ g := row_ge ST2.out.row g rfl
        have bl3 := ((below_drewN BL2.out (nq + 1)).setCell (p := ⟨g, j, none⟩) hgB (.int .u8 (y.toNat : Int))).setCell (p := ⟨p, 1, none⟩) ST2.out.own (.int .i64 ((N : Int) + (step : Int)))
        have kp3 := ((KP2.out.drewN (nq + 1)).setCell g j (.int .u8 (y.toNat : Int)) (row_type (ST2.out.drewN (nq + 1)).row g rfl)).setCell p 1 (.int .i64 ((N : Int) + (step : Int))) (fun cs ty fr hk => by
          rw [heap_setCell_other _ _ _ _ hne] at hk
          have := (ST2.out.drewN (nq + 1)).block
          rw [this] at hk
          simp only [Option.some.injEq, Obj.cells.injEq] at hk
          exact .inr hk.2.1.symm)
        have ST3 := Lib.hid st3; have BL3 := Lib.hid bl3; have KP3 := Lib.hid kp3
        clear st3 bl3 kp3 n1 hne hgB
        go_wp2_with fail
        go_roundw
        case rel => exact ⟨d + step, L1.set j y, HDR.out, by rw [HRS2.out], by have h := ST3.out.work; rw [show ((X.length + (d + step) : Nat) : Int) = (N : Int) + (step : Int) from by have := HND.out; omega]; exact h, HSTEP2.out, BL3.out, KP3.out⟩
        case measure => simp [intOf]; omega
      · have z8 : ((N : Int) % 8 == 0) = false := by rw [beq_eq_false_iff_ne]; omega
        obtain ⟨own, s0, vr, hblk, hrow, hnn⟩ := hwk
        have st : St wr B p L' N s0 vr := ⟨own, hblk, hrow, hnn⟩
        have c1 := st.c1; have c2 := st.c2; have f1 := st.f 1; have f2 := st.f 2
        have ST := Lib.hid st
        have hLb : L'.length ≤ 200000 := by rw [hpk.1]; omega
        obtain ⟨L1, hL1⟩ : ∃ L1, L1 = L' := ⟨_, rfl⟩
        have hinj : j < L1.length := by rw [hL1, hpk.1]; omega
        have HL1 : Hid (L1 = if Y.length % 8 = 0 then L' ++ [0] else L') := Lib.hid (by rw [if_neg (by rw [← hN]; exact h8)]; exact hL1)
        have st2 := ST.out
        rw [← hL1] at st2
        obtain ⟨g, cap, rfl, hcap⟩ := st2.shape
        have m1 := st2.c1; have m2 := st2.c2; have m3 := st2.f 1
        have mb := st2.byte j hinj
        have BL2 := Lib.hid hbl; have KP2 := Lib.hid hkp
        have HPK := Lib.hid hpk
        have HPART := Lib.hid hpart
        have HLEFT := Lib.hid hleft; have HSH := Lib.hid hsh; have HRS := Lib.hid hrs; have HJ := Lib.hid hj; have HQ := Lib.hid hq; have HD := Lib.hid hd; have HY := Lib.hid hY; have HN := Lib.hid hN; have H8 := Lib.hid h8; have HSTEP := Lib.hid hstep; have HYL := Lib.hid hYl
        have hpl : part < 2 ^ step := by rw [hpart]; exact Nat.mod_lt _ (Nat.two_pow_pos _)
        have HPL := Lib.hid hpl; clear hpl
        clear hblk hrow hnn st h8 hleft hstep hj hsh hrs hpart hYl hq hlt hd hY hN hpk hL1
        have hpv := part_val v rs step hv l1
        rw [HPART.out.symm] at hpv
        obtain ⟨c, hc⟩ : ∃ c, c = L1.getD j 0 := ⟨_, rfl⟩
        rw [← hc] at mb
        have mb1 := mb.1; have mb2 := mb.2
        have i1' : (j : Int) < ((L1.length : Nat) : Int) := by omega
        obtain ⟨y, hy⟩ : ∃ y, y = orb c (part * 2 ^ sh) := ⟨_, rfl⟩
        have hx := or_val c part sh step l1 l2 HPL.out
        rw [← hy] at hx
        have hstep' := put_step HPK.out part step (by have := HSTEP.out; have := HLEFT.out; have := HN.out; omega) l4 HPL.out HL1.out
        have hstep2 : Packs (L1.set j y) (X ++ nbits (v / 2 ^ (r - (d + step))) (d + step)) := by
          have e := hstep'.2
          rw [← HN.out, ← HJ.out, show 8 - N % 8 - step = sh from by have := HLEFT.out; have := HSH.out; omega, ← hc, ← hy, HY.out, List.append_assoc] at e
          have hk : r - (d + step) = rs := by have := HQ.out; have := HRS.out; have := HD.out; omega
          rw [hk, nbits_join, ← HPART.out, show rs + step = r - d from by have := HQ.out; have := HRS.out; have := HD.out; omega]
          exact e
        have HSTEP2 := Lib.hid hstep2
        have ST2 := Lib.hid st2
        have HND : Hid (N = X.length + d) := Lib.hid (by rw [HN.out, HYL.out])
        have HDR : Hid (d + step ≤ r) := Lib.hid (by have := HQ.out; have := HD.out; omega)
        have HRS2 : Hid (rs = r - (d + step)) := Lib.hid (by have := HQ.out; have := HRS.out; have := HD.out; omega)
        clear st2 mb hc hy hstep' hstep2
        go_wp2_with fail
        go_quiet (fail)
        go_wp2_with fail
        go_region
        have st3 := (ST2.out.drewN (nq + 1)).stored j y ((N : Int) + (step : Int))
        have n1 := (St.c1 (ST2.out.drewN (nq + 1)))
        have hne : p ≠ g := fun e => row_ne ST2.out.row ST2.out.block (by rw [e]; rfl)
        have n2 : ((wr.drewN (nq + 1)).setCell ⟨g, j, none⟩ (.int .u8 (y.toNat : Int))).cell? ⟨p, 1, none⟩ = some (.int .i64 (N : Int)) := by
          rw [World.cell?_setCell_other _ _ _ _ (by intro e; apply hne; injection e with e1; exact e1.symm)]; exact n1
        have n3 : ((wr.drewN (nq + 1)).setCell ⟨g, j, none⟩ (.int .u8 (y.toNat : Int))).frozen? ⟨p, 1, none⟩ = false := by
          rw [World.frozen?_setCell]; exact (ST2.out.drewN (nq + 1)).f 1
        have hgB : B ≤ g := row_ge ST2.out.row g rfl
        have bl3 := ((below_drewN BL2.out (nq + 1)).setCell (p := ⟨g, j, none⟩) hgB (.int .u8 (y.toNat : Int))).setCell (p := ⟨p, 1, none⟩) ST2.out.own (.int .i64 ((N : Int) + (step : Int)))
        have kp3 := ((KP2.out.drewN (nq + 1)).setCell g j (.int .u8 (y.toNat : Int)) (row_type (ST2.out.drewN (nq + 1)).row g rfl)).setCell p 1 (.int .i64 ((N : Int) + (step : Int))) (fun cs ty fr hk => by
          rw [heap_setCell_other _ _ _ _ hne] at hk
          have := (ST2.out.drewN (nq + 1)).block
          rw [this] at hk
          simp only [Option.some.injEq, Obj.cells.injEq] at hk
          exact .inr hk.2.1.symm)
        have ST3 := Lib.hid st3; have BL3 := Lib.hid bl3; have KP3 := Lib.hid kp3
        clear st3 bl3 kp3 n1 hne hgB
        go_wp2_with fail
        go_roundw
        case rel => exact ⟨d + step, L1.set j y, HDR.out, by rw [HRS2.out], by have h := ST3.out.work; rw [show ((X.length + (d + step) : Nat) : Int) = (N : Int) + (step : Int) from by have := HND.out; omega]; exact h, HSTEP2.out, BL3.out, KP3.out⟩
        case measure => simp [intOf]; omega
    · obtain rfl : d = r := by omega
      have e : nbits (v / 2 ^ (d - d)) d = nbits v d := by rw [Nat.sub_self, Nat.pow_zero, Nat.div_one]
      rw [e] at hpk
      have HPK := Lib.hid hpk; have HWK := Lib.hid hwk
      clear hpk hwk e
      go_wp2_with fail
      go_end0
      exact ⟨rfl, ⟨L', HWK.out, HPK.out⟩, hbl, hkp⟩
end Go.Proofs.Ytjnehpkkkmicfaa.Bt
namespace Go.Proofs.Ytjnehpkkkmicfaa.Bt
open Go.RowKit

set_option maxHeartbeats 2000000 in
theorem gathered_any (p : Nat) (L : List UInt8) (N : Int) (w : World) (B : Nat) (hW : Work w B p L N) (hL : L.length ≤ 200000) :
    Calls Try.prog 71 #[.pointer (some ⟨p, 0, none⟩)] w fun e w' => ∃ g, e = .returned (.slice (some ⟨g, 0, none⟩) L.length L.length) ∧ (∀ j, j < L.length → w.cell? ⟨g, j, none⟩ = some (.int .u8 ((L.getD j 0).toNat : Int))) ∧ ∃ n, w' = w.drewN n := by
  obtain ⟨own, s0, v, hblk, hrow, hnn⟩ := hW
  have st : St w B p L N s0 v := ⟨own, hblk, hrow, hnn⟩
  obtain ⟨g, cap, rfl, hcap⟩ := st.shape
  have c2 := st.c2
  have F : Hid (∀ j, j < L.length → w.cell? ⟨g, j, none⟩ = some (.int .u8 ((L.getD j 0).toNat : Int))) := Lib.hid (fun j hj => (st.byte j hj).1)
  have hcm : cap ≤ maxLen := by
    rcases hrow.2 with ⟨h0, _⟩ | ⟨g', cap', cur, hv, _, _, _, hm, _⟩
    · cases h0
    · cases hv; exact hm
  unfold maxLen at hcm
  have i1 : (L.length : Int) ≤ (cap : Int) := by omega
  have i0 : (0 : Int) ≤ (L.length : Int) := by omega
  clear st hblk hrow hnn own
  go_enter Try.func71, Try.ntmps71
  go_wp2_with fail
  go_quiet (fail)
  go_wp2_with fail
  go_ret
  exact ⟨g, rfl, F.out, _, rfl⟩

theorem St.c0 {w : World} {B p : Nat} {L : List UInt8} {N : Int} {s0 : ByteArray} {v : Value} (h : St w B p L N s0 v) : w.cell? ⟨p, 0, none⟩ = some (.string s0) := by simp [World.cell?, h.block]
theorem Work.alloc {w : World} {B p : Nat} {L : List UInt8} {N : Int} (h : Work w B p L N) (o : Obj) : Work (w.alloc o) B p L N := by
  obtain ⟨own, s0, v, hblk, hrow, hnn⟩ := h
  have st : St w B p L N s0 v := ⟨own, hblk, hrow, hnn⟩
  exact (st.alloc o).work

set_option maxHeartbeats 2000000 in
theorem done_any (p : Nat) (L : List UInt8) (N : Int) (w : World) (B : Nat) (hW : Work w B p L N) (hL : L.length ≤ 200000) (hB : B ≤ w.heap.size) :
    Calls Try.prog 52 #[.pointer (some ⟨p, 0, none⟩)] w fun e w' => e = .returned (.agg #[.string ⟨L.toArray⟩, .int .i64 N]) ∧ Below B w w' := by
  have HW := Lib.hid hW
  obtain ⟨own, s0, v, hblk, hrow, hnn⟩ := hW
  have st : St w B p L N s0 v := ⟨own, hblk, hrow, hnn⟩
  have ST := Lib.hid st
  have hpz := st.size
  clear hblk hrow hnn st
  go_enter Try.func52, Try.ntmps52
  go_wp2_with fail
  refine (gathered_any p L N _ B (HW.out.alloc _) hL).mono ?_
  rintro e w1 ⟨g, rfl, hcells, n, rfl⟩
  have hbk := run_convert_bytes_back (P := Try.prog) ((w.alloc (.cells #[.string ⟨#[]⟩, .int .i64 0] 35)).drewN n) 55 9 5 ⟨g, 0, none⟩ L.length L Try.underlying55 Try.underlying5 Try.underlying9 (by
    intro j hj
    have e : ((⟨g, 0, none⟩ : Addr).add j) = ⟨g, j, none⟩ := by simp [Addr.add] <;> omega
    rw [e]
    have h2 := hcells j hj
    simp only [List.getD_eq_getElem?_getD, List.getElem?_eq_getElem hj, Option.getD_some] at h2
    exact h2)
  have st1 := (ST.out.alloc (.cells #[.string ⟨#[]⟩, .int .i64 0] 35)).drewN n
  have q0 : ((w.alloc (.cells #[.string ⟨#[]⟩, .int .i64 0] 35)).drewN n).cell? ⟨p, 0, none⟩ = some (.string s0) := st1.c0
  have q1 := st1.c1
  have qf := st1.f 0
  have hb1 : Below B w (((w.alloc (.cells #[.string ⟨#[]⟩, .int .i64 0] 35)).drewN n).setCell ⟨p, 0, none⟩ (.string ⟨L.toArray⟩)) := (below_drewN ((Below.refl B w).alloc hB _) n).setCell (p := ⟨p, 0, none⟩) own _
  have HB := Lib.hid hb1
  clear hcells st1 hb1
  go_wp2_with fail
  have hB2 := (HB.out.setCell (p := ⟨w.heap.size, 0, none⟩) hB (.string ⟨L.toArray⟩)).setCell (p := ⟨w.heap.size, 1, none⟩) hB (.int .i64 N)
  refine bodyPost_ret (v := .agg #[.string ⟨L.toArray⟩, .int .i64 N]) (by simp [results, Try.results52, go_sem]) rfl ⟨rfl, hB2⟩
end Go.Proofs.Ytjnehpkkkmicfaa.Bt
namespace Go.Proofs.Ytjnehpkkkmicfaa.Bt
open Go.RowKit

theorem packs_ex : ∀ (n : Nat) (X : List Bool), X.length = n → ∃ l, Packs l X
  | 0, X, h => by
    have : X = [] := List.length_eq_zero_iff.1 h
    subst this
    exact ⟨[], rfl, fun i => by rw [bitAt_nil]; simp⟩
  | n + 1, X, h => by
    rcases List.eq_nil_or_concat X with rfl | ⟨Y, b, rfl⟩
    · simp at h
    · rw [List.concat_eq_append] at h ⊢
      obtain ⟨l, hl⟩ := packs_ex n Y (by simp at h; omega)
      have := put_step hl b.toNat 1 (by omega) (by omega) (by cases b <;> decide) rfl
      have e : nbits b.toNat 1 = [b] := by cases b <;> decide
      rw [e] at this
      exact ⟨_, this.2⟩
/-- bits as bytes -/
noncomputable def pack (X : List Bool) : List UInt8 := Classical.choose (packs_ex X.length X rfl)
theorem pack_packs (X : List Bool) : Packs (pack X) X := Classical.choose_spec (packs_ex X.length X rfl)
theorem Packs.eq {l : List UInt8} {X : List Bool} (h : Packs l X) : l = pack X := h.inj (pack_packs X)
noncomputable def packS (X : List Bool) : ByteArray := ⟨(pack X).toArray⟩
theorem packs_of {l : List UInt8} {X : List Bool} (h1 : l.length = (X.length + 7) / 8) (h2 : ∀ i, i < 8 * l.length → bitAt l i = X.getD i false) : Packs l X := by
  refine ⟨h1, fun i => ?_⟩
  by_cases hi : i < 8 * l.length
  · exact h2 i hi
  · rw [bitAt_past l i (by omega), List.getD_eq_getElem?_getD, List.getElem?_eq_none (by omega)]; rfl

noncomputable def putE (s : ByteArray) (n : Int) (v : Nat) (r : Int) : Int := if chk s n ≠ 0 then 2 else if r < 0 ∨ 64 < r ∨ v / 2 ^ r.toNat ≠ 0 then 1 else if 1048576 < n + r then 8 else 0
noncomputable def putS (s : ByteArray) (n : Int) (v : Nat) (r : Int) : ByteArray := if putE s n v r = 0 then packS (bl (bytes s) n.toNat ++ nbits v r.toNat) else if putE s n v r = 2 then ⟨#[]⟩ else s
noncomputable def putN (s : ByteArray) (n : Int) (v : Nat) (r : Int) : Int := if putE s n v r = 0 then n + r else if putE s n v r = 2 then 0 else n
theorem ret_bit {s t : ByteArray} {a b c d : Int} (h : s = t) (k : a = c) (l : b = d) : Ending.returned (.tuple #[.agg #[.string s, .int .i64 a], .int .i64 b]) = .returned (.tuple #[.agg #[.string t, .int .i64 c], .int .i64 d]) := by rw [h, k, l]

set_option maxHeartbeats 1000000 in
theorem same_any (s : ByteArray) (n : Int) (w : World) (hs : s.size ≤ 281474976710656) :
    Calls Try.prog 65 #[.agg #[.string s, .int .i64 n]] w fun e w' => e = .returned (.agg #[.string s, .int .i64 n]) ∧ Below w.heap.size w w' := by
  have hbx : Below w.heap.size w (w.alloc (.cells #[.string s, .int .i64 n] 35)) := (Below.refl _ _).alloc (Nat.le_refl _) _
  go_enter Try.func65, Try.ntmps65
  go_wp2_with fail
  obtain ⟨W0, hW0⟩ : ∃ W0, W0 = (w.alloc (.cells #[.string s, .int .i64 n] 35)).alloc (.cells #[.string ⟨#[]⟩, .int .i64 0] 35) := ⟨_, rfl⟩
  rw [← hW0]
  have b0 : Below w.heap.size w W0 := by rw [hW0]; exact hbx.alloc (by simp) _
  have z0 : w.heap.size + 1 < W0.heap.size := by rw [hW0]; simp
  have g : W0.cell? ⟨w.heap.size, 0, none⟩ = some (.string s) ∧ W0.cell? ⟨w.heap.size, 1, none⟩ = some (.int .i64 n) ∧ W0.cell? ⟨w.heap.size + 1, 0, none⟩ = some (.string ⟨#[]⟩) ∧ W0.cell? ⟨w.heap.size + 1, 1, none⟩ = some (.int .i64 0) ∧ W0.frozen? ⟨w.heap.size + 1, 0, none⟩ = false ∧ W0.frozen? ⟨w.heap.size + 1, 1, none⟩ = false := by
    rw [hW0]
    refine ⟨by simp, by simp, by simp, by simp, by simp [go_sem], by simp [go_sem]⟩
  clear hW0 hbx
  have HB := Lib.hid b0; clear b0
  have ga := g.1; have gb := g.2.1
  go_region_held3 (fun W => W.cell? ⟨w.heap.size, 0, none⟩ = some (.string s) ∧ W.cell? ⟨w.heap.size, 1, none⟩ = some (.int .i64 n)) (first | exact ⟨ga, gb⟩ | exact ⟨G.1, G.2.1⟩ | (refine ⟨?_, ?_⟩ <;> simp [go_sem, G.1, G.2.1])) (first | (go_at_call 81; refine (Cln.clone_any s _ hs).mono ?_; rintro e w1 ⟨rfl, hb⟩; have G : w1.cell? ⟨w.heap.size, 0, none⟩ = some (.string s) ∧ w1.cell? ⟨w.heap.size, 1, none⟩ = some (.int .i64 n) ∧ w1.cell? ⟨w.heap.size + 1, 0, none⟩ = some (.string ⟨#[]⟩) ∧ w1.cell? ⟨w.heap.size + 1, 1, none⟩ = some (.int .i64 0) ∧ w1.frozen? ⟨w.heap.size + 1, 0, none⟩ = false ∧ w1.frozen? ⟨w.heap.size + 1, 1, none⟩ = false := ⟨by rw [hb.cell (by show w.heap.size < W0.heap.size; omega)]; exact g.1, by rw [hb.cell (by show w.heap.size < W0.heap.size; omega)]; exact g.2.1, by rw [hb.cell z0]; exact g.2.2.1, by rw [hb.cell z0]; exact g.2.2.2.1, by rw [hb.frozen z0]; exact g.2.2.2.2.1, by rw [hb.frozen z0]; exact g.2.2.2.2.2⟩))
  have hB1 : Below w.heap.size w w1 := HB.out.trans (Below.trans (⟨rfl, rfl, rfl, Nat.le_refl _, fun _ _ => rfl⟩ : Below w.heap.size W0 W0.drew) (hb.mono (by show w.heap.size ≤ W0.heap.size; omega)))
  have hB2 := (hB1.setCell (p := ⟨w.heap.size + 1, 0, none⟩) (Nat.le_succ _) (.string s)).setCell (p := ⟨w.heap.size + 1, 1, none⟩) (Nat.le_succ _) (.int .i64 n)
  have HB2 := Lib.hid hB2
  have G3 := G.2.2.1; have G4 := G.2.2.2.1
  clear hB1 hB2 hb g ga gb G
  go_wp2_with fail
  refine bodyPost_ret (v := .agg #[.string s, .int .i64 n]) (by simp [results, Try.results65, go_sem, G3, G4]) rfl ⟨rfl, HB2.out⟩
end Go.Proofs.Ytjnehpkkkmicfaa.Bt
namespace Go.Proofs.Ytjnehpkkkmicfaa.Bt
open Go.RowKit

theorem size_small {s : ByteArray} {n : Int} (h : Right (bytes s) n) : s.size ≤ 200000 := by
  have h1 := h.2.2.1
  have h2 := h.2.1
  have h3 := h.1
  rw [bytes_len] at h1
  omega
theorem div_zero_iff (v r : Nat) : v / 2 ^ r = 0 ↔ v < 2 ^ r := by
  constructor
  · intro h
    rcases Nat.lt_or_ge v (2 ^ r) with h1 | h1
    · exact h1
    · have := Nat.div_pos h1 (Nat.two_pow_pos r); omega
  · exact Nat.div_eq_of_lt

set_option maxHeartbeats 4000000 in
theorem put_top (s : ByteArray) (n : Int) (v : Nat) (r : Int) (w : World) (hs : s.size ≤ maxLen) (hv : v < 18446744073709551616) :
    Calls Try.prog 60 #[.agg #[.string s, .int .i64 n], .int .u64 v, .int .i64 r] w fun e w' => e = .returned (.tuple #[.agg #[.string (putS s n v r), .int .i64 (putN s n v r)], .int .i64 (putE s n v r)]) ∧ Below w.heap.size w w' := by
  have hbx : Below w.heap.size w ((w.alloc (.cells #[.string s, .int .i64 n] 35)).alloc (.cells #[.string ⟨#[]⟩, .int .i64 0] 35)) := ((Below.refl _ _).alloc (Nat.le_refl _) _).alloc (by simp) _
  rcases chk_cases s n with hc | hc
  case inr =>
    have e1 : putE s n v r = 2 := if_pos (by omega)
    have FS : Hid (putS s n v r = ⟨#[]⟩ ∧ putN s n v r = 0 ∧ putE s n v r = 2) := Lib.hid ⟨by unfold putS; rw [if_neg (by omega), if_pos e1], by unfold putN; rw [if_neg (by omega), if_pos e1], e1⟩
    clear e1
    go_enter Try.func60, Try.ntmps60
    go_wp2_with fail
    refine (check_any _ _ _ hs).mono ?_
    rintro e w1 ⟨rfl, b1⟩
    have b2 := hbx.trans (b1.mono (by simp; omega))
    have q0 : w1.cell? ⟨w.heap.size + 1, 0, none⟩ = some (.string ⟨#[]⟩) := by rw [b1.cell (by simp)]; simp
    have q1 : w1.cell? ⟨w.heap.size + 1, 1, none⟩ = some (.int .i64 0) := by rw [b1.cell (by simp)]; simp
    have p0 : w1.frozen? ⟨w.heap.size + 1, 0, none⟩ = false := by rw [b1.frozen (by simp)]; simp [go_sem]
    have p1 : w1.frozen? ⟨w.heap.size + 1, 1, none⟩ = false := by rw [b1.frozen (by simp)]; simp [go_sem]
    have c0 : w1.cell? ⟨w.heap.size, 0, none⟩ = some (.string s) := by rw [b1.cell (by simp; omega)]; simp
    have c1 : w1.cell? ⟨w.heap.size, 1, none⟩ = some (.int .i64 n) := by rw [b1.cell (by simp; omega)]; simp
    rw [hc]
    clear b1
    go_wp2_with fail
    have b3 := Lib.hid ((b2.setCell (p := ⟨w.heap.size + 1, 0, none⟩) (Nat.le_succ _) (.string ⟨#[]⟩)).setCell (p := ⟨w.heap.size + 1, 1, none⟩) (Nat.le_succ _) (.int .i64 0))
    refine bodyPost_ret (v := .tuple #[.agg #[.string ⟨#[]⟩, .int .i64 0], .int .i64 2]) (by simp [results, Try.results60, go_sem, q0, q1]) rfl ⟨ret_bit FS.out.1.symm FS.out.2.1.symm FS.out.2.2.symm, b3.out⟩
  have hR := chk_zero hc
  have hsm := size_small hR
  obtain ⟨m, rfl⟩ := Int.eq_ofNat_of_zero_le hR.1
  have hm : m ≤ 1048576 := by have := hR.2.1; omega
  by_cases hbad : r < 0 ∨ 64 < r ∨ v / 2 ^ r.toNat ≠ 0
  · have e1 : putE s m v r = 1 := by unfold putE; rw [if_neg (by omega), if_pos hbad]
    have FS : Hid (putS s m v r = s ∧ putN s m v r = m ∧ putE s m v r = 1) := Lib.hid ⟨by unfold putS; rw [if_neg (by omega), if_neg (by omega)], by unfold putN; rw [if_neg (by omega), if_neg (by omega)], e1⟩
    clear e1 hR
    by_cases q1 : r < 0
    · go_enter Try.func60, Try.ntmps60
      go_wp2_with fail
      refine (check_any _ _ _ hs).mono ?_
      rintro e w1 ⟨rfl, b1⟩
      have b2 := hbx.trans (b1.mono (by simp; omega))
      have q0 : w1.cell? ⟨w.heap.size + 1, 0, none⟩ = some (.string ⟨#[]⟩) := by rw [b1.cell (by simp)]; simp
      have q1 : w1.cell? ⟨w.heap.size + 1, 1, none⟩ = some (.int .i64 0) := by rw [b1.cell (by simp)]; simp
      have p0 : w1.frozen? ⟨w.heap.size + 1, 0, none⟩ = false := by rw [b1.frozen (by simp)]; simp [go_sem]
      have p1 : w1.frozen? ⟨w.heap.size + 1, 1, none⟩ = false := by rw [b1.frozen (by simp)]; simp [go_sem]
      have c0 : w1.cell? ⟨w.heap.size, 0, none⟩ = some (.string s) := by rw [b1.cell (by simp; omega)]; simp
      have c1 : w1.cell? ⟨w.heap.size, 1, none⟩ = some (.int .i64 m) := by rw [b1.cell (by simp; omega)]; simp
      have z1 : w.heap.size + 1 < w1.heap.size := Nat.lt_of_lt_of_le (by simp) b1.size
      rw [hc]
      clear b1
      go_wp2_with fail
      refine (same_any s m _ (by omega)).mono ?_
      rintro e w2 ⟨rfl, b3⟩
      have b4 := b2.trans (b3.mono b2.size)
      have r0 : w2.cell? ⟨w.heap.size + 1, 0, none⟩ = some (.string ⟨#[]⟩) := by rw [b3.cell z1]; exact q0
      have r1 : w2.cell? ⟨w.heap.size + 1, 1, none⟩ = some (.int .i64 0) := by rw [b3.cell z1]; exact q1
      have s0' : w2.frozen? ⟨w.heap.size + 1, 0, none⟩ = false := by rw [b3.frozen z1]; exact p0
      have s1' : w2.frozen? ⟨w.heap.size + 1, 1, none⟩ = false := by rw [b3.frozen z1]; exact p1
      have b5 := Lib.hid ((b4.setCell (p := ⟨w.heap.size + 1, 0, none⟩) (Nat.le_succ _) (.string s)).setCell (p := ⟨w.heap.size + 1, 1, none⟩) (Nat.le_succ _) (.int .i64 m))
      clear b2 b3 b4 q0 q1 p0 p1 c0 c1
      go_wp2_with fail
      refine bodyPost_ret (v := .tuple #[.agg #[.string s, .int .i64 m], .int .i64 1]) (by simp [results, Try.results60, go_sem, r0, r1]) rfl ⟨ret_bit FS.out.1.symm FS.out.2.1.symm FS.out.2.2.symm, b5.out⟩
    by_cases q2 : 64 < r
    · go_enter Try.func60, Try.ntmps60
      go_wp2_with fail
      refine (check_any _ _ _ hs).mono ?_
      rintro e w1 ⟨rfl, b1⟩
      have b2 := hbx.trans (b1.mono (by simp; omega))
      have q0 : w1.cell? ⟨w.heap.size + 1, 0, none⟩ = some (.string ⟨#[]⟩) := by rw [b1.cell (by simp)]; simp
      have q1 : w1.cell? ⟨w.heap.size + 1, 1, none⟩ = some (.int .i64 0) := by rw [b1.cell (by simp)]; simp
      have p0 : w1.frozen? ⟨w.heap.size + 1, 0, none⟩ = false := by rw [b1.frozen (by simp)]; simp [go_sem]
      have p1 : w1.frozen? ⟨w.heap.size + 1, 1, none⟩ = false := by rw [b1.frozen (by simp)]; simp [go_sem]
      have c0 : w1.cell? ⟨w.heap.size, 0, none⟩ = some (.string s) := by rw [b1.cell (by simp; omega)]; simp
      have c1 : w1.cell? ⟨w.heap.size, 1, none⟩ = some (.int .i64 m) := by rw [b1.cell (by simp; omega)]; simp
      have z1 : w.heap.size + 1 < w1.heap.size := Nat.lt_of_lt_of_le (by simp) b1.size
      rw [hc]
      clear b1
      go_wp2_with fail
      refine (same_any s m _ (by omega)).mono ?_
      rintro e w2 ⟨rfl, b3⟩
      have b4 := b2.trans (b3.mono b2.size)
      have r0 : w2.cell? ⟨w.heap.size + 1, 0, none⟩ = some (.string ⟨#[]⟩) := by rw [b3.cell z1]; exact q0
      have r1 : w2.cell? ⟨w.heap.size + 1, 1, none⟩ = some (.int .i64 0) := by rw [b3.cell z1]; exact q1
      have s0' : w2.frozen? ⟨w.heap.size + 1, 0, none⟩ = false := by rw [b3.frozen z1]; exact p0
      have s1' : w2.frozen? ⟨w.heap.size + 1, 1, none⟩ = false := by rw [b3.frozen z1]; exact p1
      have b5 := Lib.hid ((b4.setCell (p := ⟨w.heap.size + 1, 0, none⟩) (Nat.le_succ _) (.string s)).setCell (p := ⟨w.heap.size + 1, 1, none⟩) (Nat.le_succ _) (.int .i64 m))
      clear b2 b3 b4 q0 q1 p0 p1 c0 c1
      go_wp2_with fail
      refine bodyPost_ret (v := .tuple #[.agg #[.string s, .int .i64 m], .int .i64 1]) (by simp [results, Try.results60, go_sem, r0, r1]) rfl ⟨ret_bit FS.out.1.symm FS.out.2.1.symm FS.out.2.2.symm, b5.out⟩
    obtain ⟨r, rfl⟩ := Int.eq_ofNat_of_zero_le (show 0 ≤ r by omega)
    rw [Int.toNat_natCast] at hbad
    have q3 : ((v : Int) / 2 ^ r != 0) = true := by
      have e : (v : Int) / 2 ^ r = ((v / 2 ^ r : Nat) : Int) := by simp
      rw [bne_iff_ne, e]; omega
    clear hbad
    go_enter Try.func60, Try.ntmps60
    go_wp2_with fail
    refine (check_any _ _ _ hs).mono ?_
    rintro e w1 ⟨rfl, b1⟩
    have b2 := hbx.trans (b1.mono (by simp; omega))
    have q0 : w1.cell? ⟨w.heap.size + 1, 0, none⟩ = some (.string ⟨#[]⟩) := by rw [b1.cell (by simp)]; simp
    have q1 : w1.cell? ⟨w.heap.size + 1, 1, none⟩ = some (.int .i64 0) := by rw [b1.cell (by simp)]; simp
    have p0 : w1.frozen? ⟨w.heap.size + 1, 0, none⟩ = false := by rw [b1.frozen (by simp)]; simp [go_sem]
    have p1 : w1.frozen? ⟨w.heap.size + 1, 1, none⟩ = false := by rw [b1.frozen (by simp)]; simp [go_sem]
    have c0 : w1.cell? ⟨w.heap.size, 0, none⟩ = some (.string s) := by rw [b1.cell (by simp; omega)]; simp
    have c1 : w1.cell? ⟨w.heap.size, 1, none⟩ = some (.int .i64 m) := by rw [b1.cell (by simp; omega)]; simp
    have z1 : w.heap.size + 1 < w1.heap.size := Nat.lt_of_lt_of_le (by simp) b1.size
    rw [hc]
    clear b1
    go_wp2_with fail
    refine (same_any s m _ (by omega)).mono ?_
    rintro e w2 ⟨rfl, b3⟩
    have b4 := b2.trans (b3.mono b2.size)
    have r0 : w2.cell? ⟨w.heap.size + 1, 0, none⟩ = some (.string ⟨#[]⟩) := by rw [b3.cell z1]; exact q0
    have r1 : w2.cell? ⟨w.heap.size + 1, 1, none⟩ = some (.int .i64 0) := by rw [b3.cell z1]; exact q1
    have s0' : w2.frozen? ⟨w.heap.size + 1, 0, none⟩ = false := by rw [b3.frozen z1]; exact p0
    have s1' : w2.frozen? ⟨w.heap.size + 1, 1, none⟩ = false := by rw [b3.frozen z1]; exact p1
    have b5 := Lib.hid ((b4.setCell (p := ⟨w.heap.size + 1, 0, none⟩) (Nat.le_succ _) (.string s)).setCell (p := ⟨w.heap.size + 1, 1, none⟩) (Nat.le_succ _) (.int .i64 m))
    clear b2 b3 b4 q0 q1 p0 p1 c0 c1
    go_wp2_with fail
    refine bodyPost_ret (v := .tuple #[.agg #[.string s, .int .i64 m], .int .i64 1]) (by simp [results, Try.results60, go_sem, r0, r1]) rfl ⟨ret_bit FS.out.1.symm FS.out.2.1.symm FS.out.2.2.symm, b5.out⟩
  obtain ⟨r, rfl⟩ := Int.eq_ofNat_of_zero_le (show 0 ≤ r by omega)
  rw [Int.toNat_natCast] at hbad
  have hr : r ≤ 64 := by omega
  have hv0 : v / 2 ^ r = 0 := by omega
  have q3 : ((v : Int) / 2 ^ r != 0) = false := by
    have e : (v : Int) / 2 ^ r = ((v / 2 ^ r : Nat) : Int) := by simp
    rw [bne_eq_false_iff_eq, e, hv0]; rfl
  by_cases q4 : 1048576 < (m : Int) + (r : Int)
  · have e1 : putE s m v r = 8 := by unfold putE; rw [if_neg (by omega), if_neg (by rw [Int.toNat_natCast]; exact hbad), if_pos q4]
    have FS : Hid (putS s m v r = s ∧ putN s m v r = m ∧ putE s m v r = 8) := Lib.hid ⟨by unfold putS; rw [if_neg (by omega), if_neg (by omega)], by unfold putN; rw [if_neg (by omega), if_neg (by omega)], e1⟩
    clear e1 hR hbad hv0
    go_enter Try.func60, Try.ntmps60
    go_wp2_with fail
    refine (check_any _ _ _ hs).mono ?_
    rintro e w1 ⟨rfl, b1⟩
    have b2 := hbx.trans (b1.mono (by simp; omega))
    have q0 : w1.cell? ⟨w.heap.size + 1, 0, none⟩ = some (.string ⟨#[]⟩) := by rw [b1.cell (by simp)]; simp
    have q1 : w1.cell? ⟨w.heap.size + 1, 1, none⟩ = some (.int .i64 0) := by rw [b1.cell (by simp)]; simp
    have p0 : w1.frozen? ⟨w.heap.size + 1, 0, none⟩ = false := by rw [b1.frozen (by simp)]; simp [go_sem]
    have p1 : w1.frozen? ⟨w.heap.size + 1, 1, none⟩ = false := by rw [b1.frozen (by simp)]; simp [go_sem]
    have c0 : w1.cell? ⟨w.heap.size, 0, none⟩ = some (.string s) := by rw [b1.cell (by simp; omega)]; simp
    have c1 : w1.cell? ⟨w.heap.size, 1, none⟩ = some (.int .i64 m) := by rw [b1.cell (by simp; omega)]; simp
    have z1 : w.heap.size + 1 < w1.heap.size := Nat.lt_of_lt_of_le (by simp) b1.size
    rw [hc]
    clear b1
    go_wp2_with fail
    refine (same_any s m _ (by omega)).mono ?_
    rintro e w2 ⟨rfl, b3⟩
    have b4 := b2.trans (b3.mono b2.size)
    have r0 : w2.cell? ⟨w.heap.size + 1, 0, none⟩ = some (.string ⟨#[]⟩) := by rw [b3.cell z1]; exact q0
    have r1 : w2.cell? ⟨w.heap.size + 1, 1, none⟩ = some (.int .i64 0) := by rw [b3.cell z1]; exact q1
    have s0' : w2.frozen? ⟨w.heap.size + 1, 0, none⟩ = false := by rw [b3.frozen z1]; exact p0
    have s1' : w2.frozen? ⟨w.heap.size + 1, 1, none⟩ = false := by rw [b3.frozen z1]; exact p1
    have b5 := Lib.hid ((b4.setCell (p := ⟨w.heap.size + 1, 0, none⟩) (Nat.le_succ _) (.string s)).setCell (p := ⟨w.heap.size + 1, 1, none⟩) (Nat.le_succ _) (.int .i64 m))
    clear b2 b3 b4 q0 q1 p0 p1 c0 c1
    go_wp2_with fail
    refine bodyPost_ret (v := .tuple #[.agg #[.string s, .int .i64 m], .int .i64 8]) (by simp [results, Try.results60, go_sem, r0, r1]) rfl ⟨ret_bit FS.out.1.symm FS.out.2.1.symm FS.out.2.2.symm, b5.out⟩
  have e1 : putE s m v r = 0 := by unfold putE; rw [if_neg (by omega), if_neg (by rw [Int.toNat_natCast]; exact hbad), if_neg q4]
  have FS : Hid (putS s m v r = packS (bl (bytes s) m ++ nbits v r) ∧ putN s m v r = m + r ∧ putE s m v r = 0) := Lib.hid ⟨by unfold putS; rw [if_pos e1, Int.toNat_natCast, Int.toNat_natCast], by unfold putN; rw [if_pos e1], e1⟩
  have hp := hR.packs
  rw [Int.toNat_natCast] at hp
  have hl := bl_length (bytes s) m
  have hsz : s.size = (m + 7) / 8 := by have := hR.2.2.1; rw [bytes_len] at this; simpa using this
  generalize bl (bytes s) m = X at hp hl FS
  have HP := Lib.hid hp
  have HL := Lib.hid hl
  have HSZ := Lib.hid hsz
  clear e1 hbad hR hp hl hsz hv0
  go_enter Try.func60, Try.ntmps60
  go_wp2_with fail
  refine (check_any _ _ _ hs).mono ?_
  rintro e w1 ⟨rfl, b1⟩
  have b2 := hbx.trans (b1.mono (by simp; omega))
  have q0 : w1.cell? ⟨w.heap.size + 1, 0, none⟩ = some (.string ⟨#[]⟩) := by rw [b1.cell (by simp)]; simp
  have q1 : w1.cell? ⟨w.heap.size + 1, 1, none⟩ = some (.int .i64 0) := by rw [b1.cell (by simp)]; simp
  have p0 : w1.frozen? ⟨w.heap.size + 1, 0, none⟩ = false := by rw [b1.frozen (by simp)]; simp [go_sem]
  have p1 : w1.frozen? ⟨w.heap.size + 1, 1, none⟩ = false := by rw [b1.frozen (by simp)]; simp [go_sem]
  have c0 : w1.cell? ⟨w.heap.size, 0, none⟩ = some (.string s) := by rw [b1.cell (by simp; omega)]; simp
  have c1 : w1.cell? ⟨w.heap.size, 1, none⟩ = some (.int .i64 m) := by rw [b1.cell (by simp; omega)]; simp
  have z1 : w.heap.size + 1 < w1.heap.size := Nat.lt_of_lt_of_le (by simp) b1.size
  rw [hc]
  clear b1
  go_wp2_with fail
  have HB2 := Lib.hid b2
  refine (begin_any s m ((m : Int) + (r : Int)) (by omega) (by omega) (by have := HSZ.out; omega) _ w1.heap.size (Nat.le_refl _)).mono ?_
  rintro e w2 ⟨p, rfl, hwk, b3⟩
  have HWK := Lib.hid hwk; have HB3 := Lib.hid b3
  clear hwk b3 b2 c0 c1
  go_wp2_with fail
  refine (put_any p v r (bytes s) X w2 w1.heap.size (by rw [HL.out]; exact HWK.out) HP.out hr (by rw [HL.out]; omega) hv (HB3.out.size)).mono ?_
  rintro e w3 ⟨rfl, ⟨L', hwk2, hpk2⟩, b4, _⟩
  have hL' : L'.length ≤ 200000 := by rw [hpk2.1, List.length_append, HL.out, nbits_length]; omega
  have hpe := hpk2.eq
  have HWK2 := Lib.hid hwk2; have HB4 := Lib.hid (HB3.out.trans b4); have HPE := Lib.hid hpe
  clear hwk2 hpk2 b4 hpe
  go_wp2_with fail
  refine (done_any p L' _ w3 w1.heap.size HWK2.out hL' HB4.out.size).mono ?_
  rintro e w4 ⟨rfl, b5⟩
  have b6 := HB4.out.trans b5
  have r0 : w4.cell? ⟨w.heap.size + 1, 0, none⟩ = some (.string ⟨#[]⟩) := by rw [b6.cell z1]; exact q0
  have r1 : w4.cell? ⟨w.heap.size + 1, 1, none⟩ = some (.int .i64 0) := by rw [b6.cell z1]; exact q1
  have s0' : w4.frozen? ⟨w.heap.size + 1, 0, none⟩ = false := by rw [b6.frozen z1]; exact p0
  have s1' : w4.frozen? ⟨w.heap.size + 1, 1, none⟩ = false := by rw [b6.frozen z1]; exact p1
  have b7 := HB2.out.trans (b6.mono HB2.out.size)
  obtain ⟨S, hS⟩ : ∃ S : ByteArray, S = ⟨L'.toArray⟩ := ⟨_, rfl⟩
  rw [← hS]
  obtain ⟨K, hK⟩ : ∃ K : Int, K = ((X.length + r : Nat) : Int) := ⟨_, rfl⟩
  rw [← hK]
  have FS2 : Hid (putS s m v r = S ∧ putN s m v r = K) := Lib.hid ⟨by rw [FS.out.1, hS, HPE.out]; rfl, by rw [FS.out.2.1, hK, HL.out]; omega⟩
  have b8 := Lib.hid ((b7.setCell (p := ⟨w.heap.size + 1, 0, none⟩) (Nat.le_succ _) (.string S)).setCell (p := ⟨w.heap.size + 1, 1, none⟩) (Nat.le_succ _) (.int .i64 K))
  clear b5 b6 b7 q0 q1 p0 p1 hS hK
  go_wp2_with fail
  refine bodyPost_ret (v := .tuple #[.agg #[.string S, .int .i64 K], .int .i64 0]) (by simp [results, Try.results60, go_sem, r0, r1]) rfl ⟨ret_bit FS2.out.1.symm FS2.out.2.symm FS.out.2.2.symm, b8.out⟩
end Go.Proofs.Ytjnehpkkkmicfaa.Bt
namespace Go.Proofs.Ytjnehpkkkmicfaa.Bt
open Go.RowKit

theorem packS_of {l : List UInt8} {X : List Bool} (h : Packs l X) : packS X = ⟨l.toArray⟩ := by unfold packS; rw [← h.eq]
/-- a variable that holds bits -/
structure Box (w : World) (g : Nat) (s : ByteArray) (n : Int) : Prop where
  lt : g < w.heap.size
  c0 : w.cell? ⟨g, 0, none⟩ = some (.string s)
  c1 : w.cell? ⟨g, 1, none⟩ = some (.int .i64 n)
  f0 : w.frozen? ⟨g, 0, none⟩ = false
  f1 : w.frozen? ⟨g, 1, none⟩ = false
theorem Box.new (w : World) (s : ByteArray) (n : Int) : Box (w.alloc (.cells #[.string s, .int .i64 n] 35)) w.heap.size s n := ⟨by simp, by simp, by simp, by simp [go_sem], by simp [go_sem]⟩
theorem Box.below {w w' : World} {g : Nat} {s : ByteArray} {n : Int} (h : Box w g s n) (hb : Below w.heap.size w w') : Box w' g s n :=
  ⟨Nat.lt_of_lt_of_le h.lt hb.size, by rw [hb.cell h.lt]; exact h.c0, by rw [hb.cell h.lt]; exact h.c1, by rw [hb.frozen h.lt]; exact h.f0, by rw [hb.frozen h.lt]; exact h.f1⟩
theorem Box.alloc {w : World} {g : Nat} {s : ByteArray} {n : Int} (h : Box w g s n) (o : Obj) : Box (w.alloc o) g s n := h.below ((Below.refl _ _).alloc (Nat.le_refl _) _)
theorem Box.set {w : World} {g : Nat} {s : ByteArray} {n : Int} (h : Box w g s n) (t : ByteArray) (m : Int) : Box ((w.setCell ⟨g, 0, none⟩ (.string t)).setCell ⟨g, 1, none⟩ (.int .i64 m)) g t m := by
  have e : (⟨g, 0, none⟩ : Addr) ≠ ⟨g, 1, none⟩ := by intro h; injection h with _ h; cases h
  have h1 : (w.setCell ⟨g, 0, none⟩ (.string t)).cell? ⟨g, 1, none⟩ = some (.int .i64 n) := by rw [World.cell?_setCell_other _ _ _ _ e]; exact h.c1
  refine ⟨by simpa using h.lt, ?_, World.cell?_setCell_same _ _ _ h1, by rw [World.frozen?_setCell, World.frozen?_setCell]; exact h.f0, by rw [World.frozen?_setCell, World.frozen?_setCell]; exact h.f1⟩
  rw [World.cell?_setCell_other _ _ _ _ e.symm]
  exact World.cell?_setCell_same _ _ _ h.c0
theorem px1 : putE ⟨#[]⟩ 0 5 3 = 0 := by decide +kernel
theorem px2 : putS ⟨#[]⟩ 0 5 3 = ⟨#[160]⟩ := by unfold putS; rw [if_pos px1]; exact packS_of (l := [160]) (packs_of (by decide +kernel) (by decide +kernel))
theorem px3 : putN ⟨#[]⟩ 0 5 3 = 3 := by unfold putN; rw [if_pos px1]; rfl
theorem px4 : putE ⟨#[160]⟩ 3 1 2 = 0 := by decide +kernel
theorem px5 : putS ⟨#[160]⟩ 3 1 2 = ⟨#[168]⟩ := by unfold putS; rw [if_pos px4]; exact packS_of (l := [168]) (packs_of (by decide +kernel) (by decide +kernel))
theorem px6 : putN ⟨#[160]⟩ 3 1 2 = 5 := by unfold putN; rw [if_pos px4]; rfl
theorem px7 : getV ⟨#[168]⟩ 5 1 3 = 2 ∧ getE ⟨#[168]⟩ 5 1 3 = 0 := by decide +kernel
theorem px8 : putE ⟨#[168]⟩ 5 4 2 = 1 := by decide +kernel
theorem px9 : getE ⟨#[168]⟩ 5 3 3 = 5 := by decide +kernel
theorem px10 : chk ⟨#[]⟩ 1 = 2 := by decide +kernel
theorem small {n : Nat} (h : n ≤ 1000) : n ≤ maxLen := by unfold maxLen; omega

end Go.Proofs.Ytjnehpkkkmicfaa.Bt

/- Plain facts of numbers as bytes: five bytes, short bytes. No program in sight. -/
import Derived.WalkKit
namespace Go.Proofs.Ytgpheofdeflhdaa.Nm

def ofB (l : List UInt8) : ByteArray := ⟨l.toArray⟩
theorem ofB_data (l : List UInt8) : (ofB l).data.toList = l := by simp [ofB]
theorem ofB_size (l : List UInt8) : (ofB l).size = l.length := by simp [ofB, ByteArray.size]
theorem ofB_self (s : ByteArray) : ofB s.data.toList = s := by simp [ofB]
theorem ofB_inj {a b : List UInt8} (h : ofB a = ofB b) : a = b := by rw [← ofB_data a, h, ofB_data]
theorem data_inj {a b : ByteArray} (h : a.data.toList = b.data.toList) : a = b := by rw [← ofB_self a, h, ofB_self]
theorem size_data (s : ByteArray) : s.data.toList.length = s.size := by simp

/-- a number's five bytes -/
def fiveL (n : Nat) : List UInt8 := [UInt8.ofNat (n / 4294967296), UInt8.ofNat (n / 16777216), UInt8.ofNat (n / 65536), UInt8.ofNat (n / 256), UInt8.ofNat n]
/-- bytes' number, the highest first -/
def ofL (l : List UInt8) : Nat := l.foldl (fun a b => 256 * a + b.toNat) 0
theorem fiveL_length (n : Nat) : (fiveL n).length = 5 := rfl
theorem ofL_snoc (l : List UInt8) (b : UInt8) : ofL (l ++ [b]) = 256 * ofL l + b.toNat := by simp [ofL]
theorem ofL_lt (l : List UInt8) : ofL l < 256 ^ l.length := by
  suffices h : ∀ (n : Nat) (l : List UInt8), l.length = n → ofL l < 256 ^ n from h _ l rfl
  intro n
  induction n with
  | zero => intro l hl; rw [List.length_eq_zero_iff.1 hl]; decide
  | succ n ih =>
    intro l hl
    rcases List.eq_nil_or_concat l with rfl | ⟨m, b, rfl⟩
    · simp at hl
    · rw [List.concat_eq_append] at hl ⊢
      have h := ih m (by simp at hl; omega)
      have hb := b.toNat_lt
      rw [ofL_snoc, Nat.pow_succ]; omega
theorem ofL_five (n : Nat) (h : n < 1099511627776) : ofL (fiveL n) = n := by
  simp only [ofL, fiveL, List.foldl, UInt8.toNat_ofNat']
  omega
theorem u8_of (a : Nat) (b : UInt8) (h : a % 256 = b.toNat) : UInt8.ofNat a = b := UInt8.toNat_inj.1 (by rw [UInt8.toNat_ofNat']; omega)
theorem five_ofL (l : List UInt8) (h : l.length = 5) : fiveL (ofL l) = l := by
  match l, h with
  | [a, b, c, d, e], _ =>
    have ha := a.toNat_lt; have hb := b.toNat_lt; have hc := c.toNat_lt; have hd := d.toNat_lt; have he := e.toNat_lt
    simp only [ofL, fiveL, List.foldl]
    rw [u8_of _ a (by omega), u8_of _ b (by omega), u8_of _ c (by omega), u8_of _ d (by omega), u8_of _ e (by omega)]
theorem five_lt (l : List UInt8) (h : l.length = 5) : ofL l < 1099511627776 := by
  have := ofL_lt l; rw [h] at this; simpa using this

/-- a number's short bytes -/
def shortL (n : Nat) : List UInt8 := if n < 128 then [UInt8.ofNat n] else UInt8.ofNat (n % 128 + 128) :: shortL (n / 128)
termination_by n
decreasing_by omega
def shortV : List UInt8 → Nat
  | [] => 0
  | b :: l => b.toNat % 128 + 128 * shortV l
theorem shortL_lo {n : Nat} (h : n < 128) : shortL n = [UInt8.ofNat n] := by rw [shortL, if_pos h]
theorem shortL_hi {n : Nat} (h : ¬ n < 128) : shortL n = UInt8.ofNat (n % 128 + 128) :: shortL (n / 128) := by rw [shortL, if_neg h]
/-- as many bytes of 128 or more as it begins with -/
def cnt (l : List UInt8) : Nat := (l.takeWhile (fun b => decide (128 ≤ b.toNat))).length
theorem cnt_nil : cnt [] = 0 := rfl
theorem cnt_hi {b : UInt8} {l : List UInt8} (h : 128 ≤ b.toNat) : cnt (b :: l) = cnt l + 1 := by simp [cnt, h]
theorem cnt_lo {b : UInt8} {l : List UInt8} (h : b.toNat < 128) : cnt (b :: l) = 0 := by simp [cnt, List.takeWhile_cons]; omega
theorem cnt_le (l : List UInt8) : cnt l ≤ l.length := by
  induction l with
  | nil => exact Nat.le_refl _
  | cons b l ih =>
    by_cases h : 128 ≤ b.toNat
    · rw [cnt_hi h, List.length_cons]; omega
    · rw [cnt_lo (by omega)]; omega
theorem cnt_below (l : List UInt8) : ∀ i, i < cnt l → 128 ≤ (l.getD i 0).toNat := by
  induction l with
  | nil => intro i h; rw [cnt_nil] at h; omega
  | cons b l ih =>
    intro i h
    by_cases hb : 128 ≤ b.toNat
    · rw [cnt_hi hb] at h
      cases i with
      | zero => simpa using hb
      | succ i => simpa using ih i (by omega)
    · rw [cnt_lo (by omega)] at h; omega
theorem cnt_at (l : List UInt8) : cnt l < l.length → (l.getD (cnt l) 0).toNat < 128 := by
  induction l with
  | nil => intro h; simp [cnt_nil] at h
  | cons b l ih =>
    intro h
    by_cases hb : 128 ≤ b.toNat
    · rw [cnt_hi hb] at h ⊢
      simpa using ih (by simpa using h)
    · rw [cnt_lo (by omega)]; simpa using hb
theorem cnt_of (l : List UInt8) (k : Nat) (h1 : ∀ i, i < k → 128 ≤ (l.getD i 0).toNat) (h2 : (l.getD k 0).toNat < 128) : cnt l = k := by
  have ha := cnt_below l; 
  rcases Nat.lt_trichotomy (cnt l) k with h | h | h
  · by_cases hl : cnt l < l.length
    · have := cnt_at l hl; have := h1 _ h; omega
    · have := h1 (cnt l) h
      rw [List.getD_eq_getElem?_getD, List.getElem?_eq_none (by omega)] at this
      simp at this
  · exact h
  · have := ha k h; omega
theorem shortV_take_lt (l : List UInt8) : ∀ k, shortV (l.take k) < 128 ^ k := by
  induction l with
  | nil => intro k; simp [shortV]; exact Nat.pow_pos (by decide)
  | cons b l ih =>
    intro k
    cases k with
    | zero => simp [shortV]
    | succ k =>
      have := ih k
      rw [List.take_succ_cons, shortV, Nat.pow_succ]; omega
theorem shortV_snoc (l : List UInt8) (b : UInt8) : shortV (l ++ [b]) = shortV l + 128 ^ l.length * (b.toNat % 128) := by
  induction l with
  | nil => simp [shortV]
  | cons a l ih =>
    rw [List.cons_append, shortV, ih, shortV, List.length_cons, Nat.pow_succ]
    rw [Nat.mul_add, Nat.add_assoc, Nat.mul_comm (128 ^ l.length) 128, Nat.mul_assoc]
theorem shortV_short (n : Nat) : shortV (shortL n) = n := by
  induction n using Nat.strongRecOn with
  | _ n ih =>
    by_cases h : n < 128
    · rw [shortL_lo h, shortV, shortV, UInt8.toNat_ofNat']; omega
    · rw [shortL_hi h, shortV, ih (n / 128) (by omega), UInt8.toNat_ofNat']; omega
theorem shortL_length_pos (n : Nat) : 1 ≤ (shortL n).length := by
  by_cases h : n < 128
  · rw [shortL_lo h]; simp
  · rw [shortL_hi h]; simp
theorem shortL_length_le (k : Nat) : ∀ n, n < 128 ^ (k + 1) → (shortL n).length ≤ k + 1 := by
  induction k with
  | zero => intro n h; rw [shortL_lo (by simpa using h)]; simp
  | succ k ih =>
    intro n h
    by_cases hn : n < 128
    · rw [shortL_lo hn]; simp
    · rw [shortL_hi hn, List.length_cons]
      have := ih (n / 128) (by rw [Nat.pow_succ] at h; exact Nat.div_lt_of_lt_mul (by rw [Nat.mul_comm]; exact h))
      omega
/-- short bytes: all but the last one are 128 or more -/
theorem shortL_cnt (n : Nat) (r : List UInt8) : cnt (shortL n ++ r) + 1 = (shortL n).length := by
  induction n using Nat.strongRecOn with
  | _ n ih =>
    by_cases h : n < 128
    · rw [shortL_lo h, List.singleton_append, cnt_lo (by rw [UInt8.toNat_ofNat']; omega)]; rfl
    · rw [shortL_hi h, List.cons_append, cnt_hi (by rw [UInt8.toNat_ofNat']; omega), List.length_cons, ih (n / 128) (by omega)]
theorem shortL_iff (l : List UInt8) : cnt l < l.length → ((shortL (shortV (l.take (cnt l + 1)))).length = cnt l + 1 ↔ shortL (shortV (l.take (cnt l + 1))) = l.take (cnt l + 1)) := by
  intro h
  constructor
  · induction l with
    | nil => simp [cnt_nil] at h
    | cons b l ih =>
      intro hl
      by_cases hb : 128 ≤ b.toNat
      · have hbl := b.toNat_lt
        rw [cnt_hi hb] at h hl ⊢
        rw [List.take_succ_cons] at hl ⊢
        rw [shortV] at hl ⊢
        obtain ⟨v, hv⟩ : ∃ v, v = shortV (l.take (cnt l + 1)) := ⟨_, rfl⟩
        rw [← hv] at hl ⊢
        by_cases hv0 : b.toNat % 128 + 128 * v < 128
        · rw [shortL_lo hv0] at hl; simp at hl
        · rw [shortL_hi hv0] at hl ⊢
          have e1 : (b.toNat % 128 + 128 * v) / 128 = v := by omega
          have e2 : (b.toNat % 128 + 128 * v) % 128 + 128 = b.toNat := by omega
          rw [e1] at hl ⊢
          rw [e2, UInt8.ofNat_toNat]
          congr 1
          have h3 := ih (by simpa using h)
          rw [← hv] at h3
          exact h3 (by simpa using hl)
      · rw [cnt_lo (by omega)]
        have e : shortV ([b]) = b.toNat := by simp only [shortV]; omega
        rw [List.take_succ_cons, List.take_zero, e, shortL_lo (by omega), UInt8.ofNat_toNat]
  · intro e
    rw [e, List.length_take]; omega

/-- what Read answers -/
def rdE (l : List UInt8) : Int := if cnt l < 6 ∧ cnt l < l.length then (if shortV (l.take (cnt l + 1)) < 1099511627776 ∧ (shortL (shortV (l.take (cnt l + 1)))).length = cnt l + 1 then 0 else 7) else if l.length < 6 then 5 else 7
def rdN (l : List UInt8) : Nat := if rdE l = 0 then shortV (l.take (cnt l + 1)) else 0
def rdR (l : List UInt8) : List UInt8 := if rdE l = 0 then l.drop (cnt l + 1) else []
theorem rd_short (n : Nat) (h : n < 1099511627776) (r : List UInt8) : rdE (shortL n ++ r) = 0 ∧ rdN (shortL n ++ r) = n ∧ rdR (shortL n ++ r) = r := by
  have hc := shortL_cnt n r
  have hl := shortL_length_le 5 n (by omega)
  have ht : (shortL n ++ r).take (cnt (shortL n ++ r) + 1) = shortL n := by rw [hc, List.take_left]
  have he : rdE (shortL n ++ r) = 0 := by
    unfold rdE
    rw [if_pos ⟨by omega, by rw [List.length_append]; omega⟩, ht, shortV_short, if_pos ⟨h, by omega⟩]
  refine ⟨he, ?_, ?_⟩
  · unfold rdN; rw [if_pos he, ht, shortV_short]
  · unfold rdR; rw [if_pos he, hc, List.drop_left]
theorem rd_back (l : List UInt8) (h : rdE l = 0) : rdN l < 1099511627776 ∧ shortL (rdN l) ++ rdR l = l := by
  unfold rdN rdR
  rw [if_pos h, if_pos h]
  unfold rdE at h
  split at h
  · rename_i h1
    split at h
    · rename_i h2
      refine ⟨h2.1, ?_⟩
      rw [(shortL_iff l h1.2).1 h2.2, List.take_append_drop]
    · cases h
  · split at h <;> cases h
def putE (n : Nat) : Int := if n < 1099511627776 then 0 else 1
def putS (n : Nat) : ByteArray := if n < 1099511627776 then ofB (fiveL n) else ⟨#[]⟩
def shoS (n : Nat) : ByteArray := if n < 1099511627776 then ofB (shortL n) else ⟨#[]⟩
def getE (s : ByteArray) : Int := if s.size = 5 then 0 else 5
def getN (s : ByteArray) : Nat := if s.size = 5 then ofL s.data.toList else 0
/-- numbers' five bytes, one behind the other -/
def fives (l : List Nat) : List UInt8 := l.flatMap fiveL
def recOk (l : List Nat) : Prop := 1 ≤ l.length ∧ l.length ≤ 8 ∧ ∀ n ∈ l, n < 1099511627776
instance (l : List Nat) : Decidable (recOk l) := by unfold recOk; infer_instance
def recE (l : List Nat) : Int := if recOk l then 0 else 1
def recS (l : List Nat) : ByteArray := if recOk l then ofB (fives l) else ⟨#[]⟩
theorem fives_length (l : List Nat) : (fives l).length = 5 * l.length := by
  induction l with
  | nil => rfl
  | cons a l ih => rw [fives, List.flatMap_cons, List.length_append, fiveL_length, List.length_cons]; unfold fives at ih; omega
theorem fives_snoc (l : List Nat) (n : Nat) : fives (l ++ [n]) = fives l ++ fiveL n := by simp [fives]
end Go.Proofs.Ytgpheofdeflhdaa.Nm

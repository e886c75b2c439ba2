/- Plain arithmetic of the check sum (CRC-32): no program in sight. -/
import Derived.WalkKit
import Derived.Laws.BitsAllLaws
namespace Go.Proofs.YtjbbkcnfilnmcaaDoor.Crc

/-- the table of sixteen -/
def T : List Nat := [0, 498536548, 997073096, 651767980, 1994146192, 1802195444, 1303535960, 1342533948, 3988292384, 4027552580, 3604390888, 3412177804, 2607071920, 2262029012, 2685067896, 3183342108]

/-- one bit's step -/
def f (r : Nat) : Nat := if r % 2 = 1 then (r / 2) ^^^ 3988292384 else r / 2
/-- four bits by the table -/
def q (a : Nat) : Nat := (a / 16) ^^^ T.getD (a % 16) 0
/-- a byte by the table -/
def stepP (r c : Nat) : Nat := q (q (r ^^^ c))
/-- a byte bit by bit, as defined: k bits are left -/
def bitsR (r c : Nat) : Nat → Nat → Nat
  | _, 0 => r
  | j, k + 1 => bitsR (if (r ^^^ (c / 2 ^ j)) % 2 = 1 then (r / 2) ^^^ 3988292384 else r / 2) c (j + 1) k
def stepR (r c : Nat) : Nat := bitsR r c 0 8

theorem xor_lt {a b : Nat} (ha : a < 4294967296) (hb : b < 4294967296) : a ^^^ b < 4294967296 := by
  have := Nat.xor_lt_two_pow (n := 32) (x := a) (y := b) (by omega) (by omega)
  omega
theorem f_lt {r : Nat} (h : r < 4294967296) : f r < 4294967296 := by
  unfold f; split
  · exact xor_lt (by omega) (by decide)
  · omega
theorem T_lt : ∀ i, i < 16 → T.getD i 0 < 4294967296 := by decide
theorem q_lt {a : Nat} (h : a < 4294967296) : q a < 4294967296 := xor_lt (by omega) (T_lt _ (by omega))
theorem stepP_lt {r c : Nat} (h : r < 4294967296) (hc : c < 256) : stepP r c < 4294967296 := q_lt (q_lt (xor_lt h (by omega)))

/-! linear -/
theorem xor_mod2 (a b : Nat) : (a ^^^ b) % 2 = (a % 2 + b % 2) % 2 := by
  have h : (a ^^^ b) % 2 ^ 1 = (a % 2 ^ 1) ^^^ (b % 2 ^ 1) := Nat.xor_mod_two_pow
  rw [show (2 : Nat) ^ 1 = 2 from rfl] at h
  rw [h]
  have ha : a % 2 = 0 ∨ a % 2 = 1 := by omega
  have hb : b % 2 = 0 ∨ b % 2 = 1 := by omega
  rcases ha with ha | ha <;> rcases hb with hb | hb <;> rw [ha, hb] <;> decide
theorem xor_eq0 {a b : Nat} (h : a ^^^ b = 0) : a = b := by
  have : a ^^^ b ^^^ b = b := by rw [h, Nat.zero_xor]
  rwa [Nat.xor_assoc, Nat.xor_self, Nat.xor_zero] at this
theorem xor_div2 (a b : Nat) : (a ^^^ b) / 2 = (a / 2) ^^^ (b / 2) := Nat.xor_div_two
theorem xc (a b c d : Nat) : (a ^^^ b) ^^^ (c ^^^ d) = (a ^^^ c) ^^^ (b ^^^ d) := by
  rw [Nat.xor_assoc, Nat.xor_assoc, ← Nat.xor_assoc b c d, Nat.xor_comm b c, Nat.xor_assoc c b d]
theorem f_xor (a b : Nat) : f (a ^^^ b) = f a ^^^ f b := by
  unfold f
  rw [xor_mod2, xor_div2]
  have ha : a % 2 = 0 ∨ a % 2 = 1 := by omega
  have hb : b % 2 = 0 ∨ b % 2 = 1 := by omega
  rcases ha with ha | ha <;> rcases hb with hb | hb <;> simp only [ha, hb] <;> simp
  · rw [Nat.xor_assoc]
  · rw [Nat.xor_assoc, Nat.xor_assoc, Nat.xor_comm 3988292384 (b / 2)]
  · rw [xc, Nat.xor_self, Nat.xor_zero]
theorem f_two (a : Nat) : f (2 * a) = a := by unfold f; rw [if_neg (by omega)]; omega
theorem f_zero : f 0 = 0 := by decide
theorem f_inj0 {d : Nat} (h : d < 4294967296) (hf : f d = 0) : d = 0 := by
  unfold f at hf
  split at hf
  · have e : d / 2 = 3988292384 := xor_eq0 hf
    omega
  · omega

/-- n bits -/
def fn : Nat → Nat → Nat
  | 0, r => r
  | n + 1, r => fn n (f r)
theorem fn_xor (n : Nat) : ∀ a b, fn n (a ^^^ b) = fn n a ^^^ fn n b := by
  induction n with
  | zero => intro a b; rfl
  | succ n ih => intro a b; simp only [fn, f_xor, ih]
theorem fn_lt (n : Nat) : ∀ {a}, a < 4294967296 → fn n a < 4294967296 := by
  induction n with
  | zero => intro a h; exact h
  | succ n ih => intro a h; exact ih (f_lt h)
theorem fn_inj0 (n : Nat) : ∀ {a}, a < 4294967296 → fn n a = 0 → a = 0 := by
  induction n with
  | zero => intro a _ h; exact h
  | succ n ih => intro a h e; exact f_inj0 h (ih (f_lt h) e)
theorem fn_zero (n : Nat) : fn n 0 = 0 := by
  induction n with
  | zero => rfl
  | succ n ih => simp only [fn, f_zero, ih]
theorem fn_add (m n : Nat) : ∀ a, fn (m + n) a = fn n (fn m a) := by
  induction m with
  | zero => intro a; simp [fn]
  | succ m ih => intro a; rw [Nat.succ_add]; simp only [fn, ih]
theorem fn_pow (n : Nat) : ∀ a, fn n (2 ^ n * a) = a := by
  induction n with
  | zero => intro a; simp [fn]
  | succ n ih => intro a; simp only [fn]; rw [Nat.pow_succ, Nat.mul_comm (2 ^ n) 2, Nat.mul_assoc, f_two, ih]
theorem T_is : ∀ i, i < 16 → fn 4 i = T.getD i 0 := by decide
/-- a number is its high part and its low part -/
theorem split_xor (a n : Nat) : a = (2 ^ n * (a / 2 ^ n)) ^^^ (a % 2 ^ n) := by
  have h : 2 ^ n * (a / 2 ^ n) ^^^ a % 2 ^ n = 2 ^ n * (a / 2 ^ n) + a % 2 ^ n := by
    apply Nat.eq_of_testBit_eq
    intro i
    rw [Nat.testBit_xor, Nat.testBit_two_pow_mul_add _ (Nat.mod_lt _ (Nat.two_pow_pos n)), Nat.testBit_mod_two_pow, Nat.testBit_two_pow_mul]
    by_cases hi : i < n
    · simp [hi, Nat.not_le.2 hi]
    · simp [hi, Nat.not_lt.1 hi]
  rw [h]; exact (Nat.div_add_mod a (2 ^ n)).symm
theorem q_is (a : Nat) : q a = fn 4 a := by
  have h := split_xor a 4
  have h4 := fn_pow 4 (a / 2 ^ 4)
  have ht := T_is (a % 2 ^ 4) (Nat.mod_lt _ (by decide))
  rw [h, fn_xor, h4, ht, ← h]
  rfl
theorem stepP_is (r c : Nat) : stepP r c = fn 8 (r ^^^ c) := by
  unfold stepP
  rw [q_is, q_is, ← fn_add]

/-! bit by bit, the byte's bits put in one by one, is the same -/
theorem div_xor_pow (a b : Nat) : ∀ j, (a ^^^ b) / 2 ^ j = (a / 2 ^ j) ^^^ (b / 2 ^ j) := by
  intro j; rw [← Nat.shiftRight_eq_div_pow, ← Nat.shiftRight_eq_div_pow, ← Nat.shiftRight_eq_div_pow, Nat.shiftRight_xor_distrib]
theorem bitsR_is (c : Nat) (k : Nat) : ∀ r j, bitsR r c j k = fn k (r ^^^ (c / 2 ^ j)) ^^^ (c / 2 ^ (j + k)) := by
  induction k with
  | zero => intro r j; simp [bitsR, fn]; rw [Nat.xor_assoc, Nat.xor_self, Nat.xor_zero]
  | succ k ih =>
    intro r j
    simp only [bitsR, fn]
    rw [ih]
    have e1 : j + 1 + k = j + (k + 1) := by omega
    have e2 : c / 2 ^ (j + 1) = (c / 2 ^ j) / 2 := by rw [Nat.pow_succ, Nat.div_div_eq_div_mul]
    rw [e1, e2]
    congr 2
    unfold f
    rw [xor_div2]
    split
    · rw [Nat.xor_assoc, Nat.xor_comm 3988292384, Nat.xor_assoc]
    · rfl
theorem step_eq {r c : Nat} (hc : c < 256) : stepR r c = stepP r c := by
  unfold stepR
  rw [bitsR_is, stepP_is]
  have e0 : c / 2 ^ 0 = c := by simp
  have e8 : c / 2 ^ (0 + 8) = 0 := by apply Nat.div_eq_of_lt; simpa using hc
  rw [e0, e8, Nat.xor_zero]

/-! texts -/
/-- the state behind a text -/
def run (r : Nat) (l : List UInt8) : Nat := l.foldl (fun r c => stepP r c.toNat) r
def neg (r : Nat) : Nat := 4294967295 - r
/-- the sum that goes on -/
def more (sum : Nat) (l : List UInt8) : Nat := neg (run (neg sum) l)
theorem run_lt (l : List UInt8) : ∀ {r}, r < 4294967296 → run r l < 4294967296 := by
  induction l with
  | nil => intro r h; exact h
  | cons c l ih => intro r h; exact ih (stepP_lt h c.toNat_lt)
theorem run_append (l m : List UInt8) (r : Nat) : run r (l ++ m) = run (run r l) m := by unfold run; rw [List.foldl_append]
theorem neg_lt (r : Nat) : neg r < 4294967296 := by unfold neg; omega
theorem neg_neg {r : Nat} (h : r < 4294967296) : neg (neg r) = r := by unfold neg; omega
theorem more_lt (sum : Nat) (l : List UInt8) : more sum l < 4294967296 := neg_lt _
theorem more_append (sum : Nat) (l m : List UInt8) : more sum (l ++ m) = more (more sum l) m := by
  unfold more; rw [run_append, neg_neg (run_lt l (neg_lt _))]
theorem neg_xor {r : Nat} (h : r < 4294967296) : neg r = r ^^^ 4294967295 := by
  unfold neg
  apply Nat.eq_of_testBit_eq
  intro i
  rw [Nat.testBit_xor, show (4294967295 : Nat) = 2 ^ 32 - 1 from rfl, Nat.testBit_two_pow_sub_one]
  have := Nat.testBit_two_pow_sub_succ (x := r) (n := 32) (by omega) i
  rw [show 2 ^ 32 - 1 - r = 2 ^ 32 - (r + 1) from by omega, this]
  by_cases hi : i < 32
  · simp [hi]
  · simp [hi]
    exact Nat.testBit_lt_two_pow (Nat.lt_of_lt_of_le h (Nat.pow_le_pow_right (n := 2) (by decide) (show 32 ≤ i by omega)))
end Go.Proofs.YtjbbkcnfilnmcaaDoor.Crc

/- The walk of the law CrcBursts: bytes that are turned. -/
import Derived.Test.YtjbbkcnfilnmcaaDoorCrcLawsB
import Derived.Deep.LoopGhost
namespace Go.Proofs.YtjbbkcnfilnmcaaDoor.Crc
open Go.RowKit

/-! the arithmetic -/
theorem xor8 (a b : Nat) (ha : a < 256) (hb : b < 256) : a ^^^ b < 256 := by
  have := Nat.xor_lt_two_pow (n := 8) (x := a) (y := b) (by omega) (by omega)
  omega
/-- a byte turned by another -/
def xb (a : UInt8) (b : Nat) : UInt8 := UInt8.ofNat (a.toNat ^^^ (b % 256))
theorem xb_nat (a : UInt8) (b : Nat) : (xb a b).toNat = a.toNat ^^^ (b % 256) := by
  unfold xb
  have := xor8 a.toNat (b % 256) a.toNat_lt (by omega)
  simp
/-- the state behind a byte that is turned by d, from a state that is turned by e -/
theorem stepP_xor (r e c d : Nat) : stepP (r ^^^ e) (c ^^^ d) = stepP r c ^^^ fn 8 (e ^^^ d) := by
  rw [stepP_is, stepP_is, ← fn_xor]
  congr 1
  rw [xc]
theorem run_diff (l : List UInt8) : ∀ r e, run (r ^^^ e) l = run r l ^^^ fn (8 * l.length) e := by
  induction l with
  | nil => intro r e; simp [run, fn]
  | cons c l ih =>
    intro r e
    have h1 : run (r ^^^ e) (c :: l) = run (stepP (r ^^^ e) c.toNat) l := rfl
    have h2 : run r (c :: l) = run (stepP r c.toNat) l := rfl
    have h3 := stepP_xor r e c.toNat 0
    rw [Nat.xor_zero, Nat.xor_zero] at h3
    rw [h1, h2, h3, ih, show 8 * (c :: l).length = 8 + 8 * l.length from by simp; omega, fn_add]
theorem run_inj {l : List UInt8} {r r' : Nat} (hr : r < 4294967296) (hr' : r' < 4294967296) (h : run r l = run r' l) : r = r' := by
  have h1 := run_diff l r (r ^^^ r')
  have e : r ^^^ (r ^^^ r') = r' := by rw [← Nat.xor_assoc, Nat.xor_self, Nat.zero_xor]
  rw [e, ← h] at h1
  have h2 : fn (8 * l.length) (r ^^^ r') = 0 := by
    have : run r l ^^^ run r l = run r l ^^^ (run r l ^^^ fn (8 * l.length) (r ^^^ r')) := by rw [← h1]
    rw [Nat.xor_self, ← Nat.xor_assoc, Nat.xor_self, Nat.zero_xor] at this
    exact this.symm
  exact xor_eq0 (fn_inj0 _ (xor_lt hr hr') h2)
theorem lift8 {x q q' l b : Nat} (h : x = q ^^^ l) (k : fn 8 q = q' ^^^ fn 8 b) : fn 8 x = q' ^^^ fn 8 (l ^^^ b) := by
  rw [h, fn_xor, k, fn_xor, Nat.xor_assoc, Nat.xor_comm (fn 8 b)]
/-- four bytes turned by the four bytes of a number -/
theorem run_four (r by_ : Nat) (a b c d : UInt8) (hby : by_ < 4294967296) :
    run r [xb a by_, xb b (by_ / 256), xb c (by_ / 65536), xb d (by_ / 16777216)] = run r [a, b, c, d] ^^^ fn 32 by_ := by
  have go : ∀ r, run r [xb a by_, xb b (by_ / 256), xb c (by_ / 65536), xb d (by_ / 16777216)] = stepP (stepP (stepP (stepP r (a.toNat ^^^ (by_ % 256))) (b.toNat ^^^ (by_ / 256 % 256))) (c.toNat ^^^ (by_ / 65536 % 256))) (d.toNat ^^^ (by_ / 16777216 % 256)) := by
    intro r; show stepP (stepP (stepP (stepP r _) _) _) _ = _; rw [xb_nat, xb_nat, xb_nat, xb_nat]
  have go2 : ∀ r, run r [a, b, c, d] = stepP (stepP (stepP (stepP r a.toNat) b.toNat) c.toNat) d.toNat := fun r => rfl
  -- the number's own parts
  have h0 : by_ = (2 ^ 8 * (by_ / 2 ^ 8)) ^^^ (by_ % 2 ^ 8) := split_xor by_ 8
  have h1 : by_ / 256 = (2 ^ 8 * (by_ / 256 / 2 ^ 8)) ^^^ (by_ / 256 % 2 ^ 8) := split_xor (by_ / 256) 8
  have h2 : by_ / 65536 = (2 ^ 8 * (by_ / 65536 / 2 ^ 8)) ^^^ (by_ / 65536 % 2 ^ 8) := split_xor (by_ / 65536) 8
  have e1 : by_ / 256 / 2 ^ 8 = by_ / 65536 := by rw [Nat.div_div_eq_div_mul]
  have e2 : by_ / 65536 / 2 ^ 8 = by_ / 16777216 := by rw [Nat.div_div_eq_div_mul]
  have e3 : by_ / 16777216 % 256 = by_ / 16777216 := by omega
  have f0 : fn 8 by_ = by_ / 256 ^^^ fn 8 (by_ % 256) := by
    have : fn 8 by_ = fn 8 ((2 ^ 8 * (by_ / 2 ^ 8)) ^^^ (by_ % 2 ^ 8)) := by rw [← h0]
    rw [this, fn_xor, fn_pow]
  have f1 : fn 8 (by_ / 256) = by_ / 65536 ^^^ fn 8 (by_ / 256 % 256) := by
    have : fn 8 (by_ / 256) = fn 8 ((2 ^ 8 * (by_ / 256 / 2 ^ 8)) ^^^ (by_ / 256 % 2 ^ 8)) := by rw [← h1]
    rw [this, fn_xor, fn_pow, e1]
  have f2 : fn 8 (by_ / 65536) = by_ / 16777216 ^^^ fn 8 (by_ / 65536 % 256) := by
    have : fn 8 (by_ / 65536) = fn 8 ((2 ^ 8 * (by_ / 65536 / 2 ^ 8)) ^^^ (by_ / 65536 % 2 ^ 8)) := by rw [← h2]
    rw [this, fn_xor, fn_pow, e2]
  have f32 : fn 32 by_ = fn 8 (fn 8 (fn 8 (fn 8 by_))) := by rw [← fn_add, ← fn_add, ← fn_add]
  rw [go, go2]
  have s1 := stepP_xor r 0 a.toNat (by_ % 256)
  rw [Nat.xor_zero, Nat.zero_xor] at s1
  rw [s1, stepP_xor, stepP_xor, stepP_xor, f32, e3]
  have g1 := lift8 f0 f1
  have g2 := lift8 g1 f2
  rw [g2, Nat.xor_comm (by_ / 16777216)]

/-- a text of which four bytes side by side are turned has another sum, if they are turned in something -/
theorem burst (p t : List UInt8) (a b c d : UInt8) (by_ : Nat) (hby : by_ < 4294967296) :
    (more 0 (p ++ [xb a by_, xb b (by_ / 256), xb c (by_ / 65536), xb d (by_ / 16777216)] ++ t) = more 0 (p ++ [a, b, c, d] ++ t)) ↔ by_ = 0 := by
  have hr : run (neg 0) p < 4294967296 := run_lt p (neg_lt 0)
  constructor
  · intro h
    unfold more at h
    rw [run_append, run_append, run_append, run_append, run_four _ _ _ _ _ _ hby] at h
    have hx : run (run (neg 0) p) [a, b, c, d] < 4294967296 := run_lt _ hr
    have h1 := congrArg neg h
    rw [neg_neg (run_lt t (xor_lt hx (fn_lt 32 hby))), neg_neg (run_lt t hx)] at h1
    have h2 := run_inj (xor_lt hx (fn_lt 32 hby)) hx h1
    have h3 : fn 32 by_ = 0 := by
      have : run (run (neg 0) p) [a, b, c, d] ^^^ (run (run (neg 0) p) [a, b, c, d] ^^^ fn 32 by_) = 0 := by rw [h2, Nat.xor_self]
      rw [← Nat.xor_assoc, Nat.xor_self, Nat.zero_xor] at this
      exact this
    exact fn_inj0 32 hby h3
  · intro h
    have h0 : ∀ x : UInt8, xb x 0 = x := fun x => by apply UInt8.toNat_inj.1; rw [xb_nat]; simp
    subst h
    simp only [Nat.zero_div, h0]
end Go.Proofs.YtjbbkcnfilnmcaaDoor.Crc

/- The document's Room. -/
import Derived.Test.YtbegngilbngnoaaDoorPkA
namespace Go.Proofs.YtbegngilbngnoaaDoor.Pk
open Go.RowKit Go.Lib Rw Ls Od _root_.Go.Proofs.YtbegngilbngnoaaDoor.Nm

/-- what is taken of the room by so many lengths -/
def tookT (ls : List Int) (lm k : Nat) : Nat := sum (fun i => if 0 < ls.getD i 0 then 2 ^ (lm - (ls.getD i 0).toNat) else 0) (List.range k)
theorem tookT_succ (ls : List Int) (lm k : Nat) : tookT ls lm (k + 1) = tookT ls lm k + if 0 < ls.getD k 0 then 2 ^ (lm - (ls.getD k 0).toNat) else 0 := by
  unfold tookT
  rw [List.range_succ, sum_app, sum_cons, sum_nil]; rfl
theorem tookT_le (ls : List Int) (lm : Nat) (h : lm ≤ 15) : ∀ k, tookT ls lm k ≤ k * 32768
  | 0 => by simp [tookT, sum_nil]
  | k + 1 => by
    have h1 := tookT_le ls lm h k
    rw [tookT_succ]
    have h2 : (if 0 < ls.getD k 0 then 2 ^ (lm - (ls.getD k 0).toNat) else 0) ≤ 32768 := by
      split
      · exact Nat.pow_le_pow_right (n := 2) (by omega) (show lm - (ls.getD k 0).toNat ≤ 15 by omega)
      · omega
    omega
def okR (ls : List Int) (lim : Int) : Bool := decide (1 ≤ lim) && decide (lim ≤ 15) && decide (ls.length ≤ 512)
def roomR (ls : List Int) (lim : Int) : Int × Int := if okR ls lim = true then (if ls.all (fun z => decide (0 ≤ z) && decide (z ≤ lim)) = true then ((2 ^ lim.toNat : Nat) - (tookT ls lim.toNat ls.length : Nat), 0) else (0, 7)) else (0, 1)
theorem shl_i64 (k : Nat) (h : k ≤ 15) : wrap64 ((2 : Int) ^ k) = ((2 ^ k : Nat) : Int) := by
  have h1 : 2 ^ k ≤ 2 ^ 15 := Nat.pow_le_pow_right (by omega) h
  have h2 : 2 ^ 15 = 32768 := by decide
  have e : ((2 : Int)) ^ k = ((2 ^ k : Nat) : Int) := by simp
  rw [e]
  generalize 2 ^ k = y at h1 ⊢
  unfold wrap64
  omega
end Go.Proofs.YtbegngilbngnoaaDoor.Pk

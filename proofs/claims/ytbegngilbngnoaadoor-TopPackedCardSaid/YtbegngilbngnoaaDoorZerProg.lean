/- The walks of package zeros' functions: what the laws take of them. -/
import Derived.Test.YtbegngilbngnoaaDoorZepE
namespace Go.Proofs.YtbegngilbngnoaaDoor.Ze
open Go.RowKit Go.Lib Rw Ls Od _root_.Go.Proofs.YtbegngilbngnoaaDoor.Nm

/-- numbers in memory, how many being a number -/
def NEn (W : World) (n : Nat) (L : List Nat) (r : Int) (e : Ending) (w' : World) : Prop := ∃ (q : Option Addr) (c : Nat), e = .returned (.tuple #[.slice q n c, .int .i64 r]) ∧ n ≤ c ∧ Rd w' q (nums L) ∧ Below W.heap.size W w'
theorem nen_of {W : World} {n : Nat} {L : List Nat} {r : Int} (h : L.length = n) {f : FuncId} {a : Array Value} {P : Program} (hc : Calls P f a W (NE W L r)) : Calls P f a W (NEn W n L r) := by subst h; exact hc
end Go.Proofs.YtbegngilbngnoaaDoor.Ze

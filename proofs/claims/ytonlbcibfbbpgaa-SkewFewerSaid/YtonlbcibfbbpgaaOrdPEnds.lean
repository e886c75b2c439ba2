/- The walk of order.Ends. -/
import Derived.Test.YtonlbcibfbbpgaaOrdR
import Derived.Test.YtonlbcibfbbpgaaSrtNU
namespace Go.Proofs.Ytonlbcibfbbpgaa.Od
open Go.RowKit Go.Lib Rw Ls _root_.Go.Proofs.Ytonlbcibfbbpgaa.Nm

def toZ (l : List Nat) : List Int := l.map fun (n : Nat) => (n : Int)
theorem toZ_length (l : List Nat) : (toZ l).length = l.length := by simp [toZ]
theorem toZ_getD (l : List Nat) (i : Nat) : (toZ l).getD i 0 = ((l.getD i 0 : Nat) : Int) := by
  simp only [toZ, List.getD_eq_getElem?_getD, List.getElem?_map]
  cases l[i]? <;> rfl
theorem es_toZ (l : List Nat) : StU.es (toZ l) = nums l := by simp [StU.es, toZ, nums]
theorem isR_toZ {l R : List Nat} (hl : R.length = (toZ l).length) (h : ∀ i j, i < (toZ l).length → j < (toZ l).length → (R.getD i 0 < R.getD j 0 ↔ (toZ l).getD i 0 < (toZ l).getD j 0)) : IsR l R 1 := by
  rw [toZ_length] at hl h
  refine isR_one hl fun i j hi hj => ?_
  rw [h i j hi hj, toZ_getD, toZ_getD]
  omega
end Go.Proofs.Ytonlbcibfbbpgaa.Od

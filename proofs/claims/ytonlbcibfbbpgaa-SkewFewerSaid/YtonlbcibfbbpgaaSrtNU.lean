/- slices.Values, Collect, Sort and Sorted at uint64. BinarySearch, Compact of none, Values and ranks at uint64. -/
import Derived.Test.YtonlbcibfbbpgaaSrtMU
import Derived.Test.YtonlbcibfbbpgaaXSeq
import Derived.Test.YtonlbcibfbbpgaaOrdS
namespace Go.Proofs.Ytonlbcibfbbpgaa.StU
open Go.RowKit Go.Lib Go.Sort Rw St Ls Od
attribute [local go_sem] Oper.semAt_some

/-- the numbers as they lie -/
def es (L : List Int) : List Value := L.map (Value.int .u64)
theorem es_length (L : List Int) : (es L).length = L.length := by simp [es]
theorem es_getD (L : List Int) (k : Nat) (hk : k < L.length) : (es L).getD k (.bool false) = .int .u64 L[k]! := by
  simp [es, List.getD_eq_getElem?_getD, hk]
theorem es_snoc (L : List Int) (x : Int) : es (L ++ [x]) = es L ++ [.int .u64 x] := by simp [es]
theorem info_e : (Try.prog.info? 41).map (fun i => (i.zero, i.size, i.bytes)) = some (some (.int .u64 0), 1, 8) := by kernel_rfl
/-! ### Sort -/
/-- a sorted row -/
def SortedP (w : World) (blk off n : Nat) (d : Array Int) (e : Ending) (w' : World) : Prop := ∃ d', e = .returned (.tuple #[]) ∧ PermIn 0 n d d' ∧ SortedIn ltInt 0 n d' ∧ At .u64 w blk off n d' w'
/-! ### Sorted -/
/-- a new row with the numbers in order -/
def SortP (w : World) (L : List Int) (e : Ending) (w' : World) : Prop := ∃ (q : Option Addr) (c : Nat) (M : List Int), e = .returned (.slice q L.length c) ∧ M.Perm L ∧ M.Pairwise (· ≤ ·) ∧ L.length ≤ c ∧ Rd w' q (es M) ∧ NewAt w.heap.size q ∧ Fz w' q L.length ∧ (∀ a, q = some a → ∃ g, a = ⟨g, 0, none⟩) ∧ RowKit.Below w.heap.size w w'
end Go.Proofs.Ytonlbcibfbbpgaa.StU
namespace Go.Proofs.Ytonlbcibfbbpgaa.StU
open Go.RowKit Go.Lib Go.Sort Rw St Ls Od
/-- a place, and whether it is there -/
def BsP (i : Nat) (w : World) (e : Ending) (w' : World) : Prop := ∃ b : Bool, e = .returned (.tuple #[.int .i64 i, .bool b]) ∧ w = w'
/-- the numbers that there are, in order, each once -/
def KnP (w : World) (L : List Int) (e : Ending) (w' : World) : Prop := ∃ (q : Option Addr) (c : Nat) (M : List Int), e = .returned (.slice q M.length c) ∧ M.Pairwise (· < ·) ∧ (∀ x, x ∈ M ↔ x ∈ L) ∧ M.length ≤ L.length ∧ Rd w' q (es M) ∧ RowKit.Below w.heap.size w w'
/-- the ranks of a list: new places in the order of its things -/
def RanksP (w : World) (L : List Int) (e : Ending) (w' : World) : Prop := ∃ (q : Option Addr) (c : Nat) (R : List Nat), e = .returned (.slice q R.length c) ∧ R.length = L.length ∧ R.length ≤ c ∧ Rd w' q (zs (up R)) ∧ RowKit.Below w.heap.size w w' ∧ (∀ x ∈ R, x ≤ 1000000000) ∧
  (∀ i j, i < L.length → j < L.length → (R.getD i 0 < R.getD j 0 ↔ L.getD i 0 < L.getD j 0))
end Go.Proofs.Ytonlbcibfbbpgaa.StU

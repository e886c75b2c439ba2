/- What an iterator's loop keeps: every cell but those of one block. -/
import Derived.Test.YtfmnnbeegfjnaaaGreatOrdCol
import Derived.RangeFuncFrom
import Derived.RangeFuncNested
import Derived.RangeFuncBound
import Derived.RangeFuncCalls
import Derived.RangeFuncLeaves
import Derived.RangeFuncBox
import Derived.RangeFuncWrites
import Derived.Maps.AppendAt
import Derived.Shelf.Abstract
import Derived.OwnWalkIn
import Derived.TacticsInMore
import Derived.LoopNIn
import Derived.LoopIn
import Derived.Sort.QuietIn
import Derived.Sort.WalkA14
import Derived.RangeFuncKeeps
import Derived.Sort.BigQuietIn
namespace Go.Proofs.YtfmnnbeegfjnaaaGreat.Od
open Go.RowKit Go.Lib Rw Ls _root_.Go.Proofs.YtfmnnbeegfjnaaaGreat.Nm
theorem wide_fn (f : FuncId) : Fence.wide.fn f = True := rfl
/-- every cell lies as it lay, but those of one block -/
def KpC (g : Nat) (w w' : World) : Prop := w.heap.size ≤ w'.heap.size ∧ ∀ a : Addr, a.block ≠ g → ∀ v, w.cell? a = some v → w'.cell? a = some v
theorem KpC.refl (g : Nat) (w : World) : KpC g w w := ⟨Nat.le_refl _, fun _ _ _ h => h⟩
theorem KpC.trans {g : Nat} {a b c : World} (h : KpC g a b) (k : KpC g b c) : KpC g a c := ⟨Nat.le_trans h.1 k.1, fun x hx v hv => k.2 x hx v (h.2 x hx v hv)⟩
theorem KpC.put {g : Nat} (W : World) (l : Nat) (o o' : Obj) (h : W.heap[l]? = some o) (hc : o.isCells = false) : KpC g W (W.putObj l o') := by
  refine ⟨(grownBy_putObj' W l o').size, fun a _ v hv => ?_⟩
  by_cases e : a.block = l
  · unfold World.cell? at hv
    rw [e, h] at hv
    cases o <;> first | (cases hc; done) | (cases hv)
  · unfold World.cell? at hv ⊢
    rw [World.putObj_heap_other (by first | exact e | exact fun h => e h.symm)]
    exact hv
theorem KpC.drew (g : Nat) (w : World) (n : Nat) : KpC g w (w.drewN n) := ⟨Nat.le_refl _, fun _ _ _ h => h⟩
theorem rd_kpC {w w' : World} {p : Option Addr} {xs : List Value} {g : Nat} (h : Rd w p xs) (hk : KpC g w w') (hp : ∀ a, p = some a → a.block ≠ g) : Rd w' p xs := fun i hi => by
  obtain ⟨a, e, hl, hc⟩ := h i hi
  exact ⟨a, e, Nat.lt_of_lt_of_le hl hk.1, hk.2 (a.add i) (by rw [add_block]; exact hp a e) _ hc⟩
theorem cell_lt {w : World} {a : Addr} {v : Value} (h : w.cell? a = some v) : a.block < w.heap.size := by
  unfold World.cell? at h
  rcases hh : w.heap[a.block]? with _ | o
  · rw [hh] at h; cases h
  · exact (Array.getElem?_eq_some_iff.1 hh).1
theorem range_pre {k n : Nat} (h : k ≤ n) : List.range k <+: List.range n := by
  obtain ⟨d, rfl⟩ : ∃ d, n = k + d := ⟨n - k, by omega⟩
  exact ⟨_, (List.range_add).symm⟩
theorem below_grownBy {w w' : World} (h : Below w.heap.size w w') : w.grownBy w' none := ⟨h.os, h.tape, h.output, h.size, fun k hk _ => h.block k hk⟩
end Go.Proofs.YtfmnnbeegfjnaaaGreat.Od

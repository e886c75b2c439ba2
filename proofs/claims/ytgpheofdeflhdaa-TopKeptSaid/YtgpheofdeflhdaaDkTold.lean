/- How often a name was told: a map of the call's own. -/
import Derived.Test.YtgpheofdeflhdaaDkWork
import Derived.Maps.OwnOps
import Derived.Maps.OwnSet
import Derived.Maps.Views
import Derived.Maps.Keyed
import Derived.StringKeys
import Derived.WalkArith
namespace Go.Proofs.Ytgpheofdeflhdaa.Dk
open Go.RowKit Go.Op Go.Maps Go.WideMaps

theorem strKeyed : Keyed Try.prog 9 := string_keyed Try.underlying9
/-- how often -/
def cnt (N : List ByteArray) (x : ByteArray) : Nat := (N.filter fun y => decide (y = x)).length
theorem cnt_snoc (N : List ByteArray) (y x : ByteArray) : cnt (N ++ [y]) x = if x = y then cnt N x + 1 else cnt N x := by
  unfold cnt
  rw [List.filter_append]
  by_cases h : x = y
  · subst h; simp
  · rw [if_neg h]
    have : ¬ (y = x) := fun e => h e.symm
    simp [this]
def ToldAt (w : World) (b n : Nat) (N : List ByteArray) : Prop := ∃ D : DataW Unit, w.ownsMap Try.prog 9 (plainElem Try.prog 3) b n D ∧ IsMap D ∧ ∀ x : ByteArray, D.atKey (.string x.data.toList) (.lit (.int .i64 0)) = .lit (.int .i64 (cnt N x : Nat))
theorem ToldAt.bar {w w' : World} {b n : Nat} {N : List ByteArray} {p : Nat → Prop} (h : ToldAt w b n N) (hb : Bar w w' p) (hp : ¬ p b) : ToldAt w' b n N := by
  obtain ⟨D, ⟨es, clock, h1, h2⟩, h3⟩ := h
  exact ⟨D, ⟨es, clock, (hb.block b (Array.getElem?_eq_some_iff.1 h1).1 hp).trans h1, h2⟩, h3⟩
theorem ToldAt.below {w w' : World} {b n : Nat} {N : List ByteArray} (h : ToldAt w b n N) (hb : Below w.heap.size w w') : ToldAt w' b n N :=
  h.bar (Bar.of_below hb (fun _ => False)) (fun h => h.elim)
theorem ToldAt.lt {w : World} {b n : Nat} {N : List ByteArray} (h : ToldAt w b n N) : b < w.heap.size := by
  obtain ⟨D, h1, _⟩ := h; exact h1.lt
theorem told_new (w : World) : ToldAt (w.alloc (.map #[] 0)) w.heap.size 0 [] := ⟨.map [], World.ownsMap_made _ _ _ _, ⟨_, rfl⟩, fun _ => rfl⟩
theorem told_wf (N : List ByteArray) (x : ByteArray) (h : N.length ≤ 140737488355328) : (cnt N x : Int) ≤ 140737488355328 := by
  have : cnt N x ≤ N.length := List.length_filter_le _ _
  omega
end Go.Proofs.Ytgpheofdeflhdaa.Dk

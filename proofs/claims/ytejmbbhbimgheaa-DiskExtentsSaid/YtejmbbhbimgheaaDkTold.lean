/- How often a name was told: a map of the call's own. -/
import Derived.Test.YtejmbbhbimgheaaDkWork
import Derived.Maps.OwnOps
import Derived.Maps.OwnSet
import Derived.Maps.Views
import Derived.Maps.Keyed
import Derived.StringKeys
import Derived.WalkArith
namespace Go.Proofs.Ytejmbbhbimgheaa.Dk
open Go.RowKit Go.Op Go.Maps Go.WideMaps

theorem strKeyed : Keyed Try.prog 9 := string_keyed Try.underlying9
theorem run_makeMapN (w : World) (n : Int) : (Instr.makeMap 84 (some (.int .i64 n))).run Try.prog w = .ok (.map (some w.heap.size)) (w.alloc (.map #[] 0)) := by
  simp [Instr.makeMap, run_underlying Try.underlying84, asInt, asIntOf]
/-- how often -/
def cnt (N : List ByteArray) (x : ByteArray) : Nat := (N.filter fun y => decide (y = x)).length
theorem cnt_snoc (N : List ByteArray) (y x : ByteArray) : cnt (N ++ [y]) x = if x = y then cnt N x + 1 else cnt N x := by
  unfold cnt
  rw [List.filter_append]
  by_cases h : x = y
  · subst h; simp
  · rw [if_neg h]
    have : ¬ (y = x) := fun e => h e.symm
    simp [this]
def ToldAt (w : World) (b n : Nat) (N : List ByteArray) : Prop := ∃ D : DataW Unit, w.ownsMap Try.prog 9 (plainElem Try.prog 3) b n D ∧ IsMap D ∧ ∀ x : ByteArray, D.atKey (.string x.data.toList) (.lit (.int .i64 0)) = .lit (.int .i64 (cnt N x : Nat))
theorem ToldAt.bar {w w' : World} {b n : Nat} {N : List ByteArray} {p : Nat → Prop} (h : ToldAt w b n N) (hb : Bar w w' p) (hp : ¬ p b) : ToldAt w' b n N := by
  obtain ⟨D, ⟨es, clock, h1, h2⟩, h3⟩ := h
  exact ⟨D, ⟨es, clock, (hb.block b (Array.getElem?_eq_some_iff.1 h1).1 hp).trans h1, h2⟩, h3⟩
theorem ToldAt.below {w w' : World} {b n : Nat} {N : List ByteArray} (h : ToldAt w b n N) (hb : Below w.heap.size w w') : ToldAt w' b n N :=
  h.bar (Bar.of_below hb (fun _ => False)) (fun h => h.elim)
theorem ToldAt.lt {w : World} {b n : Nat} {N : List ByteArray} (h : ToldAt w b n N) : b < w.heap.size := by
  obtain ⟨D, h1, _⟩ := h; exact h1.lt
theorem told_new (w : World) : ToldAt (w.alloc (.map #[] 0)) w.heap.size 0 [] := ⟨.map [], World.ownsMap_made _ _ _ _, ⟨_, rfl⟩, fun _ => rfl⟩
theorem told_wf (N : List ByteArray) (x : ByteArray) (h : N.length ≤ 140737488355328) : (cnt N x : Int) ≤ 140737488355328 := by
  have : cnt N x ≤ N.length := List.length_filter_le _ _
  omega
/-- m[name] -/
theorem told_look {w : World} {b n : Nat} {N : List ByteArray} (h : ToldAt w b n N) (x : ByteArray) (hx : x.size ≤ maxLen) : (Instr.lookup 84 (.map (some b)) (.string x) false).run Try.prog w = .ok (.int .i64 (cnt N x : Nat)) w := by
  obtain ⟨D, h1, h2, h3⟩ := h
  obtain ⟨c, hrun, hat, _⟩ := h1.lookup_int strKeyed Try.underlying84 Try.underlying3 (by kernel_rfl) (keyOf_string_mk Try.underlying9 hx)
  rw [h3 x] at hat
  simp only [DataW.lit.injEq, Lit.int.injEq, true_and] at hat
  rw [hrun, ← hat]
/-- m[name] is one more -/
theorem told_put {w : World} {b n : Nat} {N : List ByteArray} (h : ToldAt w b n N) (x : ByteArray) (hx : x.size ≤ maxLen) (hn : n < maxLen) (hl : N.length ≤ 140737488355328) (v : Int) (hv : v = (cnt N x : Int) + 1) :
    ∃ w', (Instr.mapUpdate 84 (.map (some b)) (.string x) (.int .i64 v)).run Try.prog w = .ok () w' ∧ ToldAt w' b (n + 1) (N ++ [x]) ∧ Bar w w' (fun k => k = b) := by
  obtain ⟨D, h1, h2, h3⟩ := h
  have hc := told_wf N x hl
  have hwf : (Lit.int .i64 v).wf = true := by
    exact WalkArith.wf_i64 (by omega)
  obtain ⟨w', hrun, hown, hgr⟩ := h1.update strKeyed Try.underlying84 hn (keyOf_string_mk Try.underlying9 hx) (plainElem_int Try.underlying3 hwf)
  refine ⟨w', hrun, ⟨_, hown, ?_, fun y => ?_⟩, ⟨hgr.os, hgr.tape, hgr.output, hgr.size, fun k hk hp => hgr.block k hk (by simpa using hp)⟩⟩
  · obtain ⟨es, rfl⟩ := h2; exact ⟨_, rfl⟩
  · rw [cnt_snoc]
    by_cases e : y = x
    · subst e
      rw [if_pos rfl, Maps.atKey_put_same h2 (show WideAt.IsKeyLit (.string y.data.toList) from trivial), hv]
      rfl
    · have hne : (Lit.string y.data.toList) ≠ (Lit.string x.data.toList) := fun h => by
        have h4 := Lit.string.inj h
        exact e (toList_inj (by rw [toList_data, toList_data]; exact h4))
      rw [if_neg e, Maps.atKey_put_other hne]
      exact h3 y
end Go.Proofs.Ytejmbbhbimgheaa.Dk

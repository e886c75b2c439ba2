/- A cell of a row stored; the end of a row cleared. -/
import Derived.Test.YtgpheofdeflhdaaDkIns
namespace Go.Proofs.Ytgpheofdeflhdaa.Dk
open Go.RowKit Go.Op

theorem heap_setCell_in {w : World} {g : Nat} {cur : Array Value} {t : TypeId} {fr : Nat × Nat} (h : w.heap[g]? = some (.cells cur t fr)) (i : Nat) (v : Value) : (w.setCell ⟨g, i, none⟩ v).heap[g]? = some (.cells (cur.setIfInBounds i v) t fr) := by
  obtain ⟨hlt, hk⟩ := Array.getElem?_eq_some_iff.1 h
  show (w.heap.modify g _)[g]? = _
  rw [Array.getElem?_eq_getElem (by rw [Array.size_modify]; exact hlt), Array.getElem_modify_self, hk]
  rfl
/-- a cell of a row of the call's own is stored -/
theorem own_set {w : World} {B : Nat} {e : TypeId} {s g n cap : Nat} {xs : List Value} (h : w.ownsRow B e s (.slice (some ⟨g, 0, none⟩) n cap) n xs) (i : Nat) (v : Value) :
    (w.setCell ⟨g, i, none⟩ v).ownsRow B e s (.slice (some ⟨g, 0, none⟩) n cap) n (xs.set i v) := by
  refine ⟨by rw [List.length_set]; exact h.1, .inr ?_⟩
  rcases h.2 with ⟨h2, _⟩ | ⟨g', cap', cur, hv, hg, hh, h3, h4, h5, h6⟩
  · cases h2
  · cases hv
    refine ⟨g, cap, cur.setIfInBounds i v, rfl, hg, heap_setCell_in hh i v, h3, h4, by rw [Array.size_setIfInBounds]; exact h5, ?_⟩
    rw [Array.toList_setIfInBounds, List.take_set, h6]
/-- a row of the call's own, shorter -/
theorem own_short {w : World} {B : Nat} {e : TypeId} {s g n cap : Nat} {xs : List Value} (h : w.ownsRow B e s (.slice (some ⟨g, 0, none⟩) n cap) n xs) (m : Nat) (hm : m ≤ n) :
    w.ownsRow B e s (.slice (some ⟨g, 0, none⟩) m cap) m (xs.take (m * s)) := by
  have hms : m * s ≤ n * s := Nat.mul_le_mul_right s hm
  refine ⟨by rw [List.length_take, h.1]; omega, .inr ?_⟩
  rcases h.2 with ⟨h2, _⟩ | ⟨g', cap', cur, hv, hg, hh, h3, h4, h5, h6⟩
  · cases h2
  · cases hv
    refine ⟨g, cap, cur, rfl, hg, hh, by omega, h4, h5, ?_⟩
    rw [← h6, List.take_take]
    congr 1
    omega
theorem eRow_set : ∀ (R : List Ext) (i : Nat) (x y : ByteArray), i < R.length → ((eRow R).set (i * 2) (.string x)).set (i * 2 + 1) (.string y) = eRow (R.set i (x, y))
  | [], i, _, _, h => absurd h (by simp)
  | u :: R, 0, x, y, _ => rfl
  | u :: R, i + 1, x, y, h => by
    have e : ∀ v : Ext, ∀ R : List Ext, eRow (v :: R) = .string v.1 :: .string v.2 :: eRow R := fun _ _ => rfl
    rw [e, show (i + 1) * 2 = i * 2 + 1 + 1 by omega, List.set_cons_succ, List.set_cons_succ, List.set_cons_succ, List.set_cons_succ, eRow_set R i x y (by simpa using h), List.set_cons_succ, e]
theorem wRow_set : ∀ (R : List Wr) (i : Nat) (x : ByteArray) (s : Int) (y : ByteArray), i < R.length → (((wRow R).set (i * 3) (.string x)).set (i * 3 + 1) (.int .i64 s)).set (i * 3 + 2) (.string y) = wRow (R.set i (x, s, y))
  | [], i, _, _, _, h => absurd h (by simp)
  | u :: R, 0, x, s, y, _ => rfl
  | u :: R, i + 1, x, s, y, h => by
    have e : ∀ v : Wr, ∀ R : List Wr, wRow (v :: R) = .string v.1 :: .int .i64 v.2.1 :: .string v.2.2 :: wRow R := fun _ _ => rfl
    rw [e, show (i + 1) * 3 = i * 3 + 1 + 1 + 1 by omega, show i * 3 + 1 + 1 + 1 + 2 = i * 3 + 2 + 1 + 1 + 1 by omega]
    simp only [List.set_cons_succ]
    rw [wRow_set R i x s y (by simpa using h), e]

/-- the end of a row is cleared: what is ahead of it stays -/
theorem run_clearK {P : Program} (w : World) (t e : TypeId) (z : Value) (k : Nat) (ht : P.underlying t = some (.slice e)) (hv : ∀ w, (zeroValue e).run P w = .ok z w) (hz : z.cells.size = k) (h1 : z.cells.all (fun u => u.oneCell') = true) (b o n c : Nat) (hn : 0 < n)
    (cur : Array Value) (u : TypeId) (hg : w.heap[b]? = some (.cells cur u (0, 0))) (hfit : o + n * k ≤ cur.size) :
    ∃ Z : List Value, Z.length = n * k ∧ ∀ ty, (Builtin.clear_ #[t] ty #[.slice (some ⟨b, o, none⟩) n c]).run P w = .ok (.tuple #[]) (w.setRow b (cur.toList.take o ++ Z ++ cur.toList.drop (o + Z.length)).toArray) := by
  have hzl : (Builtin.zeroCells z.cells n).toList.length = n * k := by simp [Builtin.zeroCells, hz]
  have hzo : ∀ v ∈ (Builtin.zeroCells z.cells n).toList, v.oneCell' = true := by
    intro v hv'
    simp only [Builtin.zeroCells, Array.mem_toList_iff, Array.mem_map] at hv'
    obtain ⟨i, hi, rfl⟩ := hv'
    have hlt : i < n * z.cells.size := by simpa using hi
    have hp : 0 < z.cells.size := by
      rcases Nat.eq_zero_or_pos z.cells.size with e | e
      · rw [e] at hlt; omega
      · exact e
    rw [getElem!_pos z.cells (i % z.cells.size) (Nat.mod_lt _ hp)]
    exact Array.all_eq_true.1 h1 _ _
  have hst := run_storeCells_at (P := P) b o u (Builtin.zeroCells z.cells n).toList 0 cur w hg (by rw [hzl]; omega) hzo
  rw [Nat.add_zero] at hst
  refine ⟨(Builtin.zeroCells z.cells n).toList, hzl, fun ty => ?_⟩
  obtain ⟨m, rfl⟩ : ∃ m, n = m + 1 := ⟨n - 1, by omega⟩
  simp [Builtin.clear_, run_underlying ht, hv, hst]
end Go.Proofs.Ytgpheofdeflhdaa.Dk

/- The walks of isName, sectorsOf, Compare, place. -/
import Derived.Test.YtgpheofdeflhdaaDkMath
import Derived.Test.YtgpheofdeflhdaaClone
import Derived.Test.YtgpheofdeflhdaaRd
import Derived.WalkSpells
import Derived.WalkLawsBesides
import Derived.Lib.Walk
import Derived.Lib.Hide
import Derived.Deep.QuietTactic
import Derived.BigQuiet
import Derived.RegionTactic
import Derived.Deep.RegionHeld3
namespace Go.Proofs.Ytgpheofdeflhdaa.Dk
open Go.RowKit Go.Op

/-- a slice of extents, as it is read -/
def ExtAt (w : World) (p : Option Addr) (E : List Ext) : Prop := ∀ i, i < E.length → ∃ g o, p = some ⟨g, o, none⟩ ∧ g < w.heap.size ∧ w.cell? ⟨g, o + i * 2, none⟩ = some (.string (E.getD i default).1) ∧ w.cell? ⟨g, o + i * 2 + 1, none⟩ = some (.string (E.getD i default).2) ∧ (E.getD i default).1.size ≤ 140737488355328 ∧ (E.getD i default).2.size ≤ 140737488355328
theorem ExtAt.below {w w' : World} {p : Option Addr} {E : List Ext} (h : ExtAt w p E) (hb : Below w.heap.size w w') : ExtAt w' p E := fun i hi => by
  obtain ⟨g, o, e, hg, c, d, hs⟩ := h i hi
  exact ⟨g, o, e, Nat.lt_of_lt_of_le hg hb.size, by rw [hb.cell hg]; exact c, by rw [hb.cell hg]; exact d, hs⟩
/-- a slice of writes -/
def WrsAt (w : World) (p : Option Addr) (L : List Wr) : Prop := ∀ i, i < L.length → ∃ g o, p = some ⟨g, o, none⟩ ∧ g < w.heap.size ∧ w.cell? ⟨g, o + i * 3, none⟩ = some (.string (L.getD i default).1) ∧ w.cell? ⟨g, o + i * 3 + 1, none⟩ = some (.int .i64 (L.getD i default).2.1) ∧ w.cell? ⟨g, o + i * 3 + 2, none⟩ = some (.string (L.getD i default).2.2) ∧ (L.getD i default).1.size ≤ 140737488355328 ∧ (L.getD i default).2.2.size ≤ 140737488355328
theorem WrsAt.below {w w' : World} {p : Option Addr} {L : List Wr} (h : WrsAt w p L) (hb : Below w.heap.size w w') : WrsAt w' p L := fun i hi => by
  obtain ⟨g, o, e, hg, c, d, f, hs⟩ := h i hi
  exact ⟨g, o, e, Nat.lt_of_lt_of_le hg hb.size, by rw [hb.cell hg]; exact c, by rw [hb.cell hg]; exact d, by rw [hb.cell hg]; exact f, hs⟩
/-- a variable that holds some cells -/
structure Boxed (w : World) (g : Nat) (cs : List Value) : Prop where
  lt : g < w.heap.size
  cell : ∀ i, i < cs.length → w.cell? ⟨g, i, none⟩ = some (cs.getD i (.bool false))
  free : ∀ i, i < cs.length → w.frozen? ⟨g, i, none⟩ = false
theorem Boxed.below {w w' : World} {g : Nat} {cs : List Value} (h : Boxed w g cs) (hb : Below w.heap.size w w') : Boxed w' g cs :=
  ⟨Nat.lt_of_lt_of_le h.lt hb.size, fun i hi => by rw [hb.cell h.lt]; exact h.cell i hi, fun i hi => by rw [hb.frozen h.lt]; exact h.free i hi⟩
theorem Boxed.new (w : World) (cs : Array Value) (t : TypeId) : Boxed (w.alloc (.cells cs t)) w.heap.size cs.toList := by
  have hg := heap_alloc_new w (.cells cs t)
  refine ⟨by simp, fun i hi => ?_, fun i hi => ?_⟩
  · rw [cell_of_row _ _ i _ t (0, 0) hg]
    rw [Array.length_toList] at hi
    simp [List.getD_eq_getElem?_getD, hi]
  · unfold World.frozen?
    rw [hg]
    simp
theorem ret_int {k : IntKind} {a b : Int} (h : a = b) : Ending.returned (.int k a) = .returned (.int k b) := by rw [h]
theorem ret_bool {a b : Bool} (h : a = b) : Ending.returned (.bool a) = .returned (.bool b) := by rw [h]
theorem ret_ib {a b : Int} {c d : Bool} (h : a = b) (k : c = d) : Ending.returned (.tuple #[.int .i64 a, .bool c]) = .returned (.tuple #[.int .i64 b, .bool d]) := by rw [h, k]

def named (s : ByteArray) : Bool := decide (1 ≤ s.size) && decide (s.size ≤ 16)
theorem isName_any (s : ByteArray) (w : World) (hs : s.size ≤ 9223372036854775807) : Calls Try.prog 42 #[.string s] w fun e w' => e = .returned (.bool (named s)) ∧ w = w' := by
  by_cases h1 : 1 ≤ s.size
  · have F : Hid (decide (s.size ≤ 16) = named s) := Lib.hid (by unfold named; rw [decide_eq_true h1]; rfl)
    have t : decide ((1 : Int) ≤ (s.size : Int)) = true := decide_eq_true (by omega)
    go_enter Try.func42, Try.ntmps42
    go_wp2
    go_ret
    exact ⟨ret_bool (by rw [← F.out]; simp; try omega), rfl⟩
  · have F : Hid (false = named s) := Lib.hid (by unfold named; rw [decide_eq_false h1]; rfl)
    have t : decide ((1 : Int) ≤ (s.size : Int)) = false := decide_eq_false (by omega)
    clear h1
    go_enter Try.func42, Try.ntmps42
    go_wp2
    go_ret
    exact ⟨ret_bool F.out, rfl⟩

/-- how many sectors -/
def many (s : ByteArray) : Nat := s.size / 64
theorem sectorsOf_any (n d : ByteArray) (w : World) (hs : d.size ≤ 9223372036854775807) : Calls Try.prog 48 #[.agg #[.string n, .string d]] w fun e w' => e = .returned (.int .i64 (many d)) ∧ Below w.heap.size w w' := by
  have hbx : Below w.heap.size w (w.alloc (.cells #[.string n, .string d] 86)) := (Below.refl _ _).alloc (Nat.le_refl _) _
  have e1 : (d.size : Int) / 64 = (many d : Int) := by unfold many; omega
  have e2 : (d.size : Int).tdiv 64 = (many d : Int) := by rw [Int.tdiv_eq_ediv_of_nonneg (by omega)]; exact e1
  have hm : many d ≤ d.size := Nat.div_le_self _ _
  have e3 : IntKind.i64.wrap (many d : Int) = (many d : Int) := IntWalk.i64_in _ (by omega)
  go_enter Try.func48, Try.ntmps48
  go_wp2_with fail
  go_ret
  exact ⟨rfl, hbx⟩

set_option maxHeartbeats 1000000 in
set_option maxRecDepth 100000 in
theorem cmpString_any (a b : ByteArray) (w : World) :
    Calls Try.prog 58 #[.string a, .string b] w fun e w' => e = .returned (.int .i64 (ncmp a b)) ∧ w = w' := by
  have F := Lib.hid (ncmp_eq a b)
  go_enter Try.func58, Try.ntmps58
  go_wp2
  rw [run_callFunc_extern Try.func61 (by kernel_rfl) (by kernel_rfl) (by kernel_rfl) (e := Extern.BytealgCompare.compare) (by kernel_rfl), Lib.run_compareString]
  simp only [Result.andThen]
  rw [Oper.upon_value]
  go_wp2
  go_ret
  exact ⟨ret_int F.out, rfl⟩
end Go.Proofs.Ytgpheofdeflhdaa.Dk

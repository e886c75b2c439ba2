/- Bits at work: put. -/
import Derived.Test.YtjbbkcnfilnmcaaDoorBitWork
import Derived.OneCell
namespace Go.Proofs.YtjbbkcnfilnmcaaDoor.Bt
open Go.RowKit

/-- blocks that hold neither bytes nor bits at work stay as they are -/
def Kept (w w' : World) : Prop := ∀ (k : Nat) (cs : Array Value) (ty : TypeId) (fr : Nat × Nat), w.heap[k]? = some (Obj.cells cs ty fr) → ty ≠ 5 → ty ≠ 47 → w'.heap[k]? = w.heap[k]?
theorem Kept.refl (w : World) : Kept w w := fun _ _ _ _ _ _ _ => rfl
theorem Kept.trans {a b c : World} (h : Kept a b) (k : Kept b c) : Kept a c := fun i cs ty fr hi h1 h2 => by
  have e := h i cs ty fr hi h1 h2
  rw [k i cs ty fr (by rw [e]; exact hi) h1 h2, e]
theorem Kept.drewN {a w : World} (h : Kept a w) (n : Nat) : Kept a (w.drewN n) := h
theorem Kept.alloc {a w : World} (h : Kept a w) (o : Obj) : Kept a (w.alloc o) := h.trans fun k cs ty fr hk _ _ => by
  have hlt : k < w.heap.size := (Array.getElem?_eq_some_iff.1 hk).1
  exact Below.heap_alloc w o k hlt
theorem Kept.setCell {a w : World} (h : Kept a w) (b i : Nat) (u : Value) (hb : ∀ (cs : Array Value) (ty : TypeId) (fr : Nat × Nat), w.heap[b]? = some (Obj.cells cs ty fr) → ty = 5 ∨ ty = 47) : Kept a (w.setCell ⟨b, i, none⟩ u) := h.trans fun k cs ty fr hk h1 h2 => by
  apply heap_setCell_other
  intro e
  subst e
  rcases hb cs ty fr hk with rfl | rfl
  · exact h1 rfl
  · exact h2 rfl
theorem Kept.grown {a w w' : World} {row : Option Nat} (h : Kept a w) (hg : w.grownBy w' row) (hr : ∀ g, row = some g → ∀ (cs : Array Value) (ty : TypeId) (fr : Nat × Nat), w.heap[g]? = some (Obj.cells cs ty fr) → ty = 5 ∨ ty = 47) : Kept a w' := h.trans fun k cs ty fr hk h1 h2 => by
  apply hg.block k (Array.getElem?_eq_some_iff.1 hk).1
  intro e
  rcases hr k e.symm cs ty fr hk with rfl | rfl
  · exact h1 rfl
  · exact h2 rfl
/-- an owned row's block holds bytes -/
theorem row_type {w : World} {B : Nat} {v : Value} {n : Nat} {xs : List Value} (h : w.ownsRow B 5 1 v n xs) : ∀ g, v.ownBlock = some g → ∀ (cs : Array Value) (ty : TypeId) (fr : Nat × Nat), w.heap[g]? = some (Obj.cells cs ty fr) → ty = 5 ∨ ty = 47 := by
  intro g hg cs ty fr hk
  rcases h.2 with ⟨rfl, _⟩ | ⟨g', cap, cur, rfl, _, hh, _⟩
  · simp [Value.ownBlock] at hg
  · simp only [Value.ownBlock, Option.some.injEq] at hg
    subst hg
    rw [hh] at hk
    simp only [Option.some.injEq, Obj.cells.injEq] at hk
    exact .inl hk.2.1.symm
theorem row_ne {w : World} {B : Nat} {v : Value} {n p : Nat} {xs : List Value} {cs : Array Value} (h : w.ownsRow B 5 1 v n xs) (hp : w.heap[p]? = some (.cells cs 47 (0, 0))) : v.ownBlock ≠ some p := by
  intro e
  rcases h.2 with ⟨rfl, _⟩ | ⟨g', cap, cur, rfl, _, hh, _⟩
  · simp [Value.ownBlock] at e
  · simp only [Value.ownBlock, Option.some.injEq] at e
    subst e
    rw [hh] at hp
    simp at hp
theorem row_ge {w : World} {B : Nat} {v : Value} {n : Nat} {xs : List Value} (h : w.ownsRow B 5 1 v n xs) : ∀ g, v.ownBlock = some g → B ≤ g := by
  intro g e
  rcases h.2 with ⟨rfl, _⟩ | ⟨g', cap, cur, rfl, hb, _⟩
  · simp [Value.ownBlock] at e
  · simp only [Value.ownBlock, Option.some.injEq] at e
    subst e; exact hb

/-- bits at work, all told: the block, the row, where they lie -/
structure St (w : World) (B p : Nat) (L : List UInt8) (N : Int) (s0 : ByteArray) (v : Value) : Prop where
  own : B ≤ p
  block : w.heap[p]? = some (.cells #[.string s0, .int .i64 N, v] 47 (0, 0))
  row : w.ownsRow B 5 1 v L.length (Lib.byteCells L)
  nn : v ≠ .slice none 0 0
theorem St.work {w : World} {B p : Nat} {L : List UInt8} {N : Int} {s0 : ByteArray} {v : Value} (h : St w B p L N s0 v) : Work w B p L N := ⟨h.own, s0, v, h.block, h.row, h.nn⟩
theorem St.c1 {w : World} {B p : Nat} {L : List UInt8} {N : Int} {s0 : ByteArray} {v : Value} (h : St w B p L N s0 v) : w.cell? ⟨p, 1, none⟩ = some (.int .i64 N) := by simp [World.cell?, h.block]
theorem St.c2 {w : World} {B p : Nat} {L : List UInt8} {N : Int} {s0 : ByteArray} {v : Value} (h : St w B p L N s0 v) : w.cell? ⟨p, 2, none⟩ = some v := by simp [World.cell?, h.block]
theorem St.f {w : World} {B p : Nat} {L : List UInt8} {N : Int} {s0 : ByteArray} {v : Value} (h : St w B p L N s0 v) (i : Nat) : w.frozen? ⟨p, i, none⟩ = false := by simp [World.frozen?, h.block]
theorem St.size {w : World} {B p : Nat} {L : List UInt8} {N : Int} {s0 : ByteArray} {v : Value} (h : St w B p L N s0 v) : p < w.heap.size := (Array.getElem?_eq_some_iff.1 h.block).1
theorem St.alloc {w : World} {B p : Nat} {L : List UInt8} {N : Int} {s0 : ByteArray} {v : Value} (h : St w B p L N s0 v) (o : Obj) : St (w.alloc o) B p L N s0 v :=
  ⟨h.own, by rw [Below.heap_alloc w o p h.size]; exact h.block, h.row.alloc o, h.nn⟩
theorem St.drewN {w : World} {B p : Nat} {L : List UInt8} {N : Int} {s0 : ByteArray} {v : Value} (h : St w B p L N s0 v) (n : Nat) : St (w.drewN n) B p L N s0 v := ⟨h.own, h.block, h.row, h.nn⟩
/-- the slice is not nil -/
theorem St.shape {w : World} {B p : Nat} {L : List UInt8} {N : Int} {s0 : ByteArray} {v : Value} (h : St w B p L N s0 v) : ∃ g cap, v = .slice (some ⟨g, 0, none⟩) L.length cap ∧ L.length ≤ cap := by
  rcases h.row.2 with ⟨h0, _⟩ | ⟨g, cap, cur, hv, _, _, hn, _⟩
  · exact absurd h0 h.nn
  · exact ⟨g, cap, hv, hn⟩
/-- a byte of the row -/
theorem St.byte {w : World} {B p : Nat} {L : List UInt8} {N : Int} {s0 : ByteArray} {g cap : Nat} (h : St w B p L N s0 (.slice (some ⟨g, 0, none⟩) L.length cap)) (j : Nat) (hj : j < L.length) :
    w.cell? ⟨g, j, none⟩ = some (.int .u8 ((L.getD j 0).toNat : Int)) ∧ w.frozen? ⟨g, j, none⟩ = false := by
  refine ⟨?_, h.row.frozenAt j⟩
  rw [h.row.cellAt j (by omega)]
  simp [Lib.byteCells, List.getD_eq_getElem?_getD, hj]
/-- the row behind an append -/
theorem St.appended {w w1 : World} {B p : Nat} {L L' : List UInt8} {N : Int} {s0 : ByteArray} {v v' : Value} (h : St w B p L N s0 v) (hg : w.grownBy w1 v.ownBlock)
    (hr : w1.ownsRow B 5 1 v' L'.length (Lib.byteCells L')) (hnn : v' ≠ .slice none 0 0) : St (w1.setCell ⟨p, 2, none⟩ v') B p L' N s0 v' := by
  have hp1 : w1.heap[p]? = some (.cells #[.string s0, .int .i64 N, v] 47 (0, 0)) := by
    rw [hg.block p h.size (fun e => row_ne h.row h.block e.symm)]; exact h.block
  refine ⟨h.own, ?_, ownsRow_setCell_other hr (row_ne hr hp1) v', hnn⟩
  rw [heap_setCell_same w1 p 2 _ _ v' hp1]; rfl
/-- a byte of the row turned, and the count raised -/
theorem St.stored {w : World} {B p : Nat} {L : List UInt8} {N : Int} {s0 : ByteArray} {g cap : Nat} (h : St w B p L N s0 (.slice (some ⟨g, 0, none⟩) L.length cap)) (j : Nat) (x : UInt8) (N' : Int) :
    St ((w.setCell ⟨g, j, none⟩ (.int .u8 (x.toNat : Int))).setCell ⟨p, 1, none⟩ (.int .i64 N')) B p (L.set j x) N' s0 (.slice (some ⟨g, 0, none⟩) L.length cap) := by
  have hne : p ≠ g := by
    intro e; subst e
    exact row_ne h.row h.block rfl
  have hp1 : (w.setCell ⟨g, j, none⟩ (.int .u8 (x.toNat : Int))).heap[p]? = some (.cells #[.string s0, .int .i64 N, .slice (some ⟨g, 0, none⟩) L.length cap] 47 (0, 0)) := by
    rw [heap_setCell_other _ _ _ _ hne]; exact h.block
  have hr := (h.row.stored j (.int .u8 (x.toNat : Int))).1
  have hset : (Lib.byteCells L).set j (.int .u8 (x.toNat : Int)) = Lib.byteCells (L.set j x) := by simp [Lib.byteCells, List.map_set]
  rw [hset] at hr
  refine ⟨h.own, ?_, ?_, by simp⟩
  · rw [heap_setCell_same _ p 1 _ _ _ hp1]; rfl
  · rw [List.length_set]
    exact ownsRow_setCell_other hr (row_ne hr hp1) _
/-- what an append of a byte of noughts leaves -/
theorem St.appended0 {w w1 : World} {B p : Nat} {L : List UInt8} {N : Int} {s0 : ByteArray} {v v' : Value} (h : St w B p L N s0 v) (o : Obj) (hg : (w.alloc o).grownBy w1 v.ownBlock)
    (hr : w1.ownsRow B 5 1 v' (L.length + 1) (Lib.byteCells L ++ [.int .u8 0])) :
    w1.cell? ⟨p, 2, none⟩ = some v ∧ w1.frozen? ⟨p, 2, none⟩ = false ∧ St (w1.setCell ⟨p, 2, none⟩ v') B p (L ++ [0]) N s0 v' ∧ w1.heap[p]? = some (.cells #[.string s0, .int .i64 N, v] 47 (0, 0)) := by
  have ha := h.alloc o
  have hp1 : w1.heap[p]? = some (.cells #[.string s0, .int .i64 N, v] 47 (0, 0)) := by
    rw [hg.block p ha.size (fun e => row_ne ha.row ha.block e.symm)]; exact ha.block
  refine ⟨by simp [World.cell?, hp1], by simp [World.frozen?, hp1], ha.appended hg ?_ ?_, hp1⟩
  case refine_2 =>
    intro e; subst e
    rcases hr.2 with ⟨_, h0⟩ | ⟨_, _, _, h0, _⟩
    · omega
    · cases h0
  rw [List.length_append]
  have e : Lib.byteCells (L ++ [0]) = Lib.byteCells L ++ [.int .u8 0] := by simp [Lib.byteCells]
  rw [e]; exact hr
end Go.Proofs.YtjbbkcnfilnmcaaDoor.Bt

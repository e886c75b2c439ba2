/- Rows that are sorted: what a walk of the library's sort asks of them. No function of the program in sight. -/
import Derived.Test.YtonlbcibfbbpgaaLsRow
import Derived.Shelf.SlSortCmp.Kit1
import Derived.Sort.AssemblyPlain
import Derived.Sort.LotD4
import Derived.Sort.WalkA6
import Derived.Sort.WalkC4
import Derived.Sort.Walk7
import Derived.Laws.Bits64b
import Derived.Sort.LotD5
import Derived.Sort.WalkA
import Derived.Sort.WalkB2
import Derived.Sort.WalkB12
import Derived.Deep.LoopGhost
import Derived.BigRegion
import Derived.CellFam
import Derived.BigCall
import Derived.BigGuard
import Derived.IntWalk
namespace Go.Proofs.Ytonlbcibfbbpgaa.St
open Go.RowKit Go.Lib Go.Sort Rw

/-- a world of the sort's: the row holds d -/
structure At (k : IntKind) (w0 : World) (blk off n : Nat) (d : Array Int) (w : World) : Prop where
  sz : d.size = n
  row : ∃ d0 : Array Int, d0.size = n ∧ Row1 (Value.int k) w0 blk off d0
  sw : SW (Value.int k) w0 blk off d w
section
variable {k : IntKind} {w0 w : World} {blk off n : Nat} {d : Array Int}
theorem At.cell (h : At k w0 blk off n d w) {i : Nat} (hi : i < n) : w.cell? ⟨blk, off + i, none⟩ = some (.int k d[i]!) := by
  obtain ⟨d0, hs, R⟩ := h.row
  exact h.sw.c1 R (by rw [h.sz, hs]) i (by rw [h.sz]; exact hi)
theorem At.free (h : At k w0 blk off n d w) {i : Nat} (hi : i < n) : w.frozen? ⟨blk, off + i, none⟩ = false := by
  obtain ⟨d0, hs, R⟩ := h.row
  exact h.sw.f1 R (by rw [h.sz, hs]) i (by rw [h.sz]; exact hi)
theorem At.drewN (h : At k w0 blk off n d w) (q : Nat) : At k w0 blk off n d (w.drewN q) := ⟨h.sz, h.row, h.sw.drewN q⟩
theorem At.drew (h : At k w0 blk off n d w) : At k w0 blk off n d w.drew := ⟨h.sz, h.row, h.sw.drew⟩
theorem At.alloc (h : At k w0 blk off n d w) (o : Obj) : At k w0 blk off n d (w.alloc o) := ⟨h.sz, h.row, h.sw.alloc o⟩
theorem At.new (h : At k w0 blk off n d w) {b : Nat} (o : Nat) (v : Value) (hb : w0.heap.size ≤ b) : At k w0 blk off n d (w.setCell ⟨b, o, none⟩ v) := ⟨h.sz, h.row, h.sw.setCell_new b o v hb⟩
theorem At.swap (h : At k w0 blk off n d w) {i j : Nat} (hi : i < n) (hj : j < n) :
    At k w0 blk off n (swp d i j) ((w.setCell ⟨blk, off + i, none⟩ (.int k d[j]!)).setCell ⟨blk, off + j, none⟩ (.int k d[i]!)) := by
  obtain ⟨d0, hs, R⟩ := h.row
  exact ⟨by rw [size_swp]; exact h.sz, ⟨d0, hs, R⟩, h.sw.swap R.hblk i j (by rw [h.sz]; exact hi) (by rw [h.sz]; exact hj)⟩
theorem At.second (h : At k w0 blk off n d w) {i j : Nat} (hi : i < n) (hj : j < n) (v : Value) : ∃ u, (w.setCell ⟨blk, off + i, none⟩ v).cell? ⟨blk, off + j, none⟩ = some u := by
  obtain ⟨d0, hs, R⟩ := h.row
  exact h.sw.c2 R (by rw [h.sz, hs]) i j (by rw [h.sz]; exact hi) (by rw [h.sz]; exact hj) v
theorem At.lt (h : At k w0 blk off n d w) : blk < w0.heap.size := by obtain ⟨d0, hs, R⟩ := h.row; exact R.hblk
theorem At.le (h : At k w0 blk off n d w) : w0.heap.size ≤ w.heap.size := h.sw.le
end
/-- .. and a counter in a block that is new -/
structure Cnt (k : IntKind) (w0 : World) (blk off n : Nat) (d : Array Int) (c s : Nat) (w : World) : Prop where
  at_ : At k w0 blk off n d w
  cell : w.cell? ⟨c, 0, none⟩ = some (.int .i64 s)
  free : w.frozen? ⟨c, 0, none⟩ = false
  ge : w0.heap.size ≤ c
  lt : c < w.heap.size
section
variable {k : IntKind} {w0 w : World} {blk off n c s : Nat} {d : Array Int}
theorem Cnt.drewN (h : Cnt k w0 blk off n d c s w) (q : Nat) : Cnt k w0 blk off n d c s (w.drewN q) := ⟨h.at_.drewN q, h.cell, h.free, h.ge, h.lt⟩
theorem Cnt.bump (h : Cnt k w0 blk off n d c s w) (t : Nat) : Cnt k w0 blk off n d c t (w.setCell ⟨c, 0, none⟩ (.int .i64 t)) :=
  ⟨h.at_.new 0 _ h.ge, World.cell?_setCell_same' _ _ _ (by rw [h.cell]; rfl), by rw [World.frozen?_setCell]; exact h.free, h.ge, by simpa using h.lt⟩
theorem Cnt.start (h : At k w0 blk off n d w) (t : TypeId) : Cnt k w0 blk off n d w.heap.size 0 (w.alloc (.cells #[.int .i64 0] t)) :=
  ⟨h.alloc _, by simp, by simp, h.le, by simp⟩
end
/-- .. and a number of 64 bits in a block that is new -/
structure Rnd (k : IntKind) (w0 : World) (blk off n : Nat) (d : Array Int) (g X : Nat) (w : World) : Prop where
  at_ : At k w0 blk off n d w
  cell : w.cell? ⟨g, 0, none⟩ = some (.int .u64 X)
  free : w.frozen? ⟨g, 0, none⟩ = false
  ge : w0.heap.size ≤ g
  lt : g < w.heap.size
section
variable {k : IntKind} {w0 w : World} {blk off n g X : Nat} {d : Array Int}
theorem Rnd.drewN (h : Rnd k w0 blk off n d g X w) (q : Nat) : Rnd k w0 blk off n d g X (w.drewN q) := ⟨h.at_.drewN q, h.cell, h.free, h.ge, h.lt⟩
theorem Rnd.next (h : Rnd k w0 blk off n d g X w) (Y : Nat) : Rnd k w0 blk off n d g Y ((w.setCell ⟨g, 0, none⟩ (.int .u64 Y)).drewN 3) :=
  Rnd.drewN ⟨h.at_.new 0 _ h.ge, World.cell?_setCell_same' _ _ _ (by rw [h.cell]; rfl), by rw [World.frozen?_setCell]; exact h.free, h.ge, by simpa using h.lt⟩ 3
theorem Rnd.start (h : At k w0 blk off n d w) (X : Nat) (t : TypeId) : Rnd k w0 blk off n d w.heap.size X (w.alloc (.cells #[.int .u64 X] t)) :=
  ⟨h.alloc _, by simp, by simp, h.le, by simp⟩
theorem Rnd.swap (h : Rnd k w0 blk off n d g X w) {i j : Nat} (hi : i < n) (hj : j < n) :
    Rnd k w0 blk off n (swp d i j) g X ((w.setCell ⟨blk, off + i, none⟩ (.int k d[j]!)).setCell ⟨blk, off + j, none⟩ (.int k d[i]!)).drew := by
  have hne : g ≠ blk := by have := h.at_.lt; have := h.ge; omega
  have h2 := box_kept_swap1 hne h.cell h.free (off + i) (off + j) (.int k d[j]!) (.int k d[i]!)
  exact ⟨(h.at_.swap hi hj).drew, h2.1, h2.2, h.ge, by simpa using h.lt⟩
end
/-- two places and a count -/
def Twos (k : IntKind) (w0 : World) (blk off n : Nat) (d : Array Int) (c : Nat) (r : Nat × Nat × Nat) (e : Ending) (w' : World) : Prop :=
  e = .returned (.tuple #[.int .i64 r.1, .int .i64 r.2.1]) ∧ Cnt k w0 blk off n d c r.2.2 w'
/-- a place and a count -/
def Ones (k : IntKind) (w0 : World) (blk off n : Nat) (d : Array Int) (c : Nat) (r : Nat × Nat) (e : Ending) (w' : World) : Prop :=
  e = .returned (.int .i64 r.1) ∧ Cnt k w0 blk off n d c r.2 w'
/-- what a call of the sort's leaves -/
def Sorts (k : IntKind) (w0 : World) (blk off n : Nat) (v : Value) (d : Array Int) (e : Ending) (w' : World) : Prop := e = .returned v ∧ At k w0 blk off n d w'
theorem ltInt_true {x y : Int} (h : x < y) : ltInt x y = true := decide_eq_true h
theorem ltInt_false {x y : Int} (h : ¬ x < y) : ltInt x y = false := decide_eq_false h
end Go.Proofs.Ytonlbcibfbbpgaa.St

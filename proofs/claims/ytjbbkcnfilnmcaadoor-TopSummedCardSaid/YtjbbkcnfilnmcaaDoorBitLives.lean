/- The walk of the law's own examples: puts. -/
import Derived.Test.YtjbbkcnfilnmcaaDoorBitPutZ
import Derived.Laws.StructEq
namespace Go.Proofs.YtjbbkcnfilnmcaaDoor.Bt
open Go.RowKit

theorem packS_of {l : List UInt8} {X : List Bool} (h : Packs l X) : packS X = ⟨l.toArray⟩ := by unfold packS; rw [← h.eq]
/-- a variable that holds bits -/
structure Box (w : World) (g : Nat) (s : ByteArray) (n : Int) : Prop where
  lt : g < w.heap.size
  c0 : w.cell? ⟨g, 0, none⟩ = some (.string s)
  c1 : w.cell? ⟨g, 1, none⟩ = some (.int .i64 n)
  f0 : w.frozen? ⟨g, 0, none⟩ = false
  f1 : w.frozen? ⟨g, 1, none⟩ = false
theorem Box.new (w : World) (s : ByteArray) (n : Int) : Box (w.alloc (.cells #[.string s, .int .i64 n] 25)) w.heap.size s n := ⟨by simp, by simp, by simp, by simp [go_sem], by simp [go_sem]⟩
theorem Box.below {w w' : World} {g : Nat} {s : ByteArray} {n : Int} (h : Box w g s n) (hb : Below w.heap.size w w') : Box w' g s n :=
  ⟨Nat.lt_of_lt_of_le h.lt hb.size, by rw [hb.cell h.lt]; exact h.c0, by rw [hb.cell h.lt]; exact h.c1, by rw [hb.frozen h.lt]; exact h.f0, by rw [hb.frozen h.lt]; exact h.f1⟩
theorem Box.alloc {w : World} {g : Nat} {s : ByteArray} {n : Int} (h : Box w g s n) (o : Obj) : Box (w.alloc o) g s n := h.below ((Below.refl _ _).alloc (Nat.le_refl _) _)
theorem Box.set {w : World} {g : Nat} {s : ByteArray} {n : Int} (h : Box w g s n) (t : ByteArray) (m : Int) : Box ((w.setCell ⟨g, 0, none⟩ (.string t)).setCell ⟨g, 1, none⟩ (.int .i64 m)) g t m := by
  have e : (⟨g, 0, none⟩ : Addr) ≠ ⟨g, 1, none⟩ := by intro h; injection h with _ h; cases h
  have h1 : (w.setCell ⟨g, 0, none⟩ (.string t)).cell? ⟨g, 1, none⟩ = some (.int .i64 n) := by rw [World.cell?_setCell_other _ _ _ _ e]; exact h.c1
  refine ⟨by simpa using h.lt, ?_, World.cell?_setCell_same _ _ _ h1, by rw [World.frozen?_setCell, World.frozen?_setCell]; exact h.f0, by rw [World.frozen?_setCell, World.frozen?_setCell]; exact h.f1⟩
  rw [World.cell?_setCell_other _ _ _ _ e.symm]
  exact World.cell?_setCell_same _ _ _ h.c0
theorem px1 : putE ⟨#[]⟩ 0 5 3 = 0 := by decide +kernel
theorem px2 : putS ⟨#[]⟩ 0 5 3 = ⟨#[160]⟩ := by unfold putS; rw [if_pos px1]; exact packS_of (l := [160]) (packs_of (by decide +kernel) (by decide +kernel))
theorem px3 : putN ⟨#[]⟩ 0 5 3 = 3 := by unfold putN; rw [if_pos px1]; rfl
theorem px4 : putE ⟨#[160]⟩ 3 1 2 = 0 := by decide +kernel
theorem px5 : putS ⟨#[160]⟩ 3 1 2 = ⟨#[168]⟩ := by unfold putS; rw [if_pos px4]; exact packS_of (l := [168]) (packs_of (by decide +kernel) (by decide +kernel))
theorem px6 : putN ⟨#[160]⟩ 3 1 2 = 5 := by unfold putN; rw [if_pos px4]; rfl
theorem px7 : getV ⟨#[168]⟩ 5 1 3 = 2 ∧ getE ⟨#[168]⟩ 5 1 3 = 0 := by decide +kernel
theorem px8 : putE ⟨#[168]⟩ 5 4 2 = 1 := by decide +kernel
theorem px9 : getE ⟨#[168]⟩ 5 3 3 = 5 := by decide +kernel
theorem px10 : chk ⟨#[]⟩ 1 = 2 := by decide +kernel
theorem small {n : Nat} (h : n ≤ 1000) : n ≤ maxLen := by unfold maxLen; omega

end Go.Proofs.YtjbbkcnfilnmcaaDoor.Bt

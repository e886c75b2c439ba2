/- A row of bytes in memory that the call itself made: read, written, made a string again. -/
import Derived.Test.YtjnehpkkkmicfaaRows
import Derived.WalkKit
import Derived.WalkSpells
import Derived.Lib.Strings
import Derived.Laws.IdiomStrings
import Derived.Lib.Hide
namespace Go.Proofs.Ytjnehpkkkmicfaa.Row
open Go.RowKit

/-- block g begins with the bytes l, none of them frozen -/
structure Bytes (w : World) (g : Nat) (l : List UInt8) : Prop where
  lt : g < w.heap.size
  cell : ∀ j, j < l.length → w.cell? ⟨g, j, none⟩ = some (.int .u8 ((l.getD j 0).toNat : Int))
  free : ∀ j, j < l.length → w.frozen? ⟨g, j, none⟩ = false
theorem Bytes.drew {w : World} {g : Nat} {l : List UInt8} (h : Bytes w g l) : Bytes w.drew g l := ⟨h.lt, h.cell, h.free⟩
theorem Bytes.below {w w' : World} {g : Nat} {l : List UInt8} (h : Bytes w g l) (hb : Below w.heap.size w w') : Bytes w' g l :=
  ⟨Nat.lt_of_lt_of_le h.lt hb.size, fun j hj => by rw [hb.cell (p := ⟨g, j, none⟩) h.lt]; exact h.cell j hj, fun j hj => by rw [hb.frozen (p := ⟨g, j, none⟩) h.lt]; exact h.free j hj⟩
theorem Bytes.alloc {w : World} {g : Nat} {l : List UInt8} (h : Bytes w g l) (o : Obj) : Bytes (w.alloc o) g l := h.below ((Below.refl _ _).alloc (Nat.le_refl _) _)
theorem getD_set (l : List UInt8) (i j : Nat) (x : UInt8) (hi : i < l.length) : (l.set i x).getD j 0 = if i = j then x else l.getD j 0 := by
  simp only [List.getD_eq_getElem?_getD, List.getElem?_set]
  by_cases h : i = j
  · subst h; simp [hi]
  · simp [h]
theorem Bytes.set {w : World} {g : Nat} {l : List UInt8} (h : Bytes w g l) (i : Nat) (hi : i < l.length) (x : UInt8) : Bytes (w.setCell ⟨g, i, none⟩ (.int .u8 (x.toNat : Int))) g (l.set i x) := by
  refine ⟨by simpa using h.lt, fun j hj => ?_, fun j hj => ?_⟩
  · rw [List.length_set] at hj
    rw [getD_set l i j x hi]
    by_cases e : i = j
    · subst e; rw [if_pos rfl]; exact World.cell?_setCell_same _ _ _ (h.cell i hi)
    · rw [if_neg e, World.cell?_setCell_other _ _ _ _ (by intro c; apply e; injection c)]; exact h.cell j hj
  · rw [List.length_set] at hj
    rw [World.frozen?_setCell]; exact h.free j hj
/-- []byte(s) -/
noncomputable def madeOf (w : World) (s : ByteArray) : World := w.drew.alloc (.cells (bytesRow s (grownCap w s.size 0 5)) 5 ((bytesRow s (grownCap w s.size 0 5)).size, (bytesRow s (grownCap w s.size 0 5)).size + 1))
theorem run_make (w : World) (s : ByteArray) : (convert 9 55 (.string s)).run Try.prog w = .ok (.slice (some ⟨w.heap.size, 0, none⟩) s.size (grownCap w s.size 0 5)) (madeOf w s) :=
  run_bytes_of_string w 9 55 5 s Try.underlying9 Try.underlying55 Try.underlying5
theorem madeOf_below (w : World) (s : ByteArray) : Below w.heap.size w (madeOf w s) := (Below.drew (Below.refl _ w)).alloc (by simp) _
theorem madeOf_size (w : World) (s : ByteArray) : (madeOf w s).heap.size = w.heap.size + 1 := by unfold madeOf; simp
theorem bytesRow_ge (s : ByteArray) (c : Nat) : s.size ≤ (bytesRow s c).size := by
  unfold bytesRow
  have : s.data.size = s.size := rfl
  simp
theorem madeOf_bytes (w : World) (s : ByteArray) : Bytes (madeOf w s) w.heap.size s.data.toList := by
  have hd : s.data.toList.length = s.size := (Lib.size_eq s).symm
  refine ⟨by rw [madeOf_size]; omega, fun j hj => ?_, fun j hj => ?_⟩
  · have h := World.cell?_alloc_mark w.drew (bytesRow s (grownCap w s.size 0 5)) 5 ((bytesRow s (grownCap w s.size 0 5)).size, (bytesRow s (grownCap w s.size 0 5)).size + 1) j
    have hs : w.drew.heap.size = w.heap.size := rfl
    rw [hs] at h
    unfold madeOf
    rw [h, bytesRow_at s _ j (by simpa using hj)]
    simp [List.getD_eq_getElem?_getD, List.getElem?_eq_getElem hj]
  · have h := World.frozen?_alloc_mark w.drew (bytesRow s (grownCap w s.size 0 5)) 5 (bytesRow s (grownCap w s.size 0 5)).size ((bytesRow s (grownCap w s.size 0 5)).size + 1) j
    have hs : w.drew.heap.size = w.heap.size := rfl
    rw [hs] at h
    unfold madeOf
    rw [h]
    have := bytesRow_ge s (grownCap w s.size 0 5)
    simp; omega
/-- string(b) -/
theorem run_back {w : World} {g : Nat} {l : List UInt8} (h : Bytes w g l) (cap : Nat) : (convert 55 9 (.slice (some ⟨g, 0, none⟩) l.length cap)).run Try.prog w = .ok (.string ⟨l.toArray⟩) w := by
  refine run_convert_bytes_back (P := Try.prog) w 55 9 5 ⟨g, 0, none⟩ cap l Try.underlying55 Try.underlying5 Try.underlying9 ?_
  intro j hj
  have e : ((⟨g, 0, none⟩ : Addr).add j) = ⟨g, j, none⟩ := by simp [Addr.add] <;> omega
  rw [e, h.cell j hj]
  simp [List.getD_eq_getElem?_getD, List.getElem?_eq_getElem hj]
end Go.Proofs.Ytjnehpkkkmicfaa.Row

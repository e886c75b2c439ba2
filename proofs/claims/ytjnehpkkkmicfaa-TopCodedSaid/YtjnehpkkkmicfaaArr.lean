/- Rows of one-cell elements in a block of the call's own, of whatever element type. No function of the program in sight. -/
import Derived.Test.YtjnehpkkkmicfaaLsRow
import Derived.Laws.MakeOwn
namespace Go.Proofs.Ytjnehpkkkmicfaa.Ls
open Go.RowKit Rw

/-- a row of n elements of the call's own, made whole -/
def Arr (w : World) (B : Nat) (e : TypeId) (g n : Nat) (xs : List Value) : Prop := w.ownsRow B e 1 (.slice (some ⟨g, 0, none⟩) n n) n xs
section
variable {w w' : World} {B g n : Nat} {e : TypeId} {xs : List Value}
theorem Arr.len (h : Arr w B e g n xs) : xs.length = n := by have := h.1; omega
theorem Arr.lt (h : Arr w B e g n xs) : B ≤ g ∧ g < w.heap.size := World.ownsRow.lt h g rfl
theorem Arr.cell (h : Arr w B e g n xs) {k : Nat} (hk : k < n) : w.cell? ⟨g, k, none⟩ = some (xs.getD k (.bool false)) := by
  have hl := h.len
  rw [World.ownsRow.cellAt h k (by omega)]
  simp [List.getD_eq_getElem?_getD, hl, hk]
theorem Arr.free (h : Arr w B e g n xs) (k : Nat) : w.frozen? ⟨g, k, none⟩ = false := World.ownsRow.frozenAt h k
theorem Arr.set (h : Arr w B e g n xs) (k : Nat) (v : Value) : Arr (w.setCell ⟨g, k, none⟩ v) B e g n (xs.set k v) := (World.ownsRow.stored h k v).1
theorem Arr.other (h : Arr w B e g n xs) {a : Addr} (ha : a.block ≠ g) (v : Value) : Arr (w.setCell a v) B e g n xs :=
  ownsRow_setCell_other h (by simpa [Value.ownBlock] using fun e => ha e.symm) v
theorem Arr.below (h : Arr w B e g n xs) (hb : Below w.heap.size w w') : Arr w' B e g n xs := own_below h hb
theorem Arr.drewN (h : Arr w B e g n xs) (m : Nat) : Arr (w.drewN m) B e g n xs := own_below h ⟨rfl, rfl, rfl, Nat.le_refl _, fun _ _ => rfl⟩
theorem Arr.rd (h : Arr w B e g n xs) : Rd w (some ⟨g, 0, none⟩) xs := Rd.of_own h
theorem Arr.base {C : Nat} (h : Arr w B e g n xs) (hc : C ≤ B) : Arr w C e g n xs := own_base h hc
theorem Arr.put (h : Arr w B e g n xs) {C : Nat} {w0 : World} (hb : Below C w0 w) (hc : C ≤ B) (k : Nat) (v : Value) : Below C w0 (w.setCell ⟨g, k, none⟩ v) :=
  below_put hb (a := ⟨g, k, none⟩) (Nat.le_trans hc h.lt.1) v
theorem made_list (z : Value) (hz : z.cells = #[z]) (n : Nat) : (madeCells z.cells (n * 1)).toList = List.replicate n z := by
  rw [hz, Nat.mul_one, toList_madeCells_one]
end
theorem set_map {α : Type} (f : α → Value) (L : List α) (k : Nat) (v : α) : (L.map f).set k (f v) = (L.set k v).map f := by simp [List.map_set]
/-- bools -/
def bls (L : List Bool) : List Value := L.map Value.bool
theorem bls_length (L : List Bool) : (bls L).length = L.length := by simp [bls]
theorem bls_getD (L : List Bool) (k : Nat) : (bls L).getD k (.bool false) = .bool (L.getD k false) := by
  simp only [bls, List.getD_eq_getElem?_getD, List.getElem?_map]
  cases L[k]? <;> rfl
theorem bls_set (L : List Bool) (k : Nat) (v : Bool) : (bls L).set k (.bool v) = bls (L.set k v) := set_map _ L k v
theorem bls_zeros (n : Nat) : List.replicate n (Value.bool false) = bls (List.replicate n false) := by simp [bls]
end Go.Proofs.Ytjnehpkkkmicfaa.Ls

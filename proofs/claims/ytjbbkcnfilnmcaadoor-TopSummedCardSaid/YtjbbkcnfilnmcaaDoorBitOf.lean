/- The walk of the document's Of: bools are packed. -/
import Derived.Test.YtjbbkcnfilnmcaaDoorBitAll
import Derived.Test.YtjbbkcnfilnmcaaDoorBytesRow
namespace Go.Proofs.YtjbbkcnfilnmcaaDoor.Bt
open Go.RowKit

/-- a byte with one more bit -/
theorem byte_add (x : UInt8) (t : Nat) (ht : t < 8) (hx : x.toNat.testBit t = false) : x.toNat + 2 ^ t < 256 ∧ ∀ j, (x.toNat + 2 ^ t).testBit j = (x.toNat.testBit j || decide (j = t)) := by
  have key : ∀ a : Fin 256, ∀ t : Fin 8, (a : Nat).testBit t = false → (a : Nat) + 2 ^ (t : Nat) < 256 ∧ (a : Nat) + 2 ^ (t : Nat) = (a : Nat) ||| 2 ^ (t : Nat) := by decide +kernel
  have h := key ⟨x.toNat, x.toNat_lt⟩ ⟨t, ht⟩ hx
  refine ⟨h.1, fun j => ?_⟩
  have e : x.toNat + 2 ^ t = x.toNat ||| 2 ^ t := h.2
  rw [e, Nat.testBit_or, Nat.testBit_two_pow]
  congr 1
  simp [eq_comm]
/-- the bytes so far: the first k bits are there -/
def Part (L : List UInt8) (X : List Bool) (k : Nat) : Prop := L.length = (X.length + 7) / 8 ∧ ∀ i, bitAt L i = (X.take k).getD i false
theorem part_zero (X : List Bool) : Part (List.replicate ((X.length + 7) / 8) 0) X 0 := by
  refine ⟨by simp, fun i => ?_⟩
  have : (List.replicate ((X.length + 7) / 8) (0 : UInt8)).getD (i / 8) 0 = 0 := by
    simp only [List.getD_eq_getElem?_getD, List.getElem?_replicate]
    split <;> rfl
  unfold bitAt
  rw [this]
  simp
theorem take_getD (X : List Bool) (k i : Nat) : (X.take k).getD i false = if i < k then X.getD i false else false := by
  simp only [List.getD_eq_getElem?_getD, List.getElem?_take]
  split <;> rfl
theorem part_skip {L : List UInt8} {X : List Bool} {k : Nat} (h : Part L X k) (hx : X.getD k false = false) : Part L X (k + 1) := by
  refine ⟨h.1, fun i => ?_⟩
  rw [h.2 i, take_getD, take_getD]
  by_cases hi : i < k
  · rw [if_pos hi, if_pos (by omega)]
  · rw [if_neg hi]
    by_cases hj : i = k
    · subst hj; rw [hx]; simp
    · rw [if_neg (by omega)]
theorem part_free {L : List UInt8} {X : List Bool} {k : Nat} (h : Part L X k) : (L.getD (k / 8) 0).toNat.testBit (7 - k % 8) = false := by
  have e := h.2 k
  rw [take_getD, if_neg (by omega)] at e
  exact e
theorem part_set {L : List UInt8} {X : List Bool} {k : Nat} (h : Part L X k) (hk : k < X.length) (hx : X.getD k false = true) : Part (L.set (k / 8) (UInt8.ofNat ((L.getD (k / 8) 0).toNat + 2 ^ (7 - k % 8)))) X (k + 1) := by
  have b := byte_add _ _ (by omega) (part_free h)
  refine ⟨by rw [List.length_set]; exact h.1, fun i => ?_⟩
  have hl := h.1
  have e := h.2 i
  rw [take_getD] at e ⊢
  unfold bitAt at e ⊢
  rw [Row.getD_set _ _ _ _ (by omega)]
  by_cases hs : k / 8 = i / 8
  · rw [if_pos hs, UInt8.toNat_ofNat_of_lt' b.1, b.2, hs, e]
    by_cases hi : i < k
    · have ne : ¬ (7 - i % 8 = 7 - k % 8) := by omega
      rw [if_pos hi, if_pos (by omega), decide_eq_false ne]; simp
    · by_cases hj : i = k
      · subst hj; rw [if_neg (Nat.lt_irrefl _), if_pos (Nat.lt_succ_self _), hx]; simp
      · have ne : ¬ (7 - i % 8 = 7 - k % 8) := by omega
        rw [if_neg hi, if_neg (by omega), decide_eq_false ne]; rfl
  · rw [if_neg hs, e]
    by_cases hi : i < k
    · rw [if_pos hi, if_pos (by omega)]
    · rw [if_neg hi, if_neg (by omega)]
theorem part_done {L : List UInt8} {X : List Bool} (h : Part L X X.length) : Packs L X := by
  refine ⟨h.1, fun i => ?_⟩
  rw [h.2 i, List.take_length]

/-- a slice of bools, as it is read -/
def BoolsAt (w : World) (p : Option Addr) (X : List Bool) : Prop := ∀ i, i < X.length → ∃ g o, p = some ⟨g, o, none⟩ ∧ g < w.heap.size ∧ w.cell? ⟨g, o + i, none⟩ = some (.bool (X.getD i false))
theorem BoolsAt.below {w w' : World} {p : Option Addr} {X : List Bool} (h : BoolsAt w p X) (hb : Below w.heap.size w w') : BoolsAt w' p X := fun i hi => by
  obtain ⟨g, o, e, hg, c⟩ := h i hi
  exact ⟨g, o, e, Nat.lt_of_lt_of_le hg hb.size, by rw [hb.cell hg]; exact c⟩
theorem made_bytes {w : World} {B g n : Nat} (h : w.ownsRow B 5 1 (.slice (some ⟨g, 0, none⟩) n n) n (madeCells #[Value.int .u8 0] n).toList) : Row.Bytes w g (List.replicate n 0) := by
  have hc : ∀ j, j < n → w.cell? ⟨g, j, none⟩ = some (.int .u8 0) := by
    intro j hj
    rw [h.cellAt j (by omega), toList_madeCells_one, List.getElem?_replicate, if_pos (by omega)]
  rcases h.2 with ⟨h0, _⟩ | ⟨g', cap, cur, hv, hb, hh, _⟩
  · cases h0
  · cases hv
    refine ⟨(Array.getElem?_eq_some_iff.1 hh).1, fun j hj => ?_, fun j hj => ?_⟩
    · rw [List.length_replicate] at hj
      rw [hc j hj]
      simp [List.getD_eq_getElem?_getD, hj]
    · simp [World.frozen?, hh]

theorem Box.other {w : World} {g : Nat} {s : ByteArray} {n : Int} (h : Box w g s n) (b i : Nat) (v : Value) (hb : b ≠ g) : Box (w.setCell ⟨b, i, none⟩ v) g s n := by
  have e : ∀ j, (⟨b, i, none⟩ : Addr) ≠ ⟨g, j, none⟩ := fun j h => by injection h with h; exact hb h
  exact ⟨by simpa using h.lt, by rw [World.cell?_setCell_other _ _ _ _ (e 0)]; exact h.c0, by rw [World.cell?_setCell_other _ _ _ _ (e 1)]; exact h.c1, by rw [World.frozen?_setCell]; exact h.f0, by rw [World.frozen?_setCell]; exact h.f1⟩
theorem Box.grown {w w' : World} {g : Nat} {s : ByteArray} {n : Int} (h : Box w g s n) (hg : w.grownBy w' none) : Box w' g s n := h.below ((Below.refl _ w).grown hg (Nat.le_refl _) (by simp))

end Go.Proofs.YtjbbkcnfilnmcaaDoor.Bt

/- The walk of gather. -/
import Derived.Test.YtjbbkcnfilnmcaaDoorBitPutZ
import Derived.Test.YtjbbkcnfilnmcaaDoorBitAll
namespace Go.Proofs.YtjbbkcnfilnmcaaDoor.Bt
open Go.RowKit

theorem nbits_num : ∀ (n : Nat) (Z : List Bool), Z.length = n → nbits (num Z) n = Z
  | 0, Z, h => by
    have : Z = [] := List.length_eq_zero_iff.1 h
    subst this; rfl
  | n + 1, Z, h => by
    rcases List.eq_nil_or_concat Z with rfl | ⟨Y, b, rfl⟩
    · simp at h
    · rw [List.concat_eq_append] at h ⊢
      rw [num_snoc, nbits_succ]
      have e1 : (2 * num Y + b.toNat) / 2 = num Y := by cases b <;> simp <;> omega
      have e2 : (2 * num Y + b.toNat).testBit 0 = b := by cases b <;> simp
      rw [e1, e2, nbits_num n Y (by simp at h; omega)]
theorem Work.belowAll {w w' : World} {B p : Nat} {L : List UInt8} {N : Int} (h : Work w B p L N) (hb : Below w.heap.size w w') : Work w' B p L N := by
  obtain ⟨own, s0, v, hblk, hrow, hnn⟩ := h
  exact ⟨own, s0, v, by rw [hb.block p (Array.getElem?_eq_some_iff.1 hblk).1]; exact hblk, owns_below hrow hb, hnn⟩
theorem Kept.below {w w' : World} (hb : Below w.heap.size w w') : Kept w w' := fun k _ _ _ hk _ _ => hb.block k (Array.getElem?_eq_some_iff.1 hk).1

/-- a variable that holds bits, as a block -/
def BoxB (w : World) (g : Nat) (s : ByteArray) (n : Int) : Prop := w.heap[g]? = some (Obj.cells #[.string s, .int .i64 n] 25 (0, 0))
theorem BoxB.new (w : World) (s : ByteArray) (n : Int) : BoxB (w.alloc (.cells #[.string s, .int .i64 n] 25)) w.heap.size s n := heap_alloc_new w _
theorem BoxB.box {w : World} {g : Nat} {s : ByteArray} {n : Int} (h : BoxB w g s n) : Box w g s n := by
  unfold BoxB at h
  exact ⟨(Array.getElem?_eq_some_iff.1 h).1, by simp [World.cell?, h], by simp [World.cell?, h], by simp [World.frozen?, h], by simp [World.frozen?, h]⟩
theorem BoxB.kept {w w' : World} {g : Nat} {s : ByteArray} {n : Int} (h : BoxB w g s n) (k : Kept w w') : BoxB w' g s n := by
  unfold BoxB at h ⊢
  rw [k _ _ _ _ h (by decide) (by decide)]; exact h
theorem BoxB.below {w w' : World} {g : Nat} {s : ByteArray} {n : Int} (h : BoxB w g s n) (b : Below w.heap.size w w') : BoxB w' g s n := h.kept (Kept.below b)

end Go.Proofs.YtjbbkcnfilnmcaaDoor.Bt

/- The walk of the law CrcParts. -/
import Derived.Test.YtjbbkcnfilnmcaaDoorCrcLawsA
namespace Go.Proofs.YtjbbkcnfilnmcaaDoor.Crc
open Go.RowKit

theorem TabOk.alloc {w : World} (h : TabOk w) (o : Obj) : TabOk (w.alloc o) := h.below ((Below.refl _ _).alloc (Nat.le_refl _) _)
theorem TabOk.drew {w : World} (_h : TabOk w) : TabOk w.drew := _h
/-- some texts, at some address, in whatever world has them there -/
theorem strs_one {W : World} {b : Nat} {x : ByteArray} (h : W.cell? ⟨b, 0, none⟩ = some (.string x)) : StrsAt W (some ⟨b, 0, none⟩) [x] := by
  refine .inr ⟨_, _, rfl, fun i hi => ?_⟩
  obtain rfl : i = 0 := by simp at hi; omega
  simpa using h
theorem strs_two {W : World} {b : Nat} {x y : ByteArray} (h : W.cell? ⟨b, 0, none⟩ = some (.string x)) (k : W.cell? ⟨b, 1, none⟩ = some (.string y)) : StrsAt W (some ⟨b, 0, none⟩) [x, y] := by
  refine .inr ⟨_, _, rfl, fun i hi => ?_⟩
  have h2 : i = 0 ∨ i = 1 := by simp at hi; omega
  rcases h2 with rfl | rfl
  · simpa using h
  · simpa using k
theorem all1 {x : ByteArray} (h : x.size ≤ maxLen) : ∀ s ∈ [x], s.size ≤ maxLen := by simpa using h
theorem all2 {x y : ByteArray} (h : x.size ≤ maxLen) (k : y.size ≤ maxLen) : ∀ s ∈ [x, y], s.size ≤ maxLen := by simp; exact ⟨h, k⟩
theorem parts_eq (s : ByteArray) (n : Nat) (_h : n ≤ s.size) : bytes s = bytes (s.extract 0 n) ++ bytes (s.extract n s.size) := by
  unfold bytes
  have e1 := Lib.extract_toList s 0 n
  have e2 := Lib.extract_toList s n s.size
  rw [toList_data] at e1 e2
  rw [e1, e2, List.drop_zero, Nat.sub_zero, List.take_of_length_le (l := s.data.toList.drop n) (by rw [List.length_drop, ← Lib.size_eq]; omega), List.take_append_drop]
theorem sums1 (x : ByteArray) : sums [x] = more 0 (bytes x) := rfl
theorem sums2 (x y : ByteArray) : sums [x, y] = more (more 0 (bytes x)) (bytes y) := rfl

/-- the contracts at one text and at two, for a region -/
theorem sum1_any (x : ByteArray) (b : Nat) (w : World) (hx : x.size ≤ maxLen) (hc : w.cell? ⟨b, 0, none⟩ = some (.string x)) (ht : TabOk w) :
    Calls Tryd.prog 21 #[.slice (some ⟨b, 0, none⟩) 1 1] w fun e w' => e = .returned (.int .u32 (sums [x] : Nat)) ∧ w = w' :=
  sum_any _ _ [x] w (small (by simp)) (all1 hx) (strs_one hc) ht
theorem sum2_any (x y : ByteArray) (b : Nat) (w : World) (hx : x.size ≤ maxLen) (hy : y.size ≤ maxLen) (hc : w.cell? ⟨b, 0, none⟩ = some (.string x)) (hd : w.cell? ⟨b, 1, none⟩ = some (.string y)) (ht : TabOk w) :
    Calls Tryd.prog 21 #[.slice (some ⟨b, 0, none⟩) 2 2] w fun e w' => e = .returned (.int .u32 (sums [x, y] : Nat)) ∧ w = w' :=
  sum_any _ _ [x, y] w (small (by simp)) (all2 hx hy) (strs_two hc hd) ht

end Go.Proofs.YtjbbkcnfilnmcaaDoor.Crc

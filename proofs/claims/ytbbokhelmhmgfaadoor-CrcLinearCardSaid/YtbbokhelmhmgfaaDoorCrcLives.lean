/- The walk of the law's own examples. -/
import Derived.Test.YtbbokhelmhmgfaaDoorCrcWalkG
namespace Go.Proofs.YtbbokhelmhmgfaaDoor.Crc
open Go.RowKit

theorem text_at {w : World} {x : ByteArray} (t : TypeId) {n : Nat} (hn : n = w.heap.size) : StrsAt (w.alloc (.cells #[.string x] t)) (some ⟨n, 0, none⟩) [x] := by subst hn; exact one_text t
theorem ex1 : frameS ⟨#[97]⟩ = ⟨#[97, 67, 190, 183, 232]⟩ ∧ frameE ⟨#[97]⟩ = 0 := by decide +kernel
theorem ex2 : openS ⟨#[97, 67, 190, 183, 232]⟩ = ⟨#[97]⟩ ∧ openE ⟨#[97, 67, 190, 183, 232]⟩ = 0 := by decide +kernel
theorem ex3 : openE ⟨#[97, 98, 99]⟩ = 5 := by decide +kernel
theorem ex4 : openE ⟨#[97, 98, 99, 100, 101]⟩ = 6 := by decide +kernel
theorem ex5 : apartN ⟨#[97, 98, 99]⟩ ⟨#[97, 98, 100, 33]⟩ = 2 ∧ apartF ⟨#[97, 98, 99]⟩ ⟨#[97, 98, 100, 33]⟩ = 2 := by decide +kernel
theorem ex6 : sums [⟨#[49, 50, 51, 52, 53, 54, 55, 56, 57]⟩] = 3421780262 := by decide +kernel
theorem ex7 : sums [] = 0 := by decide +kernel
theorem ex8 : more (sums [⟨#[49, 50, 51, 52]⟩]) (bytes ⟨#[53, 54, 55, 56, 57]⟩) = 3421780262 := by decide +kernel
theorem small {n : Nat} (h : n ≤ 1000) : n ≤ maxLen := by unfold maxLen; omega

set_option maxHeartbeats 4000000 in
set_option maxRecDepth 100000 in
theorem lives_any (w : World) (ht : TabOk w) : Calls Tryd.prog 9 #[] w fun e w' => e = .returned (.bool true) ∧ Below w.heap.size w w' := by
  go_enter Tryd.func9, Tryd.ntmps9
  go_wp2_with fail
  refine (frame_any _ _ (small (by decide)) ht).mono ?_
  rintro e w1 ⟨rfl, b1⟩
  have t1 := ht.below b1
  rw [ex1.1, ex1.2]
  go_wp2_with fail
  refine (open_any _ _ (small (by decide)) t1).mono ?_
  rintro e w2 ⟨rfl, b2⟩
  have t2 := t1.below b2
  have c2 := b1.trans (b2.mono b1.size)
  clear b1 b2 t1
  rw [ex2.1, ex2.2]
  go_wp2_with fail
  refine (open_any _ _ (small (by decide)) t2).mono ?_
  rintro e w3 ⟨rfl, b3⟩
  have t3 := t2.below b3
  have c3 := c2.trans (b3.mono c2.size)
  clear c2 b3 t2
  rw [ex3]
  go_wp2_with fail
  refine (open_any _ _ (small (by decide)) t3).mono ?_
  rintro e w4 ⟨rfl, b4⟩
  have t4 := t3.below b4
  have c4 := c3.trans (b4.mono c3.size)
  clear c3 b4 t3
  rw [ex4]
  go_wp2_with fail
  refine (apart_any _ _ _ (small (by decide)) (small (by decide))).mono ?_
  rintro e w5 ⟨rfl, b5⟩
  have t5 := t4.below b5
  have c5 := c4.trans (b5.mono c4.size)
  clear c4 b5 t4
  rw [ex5.1, ex5.2]
  go_wp2_with fail
  have a1 : Below w5.heap.size w5 (w5.alloc (.cells #[.string ⟨#[49, 50, 51, 52, 53, 54, 55, 56, 57]⟩] 9)) := (Below.refl _ _).alloc (Nat.le_refl _) _
  have t6 := t5.below a1
  have c6 := c5.trans (a1.mono c5.size)
  refine (sum_any _ _ [⟨#[49, 50, 51, 52, 53, 54, 55, 56, 57]⟩] _ (small (by decide)) (by intro s hs; simp at hs; subst hs; exact small (by decide)) (one_text _) t6).mono ?_
  rintro e w6 ⟨rfl, rfl⟩
  rw [ex6]
  clear a1 t5 c5
  go_wp2_with fail
  refine (sum_any _ _ [] _ (small (by decide)) (by intro s hs; simp at hs) (.inl rfl) t6).mono ?_
  rintro e w6 ⟨rfl, rfl⟩
  rw [ex7]
  go_wp2_with fail
  have a1 := (Below.refl _ (w5.alloc (.cells #[.string ⟨#[49, 50, 51, 52, 53, 54, 55, 56, 57]⟩] 9))).alloc (Nat.le_refl _) (.cells #[.string ⟨#[49, 50, 51, 52]⟩] 9)
  have t7 := t6.below a1
  have c7 := c6.trans (a1.mono c6.size)
  refine (sum_any _ _ [⟨#[49, 50, 51, 52]⟩] _ (small (by decide)) (by intro s hs; simp at hs; subst hs; exact small (by decide)) (text_at _ (by simp)) t7).mono ?_
  rintro e w6 ⟨rfl, rfl⟩
  clear a1 t6 c6
  go_wp2_with fail
  refine (more_any _ (sums_lt _) _ _ (small (by decide)) t7).mono ?_
  rintro e w6 ⟨rfl, rfl⟩
  rw [ex8]
  go_wp2_with fail
  go_ret
  exact ⟨rfl, c7⟩
end Go.Proofs.YtbbokhelmhmgfaaDoor.Crc

/- The walk of the law CrcParts. -/
import Derived.Test.YtbbokhelmhmgfaaDoorCrcLawsA
namespace Go.Proofs.YtbbokhelmhmgfaaDoor.Crc
open Go.RowKit

theorem TabOk.alloc {w : World} (h : TabOk w) (o : Obj) : TabOk (w.alloc o) := h.below ((Below.refl _ _).alloc (Nat.le_refl _) _)
theorem TabOk.drew {w : World} (_h : TabOk w) : TabOk w.drew := _h
/-- some texts, at some address, in whatever world has them there -/
theorem strs_one {W : World} {b : Nat} {x : ByteArray} (h : W.cell? ⟨b, 0, none⟩ = some (.string x)) : StrsAt W (some ⟨b, 0, none⟩) [x] := by
  refine .inr ⟨_, _, rfl, fun i hi => ?_⟩
  obtain rfl : i = 0 := by simp at hi; omega
  simpa using h
theorem strs_two {W : World} {b : Nat} {x y : ByteArray} (h : W.cell? ⟨b, 0, none⟩ = some (.string x)) (k : W.cell? ⟨b, 1, none⟩ = some (.string y)) : StrsAt W (some ⟨b, 0, none⟩) [x, y] := by
  refine .inr ⟨_, _, rfl, fun i hi => ?_⟩
  have h2 : i = 0 ∨ i = 1 := by simp at hi; omega
  rcases h2 with rfl | rfl
  · simpa using h
  · simpa using k
theorem all1 {x : ByteArray} (h : x.size ≤ maxLen) : ∀ s ∈ [x], s.size ≤ maxLen := by simpa using h
theorem all2 {x y : ByteArray} (h : x.size ≤ maxLen) (k : y.size ≤ maxLen) : ∀ s ∈ [x, y], s.size ≤ maxLen := by simp; exact ⟨h, k⟩
theorem parts_eq (s : ByteArray) (n : Nat) (_h : n ≤ s.size) : bytes s = bytes (s.extract 0 n) ++ bytes (s.extract n s.size) := by
  unfold bytes
  have e1 := Lib.extract_toList s 0 n
  have e2 := Lib.extract_toList s n s.size
  rw [toList_data] at e1 e2
  rw [e1, e2, List.drop_zero, Nat.sub_zero, List.take_of_length_le (l := s.data.toList.drop n) (by rw [List.length_drop, ← Lib.size_eq]; omega), List.take_append_drop]
theorem sums1 (x : ByteArray) : sums [x] = more 0 (bytes x) := rfl
theorem sums2 (x y : ByteArray) : sums [x, y] = more (more 0 (bytes x)) (bytes y) := rfl

/-- the contracts at one text and at two, for a region -/
theorem sum1_any (x : ByteArray) (b : Nat) (w : World) (hx : x.size ≤ maxLen) (hc : w.cell? ⟨b, 0, none⟩ = some (.string x)) (ht : TabOk w) :
    Calls Tryd.prog 10 #[.slice (some ⟨b, 0, none⟩) 1 1] w fun e w' => e = .returned (.int .u32 (sums [x] : Nat)) ∧ w = w' :=
  sum_any _ _ [x] w (small (by simp)) (all1 hx) (strs_one hc) ht
theorem sum2_any (x y : ByteArray) (b : Nat) (w : World) (hx : x.size ≤ maxLen) (hy : y.size ≤ maxLen) (hc : w.cell? ⟨b, 0, none⟩ = some (.string x)) (hd : w.cell? ⟨b, 1, none⟩ = some (.string y)) (ht : TabOk w) :
    Calls Tryd.prog 10 #[.slice (some ⟨b, 0, none⟩) 2 2] w fun e w' => e = .returned (.int .u32 (sums [x, y] : Nat)) ∧ w = w' :=
  sum_any _ _ [x, y] w (small (by simp)) (all2 hx hy) (strs_two hc hd) ht

set_option maxHeartbeats 4000000 in
theorem parts_law (s : ByteArray) (a : Int) (w : World) (hs : s.size ≤ maxLen) (ht : TabOk w) :
    Calls Tryd.prog 5 #[.string s, .int .i64 a] w fun e w' => e = .returned (.bool true) ∧ Below w.heap.size w w' := by
  by_cases hr : a < 0 ∨ (s.size : Int) < a
  · by_cases ha : a < 0
    · go_enter Tryd.func5, Tryd.ntmps5
      go_wp2_with fail
      refine (lives_any _ ht).mono ?_
      rintro e w1 ⟨rfl, b1⟩
      go_wp2_with fail
      go_ret
      exact ⟨rfl, b1⟩
    · have ha2 : (s.size : Int) < a := by omega
      go_enter Tryd.func5, Tryd.ntmps5
      go_wp2_with fail
      refine (lives_any _ ht).mono ?_
      rintro e w1 ⟨rfl, b1⟩
      go_wp2_with fail
      go_ret
      exact ⟨rfl, b1⟩
  · obtain ⟨n, rfl⟩ := Int.eq_ofNat_of_zero_le (show 0 ≤ a by omega)
    have l1 : (0 : Int) ≤ (n : Int) := by omega
    have l2 : (n : Int) ≤ (s.size : Int) := by omega
    have hn : n ≤ s.size := by omega
    have hs' : s.size ≤ maxLen := hs
    unfold maxLen at hs'
    have hx : (s.extract 0 n).size ≤ maxLen := by unfold maxLen; rw [ByteArray.size_extract]; omega
    have hy : (s.extract n s.size).size ≤ maxLen := by unfold maxLen; rw [ByteArray.size_extract]; omega
    have e1 : more (sums [s.extract 0 n]) (bytes (s.extract n s.size)) = sums [s] := by rw [sums1, sums1, parts_eq s n hn, more_append]
    have e2 : sums [s.extract 0 n, s.extract n s.size] = sums [s] := by rw [sums1, sums2, parts_eq s n hn, more_append]
    clear hr hs'
    go_enter Tryd.func5, Tryd.ntmps5
    go_wp2_with fail
    refine (lives_any _ ht).mono ?_
    rintro e w1 ⟨rfl, b1⟩
    have t1 := ht.below b1
    have B1 := Lib.hid b1
    have hz := t1.pos
    clear b1
    go_wp2_with fail
    go_region_held3 (fun _ => True) (trivial) (first | (go_at_call 12; ((with_reducible refine (more_any _ (sums_lt _) _ _ hy ?_).mono ?_)); (repeat (first | exact t1 | apply TabOk.drew | apply TabOk.alloc)); rintro e w' ⟨rfl, rfl⟩) | (go_at_call 10; ((with_reducible refine (sum1_any (s.extract 0 n) _ _ hx ?_ ?_).mono ?_)); (focus (simp [go_sem]; done)); (repeat (first | exact t1 | apply TabOk.drew | apply TabOk.alloc)); rintro e w' ⟨rfl, rfl⟩) | (go_at_call 10; ((with_reducible refine (sum1_any s _ _ hs ?_ ?_).mono ?_)); (focus (simp [go_sem]; done)); (repeat (first | exact t1 | apply TabOk.drew | apply TabOk.alloc)); rintro e w' ⟨rfl, rfl⟩) | (go_at_call 10; ((with_reducible refine (sum2_any (s.extract 0 n) (s.extract n s.size) _ _ hx hy ?_ ?_ ?_).mono ?_)); (focus (simp [go_sem]; done)); (focus (simp [go_sem]; done)); (repeat (first | exact t1 | apply TabOk.drew | apply TabOk.alloc)); rintro e w' ⟨rfl, rfl⟩))
    all_goals go_wp2_with fail
    all_goals go_ret
    all_goals refine ⟨rfl, B1.out.trans (Below.mono (B := w1.heap.size) ?_ B1.out.size)⟩
    all_goals repeat (first | exact Below.refl _ _ | apply Below.drew | (refine Below.alloc ?_ (by simp; try omega) _))
end Go.Proofs.YtbbokhelmhmgfaaDoor.Crc

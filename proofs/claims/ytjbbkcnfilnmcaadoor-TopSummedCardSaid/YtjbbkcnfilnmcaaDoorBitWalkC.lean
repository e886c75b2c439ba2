/- The walks of bits.Get, and of the document's Is, Check, Get. -/
import Derived.Test.YtjbbkcnfilnmcaaDoorBitWalkB
namespace Go.Proofs.YtjbbkcnfilnmcaaDoor.Bt
open Go.RowKit

def getE (s : ByteArray) (n a r : Int) : Int := if chk s n ≠ 0 then 2 else if r < 0 ∨ 64 < r ∨ a < 0 ∨ n < a then 1 else if n - a < r then 5 else 0
def getV (s : ByteArray) (n a r : Int) : Nat := if getE s n a r = 0 then num (((bl (bytes s) n.toNat).drop a.toNat).take r.toNat) else 0
theorem chk_zero {s : ByteArray} {n : Int} (h : chk s n = 0) : Right (bytes s) n := by
  unfold chk at h; split at h
  · assumption
  · omega
theorem chk_cases (s : ByteArray) (n : Int) : chk s n = 0 ∨ chk s n = 2 := by unfold chk; split <;> simp
theorem ret_vi {a b c d : Int} (h : a = c) (k : b = d) : Ending.returned (.tuple #[.int .u64 a, .int .i64 b]) = .returned (.tuple #[.int .u64 c, .int .i64 d]) := by rw [h, k]

set_option maxHeartbeats 2000000 in
theorem get_any (s : ByteArray) (n a r : Int) (w : World) (hs : s.size ≤ maxLen) :
    Calls Tryd.prog 8 #[.agg #[.string s, .int .i64 n], .int .i64 a, .int .i64 r] w fun e w' => e = .returned (.tuple #[.int .u64 (getV s n a r : Nat), .int .i64 (getE s n a r)]) ∧ Below w.heap.size w w' := by
  have hbx : Below w.heap.size w (w.alloc (.cells #[.string s, .int .i64 n] 25)) := (Below.refl _ _).alloc (Nat.le_refl _) _
  rcases chk_cases s n with hc | hc
  case inr =>
    have e1 : getE s n a r = 2 := if_pos (by omega)
    have F : Hid (getV s n a r = 0 ∧ getE s n a r = 2) := Lib.hid ⟨if_neg (by omega), e1⟩
    clear e1
    go_enter Tryd.func8, Tryd.ntmps8
    go_wp2_with fail
    refine (check_any _ _ _ hs).mono ?_
    rintro e w1 ⟨rfl, b1⟩
    have b2 := hbx.trans (b1.mono (by simp))
    rw [hc]
    clear b1
    go_wp2_with fail
    go_ret2
    exact ⟨ret_vi (by rw [F.out.1]; rfl) F.out.2.symm, b2⟩
  have hR := chk_zero hc
  obtain ⟨m, rfl⟩ := Int.eq_ofNat_of_zero_le hR.1
  have hm : m ≤ 1048576 := by have := hR.2.1; omega
  by_cases hbad : r < 0 ∨ 64 < r ∨ a < 0 ∨ (m : Int) < a
  · have e1 : getE s m a r = 1 := by unfold getE; rw [if_neg (by omega), if_pos hbad]
    have F : Hid (getV s m a r = 0 ∧ getE s m a r = 1) := Lib.hid ⟨if_neg (by omega), e1⟩
    clear e1
    clear hR
    by_cases q1 : r < 0
    · go_enter Tryd.func8, Tryd.ntmps8
      go_wp2_with fail
      refine (check_any _ _ _ hs).mono ?_
      rintro e w1 ⟨rfl, b1⟩
      have b2 := hbx.trans (b1.mono (by simp))
      rw [hc]
      clear b1
      go_wp2_with fail
      go_ret2
      exact ⟨ret_vi (by rw [F.out.1]; rfl) F.out.2.symm, b2⟩
    by_cases q2 : 64 < r
    · go_enter Tryd.func8, Tryd.ntmps8
      go_wp2_with fail
      refine (check_any _ _ _ hs).mono ?_
      rintro e w1 ⟨rfl, b1⟩
      have b2 := hbx.trans (b1.mono (by simp))
      rw [hc]
      clear b1
      go_wp2_with fail
      go_ret2
      exact ⟨ret_vi (by rw [F.out.1]; rfl) F.out.2.symm, b2⟩
    by_cases q3 : a < 0
    · go_enter Tryd.func8, Tryd.ntmps8
      go_wp2_with fail
      refine (check_any _ _ _ hs).mono ?_
      rintro e w1 ⟨rfl, b1⟩
      have b2 := hbx.trans (b1.mono (by simp))
      rw [hc]
      clear b1
      go_wp2_with fail
      go_ret2
      exact ⟨ret_vi (by rw [F.out.1]; rfl) F.out.2.symm, b2⟩
    have q4 : (m : Int) < a := by omega
    clear hbad
    go_enter Tryd.func8, Tryd.ntmps8
    go_wp2_with fail
    refine (check_any _ _ _ hs).mono ?_
    rintro e w1 ⟨rfl, b1⟩
    have b2 := hbx.trans (b1.mono (by simp))
    have c1 : w1.cell? ⟨w.heap.size, 1, none⟩ = some (.int .i64 m) := by rw [b1.cell (by simp)]; simp
    rw [hc]
    clear b1
    go_wp2_with fail
    go_ret2
    exact ⟨ret_vi (by rw [F.out.1]; rfl) F.out.2.symm, b2⟩
  · obtain ⟨a, rfl⟩ := Int.eq_ofNat_of_zero_le (show 0 ≤ a by omega)
    obtain ⟨r, rfl⟩ := Int.eq_ofNat_of_zero_le (show 0 ≤ r by omega)
    have q2 : r ≤ 64 := by omega
    have q4 : a ≤ m := by omega
    by_cases q5 : (m : Int) - (a : Int) < (r : Int)
    · have e1 : getE s m a r = 5 := by unfold getE; rw [if_neg (by omega), if_neg hbad, if_pos q5]
      have F : Hid (getV s m a r = 0 ∧ getE s m a r = 5) := Lib.hid ⟨if_neg (by omega), e1⟩
      clear e1 hbad hR
      go_enter Tryd.func8, Tryd.ntmps8
      go_wp2_with fail
      refine (check_any _ _ _ hs).mono ?_
      rintro e w1 ⟨rfl, b1⟩
      have b2 := hbx.trans (b1.mono (by simp))
      have c1 : w1.cell? ⟨w.heap.size, 1, none⟩ = some (.int .i64 m) := by rw [b1.cell (by simp)]; simp
      rw [hc]
      clear b1
      go_wp2_with fail
      go_ret2
      exact ⟨ret_vi (by rw [F.out.1]; rfl) F.out.2.symm, b2⟩
    · have e1 : getE s m a r = 0 := by unfold getE; rw [if_neg (by omega), if_neg hbad, if_neg q5]
      have F : Hid (getV s m a r = num (((bl (bytes s) m).drop a).take r) ∧ getE s m a r = 0) := Lib.hid ⟨if_pos e1, e1⟩
      have hp := hR.packs
      rw [Int.toNat_natCast] at hp
      have hl := bl_length (bytes s) m
      generalize bl (bytes s) m = X at hp hl F
      have HP := Lib.hid hp
      have HL := Lib.hid hl
      clear e1 hbad hR hp hl
      go_enter Tryd.func8, Tryd.ntmps8
      go_wp2_with fail
      refine (check_any _ _ _ hs).mono ?_
      rintro e w1 ⟨rfl, b1⟩
      have b2 := hbx.trans (b1.mono (by simp))
      have c1 : w1.cell? ⟨w.heap.size, 1, none⟩ = some (.int .i64 m) := by rw [b1.cell (by simp)]; simp
      have c0 : w1.cell? ⟨w.heap.size, 0, none⟩ = some (.string s) := by rw [b1.cell (by simp)]; simp
      rw [hc]
      clear b1
      go_wp2_with fail
      refine (number_any s m a r X HP.out (by rw [HL.out]; exact hm) (by omega) (by omega) (by omega) (by rw [HL.out]; omega) _).mono ?_
      rintro e w2 ⟨rfl, b3⟩
      have b4 := b2.trans (b3.mono b2.size)
      clear b2 b3 c1 c0
      go_wp2_with fail
      go_ret2
      exact ⟨ret_vi (by rw [F.out.1]) F.out.2.symm, b4⟩
end Go.Proofs.YtjbbkcnfilnmcaaDoor.Bt

/- The walk of the document's Get. -/
import Derived.Test.YtbbokhelmhmgfaaBitWalkD
namespace Go.Proofs.Ytbbokhelmhmgfaa.Bt
open Go.RowKit

theorem getD_take_drop (X : List Bool) (a d : Nat) (h : a + d < X.length) : (X.drop a).take (d + 1) = (X.drop a).take d ++ [X.getD (a + d) false] := by
  have hl : d < (X.drop a).length := by rw [List.length_drop]; omega
  rw [List.take_succ_eq_append_getElem hl]
  simp [List.getD_eq_getElem?_getD, List.getElem?_eq_getElem h]

set_option maxHeartbeats 2000000 in
set_option maxRecDepth 100000 in
theorem rget_any (s : ByteArray) (n a r : Int) (w : World) (hs : s.size ≤ maxLen) :
    Calls Try.prog 12 #[.agg #[.string s, .int .i64 n], .int .i64 a, .int .i64 r] w fun e w' => e = .returned (.tuple #[.int .u64 (getV s n a r : Nat), .int .i64 (getE s n a r)]) ∧ Below w.heap.size w w' := by
  have hbx : Below w.heap.size w (w.alloc (.cells #[.string s, .int .i64 n] 23)) := (Below.refl _ _).alloc (Nat.le_refl _) _
  rcases chk_cases s n with hc | hc
  case inr =>
    have e1 : getE s n a r = 2 := if_pos (by omega)
    have F : Hid (getV s n a r = 0 ∧ getE s n a r = 2) := Lib.hid ⟨if_neg (by omega), e1⟩
    clear e1
    go_enter Try.func12, Try.ntmps12
    go_wp2_with fail
    refine (rcheck_any _ _ _ hs).mono ?_
    rintro e w1 ⟨rfl, b1⟩
    have b2 := hbx.trans (b1.mono (by simp))
    rw [hc]
    clear b1
    go_wp2_with fail
    go_ret2
    exact ⟨ret_vi (by rw [F.out.1]; rfl) F.out.2.symm, b2⟩
  have hR := chk_zero hc
  obtain ⟨m, rfl⟩ := Int.eq_ofNat_of_zero_le hR.1
  have hm : m ≤ 1048576 := by have := hR.2.1; omega
  by_cases hbad : r < 0 ∨ 64 < r ∨ a < 0 ∨ (m : Int) < a
  · have e1 : getE s m a r = 1 := by unfold getE; rw [if_neg (by omega), if_pos hbad]
    have F : Hid (getV s m a r = 0 ∧ getE s m a r = 1) := Lib.hid ⟨if_neg (by omega), e1⟩
    clear e1 hR
    by_cases q1 : r < 0
    · go_enter Try.func12, Try.ntmps12
      go_wp2_with fail
      refine (rcheck_any _ _ _ hs).mono ?_
      rintro e w1 ⟨rfl, b1⟩
      have b2 := hbx.trans (b1.mono (by simp))
      have c1 : w1.cell? ⟨w.heap.size, 1, none⟩ = some (.int .i64 m) := by rw [b1.cell (by simp)]; simp
      rw [hc]
      clear b1
      go_wp2_with fail
      go_ret2
      exact ⟨ret_vi (by rw [F.out.1]; rfl) F.out.2.symm, b2⟩
    by_cases q2 : 64 < r
    · go_enter Try.func12, Try.ntmps12
      go_wp2_with fail
      refine (rcheck_any _ _ _ hs).mono ?_
      rintro e w1 ⟨rfl, b1⟩
      have b2 := hbx.trans (b1.mono (by simp))
      have c1 : w1.cell? ⟨w.heap.size, 1, none⟩ = some (.int .i64 m) := by rw [b1.cell (by simp)]; simp
      rw [hc]
      clear b1
      go_wp2_with fail
      go_ret2
      exact ⟨ret_vi (by rw [F.out.1]; rfl) F.out.2.symm, b2⟩
    by_cases q3 : a < 0
    · go_enter Try.func12, Try.ntmps12
      go_wp2_with fail
      refine (rcheck_any _ _ _ hs).mono ?_
      rintro e w1 ⟨rfl, b1⟩
      have b2 := hbx.trans (b1.mono (by simp))
      have c1 : w1.cell? ⟨w.heap.size, 1, none⟩ = some (.int .i64 m) := by rw [b1.cell (by simp)]; simp
      rw [hc]
      clear b1
      go_wp2_with fail
      go_ret2
      exact ⟨ret_vi (by rw [F.out.1]; rfl) F.out.2.symm, b2⟩
    have q4 : (m : Int) < a := by omega
    clear hbad
    go_enter Try.func12, Try.ntmps12
    go_wp2_with fail
    refine (rcheck_any _ _ _ hs).mono ?_
    rintro e w1 ⟨rfl, b1⟩
    have b2 := hbx.trans (b1.mono (by simp))
    have c1 : w1.cell? ⟨w.heap.size, 1, none⟩ = some (.int .i64 m) := by rw [b1.cell (by simp)]; simp
    rw [hc]
    clear b1
    go_wp2_with fail
    go_ret2
    exact ⟨ret_vi (by rw [F.out.1]; rfl) F.out.2.symm, b2⟩
  · obtain ⟨a, rfl⟩ := Int.eq_ofNat_of_zero_le (show 0 ≤ a by omega)
    obtain ⟨r, rfl⟩ := Int.eq_ofNat_of_zero_le (show 0 ≤ r by omega)
    have q2 : r ≤ 64 := by omega
    have q4 : a ≤ m := by omega
    by_cases q5 : (m : Int) - (a : Int) < (r : Int)
    · have e1 : getE s m a r = 5 := by unfold getE; rw [if_neg (by omega), if_neg hbad, if_pos q5]
      have F : Hid (getV s m a r = 0 ∧ getE s m a r = 5) := Lib.hid ⟨if_neg (by omega), e1⟩
      clear e1 hbad hR
      go_enter Try.func12, Try.ntmps12
      go_wp2_with fail
      refine (rcheck_any _ _ _ hs).mono ?_
      rintro e w1 ⟨rfl, b1⟩
      have b2 := hbx.trans (b1.mono (by simp))
      have c1 : w1.cell? ⟨w.heap.size, 1, none⟩ = some (.int .i64 m) := by rw [b1.cell (by simp)]; simp
      rw [hc]
      clear b1
      go_wp2_with fail
      go_ret2
      exact ⟨ret_vi (by rw [F.out.1]; rfl) F.out.2.symm, b2⟩
    · have e1 : getE s m a r = 0 := by unfold getE; rw [if_neg (by omega), if_neg hbad, if_neg q5]
      have F : Hid (getV s m a r = num (((bl (bytes s) m).drop a).take r) ∧ getE s m a r = 0) := Lib.hid ⟨if_pos e1, e1⟩
      have hp := hR.packs
      rw [Int.toNat_natCast] at hp
      have hl := bl_length (bytes s) m
      have hsz : s.size = (m + 7) / 8 := by have := hR.2.2.1; rw [bytes_len] at this; simpa using this
      generalize bl (bytes s) m = X at hp hl F
      have HP := Lib.hid hp
      have HL := Lib.hid hl
      have hs8 : m ≤ 8 * s.size := by omega
      have hs9 : s.size ≤ 1000000 := by omega
      have har : a + r ≤ m := by omega
      have d4 : decide (m < a) = false := decide_eq_false (by omega)
      clear e1 hbad hR hp hl hsz
      go_enter Try.func12, Try.ntmps12
      go_wp2_with fail
      refine (rcheck_any _ _ _ hs).mono ?_
      rintro e w1 ⟨rfl, b1⟩
      have b2 := hbx.trans (b1.mono (by simp))
      have c1 : w1.cell? ⟨w.heap.size, 1, none⟩ = some (.int .i64 m) := by rw [b1.cell (by simp)]; simp
      have c0 : w1.cell? ⟨w.heap.size, 0, none⟩ = some (.string s) := by rw [b1.cell (by simp)]; simp
      have z1 : w.heap.size < w1.heap.size := Nat.lt_of_lt_of_le (by simp) b1.size
      rw [hc]
      have C0 := Lib.hid c0; have C1 := Lib.hid c1
      clear b1
      go_wp2_with fail
      go_loopw [8, 9] (fun v i wr => ∃ d v' : Nat, d ≤ r ∧ i = .int .i64 (a + d : Nat) ∧ v' = num ((X.drop a).take d) ∧ v = .int .u64 v' ∧ wr.cell? ⟨w.heap.size, 0, none⟩ = some (.string s) ∧ wr.cell? ⟨w.heap.size, 1, none⟩ = some (.int .i64 m) ∧ w.heap.size < wr.heap.size ∧ Below w.heap.size w wr) (fun _ i _ => a + r - (intOf i).toNat)
      case atStart => exact ⟨0, 0, by omega, rfl, rfl, rfl, C0.out, C1.out, z1, b2⟩
      case round =>
        obtain ⟨d, v, hd, rfl, hv, rfl, hc0, hc1, hz, hbl⟩ := hrel
        have hvl := num_take_lt X a d
        rw [← hv] at hvl
        have HV := Lib.hid hv
        clear hv c0 c1
        by_cases hlt : d < r
        · have hv2 : v ≤ 9223372036854775807 := by
            have h1 := Nat.pow_le_pow_right (n := 2) (by decide) (show d ≤ 63 by omega)
            have h3 : (2 : Nat) ^ 63 = 9223372036854775808 := by decide
            omega
          have hst := getD_take_drop X a d (by rw [HL.out]; omega)
          have hbt : bitAt (bytes s) (a + d) = X.getD (a + d) false := HP.out.2 (a + d)
          have hnum : num ((X.drop a).take (d + 1)) = 2 * v + (bitAt (bytes s) (a + d)).toNat := by rw [hst, num_snoc, ← HV.out, hbt]
          obtain ⟨p, hp⟩ : ∃ p, p = a + d := ⟨_, rfl⟩
          have hpl : p < m := by omega
          have hpl2 : p < a + r := by omega
          have hdr : d + 1 ≤ r := by omega
          rw [← hp] at hnum ⊢
          have HN := Lib.hid hnum; have HPP := Lib.hid hp; have HD := Lib.hid hdr
          clear hst hbt hnum hp hd hlt hdr hvl q5 q4
          go_wp2_with fail
          refine (is_any s m p (by omega) (by omega) hs9 _).mono ?_
          rw [Int.toNat_natCast]
          rintro e w2 ⟨rfl, b3⟩
          have b4 := hbl.trans (b3.mono hbl.size)
          have c0 : w2.cell? ⟨w.heap.size, 0, none⟩ = some (.string s) := by rw [b3.cell hz]; exact hc0
          have c1 : w2.cell? ⟨w.heap.size, 1, none⟩ = some (.int .i64 m) := by rw [b3.cell hz]; exact hc1
          have hz2 := Nat.lt_of_lt_of_le hz b3.size
          clear hc0 hc1 hbl b3 hz
          cases hb : bitAt (bytes s) p
          · have HN2 : Hid (v * 2 = num ((X.drop a).take (d + 1))) := Lib.hid (by rw [HN.out, hb]; simp; omega)
            clear hb
            go_wp2_with fail
            go_roundw
            case rel => exact ⟨d + 1, v * 2, HD.out, by have := HPP.out; go_num, HN2.out, by go_num, c0, c1, hz2, b4⟩
            case measure => simp [intOf]; omega
          · have HN2 : Hid (v * 2 + 1 = num ((X.drop a).take (d + 1))) := Lib.hid (by rw [HN.out, hb]; simp; omega)
            clear hb
            go_wp2_with fail
            go_roundw
            case rel => exact ⟨d + 1, v * 2 + 1, HD.out, by have := HPP.out; go_num, HN2.out, by go_num, c0, c1, hz2, b4⟩
            case measure => simp [intOf]; omega
        · obtain rfl : d = r := by omega
          have F2 : Hid (getV s m a d = v ∧ getE s m a d = 0) := Lib.hid ⟨by rw [F.out.1, HV.out], F.out.2⟩
          go_wp2_with fail
          go_ret2
          exact ⟨ret_vi (by rw [F2.out.1]) F2.out.2.symm, hbl⟩
end Go.Proofs.Ytbbokhelmhmgfaa.Bt

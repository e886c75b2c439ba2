/- The walk of the law BitsTurned. -/
import Derived.Test.YtbbokhelmhmgfaaBitTurnM
namespace Go.Proofs.Ytbbokhelmhmgfaa.Bt
open Go.RowKit

theorem onesN_le (s : ByteArray) (n : Int) : onesN s n ≤ 1048576 := by
  unfold onesN
  split
  · rename_i h
    have hR := chk_zero h
    have h1 : cnt (bl (bytes s) n.toNat) ≤ (bl (bytes s) n.toNat).length := List.count_le_length
    rw [bl_length] at h1
    have := hR.2.1
    omega
  · omega

set_option maxHeartbeats 8000000 in
set_option maxRecDepth 100000 in
theorem turned_law (s : ByteArray) (n i : Int) (w : World) (hs : s.size ≤ maxLen) :
    Calls Try.prog 7 #[.agg #[.string s, .int .i64 n], .int .i64 i] w fun e w' => e = .returned (.bool true) ∧ Below w.heap.size w w' := by
  have hbx : Below w.heap.size w (w.alloc (.cells #[.string s, .int .i64 n] 23)) := (Below.refl _ _).alloc (Nat.le_refl _) _
  rcases turn_cases s n i with h0 | h2 | ⟨h0, h2, hS, hN⟩
  case inr.inl =>
    obtain ⟨S, hS⟩ : ∃ S, S = turnS s n i := ⟨_, rfl⟩
    obtain ⟨K, hK⟩ : ∃ K, K = turnN s n i := ⟨_, rfl⟩
    have HH := Lib.hid h2; have HS := Lib.hid hS; have HK := Lib.hid hK
    clear h2 hS hK
    go_enter Try.func7, Try.ntmps7
    go_wp2_with fail
    refine (puts_any _).mono ?_
    rintro e w1 ⟨rfl, b1⟩
    have x1 := Lib.hid ((Box.new w s n).below b1)
    have B1 := Lib.hid (hbx.trans (b1.mono (by simp)))
    clear b1 hbx
    go_wp2_with fail
    refine (cuts_any _).mono ?_
    rintro e w2 ⟨rfl, b2⟩
    have x2 := Lib.hid (x1.out.below b2)
    have B2 := Lib.hid (B1.out.trans (b2.mono B1.out.size))
    have c0 := x2.out.c0; have c1 := x2.out.c1
    clear b2 x1 B1
    go_wp2_with fail
    refine (turn_top s n i _ hs).mono ?_
    rintro e w3 ⟨rfl, b3⟩
    have B3 := Lib.hid (B2.out.trans (b3.mono B2.out.size))
    clear b3 x2 B2 c0 c1
    rw [HH.out, ← HS.out, ← HK.out]
    go_wp2_with fail
    go_ret
    exact ⟨rfl, B3.out.alloc B3.out.size _⟩
  case inr.inr =>
    obtain ⟨E, hE⟩ : ∃ E, E = turnE s n i := ⟨_, rfl⟩
    have e1 : (E != 0) = true := by rw [bne_iff_ne, hE]; exact h0
    have e2 : (E == 2) = false := by rw [beq_eq_false_iff_ne, hE]; exact h2
    have HH := Lib.hid hE; have HS := Lib.hid hS; have HN := Lib.hid hN
    clear hE hS hN h0 h2
    go_enter Try.func7, Try.ntmps7
    go_wp2_with fail
    refine (puts_any _).mono ?_
    rintro e w1 ⟨rfl, b1⟩
    have x1 := Lib.hid ((Box.new w s n).below b1)
    have B1 := Lib.hid (hbx.trans (b1.mono (by simp)))
    clear b1 hbx
    go_wp2_with fail
    refine (cuts_any _).mono ?_
    rintro e w2 ⟨rfl, b2⟩
    have x2 := Lib.hid (x1.out.below b2)
    have B2 := Lib.hid (B1.out.trans (b2.mono B1.out.size))
    have c0 := x2.out.c0; have c1 := x2.out.c1
    clear b2 x1 B1
    go_wp2_with fail
    refine (turn_top s n i _ hs).mono ?_
    rintro e w3 ⟨rfl, b3⟩
    have B3 := Lib.hid (B2.out.trans (b3.mono B2.out.size))
    have x3 := Lib.hid (x2.out.below b3)
    clear b3 x2 B2 c0 c1
    rw [← HH.out, HS.out, HN.out]
    have x4 := x3.out.alloc (.cells #[.string s, .int .i64 n] 23)
    have d0 := x4.c0; have d1 := x4.c1
    clear x4
    go_wp2_with fail
    go_ret
    exact ⟨rfl, B3.out.alloc B3.out.size _⟩
  obtain ⟨x, y, hxy, k1, k2, k3, k4, k5, k6, k7, k8, k9, k10, k11, k12⟩ := turned_all h0
  obtain ⟨C, hC⟩ : ∃ C, C = turnS s n i := ⟨_, rfl⟩
  obtain ⟨N1, hN1⟩ : ∃ N1, N1 = onesN s n := ⟨_, rfl⟩
  obtain ⟨N2, hN2⟩ : ∃ N2, N2 = onesN C n := ⟨_, rfl⟩
  rw [← hC] at k2 k3 k4 k7 k8 k10 k11 k12
  rw [← hN1, ← hN2] at k11
  have hCm : C.size ≤ maxLen := by unfold maxLen; omega
  have HH := Lib.hid h0; have HC := Lib.hid hC; have H1 := Lib.hid k1; have H2 := Lib.hid k2; have H3 := Lib.hid k3; have H4 := Lib.hid k4; have H5 := Lib.hid k5; have H6 := Lib.hid k6; have H7 := Lib.hid k7; have H8 := Lib.hid k8; have H9 := Lib.hid k9; have H10 := Lib.hid k10; have HN1 := Lib.hid hN1; have HN2 := Lib.hid hN2
  have hb1 : N1 ≤ 1048576 := by rw [hN1]; exact onesN_le _ _
  have hb2 : N2 ≤ 1048576 := by rw [hN2]; exact onesN_le _ _
  have HK11 := Lib.hid k11; have HXY := Lib.hid hxy
  have s1 : ((x : Int) + (y : Int) == 1) = true := by rw [beq_iff_eq]; omega
  have s2 : ((N2 : Int) + (x : Int) == (N1 : Int) + (y : Int)) = true := by rw [beq_iff_eq]; omega
  have s3 : x ≤ 1 := by omega
  have s4 : y ≤ 1 := by omega
  clear h0 hC k1 k2 k3 k4 k5 k6 k7 k8 k9 k10 k11 k12 hN1 hN2 hxy
  go_enter Try.func7, Try.ntmps7
  go_wp2_with fail
  refine (puts_any _).mono ?_
  rintro e w1 ⟨rfl, b1⟩
  have x1 := Lib.hid ((Box.new w s n).below b1)
  have B1 := Lib.hid (hbx.trans (b1.mono (by simp)))
  clear b1 hbx
  go_wp2_with fail
  refine (cuts_any _).mono ?_
  rintro e w2 ⟨rfl, b2⟩
  have x2 := Lib.hid (x1.out.below b2)
  have B2 := Lib.hid (B1.out.trans (b2.mono B1.out.size))
  have c0 := x2.out.c0; have c1 := x2.out.c1
  clear b2 x1 B1
  go_wp2_with fail
  refine (turn_top s n i _ hs).mono ?_
  rintro e w3 ⟨rfl, b3⟩
  have B3 := Lib.hid (B2.out.trans (b3.mono B2.out.size))
  have x3 := Lib.hid (x2.out.below b3)
  clear b3 x2 B2 c0 c1
  rw [HH.out, ← HC.out, H1.out]
  have x4 := Lib.hid (x3.out.alloc (.cells #[.string C, .int .i64 n] 23))
  have y4 := Lib.hid (Box.new w3 C n)
  have B4 := Lib.hid (B3.out.alloc B3.out.size (.cells #[.string C, .int .i64 n] 23))
  have d0 := y4.out.c0; have d1 := y4.out.c1; have c0 := x4.out.c0; have c1 := x4.out.c1
  clear x3 B3
  go_wp2_with fail
  refine (turn_top C n i _ hCm).mono ?_
  rintro e w5 ⟨rfl, bb⟩
  rw [H2.out, H3.out, H4.out]
  have X5 := Lib.hid ((x4.out.below bb).alloc (.cells #[.string s, .int .i64 n] 23)); have Y5 := Lib.hid ((y4.out.below bb).alloc (.cells #[.string s, .int .i64 n] 23)); have D5 := Lib.hid (Box.new w5 s n)
  have B5' := B4.out.trans (bb.mono B4.out.size)
  have B5 := Lib.hid (B5'.alloc B5'.size (.cells #[.string s, .int .i64 n] 23))
  clear bb x4 y4 B4 B5' c0 c1 d0 d1
  have c0 := X5.out.c0; have c1 := X5.out.c1; have d0 := Y5.out.c0; have d1 := Y5.out.c1; have e0 := D5.out.c0; have e1 := D5.out.c1
  go_wp2_with fail
  refine (get_any s n i 1 _ hs).mono ?_
  rintro e w6 ⟨rfl, bb⟩
  rw [H5.out, H6.out]
  have X6 := Lib.hid (X5.out.below bb); have Y6 := Lib.hid (Y5.out.below bb); have D6 := Lib.hid (D5.out.below bb)
  have B6 := Lib.hid (B5.out.trans (bb.mono B5.out.size))
  clear bb X5 Y5 D5 B5 c0 c1 d0 d1 e0 e1
  have c0 := X6.out.c0; have c1 := X6.out.c1; have d0 := Y6.out.c0; have d1 := Y6.out.c1; have e0 := D6.out.c0; have e1 := D6.out.c1
  go_wp2_with fail
  refine (get_any C n i 1 _ hCm).mono ?_
  rintro e w7 ⟨rfl, bb⟩
  rw [H7.out, H8.out]
  have X7 := Lib.hid (X6.out.below bb); have Y7 := Lib.hid (Y6.out.below bb); have D7 := Lib.hid (D6.out.below bb)
  have B7 := Lib.hid (B6.out.trans (bb.mono B6.out.size))
  clear bb X6 Y6 D6 B6 c0 c1 d0 d1 e0 e1
  have c0 := X7.out.c0; have c1 := X7.out.c1; have d0 := Y7.out.c0; have d1 := Y7.out.c1; have e0 := D7.out.c0; have e1 := D7.out.c1
  go_wp2_with fail
  refine (ones_any s n _ hs).mono ?_
  rintro e w8 ⟨rfl, bb⟩
  rw [H9.out, ← HN1.out]
  have X8 := Lib.hid (X7.out.below bb); have Y8 := Lib.hid (Y7.out.below bb); have D8 := Lib.hid (D7.out.below bb)
  have B8 := Lib.hid (B7.out.trans (bb.mono B7.out.size))
  clear bb X7 Y7 D7 B7 c0 c1 d0 d1 e0 e1
  have c0 := X8.out.c0; have c1 := X8.out.c1; have d0 := Y8.out.c0; have d1 := Y8.out.c1; have e0 := D8.out.c0; have e1 := D8.out.c1
  go_wp2_with fail
  refine (ones_any C n _ hCm).mono ?_
  rintro e w9 ⟨rfl, bb⟩
  rw [H10.out, ← HN2.out]
  have X9 := Lib.hid (X8.out.below bb); have Y9 := Lib.hid (Y8.out.below bb); have D9 := Lib.hid (D8.out.below bb)
  have B9 := Lib.hid (B8.out.trans (bb.mono B8.out.size))
  clear bb X8 Y8 D8 B8 c0 c1 d0 d1 e0 e1
  have c0 := X9.out.c0; have c1 := X9.out.c1; have d0 := Y9.out.c0; have d1 := Y9.out.c1; have e0 := D9.out.c0; have e1 := D9.out.c1
  go_wp2_with fail
  go_ret
  exact ⟨rfl, B9.out⟩
end Go.Proofs.Ytbbokhelmhmgfaa.Bt

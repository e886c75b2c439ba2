/- The walk of the law BitsParts. -/
import Derived.Test.YtbbokhelmhmgfaaBitPartM
namespace Go.Proofs.Ytbbokhelmhmgfaa.Bt
open Go.RowKit

set_option maxHeartbeats 8000000 in
set_option maxRecDepth 100000 in
theorem parts_law (s : ByteArray) (n a : Int) (w : World) (hs : s.size ≤ maxLen) :
    Calls Try.prog 6 #[.agg #[.string s, .int .i64 n], .int .i64 a] w fun e w' => e = .returned (.bool true) ∧ Below w.heap.size w w' := by
  have hbx : Below w.heap.size w (w.alloc (.cells #[.string s, .int .i64 n] 23)) := (Below.refl _ _).alloc (Nat.le_refl _) _
  rcases cut_cases s n 0 a with h0 | ⟨h0, hS, hN⟩
  case inr =>
    obtain ⟨E, hE⟩ : ∃ E, E = cutE s n 0 a := ⟨_, rfl⟩
    have e1 : (E != 0) = true := by rw [bne_iff_ne, hE]; exact h0
    have HH := Lib.hid hE; have HS := Lib.hid hS; have HN := Lib.hid hN
    clear hE hS hN h0
    go_enter Try.func6, Try.ntmps6
    go_wp2_with fail
    refine (puts_any _).mono ?_
    rintro e w1 ⟨rfl, b1⟩
    have x1 := Lib.hid ((Box.new w s n).below b1)
    have B1 := Lib.hid (hbx.trans (b1.mono (by simp)))
    clear b1 hbx
    go_wp2_with fail
    refine (cuts_any _).mono ?_
    rintro e w2 ⟨rfl, b2⟩
    have x2 := Lib.hid (x1.out.below b2)
    have B2 := Lib.hid (B1.out.trans (b2.mono B1.out.size))
    have c0 := x2.out.c0; have c1 := x2.out.c1
    clear b2 x1 B1
    go_wp2_with fail
    refine (cut_any s n 0 a _ hs).mono ?_
    rintro e w3 ⟨rfl, b3⟩
    have B3 := Lib.hid (B2.out.trans (b3.mono B2.out.size))
    have x3 := Lib.hid (x2.out.below b3)
    clear b3 x2 B2 c0 c1
    rw [← HH.out, HS.out, HN.out]
    have B4 := Lib.hid (B3.out.alloc B3.out.size (.cells #[.string ⟨#[]⟩, .int .i64 0] 23))
    clear x3
    go_wp2_with fail
    go_ret
    exact ⟨rfl, B4.out⟩
  obtain ⟨S1, S2, q, x, y, k1, k2, k3, k4, k5, k6, k7, k8, k9, k10, k11, k12, k13, k14, k15, k16, k17⟩ := parts_all h0
  have hx9 : x ≤ 1048576 := by rw [← k14]; exact onesN_le _ _
  have hy9 : y ≤ 1048576 := by rw [← k15]; exact onesN_le _ _
  have hn9 : 0 ≤ n ∧ n ≤ 1048576 := ⟨(chk_zero k10).1, (chk_zero k10).2.1⟩
  have hp := cut_packs h0
  have ha9 : 0 ≤ a ∧ a ≤ n := ⟨hp.2.2.1, by have := hp.2.2.2.1; omega⟩
  have hS1 : S1.size ≤ maxLen := by unfold maxLen; omega
  have hS2 : S2.size ≤ maxLen := by unfold maxLen; omega
  have H0 := Lib.hid h0; have H1 := Lib.hid k1; have H2 := Lib.hid k2; have H4 := Lib.hid k4; have H5 := Lib.hid k5; have H6 := Lib.hid k6; have H7 := Lib.hid k7; have H8 := Lib.hid k8; have H9 := Lib.hid k9; have H10 := Lib.hid k10; have H11 := Lib.hid k11; have H12 := Lib.hid k12; have H13 := Lib.hid k13; have H14 := Lib.hid k14; have H15 := Lib.hid k15
  have hq : n - a = q := k3
  have wq : IntKind.i64.wrap (n - a) = q := by rw [hq]; exact IntWalk.i64_in _ (by omega)
  have wq2 : IntKind.i64.wrap q = q := IntWalk.i64_in _ (by omega)
  obtain ⟨T, hT⟩ : ∃ T, T = x + y := ⟨_, rfl⟩
  rw [← hT] at H13
  have s1 : ((x : Int) + (y : Int) == (T : Int)) = true := by rw [beq_iff_eq]; omega
  have hT9 : T ≤ 2097152 := by omega
  clear k1 k2 k3 k4 k5 k6 k7 k8 k9 k10 k11 k12 k13 k14 k15 k16 k17 hp h0 hT
  go_enter Try.func6, Try.ntmps6
  go_wp2_with fail
  refine (puts_any _).mono ?_
  rintro e w1 ⟨rfl, b1⟩
  have x1 := Lib.hid ((Box.new w s n).below b1)
  have B1 := Lib.hid (hbx.trans (b1.mono (by simp)))
  clear b1 hbx
  go_wp2_with fail
  refine (cuts_any _).mono ?_
  rintro e w2 ⟨rfl, b2⟩
  have x2 := Lib.hid (x1.out.below b2)
  have B2 := Lib.hid (B1.out.trans (b2.mono B1.out.size))
  have c0 := x2.out.c0; have c1 := x2.out.c1
  clear b2 x1 B1
  go_wp2_with fail
  refine (cut_any s n 0 a _ hs).mono ?_
  rintro e w3 ⟨rfl, b3⟩
  have B3 := Lib.hid (B2.out.trans (b3.mono B2.out.size))
  have x3 := Lib.hid (x2.out.below b3)
  clear b3 x2 B2 c0 c1
  rw [H0.out, ← H1.out, H2.out]
  have x4 := Lib.hid (x3.out.alloc (.cells #[.string S1, .int .i64 a] 23)); have y4 := Lib.hid (Box.new w3 S1 a)
  have B4 := Lib.hid (B3.out.alloc B3.out.size (.cells #[.string S1, .int .i64 a] 23))
  have c0 := x4.out.c0; have c1 := x4.out.c1
  clear x3 B3
  go_wp2_with fail
  refine (cut_any s n a q _ hs).mono ?_
  rintro e w5 ⟨rfl, bb⟩
  rw [H4.out, ← H5.out, H6.out]
  have x5 := Lib.hid ((x4.out.below bb).alloc (.cells #[.string S2, .int .i64 q] 23)); have y5 := Lib.hid ((y4.out.below bb).alloc (.cells #[.string S2, .int .i64 q] 23)); have d5 := Lib.hid (Box.new w5 S2 q)
  have B5' := B4.out.trans (bb.mono B4.out.size)
  have B5 := Lib.hid (B5'.alloc B5'.size (.cells #[.string S2, .int .i64 q] 23))
  clear bb x4 y4 B4 B5' c0 c1
  have c0 := y5.out.c0; have c1 := y5.out.c1; have d0 := d5.out.c0; have d1 := d5.out.c1
  go_wp2_with fail
  refine (cat_one S1 a (w5.heap.size + 1) 1 S2 q _ hS1 hS2 (box_at _ _ _ _)).mono ?_
  rintro e w6 ⟨rfl, bb⟩
  rw [H7.out, H8.out, H9.out]
  have x6 := Lib.hid (((x5.out.alloc (.cells #[.string S2, .int .i64 q] 23)).below bb).alloc (.cells #[.string s, .int .i64 n] 23)); have y6 := Lib.hid (((y5.out.alloc (.cells #[.string S2, .int .i64 q] 23)).below bb).alloc (.cells #[.string s, .int .i64 n] 23)); have d6 := Lib.hid (((d5.out.alloc (.cells #[.string S2, .int .i64 q] 23)).below bb).alloc (.cells #[.string s, .int .i64 n] 23)); have e6 := Lib.hid (Box.new w6 s n)
  have B6' := (B5.out.alloc B5.out.size (.cells #[.string S2, .int .i64 q] 23)).trans (bb.mono (by have := B5.out.size; simp at this ⊢; omega))
  have B6 := Lib.hid (B6'.alloc B6'.size (.cells #[.string s, .int .i64 n] 23))
  clear bb x5 y5 d5 B5 B6' c0 c1 d0 d1
  have c0 := x6.out.c0; have c1 := x6.out.c1; have d0 := y6.out.c0; have d1 := y6.out.c1; have f0 := d6.out.c0; have f1 := d6.out.c1; have g0 := e6.out.c0; have g1 := e6.out.c1
  go_wp2_with fail
  refine (ones_any s n _ hs).mono ?_
  rintro e w7 ⟨rfl, bb⟩
  rw [H10.out, H13.out]
  have x7 := Lib.hid (x6.out.below bb); have y7 := Lib.hid (y6.out.below bb); have d7 := Lib.hid (d6.out.below bb); have e7 := Lib.hid (e6.out.below bb)
  have B7 := Lib.hid (B6.out.trans (bb.mono B6.out.size))
  clear bb x6 y6 d6 e6 B6 c0 c1 d0 d1 f0 f1 g0 g1
  have c0 := x7.out.c0; have c1 := x7.out.c1; have d0 := y7.out.c0; have d1 := y7.out.c1; have f0 := d7.out.c0; have f1 := d7.out.c1; have g0 := e7.out.c0; have g1 := e7.out.c1
  go_wp2_with fail
  refine (ones_any S1 a _ hS1).mono ?_
  rintro e w8 ⟨rfl, bb⟩
  rw [H11.out, H14.out]
  have x8 := Lib.hid (x7.out.below bb); have y8 := Lib.hid (y7.out.below bb); have d8 := Lib.hid (d7.out.below bb); have e8 := Lib.hid (e7.out.below bb)
  have B8 := Lib.hid (B7.out.trans (bb.mono B7.out.size))
  clear bb x7 y7 d7 e7 B7 c0 c1 d0 d1 f0 f1 g0 g1
  have c0 := x8.out.c0; have c1 := x8.out.c1; have d0 := y8.out.c0; have d1 := y8.out.c1; have f0 := d8.out.c0; have f1 := d8.out.c1; have g0 := e8.out.c0; have g1 := e8.out.c1
  go_wp2_with fail
  refine (ones_any S2 q _ hS2).mono ?_
  rintro e w9 ⟨rfl, bb⟩
  rw [H12.out, H15.out]
  have x9 := Lib.hid (x8.out.below bb); have y9 := Lib.hid (y8.out.below bb); have d9 := Lib.hid (d8.out.below bb); have e9 := Lib.hid (e8.out.below bb)
  have B9 := Lib.hid (B8.out.trans (bb.mono B8.out.size))
  clear bb x8 y8 d8 e8 B8 c0 c1 d0 d1 f0 f1 g0 g1
  have c0 := x9.out.c0; have c1 := x9.out.c1; have d0 := y9.out.c0; have d1 := y9.out.c1; have f0 := d9.out.c0; have f1 := d9.out.c1; have g0 := e9.out.c0; have g1 := e9.out.c1
  go_wp2_with fail
  go_ret
  exact ⟨rfl, B9.out⟩
end Go.Proofs.Ytbbokhelmhmgfaa.Bt

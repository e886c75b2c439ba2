/- The walk of the law's own examples: cuts. -/
import Derived.Test.YtjbbkcnfilnmcaaBitCat
import Derived.Test.YtjbbkcnfilnmcaaBitOnes
import Derived.Test.YtjbbkcnfilnmcaaBitLives
namespace Go.Proofs.Ytjbbkcnfilnmcaa.Bt
open Go.RowKit

theorem many_one {w : World} {g : Nat} {s : ByteArray} {n : Int} (h : Box w g s n) (hs : s.size ≤ maxLen) : ManyAt w (some ⟨g, 0, none⟩) [(s, n)] := fun i hi => by
  obtain rfl : i = 0 := by simp at hi; omega
  exact ⟨g, 0, rfl, h.lt, h.c0, h.c1, hs⟩
theorem cat_one (s : ByteArray) (n : Int) (g : Nat) (cap : Nat) (a : ByteArray) (q : Int) (w : World) (hs : s.size ≤ maxLen) (ha : a.size ≤ maxLen) (hb : Box w g a q) :
    Calls Try.prog 10 #[.agg #[.string s, .int .i64 n], .slice (some ⟨g, 0, none⟩) 1 cap] w fun e w' => e = .returned (.tuple #[.agg #[.string (catS s n [(a, q)]), .int .i64 (catN s n [(a, q)])], .int .i64 (catE s n [(a, q)])]) ∧ Below w.heap.size w w' :=
  cat_any s n (some ⟨g, 0, none⟩) cap [(a, q)] w hs (many_one hb ha) (by unfold maxLen; simp)
theorem cx0 : chk ⟨#[168]⟩ 5 = 0 := by decide +kernel
theorem cx1 : cutE ⟨#[168]⟩ 5 1 3 = 0 := by unfold cutE; rw [cx0]; decide
theorem cx2 : cutS ⟨#[168]⟩ 5 1 3 = ⟨#[64]⟩ := by unfold cutS; rw [if_pos cx1]; exact packS_of (l := [64]) (packs_of (by decide +kernel) (by decide +kernel))
theorem cx3 : cutN ⟨#[168]⟩ 5 1 3 = 3 := by unfold cutN; rw [if_pos cx1]
theorem cxF : catF 5 [(⟨#[168]⟩, 5)] = 0 := by
  show (if chk _ _ ≠ 0 then _ else _) = _
  rw [cx0]
  decide
theorem cx4 : catE ⟨#[168]⟩ 5 [(⟨#[168]⟩, 5)] = 0 := by unfold catE; rw [cx0, cxF]; decide
theorem cx5 : catS ⟨#[168]⟩ 5 [(⟨#[168]⟩, 5)] = ⟨#[173, 64]⟩ := by
  unfold catS; rw [cx0, if_neg (by decide), if_pos cxF]
  exact packS_of (l := [173, 64]) (packs_of (by decide +kernel) (by decide +kernel))
theorem cx6 : catN ⟨#[168]⟩ 5 [(⟨#[168]⟩, 5)] = 10 := by unfold catN; rw [cx0, if_neg (by decide), if_pos cxF]; rfl
theorem cx7 : turnE ⟨#[168]⟩ 5 0 = 0 := by unfold turnE; rw [cx0]; decide
theorem cx8 : turnS ⟨#[168]⟩ 5 0 = ⟨#[40]⟩ := by unfold turnS; rw [if_pos cx7]; exact packS_of (l := [40]) (packs_of (by decide +kernel) (by decide +kernel))
theorem cx9 : turnN ⟨#[168]⟩ 5 0 = 5 := by unfold turnN; rw [if_neg (by rw [cx7]; decide)]
theorem cx10 : onesN ⟨#[168]⟩ 5 = 3 := by unfold onesN; rw [if_pos cx0]; decide +kernel
theorem cx11 : cutE ⟨#[168]⟩ 5 6 0 = 1 := by unfold cutE; rw [cx0]; decide

theorem box_at (w : World) (o : Obj) (s : ByteArray) (n : Int) : Box ((w.alloc o).alloc (.cells #[.string s, .int .i64 n] 23)) (w.heap.size + 1) s n := by
  have h := Box.new (w.alloc o) s n
  simpa using h

set_option maxHeartbeats 8000000 in
set_option maxRecDepth 100000 in
theorem cuts_any (w : World) : Calls Try.prog 18 #[] w fun e w' => e = .returned (.bool true) ∧ Below w.heap.size w w' := by
  go_enter Try.func18, Try.ntmps18
  go_wp2_with fail
  refine (cut_any ⟨#[168]⟩ 5 1 3 _ (small (by decide))).mono ?_
  rintro e w1 ⟨rfl, b1⟩
  rw [cx1, cx2, cx3]
  have xb := ((Box.new w ⟨#[168]⟩ 5).below b1).alloc (.cells #[.string ⟨#[64]⟩, .int .i64 3] 23)
  have xc := Box.new w1 ⟨#[64]⟩ 3
  have c0 := xb.c0; have c1 := xb.c1
  have B1 : Below w.heap.size w w1 := ((Below.refl _ _).alloc (Nat.le_refl _) _).trans (b1.mono (by simp))
  have B2 := Lib.hid (B1.alloc B1.size (.cells #[.string ⟨#[64]⟩, .int .i64 3] 23))
  have XB := Lib.hid xb; have XC := Lib.hid xc
  clear b1 xb xc B1
  go_wp2_with fail
  refine (cat_one ⟨#[168]⟩ 5 (w1.heap.size + 1) 1 ⟨#[168]⟩ 5 _ (small (by decide)) (small (by decide)) (box_at _ _ _ _)).mono ?_
  rintro e w2 ⟨rfl, b2⟩
  rw [cx4, cx5, cx6]
  have xb := Lib.hid (((XB.out.alloc (.cells #[.string ⟨#[168]⟩, .int .i64 5] 23)).below b2).alloc (.cells #[.string ⟨#[173, 64]⟩, .int .i64 10] 23))
  have xc := Lib.hid (((XC.out.alloc (.cells #[.string ⟨#[168]⟩, .int .i64 5] 23)).below b2).alloc (.cells #[.string ⟨#[173, 64]⟩, .int .i64 10] 23))
  have xd := Lib.hid (Box.new w2 ⟨#[173, 64]⟩ 10)
  have B3 : Below w.heap.size w w2 := (B2.out.alloc B2.out.size _).trans (b2.mono (by have := B2.out.size; simp at this ⊢; omega))
  have B4 := Lib.hid (B3.alloc B3.size (.cells #[.string ⟨#[173, 64]⟩, .int .i64 10] 23))
  clear b2 B3 B2 XB XC c0 c1
  have c0 := xb.out.c0; have c1 := xb.out.c1
  go_wp2_with fail
  refine (turn_top ⟨#[168]⟩ 5 0 _ (small (by decide))).mono ?_
  rintro e w3 ⟨rfl, b3⟩
  rw [cx7, cx8, cx9]
  have yb := Lib.hid ((xb.out.below b3).alloc (.cells #[.string ⟨#[40]⟩, .int .i64 5] 23))
  have yc := Lib.hid ((xc.out.below b3).alloc (.cells #[.string ⟨#[40]⟩, .int .i64 5] 23))
  have yd := Lib.hid ((xd.out.below b3).alloc (.cells #[.string ⟨#[40]⟩, .int .i64 5] 23))
  have ye := Lib.hid (Box.new w3 ⟨#[40]⟩ 5)
  have B5 : Below w.heap.size w w3 := B4.out.trans (b3.mono B4.out.size)
  have B6 := Lib.hid (B5.alloc B5.size (.cells #[.string ⟨#[40]⟩, .int .i64 5] 23))
  clear b3 B5 B4 xb xc xd c0 c1
  have c0 := yb.out.c0; have c1 := yb.out.c1
  go_wp2_with fail
  refine (ones_any ⟨#[168]⟩ 5 _ (small (by decide))).mono ?_
  rintro e w4 ⟨rfl, b4⟩
  rw [cx10, cx0]
  have zb := Lib.hid (yb.out.below b4); have zc := Lib.hid (yc.out.below b4); have zd := Lib.hid (yd.out.below b4); have ze := Lib.hid (ye.out.below b4)
  have B7 := Lib.hid (B6.out.trans (b4.mono B6.out.size))
  clear b4 B6 yb yc yd ye c0 c1
  have c0 := zb.out.c0; have c1 := zb.out.c1
  go_wp2_with fail
  refine (cut_any ⟨#[168]⟩ 5 6 0 _ (small (by decide))).mono ?_
  rintro e w5 ⟨rfl, b5⟩
  rw [cx11]
  generalize cutS ⟨#[168]⟩ 5 6 0 = S6
  generalize cutN ⟨#[168]⟩ 5 6 0 = N6
  have tc := (zc.out.below b5).alloc (.cells #[.string S6, .int .i64 N6] 23); have td := (zd.out.below b5).alloc (.cells #[.string S6, .int .i64 N6] 23); have te := (ze.out.below b5).alloc (.cells #[.string S6, .int .i64 N6] 23)
  have B8' := B7.out.trans (b5.mono B7.out.size)
  have B8 := Lib.hid (B8'.alloc B8'.size (.cells #[.string S6, .int .i64 N6] 23))
  clear B8' b5 B7 zb zc zd ze c0 c1
  have k0 := tc.c0; have k1 := tc.c1; have l0 := td.c0; have l1 := td.c1; have m0 := te.c0; have m1 := te.c1
  clear tc td te
  go_wp2_with fail
  go_ret
  exact ⟨rfl, B8.out⟩
end Go.Proofs.Ytjbbkcnfilnmcaa.Bt

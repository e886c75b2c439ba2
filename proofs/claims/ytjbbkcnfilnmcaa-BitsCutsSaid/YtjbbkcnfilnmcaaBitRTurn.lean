/- The walk of the document's Turn. -/
import Derived.Test.YtjbbkcnfilnmcaaBitPutR
import Derived.Test.YtjbbkcnfilnmcaaBitTurn
namespace Go.Proofs.Ytjbbkcnfilnmcaa.Bt
open Go.RowKit

theorem bools_flip (X : List Bool) (i : Nat) : (bools X).set i (.bool (!X.getD i false)) = bools (flip X i) := by simp [bools, flip, List.map_set]
set_option maxHeartbeats 8000000 in
theorem rturn_any (s : ByteArray) (m i : Nat) (w : World) (hs : s.size ≤ maxLen) (hc : chk s m = 0) (him : i < m) :
    Calls Try.prog 15 #[.agg #[.string s, .int .i64 m], .int .i64 i] w fun e w' => e = .returned (.tuple #[.agg #[.string (packS (flip (bl (bytes s) m) i)), .int .i64 m], .int .i64 0]) ∧ Below w.heap.size w w' := by
  have hbx : Below w.heap.size w ((w.alloc (.cells #[.string s, .int .i64 m] 23)).alloc (.cells #[.string ⟨#[]⟩, .int .i64 0] 23)) := ((Below.refl _ _).alloc (Nat.le_refl _) _).alloc (by simp) _
  have hR := chk_zero hc
  have hpk := hR.packs
  have hm : m ≤ 1048576 := by have := hR.2.1; omega
  rw [Int.toNat_natCast] at hpk
  have hXm := bl_length (bytes s) m
  generalize bl (bytes s) m = X at hpk hXm ⊢
  have HPK := Lib.hid hpk; have HXM := Lib.hid hXm
  clear hpk hXm hR
  go_enter Try.func15, Try.ntmps15
  go_wp2_with fail
  refine (rcheck_any _ _ _ hs).mono ?_
  rintro e w1 ⟨rfl, b1⟩
  have x0 := (box_end b1).1; have x1 := (box_end b1).2
  have c0 := x0.c0; have c1 := x0.c1
  have X1 := Lib.hid x1
  have B2 := Lib.hid (hbx.trans (b1.mono (by simp; omega)))
  have z2 : w.heap.size + 2 ≤ w1.heap.size := by have := x1.lt; omega
  rw [hc]
  clear b1 x0 x1
  go_wp2_with fail
  refine (all_of s X m HXM.out HPK.out hm _ (w.heap.size + 2) z2).mono ?_
  rintro e w2 ⟨v0, rfl, hown, b3⟩
  have x3 := X1.out.below b3
  have b4 := B2.out.trans (b3.mono (by omega))
  rcases hown.2 with ⟨rfl, h0⟩ | ⟨g, cap, cur, rfl, hgb, hh, _⟩
  · omega
  have hcell : w2.cell? ⟨g, i, none⟩ = some (.bool (X.getD i false)) := by
    rw [hown.cellAt i (by omega)]
    have := HXM.out
    simp [bools, List.getD_eq_getElem?_getD, List.getElem?_eq_getElem (show i < X.length by omega)]
  have hfz := hown.frozenAt i
  have i1 : (i : Int) < (m : Int) := by omega
  have HOWN := Lib.hid hown; have X3 := Lib.hid x3; have B4 := Lib.hid b4
  generalize hx : X.getD i false = x at hcell
  have HX := Lib.hid hx
  clear hown x3 b3 b4 c0 c1 hh hx
  go_wp2_with fail
  have hrow := (HOWN.out.stored i (.bool (!x))).1
  rw [← HX.out, bools_flip, HX.out] at hrow
  refine (of_of _ _ m (flip X i) _ hrow (by rw [flip_length]; exact HXM.out) (by omega)).mono ?_
  rintro e w3 ⟨rfl, b5⟩
  have y3 := X3.out.other g i (.bool (!x)) (by omega)
  have x5 := y3.below b5
  have q0 := x5.c0; have q1 := x5.c1; have p0 := x5.f0; have p1 := x5.f1
  have x6 := x5.set (packS (flip X i)) (m : Int)
  have z0 := Lib.hid x6.c0; have z1 := Lib.hid x6.c1
  have B5 := B4.out.setCell (p := ⟨g, i, none⟩) (show w.heap.size ≤ g by omega) (.bool (!x))
  have b6 := Lib.hid (((B5.trans (b5.mono B5.size)).setCell (p := ⟨w.heap.size + 1, 0, none⟩) (Nat.le_succ _) (.string (packS (flip X i)))).setCell (p := ⟨w.heap.size + 1, 1, none⟩) (Nat.le_succ _) (.int .i64 m))
  clear x5 x6 b5 y3 hrow B5 hcell hfz
  go_wp2_with fail
  refine bodyPost_ret (v := .tuple #[.agg #[.string (packS (flip X i)), .int .i64 m], .int .i64 0]) (by simp [results, Try.results15, go_sem, z0.out, z1.out]) rfl ⟨rfl, b6.out⟩
end Go.Proofs.Ytjbbkcnfilnmcaa.Bt

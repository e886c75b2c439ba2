/- The walk of the law's own examples: puts. -/
import Derived.Test.YtbbokhelmhmgfaaBitPutZ
import Derived.Laws.StructEq
namespace Go.Proofs.Ytbbokhelmhmgfaa.Bt
open Go.RowKit

theorem packS_of {l : List UInt8} {X : List Bool} (h : Packs l X) : packS X = ⟨l.toArray⟩ := by unfold packS; rw [← h.eq]
/-- a variable that holds bits -/
structure Box (w : World) (g : Nat) (s : ByteArray) (n : Int) : Prop where
  lt : g < w.heap.size
  c0 : w.cell? ⟨g, 0, none⟩ = some (.string s)
  c1 : w.cell? ⟨g, 1, none⟩ = some (.int .i64 n)
  f0 : w.frozen? ⟨g, 0, none⟩ = false
  f1 : w.frozen? ⟨g, 1, none⟩ = false
theorem Box.new (w : World) (s : ByteArray) (n : Int) : Box (w.alloc (.cells #[.string s, .int .i64 n] 23)) w.heap.size s n := ⟨by simp, by simp, by simp, by simp [go_sem], by simp [go_sem]⟩
theorem Box.below {w w' : World} {g : Nat} {s : ByteArray} {n : Int} (h : Box w g s n) (hb : Below w.heap.size w w') : Box w' g s n :=
  ⟨Nat.lt_of_lt_of_le h.lt hb.size, by rw [hb.cell h.lt]; exact h.c0, by rw [hb.cell h.lt]; exact h.c1, by rw [hb.frozen h.lt]; exact h.f0, by rw [hb.frozen h.lt]; exact h.f1⟩
theorem Box.alloc {w : World} {g : Nat} {s : ByteArray} {n : Int} (h : Box w g s n) (o : Obj) : Box (w.alloc o) g s n := h.below ((Below.refl _ _).alloc (Nat.le_refl _) _)
theorem Box.set {w : World} {g : Nat} {s : ByteArray} {n : Int} (h : Box w g s n) (t : ByteArray) (m : Int) : Box ((w.setCell ⟨g, 0, none⟩ (.string t)).setCell ⟨g, 1, none⟩ (.int .i64 m)) g t m := by
  have e : (⟨g, 0, none⟩ : Addr) ≠ ⟨g, 1, none⟩ := by intro h; injection h with _ h; cases h
  have h1 : (w.setCell ⟨g, 0, none⟩ (.string t)).cell? ⟨g, 1, none⟩ = some (.int .i64 n) := by rw [World.cell?_setCell_other _ _ _ _ e]; exact h.c1
  refine ⟨by simpa using h.lt, ?_, World.cell?_setCell_same _ _ _ h1, by rw [World.frozen?_setCell, World.frozen?_setCell]; exact h.f0, by rw [World.frozen?_setCell, World.frozen?_setCell]; exact h.f1⟩
  rw [World.cell?_setCell_other _ _ _ _ e.symm]
  exact World.cell?_setCell_same _ _ _ h.c0
theorem px1 : putE ⟨#[]⟩ 0 5 3 = 0 := by decide +kernel
theorem px2 : putS ⟨#[]⟩ 0 5 3 = ⟨#[160]⟩ := by unfold putS; rw [if_pos px1]; exact packS_of (l := [160]) (packs_of (by decide +kernel) (by decide +kernel))
theorem px3 : putN ⟨#[]⟩ 0 5 3 = 3 := by unfold putN; rw [if_pos px1]; rfl
theorem px4 : putE ⟨#[160]⟩ 3 1 2 = 0 := by decide +kernel
theorem px5 : putS ⟨#[160]⟩ 3 1 2 = ⟨#[168]⟩ := by unfold putS; rw [if_pos px4]; exact packS_of (l := [168]) (packs_of (by decide +kernel) (by decide +kernel))
theorem px6 : putN ⟨#[160]⟩ 3 1 2 = 5 := by unfold putN; rw [if_pos px4]; rfl
theorem px7 : getV ⟨#[168]⟩ 5 1 3 = 2 ∧ getE ⟨#[168]⟩ 5 1 3 = 0 := by decide +kernel
theorem px8 : putE ⟨#[168]⟩ 5 4 2 = 1 := by decide +kernel
theorem px9 : getE ⟨#[168]⟩ 5 3 3 = 5 := by decide +kernel
theorem px10 : chk ⟨#[]⟩ 1 = 2 := by decide +kernel
theorem small {n : Nat} (h : n ≤ 1000) : n ≤ maxLen := by unfold maxLen; omega

set_option maxHeartbeats 4000000 in
set_option maxRecDepth 100000 in
theorem puts_any (w : World) : Calls Try.prog 13 #[] w fun e w' => e = .returned (.bool true) ∧ Below w.heap.size w w' := by
  go_enter Try.func13, Try.ntmps13
  go_wp2_with fail
  refine (put_top ⟨#[]⟩ 0 5 3 _ (small (by decide)) (by decide)).mono ?_
  rintro e w1 ⟨rfl, b1⟩
  rw [px1, px2, px3]
  have B1 := Lib.hid b1; clear b1
  go_wp2_with fail
  refine (put_top ⟨#[160]⟩ 3 1 2 _ (small (by decide)) (by decide)).mono ?_
  rintro e w2 ⟨rfl, b2⟩
  rw [px4, px5, px6]
  have x1 := (Box.new w1 ⟨#[160]⟩ 3).below b2
  have c0 := x1.c0; have c1 := x1.c1; have f0 := x1.f0; have f1 := x1.f1
  have x2 := x1.set ⟨#[168]⟩ 5
  have B2 : Below w.heap.size w w2 := (B1.out.alloc B1.out.size _).trans (b2.mono (by have := B1.out.size; simp; omega))
  have B3 := Lib.hid ((B2.setCell (p := ⟨w1.heap.size, 0, none⟩) B1.out.size (.string ⟨#[168]⟩)).setCell (p := ⟨w1.heap.size, 1, none⟩) B1.out.size (.int .i64 5))
  clear b2 B2 B1
  obtain ⟨g, hg⟩ : ∃ g, g = w1.heap.size := ⟨_, rfl⟩
  rw [← hg] at c0 c1 f0 f1 x2 B3 ⊢
  clear x1 hg
  have d0 := x2.c0; have d1 := x2.c1
  have X2 := Lib.hid x2; clear x2
  go_wp2_with fail
  refine (get_any ⟨#[168]⟩ 5 1 3 _ (small (by decide))).mono ?_
  rintro e w3 ⟨rfl, b3⟩
  rw [px7.1, px7.2]
  have x3 := X2.out.below b3
  have e0 := x3.c0; have e1 := x3.c1
  have B4 := Lib.hid (B3.out.trans (b3.mono B3.out.size))
  have X3 := Lib.hid x3
  clear b3 x3 X2 B3 c0 c1 d0 d1 f0 f1
  go_wp2_with fail
  refine (put_top ⟨#[168]⟩ 5 4 2 _ (small (by decide)) (by decide)).mono ?_
  rintro e w4 ⟨rfl, b4⟩
  rw [px8]
  have x4 := X3.out.below b4
  have e0 := x4.c0; have e1 := x4.c1
  have B5 := Lib.hid (B4.out.trans (b4.mono B4.out.size))
  obtain ⟨S, hS⟩ : ∃ S, S = putS ⟨#[168]⟩ 5 4 2 := ⟨_, rfl⟩
  obtain ⟨K, hK⟩ : ∃ K, K = putN ⟨#[168]⟩ 5 4 2 := ⟨_, rfl⟩
  rw [← hS, ← hK]
  have x5 := x4.alloc (.cells #[.string S, .int .i64 K] 23)
  have X5 := Lib.hid x5
  have g0 := x5.c0; have g1 := x5.c1
  clear b4 x4 x5 X3 B4 hS hK
  go_wp2_with fail
  refine (get_any ⟨#[168]⟩ 5 3 3 _ (small (by decide))).mono ?_
  rintro e w5 ⟨rfl, b5⟩
  rw [px9]
  have x6 := X5.out.below b5
  have h0 := x6.c0; have h1 := x6.c1
  have B6 := Lib.hid ((B5.out.alloc B5.out.size (.cells #[.string S, .int .i64 K] 23)).trans (b5.mono (by have := B5.out.size; simp; omega)))
  clear b5 x6 X5 B5 e0 e1 g0 g1
  go_wp2_with fail
  refine (check_any ⟨#[]⟩ 1 _ (small (by decide))).mono ?_
  rintro e w6 ⟨rfl, b6⟩
  rw [px10]
  have B7 := Lib.hid (B6.out.trans (b6.mono B6.out.size))
  clear b6 B6 h0 h1
  go_wp2_with fail
  go_ret
  exact ⟨rfl, B7.out⟩
end Go.Proofs.Ytbbokhelmhmgfaa.Bt

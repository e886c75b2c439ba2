/- The walk of the law BitsPuts. -/
import Derived.Test.YtbbokhelmhmgfaaBitPutR
import Derived.Test.YtbbokhelmhmgfaaBitBack
namespace Go.Proofs.Ytbbokhelmhmgfaa.Bt
open Go.RowKit

set_option maxHeartbeats 8000000 in
set_option maxRecDepth 100000 in
theorem puts_law (s : ByteArray) (n : Int) (v : Nat) (r a : Int) (w : World) (hs : s.size ≤ maxLen) (hv : v < 18446744073709551616) :
    Calls Try.prog 3 #[.agg #[.string s, .int .i64 n], .int .u64 v, .int .i64 r, .int .i64 a] w fun e w' => e = .returned (.bool true) ∧ Below w.heap.size w w' := by
  have hbx : Below w.heap.size w (w.alloc (.cells #[.string s, .int .i64 n] 23)) := (Below.refl _ _).alloc (Nat.le_refl _) _
  obtain ⟨S, hS⟩ : ∃ S, S = putS s n v r := ⟨_, rfl⟩
  obtain ⟨K, hK⟩ : ∃ K, K = putN s n v r := ⟨_, rfl⟩
  obtain ⟨E, hE⟩ : ∃ E, E = putE s n v r := ⟨_, rfl⟩
  obtain ⟨F, hF⟩ : ∃ F, F = getE s n a r := ⟨_, rfl⟩
  obtain ⟨V, hV⟩ : ∃ V, V = getV s n a r := ⟨_, rfl⟩
  have HH := Lib.hid hE; have HS := Lib.hid hS; have HK := Lib.hid hK; have HF := Lib.hid hF; have HV := Lib.hid hV
  clear hS hK hE hF hV
  go_enter Try.func3, Try.ntmps3
  go_wp2_with fail
  refine (put_top s n v r _ hs hv).mono ?_
  rintro e w1 ⟨rfl, b1⟩
  have x1 := (Box.new w s n).below b1
  have B1 := Lib.hid (hbx.trans (b1.mono (by simp)))
  have c0 := x1.c0; have c1 := x1.c1
  rw [← HH.out, ← HS.out, ← HK.out]
  have x2 := x1.alloc (.cells #[.string S, .int .i64 K] 23)
  have y2 := Box.new w1 S K
  have d0 := x2.c0; have d1 := x2.c1
  have B2 := Lib.hid (B1.out.alloc B1.out.size (.cells #[.string S, .int .i64 K] 23))
  have X1 := Lib.hid x2; have Y1 := Lib.hid y2
  clear b1 x1 x2 y2 hbx c0 c1
  go_wp2_with fail
  refine (rput_any s n v r _ hs hv).mono ?_
  rintro e w2 ⟨rfl, b3⟩
  rw [← HH.out, ← HS.out, ← HK.out]
  have B3 := Lib.hid (B2.out.trans (b3.mono B2.out.size))
  have x3 := X1.out.below b3; have y3 := Y1.out.below b3
  have z3 := y3.lt
  have x4 := x3.alloc (.cells #[.string S, .int .i64 K] 23); have y4 := y3.alloc (.cells #[.string S, .int .i64 K] 23); have u4 := Box.new w2 S K
  have e0 := x4.c0; have e1 := x4.c1
  have B4 := Lib.hid (B3.out.alloc B3.out.size (.cells #[.string S, .int .i64 K] 23))
  have X4 := Lib.hid x4; have Y4 := Lib.hid y4; have U4 := Lib.hid u4
  clear b3 x3 y3 x4 y4 u4 d0 d1 X1 Y1 B2 B3
  go_wp2_with fail
  refine (get_any s n a r _ hs).mono ?_
  rintro e v1 ⟨rfl, b⟩
  rw [← HV.out, ← HF.out]
  have Xv1 := Lib.hid (X4.out.below b); have Yv1 := Lib.hid (Y4.out.below b); have Uv1 := Lib.hid (U4.out.below b)
  have Bv1 := Lib.hid (B4.out.trans (b.mono B4.out.size))
  have c0v1 := Xv1.out.c0; have c1v1 := Xv1.out.c1; have d0v1 := Yv1.out.c0; have d1v1 := Yv1.out.c1; have f0v1 := Uv1.out.c0; have f1v1 := Uv1.out.c1
  clear b X4 Y4 U4 B4 e0 e1
  go_wp2_with fail
  refine (rget_any s n a r _ hs).mono ?_
  rintro e v2 ⟨rfl, b⟩
  rw [← HV.out, ← HF.out]
  have Xv2 := Lib.hid (Xv1.out.below b); have Yv2 := Lib.hid (Yv1.out.below b); have Uv2 := Lib.hid (Uv1.out.below b)
  have Bv2 := Lib.hid (Bv1.out.trans (b.mono Bv1.out.size))
  have c0v2 := Xv2.out.c0; have c1v2 := Xv2.out.c1; have d0v2 := Yv2.out.c0; have d1v2 := Yv2.out.c1; have f0v2 := Uv2.out.c0; have f1v2 := Uv2.out.c1
  clear b Xv1 Yv1 Uv1 Bv1 c0v1 c1v1 d0v1 d1v1 f0v1 f1v1
  go_wp2_with fail
  obtain ⟨BB, hBB⟩ : ∃ BB : World → Prop, BB = fun W => Box W w.heap.size s n ∧ Box W w1.heap.size S K ∧ Box W w2.heap.size S K ∧ Below w.heap.size w W := ⟨_, rfl⟩
  have hK : ∀ W, BB W → BB W ∧ W.cell? ⟨w.heap.size, 0, none⟩ = some (.string s) ∧ W.cell? ⟨w.heap.size, 1, none⟩ = some (.int .i64 n) ∧ W.cell? ⟨w1.heap.size, 0, none⟩ = some (.string S) ∧ W.cell? ⟨w1.heap.size, 1, none⟩ = some (.int .i64 K) ∧ W.cell? ⟨w2.heap.size, 0, none⟩ = some (.string S) ∧ W.cell? ⟨w2.heap.size, 1, none⟩ = some (.int .i64 K) := by
    intro W h
    refine ⟨h, ?_⟩
    rw [hBB] at h
    exact ⟨h.1.c0, h.1.c1, h.2.1.c0, h.2.1.c1, h.2.2.1.c0, h.2.2.1.c1⟩
  have hL : ∀ W W' : World, BB W → Below W.heap.size W W' → BB W' := by
    intro W W' h hb
    rw [hBB] at h ⊢
    exact ⟨h.1.below hb, h.2.1.below hb, h.2.2.1.below hb, h.2.2.2.trans (hb.mono h.2.2.2.size)⟩
  have hD : ∀ W, BB W → BB W.drew := fun W h => hL W _ h (Below.drew (Below.refl _ W))
  have hE : ∀ W, BB W → Below w.heap.size w W := by
    intro W h
    rw [hBB] at h
    exact h.2.2.2
  have h0 : BB v2 := by rw [hBB]; exact ⟨Xv2.out, Yv2.out, Uv2.out, Bv2.out⟩
  have HK := Lib.hid hK; have HL := Lib.hid hL; have HD := Lib.hid hD; have HE := Lib.hid hE; have H0 := Lib.hid h0
  clear hBB hK hL hD hE h0 Xv2 Yv2 Uv2 Bv2
  go_region_held3 (fun W => BB W ∧ W.cell? ⟨w.heap.size, 0, none⟩ = some (.string s) ∧ W.cell? ⟨w.heap.size, 1, none⟩ = some (.int .i64 n) ∧ W.cell? ⟨w1.heap.size, 0, none⟩ = some (.string S) ∧ W.cell? ⟨w1.heap.size, 1, none⟩ = some (.int .i64 K) ∧ W.cell? ⟨w2.heap.size, 0, none⟩ = some (.string S) ∧ W.cell? ⟨w2.heap.size, 1, none⟩ = some (.int .i64 K)) ((refine HK.out _ ?_; repeat (first | exact H0.out | assumption | apply HD.out))) (first | (go_at_call 13; ((with_reducible refine (puts_any _).mono ?_)); rintro e w' ⟨rfl, hb⟩; have hw := HL.out _ _ (by repeat (first | exact H0.out | assumption | apply HD.out)) hb; clear hb) | (go_at_call 14; ((with_reducible refine (check_any s n _ hs).mono ?_)); rintro e w' ⟨rfl, hb⟩; have hw := HL.out _ _ (by repeat (first | exact H0.out | assumption | apply HD.out)) hb; clear hb) | (go_at_call 15; ((with_reducible refine (rcheck_any s n _ hs).mono ?_)); rintro e w' ⟨rfl, hb⟩; have hw := HL.out _ _ (by repeat (first | exact H0.out | assumption | apply HD.out)) hb; clear hb))
  all_goals go_wp2_with fail
  all_goals go_ret
  all_goals exact ⟨rfl, HE.out _ (by repeat (first | exact H0.out | assumption | apply HD.out))⟩
end Go.Proofs.Ytbbokhelmhmgfaa.Bt

/- LoserMakes: the law's walk. -/
import Derived.Test.YthkgdjclgphodaaLsRefC
namespace Go.Proofs.Ythkgdjclgphodaa.Ls
open Go.RowKit Rw Nm

section
variable {K : Keys} {p : Option Addr} {c : Nat} {w : World}
set_option maxHeartbeats 4000000 in
set_option maxRecDepth 100000 in
theorem makes_law (h : RecsAt w p K) (hkb : Kb K) (hn0 : K.length ≤ maxLen) :
    Calls Try.prog 3 #[.slice p K.length c] w fun e w' => e = .returned (.bool true) ∧ Below w.heap.size w w' := by
  have hn1 : K.length ≤ 9223372036854775807 := by unfold maxLen at hn0; omega
  have HM := Lib.hid (make_any (c := c) h hn1 hkb)
  have HR : Hid (∀ W, Below w.heap.size w W → Calls Try.prog 9 #[.slice p K.length c] W fun e w' => TrP W (mkK K) (mkE K) e w') := Lib.hid fun W hW => rmake_any (h.below hW) hn1 hkb
  obtain ⟨n, hn⟩ : ∃ n, n = K.length := ⟨_, rfl⟩
  obtain ⟨K2, hK2⟩ : ∃ K2, K2 = mkK K := ⟨_, rfl⟩
  obtain ⟨r, hr⟩ : ∃ r, r = mkE K := ⟨_, rfl⟩
  obtain ⟨n2, hn2⟩ : ∃ n, n = K2.length := ⟨_, rfl⟩
  obtain ⟨m2, hm2⟩ : ∃ n, n = (up (build K2)).length := ⟨_, rfl⟩
  rw [← hn] at HM HR ⊢
  rw [← hK2, ← hr] at HM HR
  have HN := Lib.hid hn2; have HL := Lib.hid hm2
  clear h hkb hn0 hn1 hn hK2 hr hn2 hm2
  go_enter Try.func3, Try.ntmps3
  go_wp2_with fail
  refine HM.out.mono ?_
  rintro e w1 ⟨p1, c1, q1, d1, rfl, hls1, hb⟩
  rw [← HN.out, ← HL.out]
  obtain ⟨W1, hW1⟩ : ∃ W, W = w1.alloc (.cells #[.slice p1 n2 c1, .slice q1 m2 d1] 25) := ⟨_, rfl⟩
  have k1 : Below w1.heap.size w1 W1 := by rw [hW1]; exact (Below.refl _ _).alloc (Nat.le_refl _) _
  have x1 := Bx.new w1 #[.slice p1 n2 c1, .slice q1 m2 d1] 25
  rw [← hW1] at x1
  have B1 := Lib.hid (hb.trans (k1.mono hb.size)); have X1 := Lib.hid x1; have L1 := Lib.hid (hls1.below k1); have HW1 := Lib.hid hW1
  clear HM hb hls1 hW1 k1 x1
  go_wp2_with fail
  rw [← HW1.out]
  refine (HR.out _ B1.out).mono ?_
  rintro e w2 ⟨p2, c2, q2, d2, rfl, hls2, hb⟩
  rw [← HN.out, ← HL.out]
  obtain ⟨W2, hW2⟩ : ∃ W, W = w2.alloc (.cells #[.slice p2 n2 c2, .slice q2 m2 d2] 25) := ⟨_, rfl⟩
  have k2 : Below w2.heap.size w2 W2 := by rw [hW2]; exact (Below.refl _ _).alloc (Nat.le_refl _) _
  have x2 := Bx.new w2 #[.slice p2 n2 c2, .slice q2 m2 d2] 25
  rw [← hW2] at x2
  have hb2 := hb.trans (k2.mono hb.size)
  have B2 := Lib.hid (B1.out.trans (hb2.mono B1.out.size)); have X2 := Lib.hid x2; have L2 := Lib.hid (hls2.below k2); have HW2 := Lib.hid hW2
  have X1b := Lib.hid (X1.out.below hb2); have L1b := Lib.hid (L1.out.below hb2)
  clear HR hb hb2 hls2 hW2 k2 x2 B1 X1 L1 HW1
  go_wp2_with fail
  rw [← HW2.out]
  refine (lives_any _).mono ?_
  rintro e w3 ⟨rfl, hb⟩
  have B3 := Lib.hid (B2.out.trans (hb.mono B2.out.size))
  have u0 : w3.cell? ⟨w1.heap.size, 0, none⟩ = some (.slice p1 n2 c1) := (X1b.out.below hb).cell 0 (by simp)
  have u1 : w3.cell? ⟨w1.heap.size, 1, none⟩ = some (.slice q1 m2 d1) := (X1b.out.below hb).cell 1 (by simp)
  have v0 : w3.cell? ⟨w2.heap.size, 0, none⟩ = some (.slice p2 n2 c2) := (X2.out.below hb).cell 0 (by simp)
  have v1 : w3.cell? ⟨w2.heap.size, 1, none⟩ = some (.slice q2 m2 d2) := (X2.out.below hb).cell 1 (by simp)
  have HS : Hid (Calls Try.prog 11 #[.agg #[.slice p1 n2 c1, .slice q1 m2 d1], .agg #[.slice p2 n2 c2, .slice q2 m2 d2]] w3 fun e w' => e = .returned (.bool true) ∧ Below w3.heap.size w3 w') := Lib.hid (by
    have := rsame_any (c1 := c1) (c2 := c2) (d1 := d1) (d2 := d2) (L1b.out.below hb) (L2.out.below hb)
    rw [decide_eq_true ⟨rfl, rfl⟩, ← HN.out, ← HL.out] at this
    exact this)
  clear hb B2 X2 L2 HW2 X1b L1b
  go_wp2_with (go_at_call 11; refine HS.out.mono ?_; rintro e w4 ⟨rfl, hb⟩; have B4 := Lib.hid (B3.out.trans (hb.mono B3.out.size)); clear hb)
  go_ret
  exact ⟨by first | rfl | simp, B4.out⟩
end
end Go.Proofs.Ythkgdjclgphodaa.Ls

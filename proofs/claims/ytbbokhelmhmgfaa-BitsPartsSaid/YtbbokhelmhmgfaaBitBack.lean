/- The walk of the law BitsBack. -/
import Derived.Test.YtbbokhelmhmgfaaBitLong
namespace Go.Proofs.Ytbbokhelmhmgfaa.Bt
open Go.RowKit

theorem bytes_mk (l : List UInt8) : bytes (⟨l.toArray⟩ : ByteArray) = l := by simp [bytes]
theorem packS_packs (X : List Bool) : Packs (bytes (packS X)) X := by unfold packS; rw [bytes_mk]; exact pack_packs X
theorem packS_chk {X : List Bool} (h : X.length ≤ 1048576) : chk (packS X) X.length = 0 := if_pos ((packS_packs X).right h)
theorem packS_size {X : List Bool} (h : X.length ≤ 1048576) : (packS X).size ≤ 200000 := size_small ((packS_packs X).right h)
theorem packS_bits (X : List Bool) : bl (bytes (packS X)) X.length = X := (packS_packs X).bitsOf
theorem put_zero {s : ByteArray} {n : Int} {v : Nat} {r : Int} (h : putE s n v r = 0) : chk s n = 0 ∧ 0 ≤ r ∧ r ≤ 64 ∧ v < 2 ^ r.toNat ∧ n + r ≤ 1048576 := by
  unfold putE at h
  split at h
  · cases h
  · split at h
    · cases h
    · split at h
      · cases h
      · rename_i h1 h2 h3
        refine ⟨by omega, by omega, by omega, ?_, by omega⟩
        exact (div_zero_iff v _).1 (by omega)
theorem put_cases (s : ByteArray) (n : Int) (v : Nat) (r : Int) : putE s n v r = 0 ∨ putE s n v r = 2 ∨ (putE s n v r ≠ 0 ∧ putE s n v r ≠ 2 ∧ putS s n v r = s ∧ putN s n v r = n) := by
  by_cases h0 : putE s n v r = 0
  · exact .inl h0
  · by_cases h2 : putE s n v r = 2
    · exact .inr (.inl h2)
    · exact .inr (.inr ⟨h0, h2, by unfold putS; rw [if_neg h0, if_neg h2], by unfold putN; rw [if_neg h0, if_neg h2]⟩)
/-- what was put is got -/
theorem back_got {s : ByteArray} {n : Int} {v : Nat} {r : Int} (h : putE s n v r = 0) : getE (putS s n v r) (putN s n v r) n r = 0 ∧ getV (putS s n v r) (putN s n v r) n r = v ∧ chk (putS s n v r) (putN s n v r) = 0 ∧ putN s n v r = n + r ∧ (putS s n v r).size ≤ 200000 := by
  obtain ⟨h1, h2, h3, h4, h5⟩ := put_zero h
  have hR := chk_zero h1
  have hn := hR.1
  have eS : putS s n v r = packS (bl (bytes s) n.toNat ++ nbits v r.toNat) := if_pos h
  have eN : putN s n v r = n + r := if_pos h
  have hl : (bl (bytes s) n.toNat ++ nbits v r.toNat).length = n.toNat + r.toNat := by rw [List.length_append, bl_length, nbits_length]
  have hc : chk (putS s n v r) (putN s n v r) = 0 := by
    rw [eS, eN]
    have := packS_chk (X := bl (bytes s) n.toNat ++ nbits v r.toNat) (by omega)
    rw [hl] at this
    rw [show n + r = ((n.toNat + r.toNat : Nat) : Int) from by omega]; exact this
  have hg : getE (putS s n v r) (putN s n v r) n r = 0 := get_of hc h2 h3 hn (by omega) (by omega)
  refine ⟨hg, ?_, hc, eN, by rw [eS]; exact packS_size (by omega)⟩
  unfold getV
  rw [if_pos hg, eS, eN, show (n + r).toNat = (bl (bytes s) n.toNat ++ nbits v r.toNat).length from by omega, packS_bits]
  rw [List.drop_append_of_le_length (by rw [bl_length]; exact Nat.le_refl _), List.drop_eq_nil_of_le (by rw [bl_length]; exact Nat.le_refl _), List.nil_append, List.take_of_length_le (by rw [nbits_length]; exact Nat.le_refl _), num_nbits _ _ h4]
/-- what was there stays -/
theorem back_stays {s : ByteArray} {n : Int} {v : Nat} {r a q : Int} (h : putE s n v r = 0) (hg : getE s n a q = 0) : getE (putS s n v r) (putN s n v r) a q = 0 ∧ getV (putS s n v r) (putN s n v r) a q = getV s n a q := by
  obtain ⟨h1, h2, h3, h4, h5⟩ := put_zero h
  have hb := back_got h
  obtain ⟨g1, g2, g3, g4, g5, g6, g7⟩ := get_zero hg
  have hc := hb.2.2.1
  have eN : putN s n v r = n + r := if_pos h
  have hg2 : getE (putS s n v r) (putN s n v r) a q = 0 := get_of hc g2 g3 g4 (by omega) (by omega)
  refine ⟨hg2, ?_⟩
  have eS : putS s n v r = packS (bl (bytes s) n.toNat ++ nbits v r.toNat) := if_pos h
  have hl : (bl (bytes s) n.toNat ++ nbits v r.toNat).length = n.toNat + r.toNat := by rw [List.length_append, bl_length, nbits_length]
  unfold getV
  rw [if_pos hg2, if_pos hg, eS, eN, show (n + r).toNat = (bl (bytes s) n.toNat ++ nbits v r.toNat).length from by omega, packS_bits]
  rw [List.drop_append_of_le_length (by rw [bl_length]; omega), List.take_append_of_le_length (by rw [List.length_drop, bl_length]; omega)]

set_option maxHeartbeats 4000000 in
set_option maxRecDepth 100000 in
theorem back_law (s : ByteArray) (n : Int) (v : Nat) (r a q : Int) (w : World) (hs : s.size ≤ maxLen) (hv : v < 18446744073709551616) :
    Calls Try.prog 5 #[.agg #[.string s, .int .i64 n], .int .u64 v, .int .i64 r, .int .i64 a, .int .i64 q] w fun e w' => e = .returned (.bool true) ∧ Below w.heap.size w w' := by
  have hbx : Below w.heap.size w (w.alloc (.cells #[.string s, .int .i64 n] 23)) := (Below.refl _ _).alloc (Nat.le_refl _) _
  rcases put_cases s n v r with h0 | h2 | ⟨h0, h2, hS, hN⟩
  case inr.inl =>
    obtain ⟨S, hS⟩ : ∃ S, S = putS s n v r := ⟨_, rfl⟩
    obtain ⟨K, hK⟩ : ∃ K, K = putN s n v r := ⟨_, rfl⟩
    have HH := Lib.hid h2; have HS := Lib.hid hS; have HK := Lib.hid hK
    clear h2 hS hK
    go_enter Try.func5, Try.ntmps5
    go_wp2_with fail
    refine (puts_any _).mono ?_
    rintro e w1 ⟨rfl, b1⟩
    have x1 := (Box.new w s n).below b1
    have B1 := Lib.hid (hbx.trans (b1.mono (by simp)))
    have c0 := x1.c0; have c1 := x1.c1
    have X1 := Lib.hid x1
    clear b1 x1 hbx
    go_wp2_with fail
    refine (put_top s n v r _ hs hv).mono ?_
    rintro e w2 ⟨rfl, b2⟩
    have B2 := Lib.hid (B1.out.trans (b2.mono B1.out.size))
    have x2 := X1.out.below b2
    clear b2 X1 B1 c0 c1
    rw [HH.out, ← HS.out, ← HK.out]
    clear x2
    go_wp2_with fail
    go_ret
    exact ⟨rfl, B2.out.alloc B2.out.size _⟩
  case inr.inr =>
    obtain ⟨E, hE⟩ : ∃ E, E = putE s n v r := ⟨_, rfl⟩
    have e1 : (E != 0) = true := by rw [bne_iff_ne, hE]; exact h0
    have e2 : (E == 2) = false := by rw [beq_eq_false_iff_ne, hE]; exact h2
    have HH := Lib.hid hE; have HS := Lib.hid hS; have HN := Lib.hid hN
    clear hE hS hN h0 h2
    go_enter Try.func5, Try.ntmps5
    go_wp2_with fail
    refine (puts_any _).mono ?_
    rintro e w1 ⟨rfl, b1⟩
    have x1 := (Box.new w s n).below b1
    have B1 := Lib.hid (hbx.trans (b1.mono (by simp)))
    have c0 := x1.c0; have c1 := x1.c1
    have X1 := Lib.hid x1
    clear b1 x1 hbx
    go_wp2_with fail
    refine (put_top s n v r _ hs hv).mono ?_
    rintro e w2 ⟨rfl, b2⟩
    have B2 := Lib.hid (B1.out.trans (b2.mono B1.out.size))
    have x2 := X1.out.below b2
    clear b2 X1 B1 c0 c1
    rw [← HH.out, HS.out, HN.out]
    have x3 := x2.alloc (.cells #[.string s, .int .i64 n] 23)
    have d0 := x3.c0; have d1 := x3.c1
    clear x2 x3
    go_wp2_with fail
    go_ret
    exact ⟨rfl, B2.out.alloc B2.out.size _⟩
  obtain ⟨g1, g2, g3, g4, g5⟩ := back_got h0
  have hstay := fun h => back_stays (a := a) (q := q) h0 h
  obtain ⟨S, hS⟩ : ∃ S, S = putS s n v r := ⟨_, rfl⟩
  obtain ⟨K, hK⟩ : ∃ K, K = putN s n v r := ⟨_, rfl⟩
  rw [← hS, ← hK] at g1 g2 g3 hstay
  rw [← hK] at g4
  rw [← hS] at g5
  have hr := put_zero h0
  have hSm : S.size ≤ maxLen := by unfold maxLen; omega
  have hnr : K - n = r := by omega
  have hn0 := (chk_zero hr.1).1
  have hr0 : 0 ≤ r := hr.2.1
  have hr1 : r ≤ 64 := hr.2.2.1
  have hKb : K ≤ 1048576 := by omega
  have hnb : n ≤ 1048576 := by omega
  have HH := Lib.hid h0; have HS := Lib.hid hS; have HK := Lib.hid hK; have G1 := Lib.hid g1; have G2 := Lib.hid g2; have G3 := Lib.hid g3; have HNR := Lib.hid hnr
  have HST := Lib.hid hstay
  obtain ⟨V2, hV2⟩ : ∃ V2, V2 = getV s n a q := ⟨_, rfl⟩
  obtain ⟨E2, hE2⟩ : ∃ E2, E2 = getE s n a q := ⟨_, rfl⟩
  obtain ⟨V3, hV3⟩ : ∃ V3, V3 = getV S K a q := ⟨_, rfl⟩
  obtain ⟨E3, hE3⟩ : ∃ E3, E3 = getE S K a q := ⟨_, rfl⟩
  have hE : (E2 != 0) = true ∨ ((E2 != 0) = false ∧ E3 = 0 ∧ V2 = V3) := by
    by_cases h : E2 = 0
    · right
      have := hstay (by rw [← hE2]; exact h)
      exact ⟨by rw [bne_eq_false_iff_eq]; exact h, by rw [hE3]; exact this.1, by rw [hV2, hV3]; exact this.2.symm⟩
    · left; rw [bne_iff_ne]; exact h
  have HV2 := Lib.hid hV2; have HE2 := Lib.hid hE2; have HV3 := Lib.hid hV3; have HE3 := Lib.hid hE3
  clear h0 hS hK g1 g2 g3 g4 hstay hr hnr hV2 hE2 hV3 hE3 g5
  go_enter Try.func5, Try.ntmps5
  go_wp2_with fail
  refine (puts_any _).mono ?_
  rintro e w1 ⟨rfl, b1⟩
  have x1 := (Box.new w s n).below b1
  have B1 := Lib.hid (hbx.trans (b1.mono (by simp)))
  have c0 := x1.c0; have c1 := x1.c1
  have X1 := Lib.hid x1
  clear b1 x1 hbx
  go_wp2_with fail
  refine (put_top s n v r _ hs hv).mono ?_
  rintro e w2 ⟨rfl, b2⟩
  have B2 := Lib.hid (B1.out.trans (b2.mono B1.out.size))
  have x2 := X1.out.below b2
  clear b2 X1 B1 c0 c1
  rw [HH.out, ← HS.out, ← HK.out]
  have x3 := x2.alloc (.cells #[.string S, .int .i64 K] 23)
  have y3 := Box.new w2 S K
  have B3 := Lib.hid (B2.out.alloc B2.out.size (.cells #[.string S, .int .i64 K] 23))
  have d0 := x3.c0; have d1 := x3.c1; have d2 := y3.c0; have d3 := y3.c1
  have X3 := Lib.hid x3; have Y3 := Lib.hid y3
  clear x2 x3 y3 B2
  go_wp2_with fail
  refine (get_any S K n r _ hSm).mono ?_
  rintro e w3 ⟨rfl, b3⟩
  rw [G1.out, G2.out]
  have x4 := X3.out.below b3; have y4 := Y3.out.below b3
  have B4 := Lib.hid (B3.out.trans (b3.mono B3.out.size))
  have e0 := x4.c0; have e1 := x4.c1; have e2 := y4.c0; have e3 := y4.c1
  have X4 := Lib.hid x4; have Y4 := Lib.hid y4
  clear b3 x4 y4 X3 Y3 B3 d0 d1 d2 d3
  go_wp2_with fail
  refine (get_any s n a q _ hs).mono ?_
  rintro e w4 ⟨rfl, b4⟩
  rw [← HV2.out, ← HE2.out]
  have x5 := X4.out.below b4; have y5 := Y4.out.below b4
  have B5 := Lib.hid (B4.out.trans (b4.mono B4.out.size))
  have f0 := x5.c0; have f1 := x5.c1; have f2 := y5.c0; have f3 := y5.c1
  have X5 := Lib.hid x5; have Y5 := Lib.hid y5
  clear b4 x5 y5 X4 Y4 B4 e0 e1 e2 e3
  go_wp2_with fail
  refine (get_any S K a q _ hSm).mono ?_
  rintro e w5 ⟨rfl, b5⟩
  rw [← HV3.out, ← HE3.out]
  have x6 := X5.out.below b5; have y6 := Y5.out.below b5
  have B6 := Lib.hid (B5.out.trans (b5.mono B5.out.size))
  have k0 := x6.c0; have k1 := x6.c1; have k2 := y6.c0; have k3 := y6.c1
  clear b5 x6 y6 X5 Y5 B5 f0 f1 f2 f3
  have hnr := HNR.out
  rcases hE with hE | ⟨hE, rfl, rfl⟩
  · go_wp2_with fail
    refine (check_any S K _ hSm).mono ?_
    rintro e w6 ⟨rfl, b6⟩
    rw [G3.out]
    have B7 := Lib.hid (B6.out.trans (b6.mono B6.out.size))
    clear b6 B6
    go_wp2_with fail
    go_ret
    exact ⟨rfl, B7.out⟩
  · go_wp2_with fail
    refine (check_any S K _ hSm).mono ?_
    rintro e w6 ⟨rfl, b6⟩
    rw [G3.out]
    have B7 := Lib.hid (B6.out.trans (b6.mono B6.out.size))
    clear b6 B6
    go_wp2_with fail
    go_ret
    exact ⟨rfl, B7.out⟩
end Go.Proofs.Ytbbokhelmhmgfaa.Bt

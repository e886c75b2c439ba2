/- The walk of the law BitsLong. -/
import Derived.Test.YtbbokhelmhmgfaaBitLives
namespace Go.Proofs.Ytbbokhelmhmgfaa.Bt
open Go.RowKit

theorem get_zero {s : ByteArray} {n a r : Int} (h : getE s n a r = 0) : chk s n = 0 ∧ 0 ≤ r ∧ r ≤ 64 ∧ 0 ≤ a ∧ a ≤ n ∧ r ≤ n - a ∧ n ≤ 1048576 := by
  unfold getE at h
  split at h
  · cases h
  · rename_i h1
    have h1' : chk s n = 0 := by omega
    have h2 := (chk_zero h1').2.1
    split at h
    · cases h
    · split at h
      · cases h
      · omega
theorem get_of {s : ByteArray} {n a r : Int} (h1 : chk s n = 0) (h2 : 0 ≤ r) (h3 : r ≤ 64) (h4 : 0 ≤ a) (h5 : a ≤ n) (h6 : r ≤ n - a) : getE s n a r = 0 := by
  unfold getE; rw [if_neg (by omega), if_neg (by omega), if_neg (by omega)]
theorem getV_zero {s : ByteArray} {n a r : Int} (h : getE s n a r ≠ 0) : getV s n a r = 0 := if_neg h
theorem getV_lt (s : ByteArray) (n a r : Int) : getV s n a r < 2 ^ r.toNat := by
  unfold getV
  split
  · exact num_take_lt _ _ _
  · exact Nat.two_pow_pos _
theorem getV_split {s : ByteArray} {n a p q : Int} (h : getE s n a (p + q) = 0) (hp : 0 ≤ p) (hq : 0 ≤ q) :
    getV s n a (p + q) = getV s n a p * 2 ^ q.toNat + getV s n (a + p) q := by
  obtain ⟨h1, h2, h3, h4, h5, h6, _⟩ := get_zero h
  have e2 : getE s n a p = 0 := get_of h1 hp (by omega) h4 h5 (by omega)
  have e3 : getE s n (a + p) q = 0 := get_of h1 hq (by omega) (by omega) (by omega) (by omega)
  unfold getV
  rw [if_pos h, if_pos e2, if_pos e3]
  rw [show (p + q).toNat = p.toNat + q.toNat from by omega, show (a + p).toNat = a.toNat + p.toNat from by omega, take_add, num_append]
  congr 2
  have hl := bl_length (bytes s) n.toNat
  rw [List.length_take, List.length_drop, hl]
  congr 1; omega
theorem join_val (x y q : Nat) (hx : x < 4294967296) (hy : y < 2 ^ q) (hq : q ≤ 32) :
    bits .or .u64 (IntKind.u64.wrap ((x : Int) * 2 ^ q)) (y : Int) = ((x * 2 ^ q + y : Nat) : Int) := by
  have h1 : (2 : Nat) ^ q ≤ 2 ^ 32 := Nat.pow_le_pow_right (by decide) hq
  have h2 : (2 : Nat) ^ 32 = 4294967296 := by decide
  have h3 : x * 2 ^ q ≤ 4294967295 * 4294967296 := Nat.mul_le_mul (by omega) (by omega)
  have e1 : ((x : Int) * 2 ^ q) = ((x * 2 ^ q : Nat) : Int) := by simp
  rw [e1, wrap_nat (by omega), u64_or_nat _ _ (by omega) (by omega), nat_join q _ _ (Nat.mul_mod_left _ _) hy]

set_option maxHeartbeats 4000000 in
theorem long_law (s : ByteArray) (n a p q : Int) (w : World) (hs : s.size ≤ maxLen) :
    Calls Try.prog 8 #[.agg #[.string s, .int .i64 n], .int .i64 a, .int .i64 p, .int .i64 q] w fun e w' => e = .returned (.bool true) ∧ Below w.heap.size w w' := by
  have hbx : Below w.heap.size w (w.alloc (.cells #[.string s, .int .i64 n] 23)) := (Below.refl _ _).alloc (Nat.le_refl _) _
  by_cases g1 : p < 0
  · go_enter Try.func8, Try.ntmps8
    go_wp2_with fail
    refine (puts_any _).mono ?_
    rintro e w1 ⟨rfl, b1⟩
    have x1 := (Box.new w s n).below b1
    have B1 := Lib.hid (hbx.trans (b1.mono (by simp)))
    have c0 := x1.c0; have c1 := x1.c1
    have X1 := Lib.hid x1
    clear b1 x1 hbx
    go_wp2_with fail
    go_ret
    exact ⟨rfl, B1.out⟩
  by_cases g2 : q < 0
  · go_enter Try.func8, Try.ntmps8
    go_wp2_with fail
    refine (puts_any _).mono ?_
    rintro e w1 ⟨rfl, b1⟩
    have x1 := (Box.new w s n).below b1
    have B1 := Lib.hid (hbx.trans (b1.mono (by simp)))
    have c0 := x1.c0; have c1 := x1.c1
    have X1 := Lib.hid x1
    clear b1 x1 hbx
    go_wp2_with fail
    go_ret
    exact ⟨rfl, B1.out⟩
  by_cases g3 : 32 < p
  · go_enter Try.func8, Try.ntmps8
    go_wp2_with fail
    refine (puts_any _).mono ?_
    rintro e w1 ⟨rfl, b1⟩
    have x1 := (Box.new w s n).below b1
    have B1 := Lib.hid (hbx.trans (b1.mono (by simp)))
    have c0 := x1.c0; have c1 := x1.c1
    have X1 := Lib.hid x1
    clear b1 x1 hbx
    go_wp2_with fail
    go_ret
    exact ⟨rfl, B1.out⟩
  by_cases g4 : 32 < q
  · go_enter Try.func8, Try.ntmps8
    go_wp2_with fail
    refine (puts_any _).mono ?_
    rintro e w1 ⟨rfl, b1⟩
    have x1 := (Box.new w s n).below b1
    have B1 := Lib.hid (hbx.trans (b1.mono (by simp)))
    have c0 := x1.c0; have c1 := x1.c1
    have X1 := Lib.hid x1
    clear b1 x1 hbx
    go_wp2_with fail
    go_ret
    exact ⟨rfl, B1.out⟩
  obtain ⟨p, rfl⟩ := Int.eq_ofNat_of_zero_le (show 0 ≤ p by omega)
  obtain ⟨q, rfl⟩ := Int.eq_ofNat_of_zero_le (show 0 ≤ q by omega)
  by_cases hE : getE s n a ((p : Int) + (q : Int)) = 0
  case neg =>
    have hV : getV s n a ((p : Int) + (q : Int)) = 0 := getV_zero hE
    have hne : (getE s n a ((p : Int) + (q : Int)) != 0) = true := by rw [bne_iff_ne]; exact hE
    obtain ⟨E1, hE1⟩ : ∃ E1, E1 = getE s n a ((p : Int) + (q : Int)) := ⟨_, rfl⟩
    rw [← hE1] at hne
    have HE1 := Lib.hid hE1; have HV := Lib.hid hV
    clear hE hV hE1
    go_enter Try.func8, Try.ntmps8
    go_wp2_with fail
    refine (puts_any _).mono ?_
    rintro e w1 ⟨rfl, b1⟩
    have x1 := (Box.new w s n).below b1
    have B1 := Lib.hid (hbx.trans (b1.mono (by simp)))
    have c0 := x1.c0; have c1 := x1.c1
    have X1 := Lib.hid x1
    clear b1 x1 hbx
    go_wp2_with fail
    refine (get_any s n a _ _ hs).mono ?_
    rintro e w2 ⟨rfl, b2⟩
    rw [HV.out, ← HE1.out]
    have x2 := X1.out.below b2
    have d0 := x2.c0; have d1 := x2.c1
    have B2 := Lib.hid (B1.out.trans (b2.mono B1.out.size))
    clear b2 x2 X1 B1 c0 c1
    go_wp2_with fail
    refine (get_any s n a _ _ hs).mono ?_
    rintro e w3 ⟨rfl, b3⟩
    obtain ⟨V2, hV2⟩ : ∃ V2, V2 = getV s n a p := ⟨_, rfl⟩
    obtain ⟨E2, hE2⟩ : ∃ E2, E2 = getE s n a p := ⟨_, rfl⟩
    rw [← hV2, ← hE2]
    have B3 := Lib.hid (B2.out.trans (b3.mono B2.out.size))
    clear b3 hV2 hE2 B2
    go_wp2_with fail
    go_ret
    exact ⟨rfl, B3.out⟩
  have hz := get_zero hE
  have hE2 : getE s n a p = 0 := get_of hz.1 (by omega) (by omega) hz.2.2.2.1 hz.2.2.2.2.1 (by omega)
  have hE3 : getE s n (a + p) q = 0 := get_of hz.1 (by omega) (by omega) (by omega) (by omega) (by omega)
  have hsp := getV_split hE (show (0 : Int) ≤ p by omega) (show (0 : Int) ≤ q by omega)
  rw [Int.toNat_natCast] at hsp
  have hl1 := getV_lt s n a p
  have hl2 := getV_lt s n (a + p) q
  rw [Int.toNat_natCast] at hl1 hl2
  obtain ⟨x, hx⟩ : ∃ x, x = getV s n a p := ⟨_, rfl⟩
  obtain ⟨y, hy⟩ : ∃ y, y = getV s n (a + p) q := ⟨_, rfl⟩
  rw [← hx] at hl1 hsp
  rw [← hy] at hl2 hsp
  have hx32 : x < 4294967296 := by
    have h1 : (2 : Nat) ^ p ≤ 2 ^ 32 := Nat.pow_le_pow_right (by decide) (by omega)
    have h2 : (2 : Nat) ^ 32 = 4294967296 := by decide
    omega
  have hj := join_val x y q hx32 hl2 (by omega)
  obtain ⟨V, hV⟩ : ∃ V, V = x * 2 ^ q + y := ⟨_, rfl⟩
  rw [← hV] at hsp hj
  have a0 : 0 ≤ a := hz.2.2.2.1
  have a1 : a ≤ 1048576 := by omega
  have HE := Lib.hid hE; have HE2 := Lib.hid hE2; have HE3 := Lib.hid hE3; have HSP := Lib.hid hsp; have HXX := Lib.hid hx; have HYY := Lib.hid hy
  clear hE hE2 hE3 hsp hx hy hz hl1 hl2 hV hx32
  go_enter Try.func8, Try.ntmps8
  go_wp2_with fail
  refine (puts_any _).mono ?_
  rintro e w1 ⟨rfl, b1⟩
  have x1 := (Box.new w s n).below b1
  have B1 := Lib.hid (hbx.trans (b1.mono (by simp)))
  have c0 := x1.c0; have c1 := x1.c1
  have X1 := Lib.hid x1
  clear b1 x1 hbx
  go_wp2_with fail
  refine (get_any s n a _ _ hs).mono ?_
  rintro e w2 ⟨rfl, b2⟩
  rw [HSP.out, HE.out]
  have x2 := X1.out.below b2
  have d0 := x2.c0; have d1 := x2.c1
  have B2 := Lib.hid (B1.out.trans (b2.mono B1.out.size))
  have X2 := Lib.hid x2
  clear b2 x2 X1 B1 c0 c1
  go_wp2_with fail
  refine (get_any s n a _ _ hs).mono ?_
  rintro e w3 ⟨rfl, b3⟩
  rw [HE2.out, ← HXX.out]
  have x3 := X2.out.below b3
  have d0 := x3.c0; have d1 := x3.c1
  have B3 := Lib.hid (B2.out.trans (b3.mono B2.out.size))
  clear b3 x3 X2 B2
  go_wp2_with fail
  refine (get_any s n (a + p) _ _ hs).mono ?_
  rintro e w4 ⟨rfl, b4⟩
  rw [HE3.out, ← HYY.out]
  have B4 := Lib.hid (B3.out.trans (b4.mono B3.out.size))
  clear b4 B3 d0 d1
  go_wp2_with fail
  go_ret
  exact ⟨rfl, B4.out⟩
end Go.Proofs.Ytbbokhelmhmgfaa.Bt

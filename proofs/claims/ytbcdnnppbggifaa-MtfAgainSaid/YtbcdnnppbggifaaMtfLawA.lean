/- The law MtfAgain. -/
import Derived.Test.YtbcdnnppbggifaaMtfLawB
namespace Go.Proofs.Ytbcdnnppbggifaa.Mt
open Go.RowKit Go.Lib Rw Nm Ls Od

set_option maxHeartbeats 4000000 in
set_option maxRecDepth 100000 in
theorem again_bad (r s : ByteArray) (w : World) (hg : ¬ (Row 256 (bsN r) ∧ s.size ≤ 65536)) :
    Calls Try.prog 6 #[.string r, .string s] w fun e w' => e = .returned (.bool true) ∧ Below w.heap.size w w' := by
  have CL := Lib.hid (fun W => lives_any W)
  obtain ⟨x, hx, e⟩ := mv_bad hg
  have CA0 := fun W => pmv_any r s W
  rw [e] at CA0
  have CA := Lib.hid CA0
  clear CA0 e hg
  rcases hx with rfl | rfl
  all_goals
    have B : Hid (Below w.heap.size w w) := Lib.hid (Below.refl _ _)
    go_enter Try.func6, Try.ntmps6
    go_wp2_with fail
    refine (CL.out _).mono ?_
    rintro e w0 ⟨rfl, b⟩
    replace B := Lib.hid (B.out.trans (b.mono B.out.size))
    clear b
    go_wp2_with fail
    refine (CA.out _).mono ?_
    rintro e w1 ⟨rfl, b⟩
    replace B := Lib.hid (B.out.trans (b.mono B.out.size))
    clear b
    go_wp2_with fail
    go_ret
    exact ⟨rfl, B.out⟩
set_option maxHeartbeats 4000000 in
set_option maxRecDepth 100000 in
theorem again_none (r : ByteArray) (w : World) (h1 : Row 256 (bsN r)) :
    Calls Try.prog 6 #[.string r, .string ⟨#[]⟩] w fun e w' => e = .returned (.bool true) ∧ Below w.heap.size w w' := by
  have CL := Lib.hid (fun W => lives_any W)
  have CA0 := fun W => pmv_any r ⟨#[]⟩ W
  rw [mv_good h1 (by decide), show bsN ⟨#[]⟩ = [] from rfl] at CA0
  have e1 : ofN (mv (bsN r) []).1 = ⟨#[]⟩ := rfl
  have e2 : ofN (mv (bsN r) []).2 = r := ofN_bsN r
  rw [e1, e2] at CA0
  have CA := Lib.hid CA0
  clear CA0 e1 e2 h1
  have B : Hid (Below w.heap.size w w) := Lib.hid (Below.refl _ _)
  go_enter Try.func6, Try.ntmps6
  go_wp2_with fail
  refine (CL.out _).mono ?_
  rintro e w0 ⟨rfl, b⟩
  replace B := Lib.hid (B.out.trans (b.mono B.out.size))
  clear b
  go_wp2_with fail
  refine (CA.out _).mono ?_
  rintro e w1 ⟨rfl, b⟩
  replace B := Lib.hid (B.out.trans (b.mono B.out.size))
  clear b
  obtain ⟨W1, hW1⟩ : ∃ W1, W1 = w1 := ⟨_, rfl⟩
  rw [← hW1] at B ⊢
  clear hW1
  go_wp2_with fail
  go_loopw [8] (fun i wr => i = .int .i64 1 ∧ wr = W1) (fun i _ => (2 : Nat))
  case atStart => exact ⟨rfl, rfl⟩
  case round =>
    obtain ⟨rfl, hw⟩ := hrel
    have B9 : Hid (Below w.heap.size w wr) := Lib.hid (by rw [hw]; exact B.out)
    clear hw
    go_wp2_with fail
    go_quiet (fail)
    go_wp2_with fail
    go_ret
    exact ⟨rfl, below_drewN B9.out _⟩
set_option maxHeartbeats 4000000 in
set_option maxRecDepth 100000 in
theorem again_some (r s : ByteArray) (w : World) (h1 : Row 256 (bsN r)) (h2 : s.size ≤ 65536) (h0 : 0 < s.size) :
    Calls Try.prog 6 #[.string r, .string s] w fun e w' => e = .returned (.bool true) ∧ Below w.heap.size w w' := by
  have CL := Lib.hid (fun W => lives_any W)
  have hs := bsN_lt s
  have hsl := bsN_length s
  have CA0 := fun W => pmv_any r s W
  rw [mv_good h1 h2] at CA0
  have eA : bsN (ofN (mv (bsN r) (bsN s)).1) = (mv (bsN r) (bsN s)).1 := bsN_ofN (mv_lt _ _ h1 hs)
  have eR : bsN (ofN (mv (bsN r) (bsN s)).2) = (mv (bsN r) (bsN s)).2 := bsN_ofN fun x hx => row_lt (mv_row _ _ h1 hs) hx
  have hA : (ofN (mv (bsN r) (bsN s)).1).size = s.size := by rw [ofN_size, mv_length, hsl]
  have hR : (ofN (mv (bsN r) (bsN s)).2).size = 256 := by rw [ofN_size]; exact (mv_row _ _ h1 hs).1
  have hag : ∀ p, p + 1 < s.size → ((bsN (ofN (mv (bsN r) (bsN s)).1)).getD (p + 1) 0 = 0 ↔ (bsN s).getD (p + 1) 0 = (bsN s).getD p 0) := fun p hp => by
    rw [eA]; exact mv_again (by omega) h1 hs (by rw [hsl]; exact hp)
  have hhd : (bsN (ofN (mv (bsN r) (bsN s)).2)).getD 0 0 = (bsN s).getD (s.size - 1) 0 := by
    have := mv_head h1 hs (k := s.size - 1) (by rw [hsl]; omega)
    rw [show s.size - 1 + 1 = (bsN s).length by rw [hsl]; omega, List.take_length] at this
    rw [eR]; exact this
  generalize ofN (mv (bsN r) (bsN s)).1 = XA at CA0 hA hag
  generalize ofN (mv (bsN r) (bsN s)).2 = XR at CA0 hR hhd
  have CA := Lib.hid CA0; have HAG := Lib.hid hag; have HHD := Lib.hid hhd; have HA := Lib.hid hA; have HRS := Lib.hid hR
  have u1 : ((XA.size : Int) != (s.size : Int)) = false := by rw [hA]; simp
  have u2 : (XA.size != s.size) = false := by rw [hA]; simp
  have ht : ¬ (s.toList = []) := by
    intro h
    have h3 := bsN_length s
    rw [bsN, ← Od.toList_data, h] at h3
    simp at h3
    omega
  have HT := Lib.hid ht
  clear CA0 hag hhd hA hR eA eR hs hsl h1 ht
  have B : Hid (Below w.heap.size w w) := Lib.hid (Below.refl _ _)
  go_enter Try.func6, Try.ntmps6
  go_wp2_with fail
  refine (CL.out _).mono ?_
  rintro e w0 ⟨rfl, b⟩
  replace B := Lib.hid (B.out.trans (b.mono B.out.size))
  clear b
  go_wp2_with fail
  refine (CA.out _).mono ?_
  rintro e w1 ⟨rfl, b⟩
  replace B := Lib.hid (B.out.trans (b.mono B.out.size))
  clear b
  obtain ⟨W1, hW1⟩ : ∃ W1, W1 = w1 := ⟨_, rfl⟩
  rw [← hW1] at B ⊢
  clear hW1
  go_wp2_with fail
  go_loopw [8] (fun i wr => ∃ k j : Nat, 1 ≤ k ∧ k ≤ s.size ∧ i = .int .i64 k ∧ wr = W1.drewN j) (fun i _ => s.size - (RowKit.intOf i).toNat)
  case atStart => exact ⟨1, 0, by omega, by omega, rfl, rfl⟩
  case round =>
    obtain ⟨k, j, hk1, hk, rfl, hw⟩ := hrel
    have HW := Lib.hid hw
    clear hw
    by_cases hlt : k < s.size
    · obtain ⟨p, hp⟩ : ∃ p, p = k - 1 := ⟨_, rfl⟩
      have hag := HAG.out p (by omega)
      rw [show p + 1 = k by omega] at hag
      have hka : k < XA.size := by rw [HA.out]; exact hlt
      have hpl : p < s.size := by omega
      obtain ⟨x, hx⟩ : ∃ x, x = (XA[k]'hka).toNat := ⟨_, rfl⟩
      obtain ⟨y, hy⟩ : ∃ y, y = (s[k]'hlt).toNat := ⟨_, rfl⟩
      obtain ⟨z, hz⟩ : ∃ z, z = (s[p]'hpl).toNat := ⟨_, rfl⟩
      have ex : ((XA[k]'hka).toNat : Int) = (x : Int) := by rw [hx]
      have ey : ((s[k]'hlt).toNat : Int) = (y : Int) := by rw [hy]
      have ez : ((s[p]'hpl).toNat : Int) = (z : Int) := by rw [hz]
      rw [bsN_getD XA k hka, bsN_getD s k hlt, bsN_getD s p hpl, ← hx, ← hy, ← hz] at hag
      have ep : (k : Int) - 1 = (p : Int) := by omega
      have k0 : (0 : Int) ≤ (k : Int) := by omega
      have k1 : (k : Int) < (s.size : Int) := by omega
      have k2 : (k : Int) < (XA.size : Int) := by omega
      have p0 : (0 : Int) ≤ (p : Int) := by omega
      have p1 : (p : Int) < (s.size : Int) := by omega
      have ewk : IntKind.i64.wrap (p : Int) = (p : Int) := IntWalk.i64_in _ (by omega)
      by_cases hyz : y = z
      · have hx0 := hag.2 hyz
        have f1 : ((x : Int) == 0) = true := by rw [beq_iff_eq]; omega
        have f2 : ((y : Int) == (z : Int)) = true := by rw [beq_iff_eq]; omega
        have f3 : (x == 0) = true := by rw [beq_iff_eq]; exact hx0
        have f4 : (y == z) = true := by rw [beq_iff_eq]; exact hyz
        clear hx hy hz hag hyz hx0 hp
        go_wp2_with fail
        go_quiet (fail)
        go_wp2_with fail
        go_roundw
        case rel => exact ⟨k + 1, _, by omega, by omega, by go_num, by rw [HW.out, World.drewN_drewN]⟩
        case measure => simp [RowKit.intOf]; omega
      · have hx0 : ¬ (x = 0) := fun h => hyz (hag.1 h)
        have f1 : ((x : Int) == 0) = false := by rw [beq_eq_false_iff_ne]; omega
        have f2 : ((y : Int) == (z : Int)) = false := by rw [beq_eq_false_iff_ne]; omega
        have f3 : (x == 0) = false := by rw [beq_eq_false_iff_ne]; exact hx0
        have f4 : (y == z) = false := by rw [beq_eq_false_iff_ne]; exact hyz
        clear hx hy hz hag hyz hx0 hp
        go_wp2_with fail
        go_quiet (fail)
        go_wp2_with fail
        go_roundw
        case rel => exact ⟨k + 1, _, by omega, by omega, by go_num, by rw [HW.out, World.drewN_drewN]⟩
        case measure => simp [RowKit.intOf]; omega
    · obtain rfl : k = s.size := by omega
      obtain ⟨p, hp⟩ : ∃ p, p = s.size - 1 := ⟨_, rfl⟩
      have hpl : p < s.size := by omega
      have hrl : 0 < XR.size := by rw [HRS.out]; omega
      have hhd := HHD.out
      rw [← hp, bsN_getD XR 0 hrl, bsN_getD s p hpl] at hhd
      obtain ⟨z, hz⟩ : ∃ z, z = (s[p]'hpl).toNat := ⟨_, rfl⟩
      have ez : ((s[p]'hpl).toNat : Int) = (z : Int) := by rw [hz]
      have ex : ((XR[0]'hrl).toNat : Int) = (z : Int) := by rw [hhd, hz]
      have ep : (s.size : Int) - 1 = (p : Int) := by omega
      have p0 : (0 : Int) ≤ (p : Int) := by omega
      have p1 : (p : Int) < (s.size : Int) := by omega
      have r1 : ((XR.size : Int) == 256) = true := by rw [HRS.out]; rfl
      have r2 : (XR.size == 256) = true := by rw [HRS.out]; rfl
      have r3 : (0 : Int) < (XR.size : Int) := by omega
      have ht := HT.out
      have ht2 : (s.toList == ([] : List UInt8)) = false := by rw [beq_eq_false_iff_ne]; exact ht
      have ht3 : s.toList.isEmpty = false := List.isEmpty_eq_false_iff.2 ht
      have ht4 : (s.toList != ([] : List UInt8)) = true := by rw [bne_iff_ne]; exact ht
      have B9 : Hid (Below w.heap.size w wr) := Lib.hid (by rw [HW.out]; exact below_drewN B.out j)
      clear hz hhd hp
      go_wp2_with fail
      go_quiet (fail)
      go_wp2_with fail
      go_ret
      exact ⟨rfl, below_drewN B9.out _⟩
theorem again_law (r s : ByteArray) (w : World) :
    Calls Try.prog 6 #[.string r, .string s] w fun e w' => e = .returned (.bool true) ∧ Below w.heap.size w w' := by
  by_cases hg : Row 256 (bsN r) ∧ s.size ≤ 65536
  · by_cases h0 : s.size = 0
    · have hs : s = ⟨#[]⟩ := by
        apply ByteArray.ext
        apply Array.eq_empty_of_size_eq_zero
        exact h0
      subst hs
      exact again_none r w hg.1
    · exact again_some r s w hg.1 hg.2 (by omega)
  · exact again_bad r s w hg
end Go.Proofs.Ytbcdnnppbggifaa.Mt

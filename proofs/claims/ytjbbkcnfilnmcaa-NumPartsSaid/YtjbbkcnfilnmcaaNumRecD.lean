/- The walk of the document's Split. -/
import Derived.Test.YtjbbkcnfilnmcaaNumRecC
namespace Go.Proofs.Ytjbbkcnfilnmcaa.Nm
open Go.RowKit Rw

theorem cut_data (s : ByteArray) (a b : Nat) : (s.extract a b).data.toList = (s.data.toList.drop a).take (b - a) := by
  simp
theorem nums_nil : nums [] = [] := rfl

set_option maxHeartbeats 4000000 in
set_option maxRecDepth 100000 in
theorem rsplit_any (s : ByteArray) (wd : Int) (w : World) (hs : s.size ≤ 2000000) :
    Calls Try.prog 31 #[.string s, .int .i64 wd] w (SplitPost w (spM s.data.toList wd) (spE s.data.toList wd)) := by
  obtain ⟨i0, hi, hz0, hz1, hz2⟩ := info_parts info_u64s
  obtain ⟨j0, ki, kz0, kz1, kz2⟩ := info_parts info_u64
  by_cases h1 : wd < 1
  · have F := Lib.hid (sp_bad (l := s.data.toList) (w := wd) (E := 1) (if_pos (.inl h1)) (by decide))
    go_enter Try.func31, Try.ntmps31
    go_wp2_with fail
    go_ret2
    exact sp_mk none 0 (ret_slice (by rw [F.out.1]; rfl) F.out.2) (by rw [F.out.1]; exact recsAt_nil _) (Below.refl _ _)
  by_cases h8 : 8 < wd
  · have F := Lib.hid (sp_bad (l := s.data.toList) (w := wd) (E := 1) (if_pos (.inr h8)) (by decide))
    have t : decide (wd < 1) = false := decide_eq_false h1
    go_enter Try.func31, Try.ntmps31
    go_wp2_with fail
    go_ret2
    exact sp_mk none 0 (ret_slice (by rw [F.out.1]; rfl) F.out.2) (by rw [F.out.1]; exact recsAt_nil _) (Below.refl _ _)
  obtain ⟨n, rfl⟩ := Int.eq_ofNat_of_zero_le (show 0 ≤ wd by omega)
  have n1 : 1 ≤ n := by omega
  have n8 : n ≤ 8 := by omega
  have hsp : spE s.data.toList n = if s.size % (5 * n) ≠ 0 then 5 else 0 := by
    unfold spE; rw [if_neg (by omega), Int.toNat_natCast, size_data]
  have HSP := Lib.hid hsp
  clear hsp h1 h8
  obtain ⟨E, hE⟩ : ∃ E, E = 5 * n := ⟨_, rfl⟩
  have e1 : 5 * (n : Int) = (E : Int) := by omega
  have hE0 : 5 ≤ E := by omega
  have hE40 : E ≤ 40 := by omega
  rw [← hE] at HSP
  have r1 : (s.size : Int).tmod (E : Int) = ((s.size % E : Nat) : Int) := by rw [Int.tmod_eq_emod_of_nonneg (by omega)]; simp
  have r2 : (s.size : Int) % (E : Int) = ((s.size % E : Nat) : Int) := by simp
  have z0 : ((E : Int) == 0) = false := by rw [beq_eq_false_iff_ne]; omega
  obtain ⟨r, hr⟩ : ∃ r, r = s.size % E := ⟨_, rfl⟩
  rw [← hr] at r1 r2 HSP
  by_cases hr0 : r = 0
  case neg =>
    have F := Lib.hid (sp_bad (l := s.data.toList) (w := n) (E := 5) (by rw [HSP.out, if_pos hr0]) (by decide))
    have t : ((r : Int) != 0) = true := by rw [bne_iff_ne]; omega
    have HE := Lib.hid hE
    clear hr hr0 hE
    go_enter Try.func31, Try.ntmps31
    go_wp2_with fail
    go_ret2
    exact sp_mk none 0 (ret_slice (by rw [F.out.1]; rfl) F.out.2) (by rw [F.out.1]; exact recsAt_nil _) (Below.refl _ _)
  have t : ((r : Int) != 0) = false := by rw [bne_eq_false_iff_eq]; omega
  obtain ⟨K, hK⟩ : ∃ K, K = s.size / E := ⟨_, rfl⟩
  have hKE : E * K = s.size := by have := Nat.div_add_mod s.size E; rw [← hK, ← hr, hr0] at this; omega
  have hK9 : K ≤ 2000000 := by rw [hK]; exact Nat.le_trans (Nat.div_le_self _ _) hs
  have F0 : Hid (0 = spE s.data.toList n ∧ recsN s.data.toList n K = spM s.data.toList n) := Lib.hid (by
    have e : spE s.data.toList n = 0 := by rw [HSP.out, if_neg (by rw [hr0]; simp)]
    exact ⟨e.symm, by unfold spM; rw [if_pos e, Int.toNat_natCast, size_data, ← hE, ← hK]⟩)
  have HE := Lib.hid hE; have HKE := Lib.hid hKE
  clear hr hr0 hE hK hKE
  go_enter Try.func31, Try.ntmps31
  go_wp2_with fail
  go_loopw [6, 7, 8, 9] (fun u i _ _ wr => ∃ (k j : Nat) (xs : List Value), k ≤ K ∧ j = E * k ∧ i = .int .i64 j ∧ wr.ownsRow w.heap.size 42 1 u k xs ∧ Fit wr xs (recsN s.data.toList n k) ∧ Below w.heap.size w wr) (fun _ i _ _ _ => s.size - (intOf i).toNat)
  case atStart => exact ⟨0, 0, [], by omega, rfl, rfl, World.ownsRow_nil _ _ _ _, trivial, Below.refl _ _⟩
  case round =>
    obtain ⟨k, j, xs, hk, hj, rfl, hown, hfit, hbl⟩ := hrel
    by_cases hlt : j < s.size
    · have hkK : k < K := by
        rcases Nat.lt_or_ge k K with h | h
        · exact h
        · have : E * K ≤ E * k := Nat.mul_le_mul_left E h
          have := HKE.out; omega
      have hjE : j + E ≤ s.size := by
        have : E * (k + 1) ≤ E * K := Nat.mul_le_mul_left E hkK
        rw [Nat.mul_add] at this
        have := HKE.out; omega
      have hbB := hbl.size
      have HJ := Lib.hid hj; have HO2 := Lib.hid hown; have HFIT := Lib.hid hfit; have HBL := Lib.hid hbl
      have HJ2 : Hid (j + E = E * (k + 1)) := Lib.hid (by rw [Nat.mul_add, ← hj]; omega)
      have hkb : k ≤ 2000000 := by omega
      obtain ⟨B0, hB0⟩ : ∃ B0, B0 = wr.heap.size := ⟨_, rfl⟩
      have HFB : Hid (∀ wq, Below B0 wr wq → Fit wq xs (recsN s.data.toList n k) ∧ wq.ownsRow w.heap.size 42 1 u6 k xs ∧ Below w.heap.size w wq) := Lib.hid (fun wq hb => by
        rw [hB0] at hb
        exact ⟨Fit.below hb HFIT.out, own_below HO2.out hb, HBL.out.trans (hb.mono hbB)⟩)
      have hB1 : B0 ≤ wr.heap.size := by omega
      have hB2 : w.heap.size ≤ B0 := by omega
      clear hj hown hfit hbl hB0
      go_wp2_with fail
      go_loopw [8, 9] (fun u q wq => ∃ (kk : Nat), kk ≤ n ∧ q = .int .i64 kk ∧ wq.ownsRow B0 34 1 u kk (nums (recL (s.data.toList.drop j) kk)) ∧ Below B0 wr wq) (fun _ q _ => n - (intOf q).toNat)
      case atStart => exact ⟨0, by omega, rfl, World.ownsRow_nil _ _ _ _, Below.refl _ _⟩
      case round =>
        obtain ⟨kk, hkn, rfl, hrow, hb2⟩ := hrel
        have hzz := hb2.size
        have HROW := Lib.hid hrow; have HB2 := Lib.hid hb2
        clear hrow hb2
        by_cases hlt2 : kk < n
        · obtain ⟨o, ho⟩ : ∃ o, o = j + 5 * kk := ⟨_, rfl⟩
          have e2 : (j : Int) + 5 * (kk : Int) = (o : Int) := by omega
          have ho5 : o + 5 ≤ s.size := by have := HE.out; omega
          have hx5 : (s.extract o (o + 5)).size = 5 := by rw [ByteArray.size_extract]; omega
          have hxd : ofL (s.extract o (o + 5)).data.toList = ofL (((s.data.toList.drop j).drop (5 * kk)).take 5) := by
            rw [cut_data, List.drop_drop, ← ho, show o + 5 - o = 5 from by omega]
          obtain ⟨v, hv⟩ : ∃ v, v = ofL (((s.data.toList.drop j).drop (5 * kk)).take 5) := ⟨_, rfl⟩
          have hsn := recL_snoc (s.data.toList.drop j) kk
          rw [← hv] at hxd hsn
          have o0 : (0 : Int) ≤ (o : Int) := by omega
          have o5 : (o : Int) + 5 ≤ (s.size : Int) := by omega
          have k40 : kk ≤ 8 := by omega
          have HX5 := Lib.hid hx5; have HXD := Lib.hid hxd; have HSN := Lib.hid hsn
          clear ho hx5 hxd hv hsn
          go_wp2_with fail
          refine (rof_any (s.extract o (o + 5)) HX5.out _).mono ?_
          rw [HXD.out]
          rintro e w3 ⟨rfl, rfl⟩
          go_wp2_with (at_builtin; refine Rw.push rfl _ _ 42 rfl B0 34 j0 (.int .u64 0) 1 8 Try.underlying42 ki kz0 kz1 kz2 rfl (by decide) _ _ _ rfl HROW.out [.int .u64 (v : Int)] rfl rfl rfl (by omega) (by omega) (by omega) ?_)
          intro g cap w4 hown4 _ _ _ hgr
          have hown5 : w4.ownsRow B0 34 1 (.slice (some ⟨g, 0, none⟩) (kk + 1) cap) (kk + 1) (nums (recL (s.data.toList.drop j) (kk + 1))) := by
            rw [HSN.out, nums_snoc]; exact hown4
          have H3 := Lib.hid hown5; have H4 := Lib.hid (HB2.out.trans hgr)
          clear hown4 hgr hown5
          go_wp2_with fail
          go_roundw
          case rel => exact ⟨kk + 1, by omega, by go_num, H3.out, H4.out⟩
          case measure => simp [intOf]; omega
        · obtain rfl : kk = n := by omega
          obtain ⟨g, c2, rfl, _, _⟩ := HROW.out.form (by omega)
          have h3 := HFB.out _ HB2.out
          have HFIT3 := Lib.hid h3.1
          have HO3 := Lib.hid h3.2.1
          have HB4 := Lib.hid h3.2.2
          clear h3
          go_wp2_with (at_builtin; refine Rw.push rfl _ _ 44 rfl w.heap.size 42 i0 (.slice none 0 0) 1 24 Try.underlying44 hi hz0 hz1 hz2 rfl (by decide) _ _ _ rfl HO3.out [.slice (some ⟨g, 0, none⟩) kk c2] rfl rfl rfl (by omega) (by omega) (by omega) ?_)
          intro g4 cap4 w4 hown4 hgrow _ _ hgr
          have H2 := Lib.hid (Fit.snoc ⟨_, by rw [recL_length]; exact HROW.out.kept hgrow (own_type HROW.out HO3.out (by decide))⟩ (Fit.grown HO3.out hgrow HFIT3.out))
          rw [HJ.out, HE.out, ← recsN_snoc] at H2
          have H3 := Lib.hid hown4
          have H4 := Lib.hid (HB4.out.trans hgr)
          clear hown4 hgrow hgr
          go_wp2_with fail
          go_roundw
          case rel => exact ⟨k + 1, j + E, _, by omega, HJ2.out, by go_num, H3.out, H2.out, H4.out⟩
          case measure => simp [intOf]; omega
    · have hkK : k = K := by
        have h1 := HKE.out
        rcases Nat.lt_or_ge k K with h | h
        · have h3 : E * (k + 1) ≤ E * K := Nat.mul_le_mul_left E h
          rw [Nat.mul_add] at h3
          omega
        · omega
      subst hkK
      obtain ⟨A2, c2, rfl⟩ := own_slice hown
      have HR := Lib.hid (recsAt_of hown hfit (recsN_len _ _ _ n8))
      have HBL := Lib.hid hbl
      have FL : Hid (k = (spM s.data.toList n).length) := Lib.hid (by rw [← F0.out.2, recsN_length])
      clear hj hown hfit hbl
      go_wp2_with fail
      go_ret2
      exact sp_mk A2 c2 (ret_slice FL.out F0.out.1) (by rw [← F0.out.2]; exact HR.out) HBL.out
end Go.Proofs.Ytjbbkcnfilnmcaa.Nm

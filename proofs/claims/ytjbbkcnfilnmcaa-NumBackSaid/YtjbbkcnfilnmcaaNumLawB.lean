/- The walks of the laws NumBack, NumOrder. -/
import Derived.Test.YtjbbkcnfilnmcaaNumLawA
namespace Go.Proofs.Ytjbbkcnfilnmcaa.Nm
open Go.RowKit Rw

theorem rd_not {l : List UInt8} (h : rdE l ≠ 0) : rdN l = 0 ∧ ofB (rdR l) = ⟨#[]⟩ := ⟨by unfold rdN; rw [if_neg h], by unfold rdR; rw [if_neg h]; rfl⟩
theorem app_toList (l : List UInt8) (s : ByteArray) : (ofB l ++ s).data.toList = l ++ s.data.toList := by simp [ofB]

set_option maxHeartbeats 8000000 in
set_option maxRecDepth 100000 in
theorem back_law (n : Nat) (s : ByteArray) (w : World) (hs : s.size ≤ 140737488355328) :
    Calls Try.prog 7 #[.int .u64 n, .string s] w fun e w' => e = .returned (.bool true) ∧ Below w.heap.size w w' := by
  obtain ⟨N, hN⟩ : ∃ N, N = rdN s.data.toList := ⟨_, rfl⟩
  obtain ⟨F, hF⟩ : ∃ F, F = rdE s.data.toList := ⟨_, rfl⟩
  obtain ⟨R, hR⟩ : ∃ R, R = ofB (rdR s.data.toList) := ⟨_, rfl⟩
  have HR1 : Hid (s.size ≤ 200000000000000) := Lib.hid (by omega)
  have hs6 : s.size ≤ 140737488355328 := hs
  obtain ⟨S, hS⟩ : ∃ S, S = shoS n := ⟨_, rfl⟩
  obtain ⟨T, hT⟩ : ∃ T, T = putS n := ⟨_, rfl⟩
  have hSs : S.size ≤ 6 := by
    rw [hS]; unfold shoS
    by_cases h : n < 1099511627776
    · rw [if_pos h, ofB_size]; exact short_ten h
    · rw [if_neg h]; decide
  have hcat : S.size + s.size ≤ 200000000000000 := by omega
  have HC : Hid ((S ++ s).size ≤ 200000000000000) := Lib.hid (by rw [ByteArray.size_append]; exact hcat)
  have hcat2 : (S.size : Int) + (s.size : Int) ≤ 9223372036854775807 := by omega
  have hself : (ofB s.data.toList) = s := ofB_self s
  by_cases hn : n < 1099511627776
  · have E : Hid (putE n = 0) := Lib.hid (if_pos hn)
    have G : Hid (getN T = n ∧ getE T = 0) := Lib.hid (by
      rw [hT]; unfold putS getN getE
      have h5 : (ofB (fiveL n)).size = 5 := by rw [ofB_size, fiveL_length]
      rw [if_pos hn, if_pos h5, if_pos h5, ofB_data, ofL_five n hn]; exact ⟨rfl, rfl⟩)
    have Q : Hid (rdN (S ++ s).data.toList = n ∧ ofB (rdR (S ++ s).data.toList) = s ∧ rdE (S ++ s).data.toList = 0) := Lib.hid (by
      have h := rd_short n hn s.data.toList
      have e : (S ++ s).data.toList = shortL n ++ s.data.toList := by rw [hS]; unfold shoS; rw [if_pos hn, app_toList]
      rw [e, h.1, h.2.1, h.2.2, ofB_self]; exact ⟨rfl, rfl, rfl⟩)
    by_cases hf : F = 0
    · have hb := rd_back s.data.toList (by rw [← hF]; exact hf)
      obtain ⟨C, hC⟩ : ∃ C, C = shoS N := ⟨_, rfl⟩
      have K : Hid (C ++ R = s ∧ putE N = 0) := Lib.hid (by
        rw [hC, hR, hN]; unfold shoS
        refine ⟨by rw [if_pos hb.1, app_data, hb.2, ofB_self], if_pos hb.1⟩)
      have k1 : ((C ++ R).toList == s.toList) = true := by rw [K.out.1]; simp
      have hCR : C.size + R.size ≤ 140737488355328 := by
        have h := K.out.1
        have h2 : (C ++ R).size = s.size := by rw [h]
        rw [ByteArray.size_append] at h2; omega
      have hCR2 : (C.size : Int) + (R.size : Int) ≤ 9223372036854775807 := by omega
      have HS := Lib.hid hS; have HT := Lib.hid hT; have HN := Lib.hid hN; have HF : Hid (rdE s.data.toList = 0) := Lib.hid (by rw [← hF]; exact hf)
      have HR := Lib.hid hR; have HCC := Lib.hid hC
      clear hS hT hN hF hR hC hn hb hf hcat hSs hs hs6 hself hCR
      go_enter Try.func7, Try.ntmps7
      go_wp2_with fail
      refine (lives_any _).mono ?_
      rintro e w1 ⟨rfl, b⟩
      have B1 := Lib.hid b; clear b
      go_wp2_with fail
      refine (put_any n _).mono ?_
      rw [← HT.out, E.out]
      rintro e w2 ⟨rfl, b⟩
      have B2 := Lib.hid (B1.out.trans (b.mono B1.out.size)); clear b B1
      go_wp2_with fail
      refine (short_any n _).mono ?_
      rw [← HS.out, E.out]
      rintro e w3 ⟨rfl, b⟩
      have B3 := Lib.hid (B2.out.trans (b.mono B2.out.size)); clear b B2
      go_wp2_with fail
      refine (get_any T _).mono ?_
      rw [G.out.1, G.out.2]
      rintro e w4 ⟨rfl, rfl⟩
      go_wp2_with fail
      refine (read_any (S ++ s) HC.out _).mono ?_
      rw [Q.out.1, Q.out.2.1, Q.out.2.2]
      rintro e w4 ⟨rfl, b⟩
      have B4 := Lib.hid (B3.out.trans (b.mono B3.out.size)); clear b B3
      go_wp2_with fail
      refine (read_any s HR1.out _).mono ?_
      rw [← HN.out, ← HR.out, HF.out]
      rintro e w5 ⟨rfl, b⟩
      have B5 := Lib.hid (B4.out.trans (b.mono B4.out.size)); clear b B4
      go_wp2_with fail
      refine (short_any N _).mono ?_
      rw [← HCC.out, K.out.2]
      rintro e w6 ⟨rfl, b⟩
      have B6 := Lib.hid (B5.out.trans (b.mono B5.out.size)); clear b B5
      go_wp2_with fail
      go_ret
      exact ⟨rfl, B6.out⟩
    · have hx := rd_not (by rw [← hF]; exact hf)
      have HNN : Hid (rdN s.data.toList = 0 ∧ ofB (rdR s.data.toList) = ⟨#[]⟩) := Lib.hid hx
      have k1 : (F != 0) = true := by rw [bne_iff_ne]; exact hf
      have HS := Lib.hid hS; have HT := Lib.hid hT; have HF := Lib.hid hF
      clear hS hT hN hF hR hn hx hf hcat hSs hs hs6 hself
      go_enter Try.func7, Try.ntmps7
      go_wp2_with fail
      refine (lives_any _).mono ?_
      rintro e w1 ⟨rfl, b⟩
      have B1 := Lib.hid b; clear b
      go_wp2_with fail
      refine (put_any n _).mono ?_
      rw [← HT.out, E.out]
      rintro e w2 ⟨rfl, b⟩
      have B2 := Lib.hid (B1.out.trans (b.mono B1.out.size)); clear b B1
      go_wp2_with fail
      refine (short_any n _).mono ?_
      rw [← HS.out, E.out]
      rintro e w3 ⟨rfl, b⟩
      have B3 := Lib.hid (B2.out.trans (b.mono B2.out.size)); clear b B2
      go_wp2_with fail
      refine (get_any T _).mono ?_
      rw [G.out.1, G.out.2]
      rintro e w4 ⟨rfl, rfl⟩
      go_wp2_with fail
      refine (read_any (S ++ s) HC.out _).mono ?_
      rw [Q.out.1, Q.out.2.1, Q.out.2.2]
      rintro e w4 ⟨rfl, b⟩
      have B4 := Lib.hid (B3.out.trans (b.mono B3.out.size)); clear b B3
      go_wp2_with fail
      refine (read_any s HR1.out _).mono ?_
      rw [HNN.out.1, HNN.out.2, ← HF.out]
      rintro e w5 ⟨rfl, b⟩
      have B5 := Lib.hid (B4.out.trans (b.mono B4.out.size)); clear b B4
      go_wp2_with fail
      go_ret
      exact ⟨rfl, B5.out⟩
  · have E : Hid (putE n = 1) := Lib.hid (if_neg hn)
    by_cases hf : F = 0
    · have hb := rd_back s.data.toList (by rw [← hF]; exact hf)
      obtain ⟨C, hC⟩ : ∃ C, C = shoS N := ⟨_, rfl⟩
      have K : Hid (C ++ R = s ∧ putE N = 0) := Lib.hid (by
        rw [hC, hR, hN]; unfold shoS
        refine ⟨by rw [if_pos hb.1, app_data, hb.2, ofB_self], if_pos hb.1⟩)
      have k1 : ((C ++ R).toList == s.toList) = true := by rw [K.out.1]; simp
      have hCR : C.size + R.size ≤ 140737488355328 := by
        have h := K.out.1
        have h2 : (C ++ R).size = s.size := by rw [h]
        rw [ByteArray.size_append] at h2; omega
      have hCR2 : (C.size : Int) + (R.size : Int) ≤ 9223372036854775807 := by omega
      have HS := Lib.hid hS; have HT := Lib.hid hT; have HN := Lib.hid hN; have HF : Hid (rdE s.data.toList = 0) := Lib.hid (by rw [← hF]; exact hf)
      have HR := Lib.hid hR; have HCC := Lib.hid hC
      clear hS hT hN hF hR hC hn hb hf hcat hSs hs hs6 hself hCR
      go_enter Try.func7, Try.ntmps7
      go_wp2_with fail
      refine (lives_any _).mono ?_
      rintro e w1 ⟨rfl, b⟩
      have B1 := Lib.hid b; clear b
      go_wp2_with fail
      refine (put_any n _).mono ?_
      rw [← HT.out, E.out]
      rintro e w2 ⟨rfl, b⟩
      have B2 := Lib.hid (B1.out.trans (b.mono B1.out.size)); clear b B1
      go_wp2_with fail
      refine (short_any n _).mono ?_
      rw [← HS.out, E.out]
      rintro e w3 ⟨rfl, b⟩
      have B3 := Lib.hid (B2.out.trans (b.mono B2.out.size)); clear b B2
      go_wp2_with fail
      refine (read_any s HR1.out _).mono ?_
      rw [← HN.out, ← HR.out, HF.out]
      rintro e w5 ⟨rfl, b⟩
      have B5 := Lib.hid (B3.out.trans (b.mono B3.out.size)); clear b B3
      go_wp2_with fail
      refine (short_any N _).mono ?_
      rw [← HCC.out, K.out.2]
      rintro e w6 ⟨rfl, b⟩
      have B6 := Lib.hid (B5.out.trans (b.mono B5.out.size)); clear b B5
      go_wp2_with fail
      go_ret
      exact ⟨rfl, B6.out⟩
    · have hx := rd_not (by rw [← hF]; exact hf)
      have HNN : Hid (rdN s.data.toList = 0 ∧ ofB (rdR s.data.toList) = ⟨#[]⟩) := Lib.hid hx
      have k1 : (F != 0) = true := by rw [bne_iff_ne]; exact hf
      have HS := Lib.hid hS; have HT := Lib.hid hT; have HF := Lib.hid hF
      clear hS hT hN hF hR hn hx hf hcat hSs hs hs6 hself
      go_enter Try.func7, Try.ntmps7
      go_wp2_with fail
      refine (lives_any _).mono ?_
      rintro e w1 ⟨rfl, b⟩
      have B1 := Lib.hid b; clear b
      go_wp2_with fail
      refine (put_any n _).mono ?_
      rw [← HT.out, E.out]
      rintro e w2 ⟨rfl, b⟩
      have B2 := Lib.hid (B1.out.trans (b.mono B1.out.size)); clear b B1
      go_wp2_with fail
      refine (short_any n _).mono ?_
      rw [← HS.out, E.out]
      rintro e w3 ⟨rfl, b⟩
      have B3 := Lib.hid (B2.out.trans (b.mono B2.out.size)); clear b B2
      go_wp2_with fail
      refine (read_any s HR1.out _).mono ?_
      rw [HNN.out.1, HNN.out.2, ← HF.out]
      rintro e w5 ⟨rfl, b⟩
      have B5 := Lib.hid (B3.out.trans (b.mono B3.out.size)); clear b B3
      go_wp2_with fail
      go_ret
      exact ⟨rfl, B5.out⟩
end Go.Proofs.Ytjbbkcnfilnmcaa.Nm

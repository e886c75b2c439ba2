/- The walks of countShort, shortNumber, Read, the program's and the document's. -/
import Derived.Test.YtjbbkcnfilnmcaaNumWalkC
namespace Go.Proofs.Ytjbbkcnfilnmcaa.Nm
open Go.RowKit

def csN (l : List UInt8) : Int := if cnt l < 6 ∧ cnt l < l.length then (cnt l : Int) + 1 else 0
def csE (l : List UInt8) : Int := if cnt l < 6 ∧ cnt l < l.length then 0 else if l.length < 6 then 5 else 7
theorem ret_two {a b c d : Int} (h : a = b) (l : c = d) : Ending.returned (.tuple #[.int .i64 a, .int .i64 c]) = .returned (.tuple #[.int .i64 b, .int .i64 d]) := by rw [h, l]
theorem getD_data (s : ByteArray) (k : Nat) (h : k < s.size) : s.data.toList.getD k 0 = s[k] := by
  rw [List.getD_eq_getElem?_getD, List.getElem?_eq_getElem (by simpa using h)]; rfl

set_option maxHeartbeats 1000000 in
set_option maxRecDepth 100000 in
theorem count_any (s : ByteArray) (hs : s.size ≤ maxLen) (w : World) :
    Calls Try.prog 50 #[.string s] w fun e w' => e = .returned (.tuple #[.int .i64 (csN s.data.toList), .int .i64 (csE s.data.toList)]) ∧ w = w' := by
  unfold maxLen at hs
  obtain ⟨m, hm⟩ : ∃ m, m = min s.size 6 := ⟨_, rfl⟩
  have e2 : min (s.size : Int) 6 = (m : Int) := by omega
  have hm1 : m ≤ s.size := by omega
  have hm6 : m ≤ 6 := by omega
  have HM := Lib.hid hm
  clear hm
  go_enter Try.func50, Try.ntmps50
  go_wp2_with fail
  go_loop [4, 8] (fun _ i => ∃ k : Nat, k ≤ m ∧ i = .int .i64 k ∧ k ≤ cnt s.data.toList) (fun _ i => m - (intOf i).toNat)
  case atStart => exact ⟨0, by omega, rfl, by omega⟩
  case round =>
    obtain ⟨k, hk, rfl, hc⟩ := hrel
    by_cases hlt : k < m
    · have hks : k < s.size := by omega
      have hg := getD_data s k hks
      by_cases hb : (s[k]'hks).toNat < 128
      · have hck : cnt s.data.toList = k := by
          rcases Nat.lt_or_ge k (cnt s.data.toList) with h | h
          · have := cnt_below _ k h; rw [hg] at this; omega
          · omega
        have F : Hid ((k : Int) + 1 = csN s.data.toList ∧ 0 = csE s.data.toList) := Lib.hid ⟨by unfold csN; rw [hck, if_pos ⟨by omega, by rw [size_data]; omega⟩], by unfold csE; rw [hck, if_pos ⟨by omega, by rw [size_data]; omega⟩]⟩
        clear hg hck hc
        go_wp2_with fail
        go_ret2
        exact ⟨ret_two F.out.1 F.out.2, rfl⟩
      · have HC : Hid (k + 1 ≤ cnt s.data.toList) := Lib.hid (by
          rcases Nat.lt_or_ge k (cnt s.data.toList) with h | h
          · exact h
          · have e : cnt s.data.toList = k := by omega
            have := cnt_at s.data.toList (by rw [e, size_data]; exact hks)
            rw [e, hg] at this; omega)
        clear hg hc
        go_wp2_with fail
        go_round
        case rel => exact ⟨k + 1, by omega, by go_num, HC.out⟩
        case measure => simp [intOf]; omega
    · obtain rfl : k = m := by omega
      by_cases h6 : s.size < 6
      · have F : Hid (0 = csN s.data.toList ∧ 5 = csE s.data.toList) := Lib.hid (by
          have hm := HM.out
          have hx : ¬ (cnt s.data.toList < 6 ∧ cnt s.data.toList < s.data.toList.length) := by rw [size_data]; omega
          exact ⟨by unfold csN; rw [if_neg hx], by unfold csE; rw [if_neg hx, if_pos (by rw [size_data]; exact h6)]⟩)
        clear hc
        go_wp2_with fail
        go_ret2
        exact ⟨ret_two F.out.1 F.out.2, rfl⟩
      · have F : Hid (0 = csN s.data.toList ∧ 7 = csE s.data.toList) := Lib.hid (by
          have hm := HM.out
          have hx : ¬ (cnt s.data.toList < 6 ∧ cnt s.data.toList < s.data.toList.length) := by omega
          exact ⟨by unfold csN; rw [if_neg hx], by unfold csE; rw [if_neg hx, if_neg (by rw [size_data]; exact h6)]⟩)
        clear hc
        go_wp2_with fail
        go_ret2
        exact ⟨ret_two F.out.1 F.out.2, rfl⟩

theorem shortV_lt (l : List UInt8) : shortV l < 128 ^ l.length := by
  have h := shortV_take_lt l l.length
  rwa [List.take_length] at h
theorem shortV_drop (s : ByteArray) (k : Nat) (h : k < s.size) : shortV (s.data.toList.drop k) = (s[k]'h).toNat % 128 + 128 * shortV (s.data.toList.drop (k + 1)) := by
  have e : s.data.toList.drop k = s[k] :: s.data.toList.drop (k + 1) := List.drop_eq_getElem_cons (by simpa using h)
  rw [e, shortV]
theorem shortV_drop_lt (l : List UInt8) (k : Nat) (hl : l.length ≤ 6) : shortV (l.drop k) < 4398046511104 := by
  have h := shortV_lt (l.drop k)
  have h2 : 128 ^ (l.drop k).length ≤ 128 ^ 6 := Nat.pow_le_pow_right (by decide) (by rw [List.length_drop]; omega)
  omega

set_option maxHeartbeats 1000000 in
theorem shortNumber_any (s : ByteArray) (hs : s.size ≤ 6) (w : World) :
    Calls Try.prog 51 #[.string s] w fun e w' => e = .returned (.int .u64 (shortV s.data.toList : Nat)) ∧ w = w' := by
  have h0 : shortV (s.data.toList.drop s.size) = 0 := by rw [List.drop_eq_nil_of_le (by simp)]; rfl
  have H0 := Lib.hid h0
  clear h0
  go_enter Try.func51, Try.ntmps51
  go_wp2_with fail
  go_loop [3, 4] (fun v i => ∃ k : Nat, k ≤ s.size ∧ i = .int .i64 ((k : Int) - 1) ∧ v = .int .u64 (shortV (s.data.toList.drop k) : Nat)) (fun _ i => (intOf i + 1).toNat)
  case atStart => exact ⟨s.size, by omega, rfl, by rw [H0.out]; rfl⟩
  case round =>
    obtain ⟨k, hk, rfl, rfl⟩ := hrel
    by_cases hlt : 1 ≤ k
    · obtain ⟨j, rfl⟩ : ∃ j, k = j + 1 := ⟨k - 1, by omega⟩
      have e1 : ((j + 1 : Nat) : Int) - 1 = (j : Int) := by omega
      have hj : j < s.size := by omega
      have hd := shortV_drop s j hj
      have hl := shortV_drop_lt s.data.toList (j + 1) (by rw [size_data]; omega)
      obtain ⟨v, hv⟩ : ∃ v, v = shortV (s.data.toList.drop (j + 1)) := ⟨_, rfl⟩
      obtain ⟨v2, hv2⟩ : ∃ v2, v2 = shortV (s.data.toList.drop j) := ⟨_, rfl⟩
      rw [← hv, ← hv2] at hd
      rw [← hv] at hl ⊢
      rw [e1]
      have hb := (s[j]'hj).toNat_lt
      have HD := Lib.hid hd; have HV2 := Lib.hid hv2; have HE := Lib.hid e1
      clear hd hv hv2 e1
      go_wp2_with fail
      go_round
      case rel => exact ⟨j, by omega, by go_num, by rw [← HV2.out, HD.out]; go_num⟩
      case measure => simp [intOf]
    · obtain rfl : k = 0 := by omega
      go_wp2_with fail
      go_ret
      exact ⟨rfl, rfl⟩

theorem ret_read {a b : Int} {c d : ByteArray} {e f : Int} (h : a = b) (k : c = d) (l : e = f) : Ending.returned (.tuple #[.int .u64 a, .string c, .int .i64 e]) = .returned (.tuple #[.int .u64 b, .string d, .int .i64 f]) := by rw [h, k, l]
theorem take_data (s : ByteArray) (n : Nat) : (s.extract 0 n).data.toList = s.data.toList.take n := by simp
theorem drop_data (s : ByteArray) (n : Nat) : s.extract n s.size = ofB (s.data.toList.drop n) := by
  apply data_inj; rw [ofB_data]; simp [List.take_of_length_le]

set_option maxHeartbeats 2000000 in
set_option maxRecDepth 100000 in
theorem read_any (s : ByteArray) (hs2 : s.size ≤ 200000000000000) (w : World) :
    Calls Try.prog 26 #[.string s] w fun e w' => e = .returned (.tuple #[.int .u64 (rdN s.data.toList : Nat), .string (ofB (rdR s.data.toList)), .int .i64 (rdE s.data.toList)]) ∧ Below w.heap.size w w' := by
  have hs : s.size ≤ maxLen := by unfold maxLen; omega
  have hs' : s.size ≤ 9223372036854775807 := by omega
  have HS2 := Lib.hid hs2
  clear hs2
  by_cases hf : cnt s.data.toList < 6 ∧ cnt s.data.toList < s.data.toList.length
  case neg =>
    have he : csE s.data.toList = rdE s.data.toList := by unfold csE rdE; rw [if_neg hf, if_neg hf]
    have hne : csE s.data.toList = 5 ∨ csE s.data.toList = 7 := by
      unfold csE; rw [if_neg hf]; split
      · exact .inl rfl
      · exact .inr rfl
    have F : Hid ((0 : Int) = (rdN s.data.toList : Nat) ∧ ⟨#[]⟩ = ofB (rdR s.data.toList) ∧ csE s.data.toList = rdE s.data.toList) := Lib.hid ⟨by unfold rdN; rw [← he, if_neg (by omega)]; rfl, by unfold rdR; rw [← he, if_neg (by omega)]; rfl, he⟩
    obtain ⟨E, hE⟩ : ∃ E, E = csE s.data.toList := ⟨_, rfl⟩
    rw [← hE] at hne
    have t1 : (E != 0) = true := by rw [bne_iff_ne]; omega
    have HE := Lib.hid hE
    clear hE he hne hf
    go_enter Try.func26, Try.ntmps26
    go_wp2_with fail
    refine (count_any s hs _).mono ?_
    rw [← HE.out]
    rintro e w1 ⟨rfl, rfl⟩
    go_wp2_with fail
    go_ret3
    exact ⟨ret_read F.out.1 F.out.2.1 (HE.out.trans F.out.2.2), Below.refl _ _⟩
  have hn : csN s.data.toList = ((cnt s.data.toList + 1 : Nat) : Int) := by unfold csN; rw [if_pos hf]; rfl
  have he : csE s.data.toList = 0 := by unfold csE; rw [if_pos hf]
  obtain ⟨m, hm⟩ : ∃ m, m = cnt s.data.toList + 1 := ⟨_, rfl⟩
  rw [← hm] at hn
  have hm6 : m ≤ 6 := by omega
  have hms : m ≤ s.size := by have := hf.2; rw [size_data] at this; omega
  have hmsI : (m : Int) ≤ (s.size : Int) := by omega
  have hm0I : (0 : Int) ≤ (m : Int) := by omega
  have hx : (s.extract 0 m).size ≤ 6 := by rw [ByteArray.size_extract]; omega
  have hxd : (s.extract 0 m).data.toList = s.data.toList.take m := take_data s m
  obtain ⟨v, hv⟩ : ∃ v, v = shortV (s.data.toList.take m) := ⟨_, rfl⟩
  have hrd : rdE s.data.toList = if v < 1099511627776 ∧ (shortL v).length = m then 0 else 7 := by unfold rdE; rw [if_pos hf, ← hm, ← hv]
  have HX := Lib.hid hxd; have HV := Lib.hid hv; have HN := Lib.hid hn; have HE := Lib.hid he; have HM := Lib.hid hm; have HXX := Lib.hid hx; have HRD := Lib.hid hrd
  clear hxd hv hn he hm hf hx hrd
  by_cases hbig : v < 1099511627776
  case neg =>
    have F : Hid ((0 : Int) = (rdN s.data.toList : Nat) ∧ ⟨#[]⟩ = ofB (rdR s.data.toList) ∧ 7 = rdE s.data.toList) := Lib.hid (by
      have e : rdE s.data.toList = 7 := by rw [HRD.out, if_neg (fun h => hbig h.1)]
      exact ⟨by unfold rdN; rw [e, if_neg (by omega)]; rfl, by unfold rdR; rw [e, if_neg (by omega)]; rfl, e.symm⟩)
    have t2 : decide ((1099511627776 : Int) ≤ (v : Int)) = true := decide_eq_true (by omega)
    clear hbig
    go_enter Try.func26, Try.ntmps26
    go_wp2_with fail
    refine (count_any s hs _).mono ?_
    rw [HN.out, HE.out]
    rintro e w1 ⟨rfl, rfl⟩
    go_wp2_with fail
    refine (shortNumber_any (s.extract 0 m) HXX.out _).mono ?_
    rw [HX.out, ← HV.out]
    rintro e w1 ⟨rfl, rfl⟩
    go_wp2_with fail
    go_ret3
    exact ⟨ret_read F.out.1 F.out.2.1 F.out.2.2, Below.refl _ _⟩
  have t2 : decide ((1099511627776 : Int) ≤ (v : Int)) = false := decide_eq_false (by omega)
  by_cases hlen : (shortL v).length = m
  case neg =>
    have F : Hid ((0 : Int) = (rdN s.data.toList : Nat) ∧ ⟨#[]⟩ = ofB (rdR s.data.toList) ∧ 7 = rdE s.data.toList) := Lib.hid (by
      have e : rdE s.data.toList = 7 := by rw [HRD.out, if_neg (fun h => hlen h.2)]
      exact ⟨by unfold rdN; rw [e, if_neg (by omega)]; rfl, by unfold rdR; rw [e, if_neg (by omega)]; rfl, e.symm⟩)
    have HB := Lib.hid hbig
    obtain ⟨N, hN⟩ : ∃ N, N = (shortL v).length := ⟨_, rfl⟩
    rw [← hN] at hlen
    have t3 : ((m : Int) != (N : Int)) = true := by rw [bne_iff_ne]; omega
    have HNN := Lib.hid hN
    clear hbig hlen hN
    go_enter Try.func26, Try.ntmps26
    go_wp2_with fail
    refine (count_any s hs _).mono ?_
    rw [HN.out, HE.out]
    rintro e w1 ⟨rfl, rfl⟩
    go_wp2_with fail
    refine (shortNumber_any (s.extract 0 m) HXX.out _).mono ?_
    rw [HX.out, ← HV.out]
    rintro e w1 ⟨rfl, rfl⟩
    go_wp2_with fail
    refine (short_loop v HB.out _).mono ?_
    rw [← HNN.out]
    rintro e w1 ⟨g, cap, rfl, _, hb⟩
    have HB1 := Lib.hid hb
    clear hb
    go_wp2_with fail
    go_ret3
    exact ⟨ret_read F.out.1 F.out.2.1 F.out.2.2, HB1.out⟩
  have F : Hid ((v : Int) = (rdN s.data.toList : Nat) ∧ s.extract m s.size = ofB (rdR s.data.toList) ∧ 0 = rdE s.data.toList) := Lib.hid (by
    have e : rdE s.data.toList = 0 := by rw [HRD.out, if_pos ⟨hbig, hlen⟩]
    exact ⟨by unfold rdN; rw [e, if_pos rfl, ← HM.out, ← HV.out], by unfold rdR; rw [e, if_pos rfl, ← HM.out, drop_data], e.symm⟩)
  have HB := Lib.hid hbig
  obtain ⟨N, hN⟩ : ∃ N, N = (shortL v).length := ⟨_, rfl⟩
  rw [← hN] at hlen
  have t3 : ((m : Int) != (N : Int)) = false := by rw [bne_eq_false_iff_eq]; omega
  have HNN := Lib.hid hN
  have hxs : (s.extract m s.size).size ≤ 281474976710656 := by have := HS2.out; rw [ByteArray.size_extract]; omega
  have HXS := Lib.hid hxs
  clear hbig hlen hN hxs
  go_enter Try.func26, Try.ntmps26
  go_wp2_with fail
  refine (count_any s hs _).mono ?_
  rw [HN.out, HE.out]
  rintro e w1 ⟨rfl, rfl⟩
  go_wp2_with fail
  refine (shortNumber_any (s.extract 0 m) HXX.out _).mono ?_
  rw [HX.out, ← HV.out]
  rintro e w1 ⟨rfl, rfl⟩
  go_wp2_with fail
  refine (short_loop v HB.out _).mono ?_
  rw [← HNN.out]
  rintro e w1 ⟨g, cap, rfl, _, hb⟩
  have HB1 := Lib.hid hb
  clear hb
  go_wp2_with fail
  refine (Cln.clone_any (s.extract m s.size) _ HXS.out).mono ?_
  rintro e w2 ⟨rfl, hb⟩
  have HB2 := Lib.hid (HB1.out.trans (hb.mono HB1.out.size))
  clear hb
  go_wp2_with fail
  go_ret3
  exact ⟨ret_read F.out.1 F.out.2.1 F.out.2.2, HB2.out⟩
end Go.Proofs.Ytjbbkcnfilnmcaa.Nm

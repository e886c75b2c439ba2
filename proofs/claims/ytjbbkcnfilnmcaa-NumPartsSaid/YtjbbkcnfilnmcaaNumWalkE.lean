/- The walk of the document's Read. -/
import Derived.Test.YtjbbkcnfilnmcaaNumWalkD
namespace Go.Proofs.Ytjbbkcnfilnmcaa.Nm
open Go.RowKit

theorem toList_data (s : ByteArray) : s.toList = s.data.toList := by obtain ⟨⟨l⟩⟩ := s; simp
theorem shortV_grow (s : ByteArray) (k : Nat) (h : k < s.size) : shortV (s.data.toList.take (k + 1)) = shortV (s.data.toList.take k) + 128 ^ k * ((s[k]'h).toNat % 128) := by
  have e : (s.data.toList.take k).length = k := by rw [List.length_take, size_data]; omega
  rw [List.take_succ_eq_append_getElem (by simpa using h), shortV_snoc, e]; rfl
theorem pow_128 {k : Nat} (h : k ≤ 5) : 128 ^ k ≤ 34359738368 := by
  have := Nat.pow_le_pow_right (n := 128) (by decide) h; simpa using this
theorem rd_found {l : List UInt8} {k v : Nat} (hk : cnt l = k) (h6 : k < 6) (hl : k < l.length) (hv : v = shortV (l.take (k + 1))) : rdE l = if v < 1099511627776 ∧ shortL v = l.take (k + 1) then 0 else 7 := by
  subst hk
  have hi := shortL_iff l hl
  unfold rdE
  rw [if_pos ⟨h6, hl⟩, ← hv]
  rw [← hv] at hi
  by_cases h1 : v < 1099511627776
  · by_cases h2 : shortL v = l.take (cnt l + 1)
    · rw [if_pos ⟨h1, hi.2 h2⟩, if_pos ⟨h1, h2⟩]
    · rw [if_neg (fun h => h2 (hi.1 h.2)), if_neg (fun h => h2 h.2)]
  · rw [if_neg (fun h => h1 h.1), if_neg (fun h => h1 h.1)]
theorem rd_seven {l : List UInt8} (h : rdE l = 7) : (0 : Int) = (rdN l : Nat) ∧ ⟨#[]⟩ = ofB (rdR l) ∧ 7 = rdE l := ⟨by unfold rdN; rw [h, if_neg (by omega)]; rfl, by unfold rdR; rw [h, if_neg (by omega)]; rfl, h.symm⟩
theorem rd_five {l : List UInt8} (h : rdE l = 5) : (0 : Int) = (rdN l : Nat) ∧ ⟨#[]⟩ = ofB (rdR l) ∧ 5 = rdE l := ⟨by unfold rdN; rw [h, if_neg (by omega)]; rfl, by unfold rdR; rw [h, if_neg (by omega)]; rfl, h.symm⟩

set_option maxHeartbeats 4000000 in
set_option maxRecDepth 100000 in
theorem rread_any (s : ByteArray) (hs2 : s.size ≤ 200000000000000) (w : World) :
    Calls Try.prog 27 #[.string s] w fun e w' => e = .returned (.tuple #[.int .u64 (rdN s.data.toList : Nat), .string (ofB (rdR s.data.toList)), .int .i64 (rdE s.data.toList)]) ∧ Below w.heap.size w w' := by
  have hs' : s.size ≤ 9223372036854775806 := by omega
  clear hs2
  go_enter Try.func27, Try.ntmps27
  go_wp2_with fail
  go_loopw [5, 6, 7, 8, 9] (fun n b i _ _ wr => wr = w ∧ ∃ k : Nat, k ≤ 5 ∧ k ≤ s.size ∧ k ≤ cnt s.data.toList ∧ i = .int .i64 k ∧ n = .int .u64 (shortV (s.data.toList.take k) : Nat) ∧ b = .int .u64 (128 ^ k : Nat)) (fun _ _ i _ _ _ => s.size - (intOf i).toNat)
  case atStart => exact ⟨rfl, 0, by omega, by omega, by omega, rfl, rfl, rfl⟩
  case round =>
    obtain ⟨rfl, k, hk5, hks, hc, rfl, rfl, rfl⟩ := hrel
    by_cases hlt : k < s.size
    · have hg := getD_data s k hlt
      have hgr := shortV_grow s k hlt
      have hp := pow_128 hk5
      have hvl : shortV (s.data.toList.take k) < 34359738369 := by have := shortV_take_lt s.data.toList k; omega
      obtain ⟨c, hcc⟩ : ∃ c, c = (s[k]'hlt).toNat := ⟨_, rfl⟩
      have hc256 : c < 256 := by rw [hcc]; exact (s[k]'hlt).toNat_lt
      rw [← hcc] at hgr
      obtain ⟨p, hpp⟩ : ∃ p, p = 128 ^ k := ⟨_, rfl⟩
      obtain ⟨v, hv⟩ : ∃ v, v = shortV (s.data.toList.take k) := ⟨_, rfl⟩
      obtain ⟨v2, hv2⟩ : ∃ v2, v2 = shortV (s.data.toList.take (k + 1)) := ⟨_, rfl⟩
      obtain ⟨q, hq⟩ : ∃ q, q = p * (c % 128) := ⟨_, rfl⟩
      have hq2 : q ≤ 34359738368 * 127 := by rw [hq, hpp]; exact Nat.mul_le_mul hp (by omega)
      rw [← hpp] at hp ⊢
      rw [← hv] at hvl ⊢
      rw [← hv, ← hpp, ← hv2, ← hq] at hgr
      have eq1 : (p : Int) * ((c : Int) % 128) = (q : Int) := by rw [hq]; simp
      have ec : ((s[k]'hlt).toNat : Int) = (c : Int) := by rw [hcc]
      have ev : (v : Int) + (q : Int) = (v2 : Int) := by omega
      have ewq : IntKind.u64.wrap (q : Int) = (q : Int) := wrap_nat (by omega)
      have ewv : IntKind.u64.wrap (v2 : Int) = (v2 : Int) := wrap_nat (by omega)
      have z6 : ((k : Int) == 6) = false := by rw [beq_eq_false_iff_ne]; omega
      have k1 : (k : Int) + 1 = ((k + 1 : Nat) : Int) := by omega
      have HV2 := Lib.hid hv2; have HP := Lib.hid hpp; have HCC := Lib.hid hcc; have HG := Lib.hid hg; have HC := Lib.hid hc
      clear hv2 hpp hcc hg hc hq hgr hv hq2 hvl k1
      by_cases hb : c < 128
      · have hck : cnt s.data.toList = k := by
          rcases Nat.lt_or_ge k (cnt s.data.toList) with h | h
          · have := cnt_below _ k h; rw [HG.out, ← HCC.out] at this; omega
          · have := HC.out; omega
        have hrd := rd_found hck (by omega) (by rw [size_data]; exact hlt) HV2.out
        have ms : k + 1 ≤ s.size := by omega
        obtain ⟨m, hm⟩ : ∃ m, m = k + 1 := ⟨_, rfl⟩
        rw [← hm] at hrd ms
        have em : (k : Int) + 1 = (m : Int) := by omega
        have m0 : (0 : Int) ≤ (m : Int) := by omega
        have msI : (m : Int) ≤ (s.size : Int) := by omega
        have wm : IntKind.i64.wrap (m : Int) = (m : Int) := IntWalk.i64_in _ (by omega)
        have HRD := Lib.hid hrd; have HM := Lib.hid hm; have HCK := Lib.hid hck
        clear hrd hm hck
        by_cases hbig : v2 < 1099511627776
        case neg =>
          have F := Lib.hid (rd_seven (l := s.data.toList) (by rw [HRD.out, if_neg (fun h => hbig h.1)]))
          have FE : Hid (putE v2 = 1) := Lib.hid (if_neg hbig)
          clear hbig
          go_wp2_with fail
          refine (rshort_any v2 _).mono ?_
          rw [FE.out]
          rintro e w1 ⟨rfl, hb1⟩
          have HB := Lib.hid hb1
          clear hb1
          go_wp2_with fail
          go_ret3
          exact ⟨ret_read F.out.1 F.out.2.1 F.out.2.2, HB.out⟩
        have FE : Hid (putE v2 = 0 ∧ shoS v2 = ofB (shortL v2)) := Lib.hid ⟨if_pos hbig, if_pos hbig⟩
        by_cases heq : shortL v2 = s.data.toList.take m
        case neg =>
          have F := Lib.hid (rd_seven (l := s.data.toList) (by rw [HRD.out, if_neg (fun h => heq h.2)]))
          have ts : ((ofB (shortL v2)).toList == (s.extract 0 m).toList) = false := by rw [beq_eq_false_iff_ne, toList_data, toList_data, ofB_data, take_data]; exact heq
          clear hbig heq
          go_wp2_with fail
          refine (rshort_any v2 _).mono ?_
          rw [FE.out.1, FE.out.2]
          rintro e w1 ⟨rfl, hb1⟩
          have HB := Lib.hid hb1
          clear hb1
          go_wp2_with fail
          go_ret3
          exact ⟨ret_read F.out.1 F.out.2.1 F.out.2.2, HB.out⟩
        have F : Hid ((v2 : Int) = (rdN s.data.toList : Nat) ∧ s.extract m s.size = ofB (rdR s.data.toList) ∧ 0 = rdE s.data.toList) := Lib.hid (by
          have e : rdE s.data.toList = 0 := by rw [HRD.out, if_pos ⟨hbig, heq⟩]
          exact ⟨by unfold rdN; rw [e, if_pos rfl, HCK.out, ← HV2.out], by unfold rdR; rw [e, if_pos rfl, HCK.out, drop_data, HM.out], e.symm⟩)
        have ts : ((ofB (shortL v2)).toList == (s.extract 0 m).toList) = true := by rw [beq_iff_eq, toList_data, toList_data, ofB_data, take_data]; exact heq
        clear hbig heq
        go_wp2_with fail
        refine (rshort_any v2 _).mono ?_
        rw [FE.out.1, FE.out.2]
        rintro e w1 ⟨rfl, hb1⟩
        have HB := Lib.hid hb1
        clear hb1
        go_wp2_with fail
        go_quiet (fail)
        go_wp2_with fail
        go_ret3
        exact ⟨ret_read F.out.1 F.out.2.1 F.out.2.2, below_drewN HB.out _⟩
      · have HC2 : Hid (k + 1 ≤ cnt s.data.toList) := Lib.hid (by
          rcases Nat.lt_or_ge k (cnt s.data.toList) with h | h
          · exact h
          · have e : cnt s.data.toList = k := by have := HC.out; omega
            have := cnt_at s.data.toList (by rw [e, size_data]; exact hlt)
            rw [e, HG.out, ← HCC.out] at this; omega)
        by_cases h5 : k = 5
        · have F := Lib.hid (rd_seven (l := s.data.toList) (by have := HC2.out; unfold rdE; rw [if_neg (by omega), if_neg (by rw [size_data]; omega)]))
          have z5 : ((k : Int) == 5) = true := by rw [beq_iff_eq]; omega
          clear h5
          go_wp2_with fail
          go_ret3
          exact ⟨ret_read F.out.1 F.out.2.1 F.out.2.2, Below.refl _ _⟩
        · have z5 : ((k : Int) == 5) = false := by rw [beq_eq_false_iff_ne]; omega
          have HP2 : Hid (p * 128 = 128 ^ (k + 1)) := Lib.hid (by rw [HP.out, Nat.pow_succ])
          go_wp2_with fail
          go_roundw
          case rel => exact ⟨trivial, k + 1, by omega, by omega, HC2.out, by go_num, by rw [HV2.out], by rw [← HP2.out]; go_num⟩
          case measure => simp [intOf]; omega
    · obtain rfl : k = s.size := by omega
      have F := Lib.hid (rd_five (l := s.data.toList) (by unfold rdE; rw [if_neg (by rw [size_data]; omega), if_pos (by rw [size_data]; omega)]))
      clear hc
      go_wp2_with fail
      go_ret3
      exact ⟨ret_read F.out.1 F.out.2.1 F.out.2.2, Below.refl _ _⟩
end Go.Proofs.Ytjbbkcnfilnmcaa.Nm

/- The walks of Record, the program's and the document's. -/
import Derived.Test.YtjbbkcnfilnmcaaNumLess
namespace Go.Proofs.Ytjbbkcnfilnmcaa.Nm
open Go.RowKit Rw

theorem recOk_cut {L : List Nat} (h1 : 1 ≤ L.length) (h8 : L.length ≤ 8) {k : Nat} (hk : k ≤ L.length) (hl : ∀ i, i < k → L.getD i 0 < 1099511627776) (hb : k < L.length → ¬ L.getD k 0 < 1099511627776) : if k < L.length then ¬ recOk L else recOk L := by
  split
  · rename_i hlt
    intro h
    apply hb hlt
    rw [List.getD_eq_getElem?_getD, List.getElem?_eq_getElem hlt]
    exact h.2.2 _ (List.getElem_mem hlt)
  · rename_i hge
    refine ⟨h1, h8, fun n hn => ?_⟩
    obtain ⟨i, hi, rfl⟩ := List.getElem_of_mem hn
    have := hl i (by omega)
    rwa [List.getD_eq_getElem?_getD, List.getElem?_eq_getElem hi] at this
theorem fives_take (L : List Nat) (k : Nat) (hk : k < L.length) : fives (L.take (k + 1)) = fives (L.take k) ++ fiveL (L.getD k 0) := by
  rw [List.take_succ_eq_append_getElem hk, fives_snoc]
  simp [List.getD_eq_getElem?_getD, List.getElem?_eq_getElem hk]
theorem rec_bad {L : List Nat} (h : ¬ recOk L) : ⟨#[]⟩ = recS L ∧ 1 = recE L := ⟨(if_neg h).symm, (if_neg h).symm⟩
theorem rec_good {L : List Nat} (h : recOk L) : ofB (fives L) = recS L ∧ 0 = recE L := ⟨(if_pos h).symm, (if_pos h).symm⟩

set_option maxHeartbeats 2000000 in
set_option maxRecDepth 100000 in
theorem record_any (L : List Nat) (p : Option Addr) (c : Nat) (w : World) (hp : Rd w p (nums L)) (hx : L.length ≤ 9223372036854775807) :
    Calls Try.prog 28 #[.slice p L.length c] w fun e w' => e = .returned (.tuple #[.string (recS L), .int .i64 (recE L)]) ∧ Below w.heap.size w w' := by
  obtain ⟨i0, hi, hz0, hz1, hz2⟩ := info_parts info_u8
  have HP := Lib.hid hp
  obtain ⟨n, hn⟩ : ∃ n, n = L.length := ⟨_, rfl⟩
  rw [← hn]; rw [← hn] at hx
  clear hp
  by_cases h1 : n < 1
  · have F := Lib.hid (rec_bad (L := L) (fun h => by have := h.1; omega))
    have t : decide ((n : Int) < 1) = true := decide_eq_true (by omega)
    clear h1 hn
    go_enter Try.func28, Try.ntmps28
    go_wp2_with fail
    go_ret2
    exact ⟨ret_str F.out.1 F.out.2, Below.refl _ _⟩
  by_cases h8 : 8 < n
  · have F := Lib.hid (rec_bad (L := L) (fun h => by have := h.2.1; omega))
    clear h1 hn
    go_enter Try.func28, Try.ntmps28
    go_wp2_with fail
    go_ret2
    exact ⟨ret_str F.out.1 F.out.2, Below.refl _ _⟩
  have HN := Lib.hid hn
  clear hn
  have h1' : 1 ≤ n := by omega
  have h8' : n ≤ 8 := by omega
  clear h1 h8 hx
  go_enter Try.func28, Try.ntmps28
  go_wp2_with (at_make; refine wpList_make_own _ rfl _ _ 63 rfl w.heap.size 5 i0 (.int .u8 0) 1 Try.underlying63 hi hz0 hz1 .i64 .i64 (5 * (n : Int)) (5 * n) rfl rfl (by omega) ?c1 ?c2 ?c3 ?_)
  case c1 => rw [hz2]; omega
  case c2 => unfold maxLen; omega
  case c3 => exact Nat.le_refl _
  intro w1 hown hgr
  have hb1 : Below w.heap.size w w1 := (Below.refl _ w).grown hgr (Nat.le_refl _) (by simp)
  have HO := Lib.hid hown; have HB := Lib.hid hb1
  clear hown hgr hb1
  go_wp2_with fail
  go_loopw [4, 6, 21] (fun u _ i wr => ∃ k : Nat, k ≤ n ∧ i = .int .i64 k ∧ (∀ i, i < k → L.getD i 0 < 1099511627776) ∧ wr.ownsRow w.heap.size 5 1 u (5 * k) (Lib.byteCells (fives (L.take k))) ∧ Below w.heap.size w wr) (fun _ _ i _ => n - (intOf i).toNat)
  case atStart => exact ⟨0, by omega, rfl, fun i hi => by omega, by simpa [fives, Lib.byteCells] using HO.out, HB.out⟩
  case round =>
    obtain ⟨k, hk, rfl, hlo, hown, hbl⟩ := hrel
    by_cases hlt : k < n
    · obtain ⟨a, rfl, ca⟩ := rd_num (HP.out.below hbl) k (by rw [← HN.out]; exact hlt)
      have hft := fives_take L k (by rw [← HN.out]; exact hlt)
      have HLO := Lib.hid hlo; have HO2 := Lib.hid hown; have HBL := Lib.hid hbl
      obtain ⟨v, hv⟩ : ∃ v, v = L.getD k 0 := ⟨_, rfl⟩
      rw [← hv] at ca hft
      have hz := hbl.size
      have HFT := Lib.hid hft; have HV := Lib.hid hv
      clear hlo hown hbl hft hv
      by_cases hbig : v < 1099511627776
      · have t : decide ((1099511627776 : Int) ≤ (v : Int)) = false := decide_eq_false (by omega)
        have HLO2 : Hid (∀ i, i < k + 1 → L.getD i 0 < 1099511627776) := Lib.hid (fun i hi => by
          rcases Nat.lt_or_ge i k with h | h
          · exact HLO.out i h
          · have e : i = k := by omega
            rw [e, ← HV.out]; exact hbig)
        clear hbig
        go_wp2_with fail
        refine (append_any v _ (5 * k) (fives (L.take k)) _ w.heap.size HO2.out (by omega) (by omega)).mono ?_
        rintro e w2 ⟨g, cap, rfl, hown2, hb2⟩
        have hb4 := HBL.out.trans hb2
        have hown3 : w2.ownsRow w.heap.size 5 1 (.slice (some ⟨g, 0, none⟩) (5 * k + 5) cap) (5 * (k + 1)) (Lib.byteCells (fives (L.take (k + 1)))) := by
          rw [HFT.out]; exact hown2
        have H3 := Lib.hid hown3; have H4 := Lib.hid hb4
        clear hown2 hb2 hown3 hb4 ca
        go_wp2_with fail
        go_roundw
        case rel => exact ⟨k + 1, by omega, by go_num, HLO2.out, H3.out, H4.out⟩
        case measure => simp [intOf]; omega
      · have F := Lib.hid (rec_bad (L := L) (by
          have h := recOk_cut (L := L) (by rw [← HN.out]; exact h1') (by rw [← HN.out]; exact h8') (k := k) (by rw [← HN.out]; exact hk) HLO.out (fun _ => by rw [← HV.out]; exact hbig)
          rwa [if_pos (by rw [← HN.out]; exact hlt)] at h))
        have t : decide ((1099511627776 : Int) ≤ (v : Int)) = true := decide_eq_true (by omega)
        clear hbig
        go_wp2_with fail
        go_ret2
        exact ⟨ret_str F.out.1 F.out.2, HBL.out⟩
    · obtain rfl : k = n := by omega
      have hr := recOk_cut (L := L) (by rw [← HN.out]; exact h1') (by rw [← HN.out]; exact h8') (k := k) (by rw [← HN.out]; exact hk) hlo (fun h => by rw [← HN.out] at h; omega)
      rw [if_neg (by rw [← HN.out]; omega)] at hr
      have F := Lib.hid (rec_good hr)
      have htk : L.take k = L := List.take_of_length_le (by rw [← HN.out]; exact Nat.le_refl _)
      rw [htk] at hown
      obtain ⟨g, cap, rfl, _, _⟩ := hown.form (by omega)
      have hbk := run_own hown (by rw [fives_length, HN.out])
      have HBL := Lib.hid hbl
      clear hlo hown hbl hr htk
      go_wp2_with fail
      go_ret2
      exact ⟨ret_str F.out.1 F.out.2, HBL.out⟩

theorem app_data (a b : List UInt8) : ofB a ++ ofB b = ofB (a ++ b) := by
  apply data_inj; rw [ofB_data]; simp [ofB]

set_option maxHeartbeats 2000000 in
set_option maxRecDepth 100000 in
theorem rrecord_any (L : List Nat) (p : Option Addr) (c : Nat) (w : World) (hp : Rd w p (nums L)) (hx : L.length ≤ 9223372036854775807) :
    Calls Try.prog 29 #[.slice p L.length c] w fun e w' => e = .returned (.tuple #[.string (recS L), .int .i64 (recE L)]) ∧ Below w.heap.size w w' := by
  have HP := Lib.hid hp
  obtain ⟨n, hn⟩ : ∃ n, n = L.length := ⟨_, rfl⟩
  rw [← hn]; rw [← hn] at hx
  clear hp
  by_cases h1 : n < 1
  · have F := Lib.hid (rec_bad (L := L) (fun h => by have := h.1; omega))
    have t : decide ((n : Int) < 1) = true := decide_eq_true (by omega)
    clear h1 hn
    go_enter Try.func29, Try.ntmps29
    go_wp2_with fail
    go_ret2
    exact ⟨ret_str F.out.1 F.out.2, Below.refl _ _⟩
  by_cases h8 : 8 < n
  · have F := Lib.hid (rec_bad (L := L) (fun h => by have := h.2.1; omega))
    clear h1 hn
    go_enter Try.func29, Try.ntmps29
    go_wp2_with fail
    go_ret2
    exact ⟨ret_str F.out.1 F.out.2, Below.refl _ _⟩
  have HN := Lib.hid hn
  clear hn
  have h1' : 1 ≤ n := by omega
  have h8' : n ≤ 8 := by omega
  clear h1 h8 hx
  go_enter Try.func29, Try.ntmps29
  go_wp2_with fail
  go_loopw [4, 6, 17] (fun u _ i wr => ∃ (k : Nat) (S : ByteArray), k ≤ n ∧ i = .int .i64 k ∧ (∀ i, i < k → L.getD i 0 < 1099511627776) ∧ u = .string S ∧ S = ofB (fives (L.take k)) ∧ Below w.heap.size w wr) (fun _ _ i _ => n - (intOf i).toNat)
  case atStart => exact ⟨0, ⟨#[]⟩, by omega, rfl, fun i hi => by omega, rfl, rfl, Below.refl _ _⟩
  case round =>
    obtain ⟨k, S, hk, rfl, hlo, rfl, hS, hbl⟩ := hrel
    have HS := Lib.hid hS
    have hSs : S.size ≤ 1000 := by rw [hS, ofB_size, fives_length, List.length_take]; omega
    clear hS
    by_cases hlt : k < n
    · obtain ⟨a, rfl, ca⟩ := rd_num (HP.out.below hbl) k (by rw [← HN.out]; exact hlt)
      have hft := fives_take L k (by rw [← HN.out]; exact hlt)
      have HLO := Lib.hid hlo; have HBL := Lib.hid hbl
      obtain ⟨v, hv⟩ : ∃ v, v = L.getD k 0 := ⟨_, rfl⟩
      rw [← hv] at ca hft
      have hz := hbl.size
      have HFT := Lib.hid hft; have HV := Lib.hid hv
      clear hlo hbl hft hv
      by_cases hbig : v < 1099511627776
      · have t : decide ((1099511627776 : Int) ≤ (v : Int)) = false := decide_eq_false (by omega)
        have HLO2 : Hid (∀ i, i < k + 1 → L.getD i 0 < 1099511627776) := Lib.hid (fun i hi => by
          rcases Nat.lt_or_ge i k with h | h
          · exact HLO.out i h
          · have e : i = k := by omega
            rw [e, ← HV.out]; exact hbig)
        have HB9 := Lib.hid hbig
        have h5s : (ofB (fiveL v)).size = 5 := by rw [ofB_size, fiveL_length]
        have h5t : (ofB (fiveL v)).size ≤ 5 := by omega
        clear hbig h5s
        go_wp2_with fail
        refine (rfive_any v (by have := HB9.out; omega) _).mono ?_
        rintro e w2 ⟨rfl, hb2⟩
        have H3 : Hid (S ++ ofB (fiveL v) = ofB (fives (L.take (k + 1)))) := Lib.hid (by rw [HFT.out, HS.out, app_data])
        have H4 := Lib.hid (HBL.out.trans (hb2.mono HBL.out.size))
        clear hb2 ca
        go_wp2_with fail
        go_roundw
        case rel => exact ⟨k + 1, _, by omega, by go_num, HLO2.out, rfl, H3.out, H4.out⟩
        case measure => simp [intOf]; omega
      · have F := Lib.hid (rec_bad (L := L) (by
          have h := recOk_cut (L := L) (by rw [← HN.out]; exact h1') (by rw [← HN.out]; exact h8') (k := k) (by rw [← HN.out]; exact hk) HLO.out (fun _ => by rw [← HV.out]; exact hbig)
          rwa [if_pos (by rw [← HN.out]; exact hlt)] at h))
        have t : decide ((1099511627776 : Int) ≤ (v : Int)) = true := decide_eq_true (by omega)
        clear hbig
        go_wp2_with fail
        go_ret2
        exact ⟨ret_str F.out.1 F.out.2, HBL.out⟩
    · obtain rfl : k = n := by omega
      have hr := recOk_cut (L := L) (by rw [← HN.out]; exact h1') (by rw [← HN.out]; exact h8') (k := k) (by rw [← HN.out]; exact hk) hlo (fun h => by rw [← HN.out] at h; omega)
      rw [if_neg (by rw [← HN.out]; omega)] at hr
      have htk : L.take k = L := List.take_of_length_le (by rw [← HN.out]; exact Nat.le_refl _)
      have F : Hid (S = recS L ∧ 0 = recE L) := Lib.hid ⟨by rw [HS.out, htk]; exact (rec_good hr).1, (rec_good hr).2⟩
      have HBL := Lib.hid hbl
      clear hlo hbl hr htk
      go_wp2_with fail
      go_ret2
      exact ⟨ret_str F.out.1 F.out.2, HBL.out⟩
end Go.Proofs.Ytjbbkcnfilnmcaa.Nm

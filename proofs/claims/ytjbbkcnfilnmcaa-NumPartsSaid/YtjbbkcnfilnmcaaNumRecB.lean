/- The walks of number of bytes, numbers. -/
import Derived.Test.YtjbbkcnfilnmcaaNumRecA
namespace Go.Proofs.Ytjbbkcnfilnmcaa.Nm
open Go.RowKit Rw

theorem info_u64 : (Try.prog.info? 34).map (fun i => (i.zero, i.size, i.bytes)) = some (some (.int .u64 0), 1, 8) := by kernel_rfl
theorem info_u64s : (Try.prog.info? 42).map (fun i => (i.zero, i.size, i.bytes)) = some (some (.slice none 0 0), 1, 24) := by kernel_rfl
theorem bcells_length (L : List UInt8) : (Lib.byteCells L).length = L.length := by simp [Lib.byteCells]
theorem bcells_getD (L : List UInt8) (k : Nat) (h : k < L.length) : (Lib.byteCells L).getD k (.bool false) = .int .u8 ((L.getD k 0).toNat : Int) := by
  simp [Lib.byteCells, List.getD_eq_getElem?_getD, List.getElem?_eq_getElem h]
theorem rd_byte {w : World} {a : Addr} {L : List UInt8} (h : Rd w (some a) (Lib.byteCells L)) (k : Nat) (hk : k < L.length) : w.cell? (a.add k) = some (.int .u8 ((L.getD k 0).toNat : Int)) := by
  rw [h.at (by rw [bcells_length]; exact hk), bcells_getD L k hk]
theorem bcells_take (L : List UInt8) (k : Nat) : (Lib.byteCells L).take k = Lib.byteCells (L.take k) := by simp [Lib.byteCells]
theorem bcells_drop (L : List UInt8) (k : Nat) : (Lib.byteCells L).drop k = Lib.byteCells (L.drop k) := by simp [Lib.byteCells]
theorem ofL_grow (L : List UInt8) (k : Nat) (hk : k < L.length) : ofL (L.take (k + 1)) = 256 * ofL (L.take k) + (L.getD k 0).toNat := by
  rw [List.take_succ_eq_append_getElem hk, ofL_snoc]; simp [List.getD_eq_getElem?_getD, List.getElem?_eq_getElem hk]

set_option maxHeartbeats 1000000 in
theorem number_bytes (a : Addr) (c : Nat) (L : List UInt8) (hs : L.length = 5) (w : World) (h : Rd w (some a) (Lib.byteCells L)) :
    Calls Try.prog 62 #[.slice (some a) 5 c] w fun e w' => e = .returned (.int .u64 (ofL L : Nat)) ∧ w = w' := by
  have HS := Lib.hid hs; have HR := Lib.hid h
  clear hs h
  go_enter Try.func62, Try.ntmps62
  go_wp2_with fail
  go_loop [3, 4, 7] (fun v _ i => ∃ k : Nat, k ≤ 5 ∧ i = .int .i64 k ∧ v = .int .u64 (ofL (L.take k) : Nat)) (fun _ _ i => 5 - (intOf i).toNat)
  case atStart => exact ⟨0, by omega, rfl, rfl⟩
  case round =>
    obtain ⟨k, hk, rfl, rfl⟩ := hrel
    by_cases hlt : k < 5
    · have hc := rd_byte HR.out k (by rw [HS.out]; exact hlt)
      have hg := ofL_grow L k (by rw [HS.out]; exact hlt)
      have hv := or_val (ofL (L.take k)) (L.getD k 0) (ofL_take_lt _ _ (by omega))
      rw [← hg] at hv
      obtain ⟨b, hb⟩ : ∃ b, b = L.getD k 0 := ⟨_, rfl⟩
      rw [← hb] at hc hv
      have HB := Lib.hid hb
      clear hg hb
      go_wp2_with fail
      go_round
      case rel => exact ⟨k + 1, by omega, by go_num, rfl⟩
      case measure => simp [intOf]; omega
    · obtain rfl : k = 5 := by omega
      have F : Hid (((ofL (L.take 5) : Nat) : Int) = (ofL L : Nat)) := Lib.hid (by rw [List.take_of_length_le (by rw [HS.out]; exact Nat.le_refl _)])
      go_wp2_with fail
      go_ret
      exact ⟨ret_int F.out, rfl⟩

/-- the numbers of one record -/
def recL (l : List UInt8) (n : Nat) : List Nat := (List.range n).map fun k => ofL ((l.drop (5 * k)).take 5)
theorem recL_length (l : List UInt8) (n : Nat) : (recL l n).length = n := by simp [recL]
theorem recL_snoc (l : List UInt8) (n : Nat) : recL l (n + 1) = recL l n ++ [ofL ((l.drop (5 * n)).take 5)] := by simp [recL, List.range_succ]

set_option maxHeartbeats 2000000 in
set_option maxRecDepth 100000 in
theorem numbers_any (A : Option Addr) (c n : Nat) (L : List UInt8) (hs : L.length = 5 * n) (hc : 5 * n ≤ c) (h1 : 1 ≤ n) (h8 : n ≤ 8) (w : World) (h : Rd w A (Lib.byteCells L)) :
    Calls Try.prog 53 #[.slice A (5 * n) c] w fun e w' => ∃ g cap, e = .returned (.slice (some ⟨g, 0, none⟩) n cap) ∧ w'.ownsRow w.heap.size 34 1 (.slice (some ⟨g, 0, none⟩) n cap) n (nums (recL L n)) ∧ Below w.heap.size w w' := by
  obtain ⟨i0, hi, hz0, hz1, hz2⟩ := info_parts info_u64
  obtain ⟨a, rfl, _⟩ := h.form (by rw [bcells_length]; omega)
  have HR := Lib.hid h; have HS := Lib.hid hs
  clear h hs
  obtain ⟨N, hN⟩ : ∃ N, N = 5 * n := ⟨_, rfl⟩
  rw [← hN] at hc ⊢
  have e1 : (N : Int) / 5 = (n : Int) := by omega
  have e2 : (N : Int).tdiv 5 = (n : Int) := by rw [Int.tdiv_eq_ediv_of_nonneg (by omega)]; exact e1
  have e3 : IntKind.i64.wrap (n : Int) = (n : Int) := IntWalk.i64_in _ (by omega)
  have hN40 : N ≤ 40 := by omega
  have HN := Lib.hid hN
  clear hN
  go_enter Try.func53, Try.ntmps53
  go_wp2_with (at_make; refine wpList_make_own _ rfl _ _ 42 rfl w.heap.size 34 i0 (.int .u64 0) 1 Try.underlying42 hi hz0 hz1 .i64 .i64 (n : Int) n rfl rfl rfl ?c1 ?c2 ?c3 ?_)
  case c1 => rw [hz2]; omega
  case c2 => unfold maxLen; omega
  case c3 => exact Nat.le_refl _
  intro w1 hown hgr
  have hb1 : Below w.heap.size w w1 := (Below.refl _ w).grown hgr (Nat.le_refl _) (by simp)
  have HO := Lib.hid hown; have HB := Lib.hid hb1
  clear hown hgr hb1
  go_wp2_with fail
  go_loopw [3, 4] (fun u i wr => ∃ k : Nat, k ≤ n ∧ i = .int .i64 (5 * k : Nat) ∧ wr.ownsRow w.heap.size 34 1 u k (nums (recL L k)) ∧ Below w.heap.size w wr) (fun _ i _ => N - (intOf i).toNat)
  case atStart => exact ⟨0, by omega, rfl, by simpa [recL, nums] using HO.out, HB.out⟩
  case round =>
    obtain ⟨k, hk, rfl, hown, hbl⟩ := hrel
    obtain ⟨j, hj⟩ : ∃ j, j = 5 * k := ⟨_, rfl⟩
    rw [← hj]
    by_cases hlt : k < n
    · have HO2 := Lib.hid hown; have HBL := Lib.hid hbl
      have hz := hbl.size
      have hrd : Rd wr (some (a.add j)) (Lib.byteCells ((L.drop (5 * k)).take 5)) := by
        have h2 := (((HR.out.below hbl).cut j (by rw [bcells_length, HS.out]; omega)).take 5)
        rw [bcells_drop, bcells_take, hj] at h2
        rw [hj]; exact h2
      have hl5 : ((L.drop (5 * k)).take 5).length = 5 := by rw [List.length_take, List.length_drop, HS.out]; omega
      have HRD := Lib.hid hrd; have HL5 := Lib.hid hl5; have HSN := Lib.hid (recL_snoc L k)
      have jn : j + 5 ≤ N := by have := HN.out; omega
      have HJ := Lib.hid hj
      obtain ⟨v, hv⟩ : ∃ v, v = ofL ((L.drop (5 * k)).take 5) := ⟨_, rfl⟩
      rw [← hv] at HSN
      have HV := Lib.hid hv
      have j0 : (0 : Int) ≤ (j : Int) := by omega
      have j5 : (j : Int) + 5 ≤ (N : Int) := by omega
      have jc : (j : Int) + 5 ≤ (c : Int) := by omega
      clear hown hbl hrd hl5 hj hv
      go_wp2_with fail
      refine (number_bytes (a.add j) _ _ HL5.out _ HRD.out).mono ?_
      rw [← HV.out]
      rintro e w' ⟨rfl, rfl⟩
      go_wp2_with (at_builtin; refine Rw.push rfl _ _ 42 rfl w.heap.size 34 i0 (.int .u64 0) 1 8 Try.underlying42 hi hz0 hz1 hz2 rfl (by decide) _ _ _ rfl HO2.out [.int .u64 (v : Int)] rfl rfl rfl (by omega) (by omega) (by omega) ?_)
      intro g cap w2 hown2 _ _ _ hgr
      have hb4 := HBL.out.trans hgr
      have hown3 : w2.ownsRow w.heap.size 34 1 (.slice (some ⟨g, 0, none⟩) (k + 1) cap) (k + 1) (nums (recL L (k + 1))) := by
        rw [HSN.out, nums_snoc]; exact hown2
      have H3 := Lib.hid hown3; have H4 := Lib.hid hb4
      clear hown2 hgr hown3 hb4
      go_wp2_with fail
      go_roundw
      case rel => exact ⟨k + 1, by omega, by have := HJ.out; go_num, H3.out, H4.out⟩
      case measure => simp [intOf]; omega
    · obtain rfl : k = n := by omega
      obtain ⟨g, cap, rfl, _, _⟩ := hown.form (by omega)
      have HO2 := Lib.hid hown; have HBL := Lib.hid hbl
      have hjN : j = N := by rw [hj, HN.out]
      subst hjN
      clear hown hbl hj
      go_wp2_with fail
      go_ret
      exact ⟨g, cap, rfl, HO2.out, HBL.out⟩
end Go.Proofs.Ytjbbkcnfilnmcaa.Nm

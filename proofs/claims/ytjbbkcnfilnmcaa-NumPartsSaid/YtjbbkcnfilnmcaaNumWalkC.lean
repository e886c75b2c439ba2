/- The walks of Short, the program's and the document's. -/
import Derived.Test.YtjbbkcnfilnmcaaNumWalkB
namespace Go.Proofs.Ytjbbkcnfilnmcaa.Nm
open Go.RowKit

theorem short_ten {n : Nat} (h : n < 1099511627776) : (shortL n).length ≤ 6 := shortL_length_le 5 n (by omega)
theorem byte_cont (c : Nat) : (c : Int) % 128 + 128 = ((UInt8.ofNat (c % 128 + 128)).toNat : Int) := by
  rw [UInt8.toNat_ofNat']; omega

set_option maxHeartbeats 2000000 in
set_option maxRecDepth 100000 in
theorem short_loop (n : Nat) (hn : n < 1099511627776) (w : World) :
    Calls Try.prog 49 #[.int .u64 n] w fun e w' => ∃ g cap, e = .returned (.slice (some ⟨g, 0, none⟩) (shortL n).length cap) ∧ w'.ownsRow w.heap.size 5 1 (.slice (some ⟨g, 0, none⟩) (shortL n).length cap) (shortL n).length (Lib.byteCells (shortL n)) ∧ Below w.heap.size w w' := by
  obtain ⟨i0, hi, hz0, hz1, hz2⟩ := info_parts info_u8
  have HN := Lib.hid hn
  obtain ⟨N, hN⟩ : ∃ N, N = (shortL n).length := ⟨_, rfl⟩
  have hN6 : N ≤ 6 := by rw [hN]; exact short_ten hn
  have hr0 := World.ownsRow_nil w w.heap.size 5 1
  rw [← hN]
  have HNN := Lib.hid hN
  clear hn hN
  go_enter Try.func49, Try.ntmps49
  go_wp2_with (at_make; refine wpList_make_own _ rfl _ _ 63 rfl w.heap.size 5 i0 (.int .u8 0) 1 Try.underlying63 hi hz0 hz1 .i64 .i64 6 6 rfl rfl rfl ?c1 ?c2 ?c3 ?_)
  case c1 => rw [hz2]; omega
  case c2 => unfold maxLen; omega
  case c3 => exact Nat.le_refl _
  intro w1 hown hgr
  have hb1 : Below w.heap.size w w1 := (Below.refl _ w).grown hgr (Nat.le_refl _) (by simp)
  have HO := Lib.hid hown; have HB := Lib.hid hb1
  clear hown hgr hb1
  go_wp2_with fail
  go_loopw [0, 3] (fun c u wr => ∃ (k cur : Nat) (L : List UInt8), c = .int .u64 cur ∧ cur < 1099511627776 ∧ k + (shortL cur).length = N ∧ wr.ownsRow w.heap.size 5 1 u k (Lib.byteCells L) ∧ L ++ shortL cur = shortL n ∧ Below w.heap.size w wr) (fun c _ _ => (intOf c).toNat)
  case atStart => exact ⟨0, n, [], rfl, HN.out, by rw [HNN.out]; omega, by simpa [Lib.byteCells] using HO.out, rfl, HB.out⟩
  case round =>
    obtain ⟨k, cur, L, rfl, hcur, hk, hown, hL, hbl⟩ := hrel
    have hp := shortL_length_pos cur
    have HO := Lib.hid hown; have HBL := Lib.hid hbl
    have hz := hbl.size
    by_cases hlt : cur < 128
    · rw [shortL_lo hlt] at hk hL
      obtain ⟨x, rfl⟩ : ∃ x : UInt8, cur = x.toNat := ⟨UInt8.ofNat cur, by rw [UInt8.toNat_ofNat']; omega⟩
      rw [UInt8.ofNat_toNat] at hL
      have hk1 : k + 1 = N := by simpa using hk
      have HL := Lib.hid hL; have HK1 := Lib.hid hk1
      have hkb : k ≤ 6 := by omega
      clear hk hL hown hbl hp hcur hk1
      go_wp2_with (at_builtin; refine Rw.push rfl _ _ 63 rfl w.heap.size 5 i0 (.int .u8 0) 1 1 Try.underlying63 hi hz0 hz1 hz2 rfl (by decide) _ _ _ rfl HO.out [.int .u8 (x.toNat : Int)] rfl rfl rfl (by omega) (by omega) (by omega) ?_)
      intro g cap w2 hown2 _ _ _ hgr
      have hb4 := HBL.out.trans hgr
      have hown3 : w2.ownsRow w.heap.size 5 1 (.slice (some ⟨g, 0, none⟩) N cap) N (Lib.byteCells (shortL n)) := by
        rw [← HL.out, cells_snoc, ← HK1.out]; exact hown2
      rw [HK1.out]
      have H3 := Lib.hid hown3; have H4 := Lib.hid hb4
      clear hown2 hgr hown3 hb4
      go_wp2_with fail
      go_ret
      exact ⟨g, cap, rfl, H3.out, H4.out⟩
    · rw [shortL_hi hlt] at hk hL
      obtain ⟨x, hx⟩ : ∃ x, x = UInt8.ofNat (cur % 128 + 128) := ⟨_, rfl⟩
      have hbv := byte_cont cur
      rw [← hx] at hbv hL
      have HK : Hid (k + 1 + (shortL (cur / 128)).length = N) := Lib.hid (by rw [List.length_cons] at hk; omega)
      have hL2 : (L ++ [x]) ++ shortL (cur / 128) = shortL n := by rw [List.append_assoc]; exact hL
      have hkb : k ≤ 6 := by omega
      obtain ⟨q, hq⟩ : ∃ q, q = cur / 128 := ⟨_, rfl⟩
      rw [← hq] at HK hL2
      have ew : IntKind.u64.wrap ((cur : Int) / 128) = (q : Int) := by
        have e : (cur : Int) / 128 = (q : Int) := by omega
        rw [e]; exact wrap_nat (by omega)
      have hqc : q < cur := by omega
      have HQ : Hid (q < 1099511627776) := Lib.hid (by omega)
      have HC := Lib.hid hcur; have HL := Lib.hid hL2
      clear hq
      clear hx hk hL hown hbl hp hcur hL2
      go_wp2_with (at_builtin; refine Rw.push rfl _ _ 63 rfl w.heap.size 5 i0 (.int .u8 0) 1 1 Try.underlying63 hi hz0 hz1 hz2 rfl (by decide) _ _ _ rfl HO.out [.int .u8 (x.toNat : Int)] rfl rfl rfl (by omega) (by omega) (by omega) ?_)
      intro g cap w2 hown2 _ _ _ hgr
      have hb4 := HBL.out.trans hgr
      have hown3 : w2.ownsRow w.heap.size 5 1 (.slice (some ⟨g, 0, none⟩) (k + 1) cap) (k + 1) (Lib.byteCells (L ++ [x])) := by
        rw [cells_snoc]; exact hown2
      have H3 := Lib.hid hown3; have H4 := Lib.hid hb4
      clear hown2 hgr hown3 hb4
      go_wp2_with fail
      go_roundw
      case rel => exact ⟨k + 1, q, L ++ [x], rfl, HQ.out, HK.out, H3.out, HL.out, H4.out⟩
      case measure => simp [intOf]; omega

set_option maxHeartbeats 2000000 in
set_option maxRecDepth 100000 in
theorem short_any (n : Nat) (w : World) : Calls Try.prog 24 #[.int .u64 n] w fun e w' => e = .returned (.tuple #[.string (shoS n), .int .i64 (putE n)]) ∧ Below w.heap.size w w' := by
  by_cases h : n < 1099511627776
  · have F : Hid (ofB (shortL n) = shoS n ∧ 0 = putE n) := Lib.hid ⟨(if_pos h).symm, (if_pos h).symm⟩
    have t : decide ((1099511627776 : Int) ≤ (n : Int)) = false := decide_eq_false (by omega)
    have H := Lib.hid h
    clear h
    go_enter Try.func24, Try.ntmps24
    go_wp2_with fail
    refine (short_loop n H.out _).mono ?_
    rintro e w1 ⟨g, cap, rfl, hown, hb⟩
    have hbk := run_own hown rfl
    have HB := Lib.hid hb
    clear hown hb
    go_wp2_with fail
    go_ret2
    exact ⟨ret_str F.out.1 F.out.2, HB.out⟩
  · have F : Hid (⟨#[]⟩ = shoS n ∧ 1 = putE n) := Lib.hid ⟨(if_neg h).symm, (if_neg h).symm⟩
    have t : decide ((1099511627776 : Int) ≤ (n : Int)) = true := decide_eq_true (by omega)
    clear h
    go_enter Try.func24, Try.ntmps24
    go_wp2_with fail
    go_ret2
    exact ⟨ret_str F.out.1 F.out.2, Below.refl _ _⟩

set_option maxHeartbeats 2000000 in
set_option maxRecDepth 100000 in
theorem rshort_any (n : Nat) (w : World) : Calls Try.prog 25 #[.int .u64 n] w fun e w' => e = .returned (.tuple #[.string (shoS n), .int .i64 (putE n)]) ∧ Below w.heap.size w w' := by
  by_cases h : n < 1099511627776
  case neg =>
    have F : Hid (⟨#[]⟩ = shoS n ∧ 1 = putE n) := Lib.hid ⟨(if_neg h).symm, (if_neg h).symm⟩
    have t : decide ((1099511627776 : Int) ≤ (n : Int)) = true := decide_eq_true (by omega)
    clear h
    go_enter Try.func25, Try.ntmps25
    go_wp2_with fail
    go_ret2
    exact ⟨ret_str F.out.1 F.out.2, Below.refl _ _⟩
  have F : Hid (ofB (shortL n) = shoS n ∧ 0 = putE n) := Lib.hid ⟨(if_pos h).symm, (if_pos h).symm⟩
  have t : decide ((1099511627776 : Int) ≤ (n : Int)) = false := decide_eq_false (by omega)
  obtain ⟨i0, hi, hz0, hz1, hz2⟩ := info_parts info_u8
  have HN := Lib.hid h
  obtain ⟨N, hN⟩ : ∃ N, N = (shortL n).length := ⟨_, rfl⟩
  have hN6 : N ≤ 6 := by rw [hN]; exact short_ten h
  have HNN := Lib.hid hN
  clear h hN
  go_enter Try.func25, Try.ntmps25
  go_wp2_with fail
  go_loopw [0, 4] (fun c u wr => ∃ (k cur : Nat) (L : List UInt8), c = .int .u64 cur ∧ cur < 1099511627776 ∧ k + (shortL cur).length = N ∧ wr.ownsRow w.heap.size 5 1 u k (Lib.byteCells L) ∧ L ++ shortL cur = shortL n ∧ Below w.heap.size w wr) (fun c _ _ => (intOf c).toNat)
  case atStart => exact ⟨0, n, [], rfl, HN.out, by rw [HNN.out]; omega, World.ownsRow_nil _ _ _ _, rfl, Below.refl _ _⟩
  case round =>
    obtain ⟨k, cur, L, rfl, hcur, hk, hown, hL, hbl⟩ := hrel
    have hp := shortL_length_pos cur
    have HO := Lib.hid hown; have HBL := Lib.hid hbl
    have hz := hbl.size
    by_cases hlt : cur < 128
    · rw [shortL_lo hlt] at hk hL
      obtain ⟨x, rfl⟩ : ∃ x : UInt8, cur = x.toNat := ⟨UInt8.ofNat cur, by rw [UInt8.toNat_ofNat']; omega⟩
      rw [UInt8.ofNat_toNat] at hL
      have hk1 : k + 1 = N := by simpa using hk
      have HL := Lib.hid hL; have HK1 := Lib.hid hk1
      have hkb : k ≤ 6 := by omega
      have tt : decide ((127 : Int) < (x.toNat : Int)) = false := decide_eq_false (by omega)
      clear hk hL hown hbl hp hcur hk1 t
      go_wp2_with (at_builtin; refine Rw.push rfl _ _ 63 rfl w.heap.size 5 i0 (.int .u8 0) 1 1 Try.underlying63 hi hz0 hz1 hz2 rfl (by decide) _ _ _ rfl HO.out [.int .u8 (x.toNat : Int)] rfl rfl rfl (by omega) (by omega) (by omega) ?_)
      intro g cap w2 hown2 _ _ _ hgr
      have hb4 := HBL.out.trans hgr
      have hown3 : w2.ownsRow w.heap.size 5 1 (.slice (some ⟨g, 0, none⟩) (k + 1) cap) (k + 1) (Lib.byteCells (shortL n)) := by
        rw [← HL.out, cells_snoc]; exact hown2
      have hbk := run_own hown3 (by rw [← HNN.out, HK1.out])
      have H4 := Lib.hid hb4
      clear hown2 hgr hown3 hb4
      go_wp2_with fail
      go_ret2
      exact ⟨ret_str F.out.1 F.out.2, H4.out⟩
    · rw [shortL_hi hlt] at hk hL
      obtain ⟨x, hx⟩ : ∃ x, x = UInt8.ofNat (cur % 128 + 128) := ⟨_, rfl⟩
      have hbv := byte_cont cur
      rw [← hx] at hbv hL
      have HK : Hid (k + 1 + (shortL (cur / 128)).length = N) := Lib.hid (by rw [List.length_cons] at hk; omega)
      have hL2 : (L ++ [x]) ++ shortL (cur / 128) = shortL n := by rw [List.append_assoc]; exact hL
      have hkb : k ≤ 6 := by omega
      obtain ⟨q, hq⟩ : ∃ q, q = cur / 128 := ⟨_, rfl⟩
      rw [← hq] at HK hL2
      have ew : IntKind.u64.wrap ((cur : Int) / 128) = (q : Int) := by
        have e : (cur : Int) / 128 = (q : Int) := by omega
        rw [e]; exact wrap_nat (by omega)
      have hqc : q < cur := by omega
      have HQ : Hid (q < 1099511627776) := Lib.hid (by omega)
      have HL := Lib.hid hL2
      have tt : decide ((127 : Int) < (cur : Int)) = true := decide_eq_true (by omega)
      clear hq hx hk hL hown hbl hp hcur hL2 t
      go_wp2_with (at_builtin; refine Rw.push rfl _ _ 63 rfl w.heap.size 5 i0 (.int .u8 0) 1 1 Try.underlying63 hi hz0 hz1 hz2 rfl (by decide) _ _ _ rfl HO.out [.int .u8 (x.toNat : Int)] rfl rfl rfl (by omega) (by omega) (by omega) ?_)
      intro g cap w2 hown2 _ _ _ hgr
      have hb4 := HBL.out.trans hgr
      have hown3 : w2.ownsRow w.heap.size 5 1 (.slice (some ⟨g, 0, none⟩) (k + 1) cap) (k + 1) (Lib.byteCells (L ++ [x])) := by
        rw [cells_snoc]; exact hown2
      have H3 := Lib.hid hown3; have H4 := Lib.hid hb4
      clear hown2 hgr hown3 hb4
      go_wp2_with fail
      go_roundw
      case rel => exact ⟨k + 1, q, L ++ [x], rfl, HQ.out, HK.out, H3.out, HL.out, H4.out⟩
      case measure => simp [intOf]; omega
end Go.Proofs.Ytjbbkcnfilnmcaa.Nm

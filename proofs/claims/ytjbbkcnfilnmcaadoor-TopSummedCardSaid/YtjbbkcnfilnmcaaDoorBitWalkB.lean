/- The walk of bits.number. -/
import Derived.Test.YtjbbkcnfilnmcaaDoorBitWalkA
namespace Go.Proofs.YtjbbkcnfilnmcaaDoor.Bt
open Go.RowKit

theorem get_step {l : List UInt8} {X : List Bool} (h : Packs l X) (a step : Nat) (hs : step ≤ 8 - a % 8) (hin : a + step ≤ X.length) :
    (X.drop a).take step = nbits ((l.getD (a / 8) 0).toNat / 2 ^ (8 - a % 8 - step) % 2 ^ step) step := by
  apply ext_getD (by rw [List.length_take, List.length_drop, nbits_length]; omega)
  intro i hi
  rw [List.length_take, List.length_drop] at hi
  have e1 : ((X.drop a).take step).getD i false = X.getD (a + i) false := by
    rw [List.getD_eq_getElem?_getD, List.getElem?_take, if_pos (by omega), List.getElem?_drop, ← List.getD_eq_getElem?_getD]
  rw [e1, ← h.2, nbits_getD, if_pos (by omega), Nat.testBit_mod_two_pow, Nat.testBit_div_two_pow]
  unfold bitAt
  rw [show (a + i) / 8 = a / 8 from by omega, show step - 1 - i + (8 - a % 8 - step) = 7 - (a + i) % 8 from by omega]
  simp; omega
theorem take_add (X : List Bool) (a d k : Nat) : (X.drop a).take (d + k) = (X.drop a).take d ++ (X.drop (a + d)).take k := by
  rw [List.take_add, List.drop_drop]
/-- the number goes on by a step -/
theorem num_step {l : List UInt8} {X : List Bool} (h : Packs l X) (a d step : Nat) (hs : step ≤ 8 - (a + d) % 8) (hin : a + d + step ≤ X.length) :
    num ((X.drop a).take (d + step)) = num ((X.drop a).take d) * 2 ^ step + (l.getD ((a + d) / 8) 0).toNat / 2 ^ (8 - (a + d) % 8 - step) % 2 ^ step := by
  rw [take_add, num_append, get_step h (a + d) step hs hin, nbits_length, num_nbits _ _ (Nat.mod_lt _ (Nat.two_pow_pos step))]
theorem num_take_lt (X : List Bool) (a d : Nat) : num ((X.drop a).take d) < 2 ^ d :=
  Nat.lt_of_lt_of_le (num_lt _) (Nat.pow_le_pow_right (by decide) (by rw [List.length_take]; omega))

theorem wrap_u64 (n : Int) : IntKind.u64.wrap n = n % 18446744073709551616 := by simp [IntKind.wrap, IntKind.bits, IntKind.signed]
theorem wrap_nat {n : Nat} (h : n < 18446744073709551616) : IntKind.u64.wrap (n : Int) = (n : Int) := by rw [wrap_u64]; omega
theorem pow_small {k : Nat} (h : k ≤ 8) : 2 ^ k ≤ 256 := by have := Nat.pow_le_pow_right (n := 2) (by decide) h; simpa using this
/-- a number with more bits behind it -/
theorem num_val (v d step sh : Nat) (c : UInt8) (hv : v < 2 ^ d) (hd : d + step ≤ 64) (hs : step ≤ 8) :
    bits .or .u64 (IntKind.u64.wrap ((v : Int) * 2 ^ step)) (bits .and .u64 (IntKind.u64.wrap (c.toNat : Int) / 2 ^ sh) (IntKind.u64.wrap (IntKind.u64.wrap (2 ^ step) - 1))) = ((v * 2 ^ step + c.toNat / 2 ^ sh % 2 ^ step : Nat) : Int) := by
  have hc := c.toNat_lt
  have hp := pow_small hs
  have hp1 := Nat.two_pow_pos step
  have hvs : v * 2 ^ step < 18446744073709551616 := by
    have h1 : v * 2 ^ step < 2 ^ d * 2 ^ step := Nat.mul_lt_mul_of_pos_right hv hp1
    rw [← Nat.pow_add] at h1
    have h2 := Nat.pow_le_pow_right (n := 2) (by decide) hd
    have h3 : (2 : Nat) ^ 64 = 18446744073709551616 := by decide
    omega
  have e1 : ((v : Int) * 2 ^ step) = ((v * 2 ^ step : Nat) : Int) := by simp
  have e2 : (c.toNat : Int) / 2 ^ sh = ((c.toNat / 2 ^ sh : Nat) : Int) := by simp
  have e3 : (2 : Int) ^ step = ((2 ^ step : Nat) : Int) := by simp
  have e4 : ((2 ^ step : Nat) : Int) - 1 = ((2 ^ step - 1 : Nat) : Int) := by omega
  have hcs : c.toNat / 2 ^ sh ≤ c.toNat := Nat.div_le_self _ _
  have hr : c.toNat / 2 ^ sh % 2 ^ step < 2 ^ step := Nat.mod_lt _ hp1
  rw [e1, wrap_nat hvs, wrap_nat (by omega), e2, e3, wrap_nat (by omega), e4, wrap_nat (by omega), u64_and_nat _ _ (by omega) (by omega), Nat.and_two_pow_sub_one_eq_mod, u64_or_nat _ _ hvs (by omega)]
  rw [nat_join step (v * 2 ^ step) (c.toNat / 2 ^ sh % 2 ^ step) (Nat.mul_mod_left _ _) hr]

set_option maxHeartbeats 2000000 in
theorem number_any (s : ByteArray) (n a r : Int) (X : List Bool) (hX : Packs (bytes s) X) (hn : X.length ≤ 1048576) (h0 : 0 ≤ a) (h1 : 0 ≤ r) (h2 : r ≤ 64) (h3 : a + r ≤ X.length) (w : World) :
    Calls Tryd.prog 17 #[.agg #[.string s, .int .i64 n], .int .i64 a, .int .i64 r] w fun e w' => e = .returned (.int .u64 (num ((X.drop a.toNat).take r.toNat) : Nat)) ∧ Below w.heap.size w w' := by
  obtain ⟨a, rfl⟩ := Int.eq_ofNat_of_zero_le h0
  obtain ⟨r, rfl⟩ := Int.eq_ofNat_of_zero_le h1
  rw [Int.toNat_natCast, Int.toNat_natCast]
  have hbx : Below w.heap.size w (w.alloc (.cells #[.string s, .int .i64 n] 25)) := (Below.refl _ _).alloc (Nat.le_refl _) _
  have hsz : s.size = (X.length + 7) / 8 := by rw [← bytes_len]; exact hX.1
  clear h0 h1
  have h2' : r ≤ 64 := by omega
  have h3' : a + r ≤ X.length := by omega
  have HX := Lib.hid hX; clear hX h2 h3
  go_enter Tryd.func17, Tryd.ntmps17
  go_wp2_with fail
  go_loopw [7, 1, 2, 8, 9, 10] (fun v at' rr _ _ _ wr => ∃ d : Nat, d ≤ r ∧ at' = .int .i64 (a + d : Nat) ∧ rr = .int .i64 (r - d : Nat) ∧ v = .int .u64 (num ((X.drop a).take d) : Nat) ∧ wr.cell? ⟨w.heap.size, 0, none⟩ = some (.string s) ∧ Below w.heap.size w wr) (fun _ _ rr _ _ _ _ => (intOf rr).toNat)
  case atStart => exact ⟨0, by omega, rfl, rfl, rfl, by simp, hbx⟩
  case round =>
    obtain ⟨d, hd, rfl, rfl, rfl, hcell, hbl⟩ := hrel
    by_cases hlt : d < r
    · obtain ⟨p, hp⟩ : ∃ p, p = a + d := ⟨_, rfl⟩
      obtain ⟨q, hq⟩ : ∃ q, q = r - d := ⟨_, rfl⟩
      obtain ⟨left, hleft⟩ : ∃ left, left = 8 - p % 8 := ⟨_, rfl⟩
      obtain ⟨step, hstep⟩ : ∃ step, step = min left q := ⟨_, rfl⟩
      obtain ⟨m, hm⟩ : ∃ m, m = p / 8 := ⟨_, rfl⟩
      have hl8 : m < s.size := by omega
      have hns := num_step HX.out a d step (by omega) (by omega)
      have hvl := num_take_lt X a d
      rw [← hp, ← hm] at hns
      have hgc := getD_bytes s m hl8
      rw [hgc] at hns
      obtain ⟨v, hv⟩ : ∃ v, v = num ((X.drop a).take d) := ⟨_, rfl⟩
      rw [← hv] at hns hvl
      have e1 : (8 : Int) - (p : Int) % 8 = (left : Int) := by omega
      have e2 : min (left : Int) (q : Int) = (step : Int) := by omega
      obtain ⟨sh, hsh⟩ : ∃ sh, sh = left - step := ⟨_, rfl⟩
      have e3 : (left : Int) - (step : Int) = (sh : Int) := by omega
      have e4 : IntKind.i64.wrap ((left : Int) - (step : Int)) = (sh : Int) := by rw [e3]; exact IntWalk.i64_in _ (by omega)
      have e5 : IntKind.i64.wrap (sh : Int) = (sh : Int) := IntWalk.i64_in _ (by omega)
      have e6 : (p : Int) / 8 = (m : Int) := by omega
      have e7 : (p : Int).tdiv 8 = (m : Int) := by rw [Int.tdiv_eq_ediv_of_nonneg (by omega)]; exact e6
      have e8 : IntKind.i64.wrap ((p : Int) / 8) = (m : Int) := by rw [e6]; exact IntWalk.i64_in _ (by omega)
      have e9 : IntKind.i64.wrap (m : Int) = (m : Int) := IntWalk.i64_in _ (by omega)
      have i0 : (0 : Int) ≤ (m : Int) := by omega
      have i1 : (m : Int) < (s.size : Int) := by omega
      have hq0 : 0 < q := by omega
      have hp2 : p ≤ 1048576 := by omega
      have hq2 : q ≤ 64 := by omega
      have hsq : step ≤ q := by omega
      have hds : d + step ≤ 64 := by omega
      have hval := num_val v d step sh s[m] hvl hds (by omega)
      rw [hsh, hleft] at hval
      rw [← hns] at hval
      rw [← hleft, ← hsh] at hval
      have HVAL := Lib.hid hval
      have HD : Hid (d + step ≤ r) := Lib.hid (by omega)
      have hst8 : step ≤ 8 := by omega
      have hsh8 : sh ≤ 8 := by omega
      have hs1 : 1 ≤ step := by omega
      clear hgc hns hvl hleft hstep hsh hm hval hds
      rw [← hv, ← hp, ← hq]
      have HP := Lib.hid hp; have HQ := Lib.hid hq; have HV := Lib.hid hv
      clear hp hq hv hlt hd hsz h2' h3'
      go_wp2_with fail
      go_quiet (fail)
      go_wp2_with fail
      go_roundw
      case rel => exact ⟨d + step, HD.out, by have := HP.out; go_num, by have := HQ.out; go_num, by rw [HVAL.out], hcell, below_drewN hbl _⟩
      case measure => simp [intOf]; omega
    · obtain rfl : d = r := by omega
      obtain ⟨v, hv⟩ : ∃ v, v = num ((X.drop a).take d) := ⟨_, rfl⟩
      rw [← hv]
      have HV := Lib.hid hv
      clear hv hsz
      go_wp2_with fail
      go_ret
      exact ⟨by show Ending.returned (.int .u64 (v : Int)) = _; rw [HV.out], hbl⟩
end Go.Proofs.YtjbbkcnfilnmcaaDoor.Bt

/- The walks of bits.bytesFor, Check, number, same. The walk of bits.number. The walks of bits.Get, and of the document's Is, Check, Get. The walks of the document's Is, Check, Get. The walk of the document's Get. -/
import Derived.Test.YtgpheofdeflhdaaRows
import Derived.Test.YtgpheofdeflhdaaBitMath
import Derived.Test.YtgpheofdeflhdaaClone
import Derived.WalkSpells
import Derived.WalkLawsBesides
import Derived.Lib.Strings
import Derived.Lib.Hide
import Derived.Deep.QuietTactic
import Derived.BigQuiet
namespace Go.Proofs.Ytgpheofdeflhdaa.Bt
open Go.RowKit

def bytes (s : ByteArray) : List UInt8 := s.data.toList
theorem bytes_len (s : ByteArray) : (bytes s).length = s.size := (Lib.size_eq s).symm
theorem getD_bytes (s : ByteArray) (k : Nat) (h : k < s.size) : (bytes s).getD k 0 = s[k] := by
  unfold bytes
  rw [List.getD_eq_getElem?_getD, List.getElem?_eq_getElem (by simpa using h)]; rfl
/-- what Check answers -/
def chk (s : ByteArray) (n : Int) : Int := if Right (bytes s) n then 0 else 2
theorem ret_int {k : IntKind} {a b : Int} (h : a = b) : Ending.returned (.int k a) = .returned (.int k b) := by rw [h]

theorem bytesFor_any (n : Int) (h0 : 0 ≤ n) (h1 : n ≤ 2000000) (w : World) :
    Calls Try.prog 51 #[.int .i64 n] w fun e w' => e = .returned (.int .i64 ((n + 7) / 8)) ∧ w = w' := by
  go_enter Try.func51, Try.ntmps51
  go_wp2
  go_ret
  exact ⟨rfl, rfl⟩

/-- the last byte's shape: shifted by the bits that count it is 0 just if the others are -/
theorem last_zero (c : UInt8) (t : Nat) (ht : t < 8) : (c.toNat * 2 ^ t % 256 = 0) ↔ ∀ k, k < 8 → t ≤ k → c.toNat.testBit (7 - k) = false := by
  constructor
  · intro h k hk htk
    have e : (c.toNat * 2 ^ t % 256).testBit (7 - k + t) = false := by rw [h]; simp
    rw [show (256 : Nat) = 2 ^ 8 from rfl, Nat.testBit_mod_two_pow, ← Nat.shiftLeft_eq, Nat.testBit_shiftLeft] at e
    have h1 : decide (7 - k + t < 8) = true := by simp; omega
    have h2 : decide (7 - k + t ≥ t) = true := by simp
    rw [h1, h2, Bool.true_and, Bool.true_and, show 7 - k + t - t = 7 - k from by omega] at e
    exact e
  · intro h
    apply Nat.eq_of_testBit_eq
    intro i
    rw [show (256 : Nat) = 2 ^ 8 from rfl, Nat.testBit_mod_two_pow, ← Nat.shiftLeft_eq, Nat.testBit_shiftLeft, Nat.zero_testBit]
    by_cases hi : i < 8
    · by_cases hit : t ≤ i
      · have := h (7 - (i - t)) (by omega) (by omega)
        rw [show 7 - (7 - (i - t)) = i - t from by omega] at this
        rw [this]; simp
      · have : decide (i ≥ t) = false := by simp; omega
        rw [this]; simp
    · have : decide (i < 8) = false := by simp; omega
      rw [this]; simp
theorem right_iff (s : ByteArray) (n : Nat) (hn : n ≤ 1048576) (hs : s.size = (n + 7) / 8) (h8 : n % 8 ≠ 0) : Right (bytes s) (n : Int) ↔ ((bytes s).getD (s.size - 1) 0).toNat * 2 ^ (n % 8) % 256 = 0 := by
  rw [last_zero _ _ (by omega)]
  constructor
  · intro h k hk hkt
    have := h.2.2.2 (8 * (s.size - 1) + k) (by rw [bytes_len]; omega) (by simp; omega)
    unfold bitAt at this
    rw [show (8 * (s.size - 1) + k) / 8 = s.size - 1 from by omega, show 7 - (8 * (s.size - 1) + k) % 8 = 7 - k from by omega] at this
    exact this
  · intro h
    refine ⟨by omega, by omega, by rw [bytes_len, hs]; simp, fun i hi hni => ?_⟩
    rw [bytes_len] at hi
    simp at hni
    unfold bitAt
    rw [show i / 8 = s.size - 1 from by omega]
    have := h (i % 8) (by omega) (by omega)
    exact this
theorem right_full (s : ByteArray) (n : Nat) (hn : n ≤ 1048576) (hs : s.size = (n + 7) / 8) (h8 : n % 8 = 0) : Right (bytes s) (n : Int) :=
  ⟨by omega, by omega, by rw [bytes_len, hs]; simp, fun i hi hni => by rw [bytes_len] at hi; simp at hni; omega⟩

theorem byte_cast (x t : Nat) : ((x * 2 ^ t % 256 : Nat) : Int) = (x : Int) * 2 ^ t % 256 := by simp
theorem quiet_same {P : Program} {f : FuncId} {args : Array Value} {w : World} {n : Nat} {v : Value}
    (h : Calls P f args (w.drewN n) fun e w' => e = .returned v ∧ w.drewN n = w') : Calls P f args (w.drewN n) fun e w'' => e = .returned v ∧ ∃ m, w'' = w.drewN m :=
  h.mono fun _ _ ⟨he, hm⟩ => ⟨he, n, hm.symm⟩

set_option maxHeartbeats 1000000 in
theorem check_any (s : ByteArray) (n : Int) (w : World) (hs : s.size ≤ maxLen) :
    Calls Try.prog 34 #[.agg #[.string s, .int .i64 n]] w fun e w' => e = .returned (.int .i64 (chk s n)) ∧ Below w.heap.size w w' := by
  unfold maxLen at hs
  have hbx : Below w.heap.size w (w.alloc (.cells #[.string s, .int .i64 n] 48)) := (Below.refl _ _).alloc (Nat.le_refl _) _
  by_cases h1 : n < 0
  · have F : Hid (2 = chk s n) := Lib.hid (if_neg (fun h => by have := h.1; omega)).symm
    go_enter Try.func34, Try.ntmps34
    go_wp2_with fail
    go_quiet (fail)
    go_wp2_with fail
    go_ret
    exact ⟨ret_int F.out, below_drewN hbx _⟩
  by_cases h2 : 1048576 < n
  · have F : Hid (2 = chk s n) := Lib.hid (if_neg (fun h => by have := h.2.1; omega)).symm
    have d1 : decide (n < 0) = false := decide_eq_false h1
    go_enter Try.func34, Try.ntmps34
    go_wp2_with fail
    go_quiet (fail)
    go_wp2_with fail
    go_ret
    exact ⟨ret_int F.out, below_drewN hbx _⟩
  obtain ⟨m, rfl⟩ := Int.eq_ofNat_of_zero_le (show 0 ≤ n by omega)
  have hm : m ≤ 1048576 := by omega
  have d2 : decide ((1048576 : Int) < (m : Int)) = false := by simp; omega
  have d1 : decide ((m : Int) < 0) = false := by simp
  by_cases h3 : s.size = (m + 7) / 8
  case neg =>
    have F : Hid (2 = chk s m) := Lib.hid (if_neg (fun h => by have := h.2.2.1; rw [bytes_len] at this; simp at this; exact h3 this)).symm
    have d3 : ((s.size : Int) != ((m : Int) + 7) / 8) = true := by rw [bne_iff_ne]; omega
    clear h3
    go_enter Try.func34, Try.ntmps34
    go_wp2_with fail
    go_quiet ((go_at_call 51; exact quiet_same (bytesFor_any _ (by omega) (by omega) _)))
    go_wp2_with fail
    go_ret
    exact ⟨ret_int F.out, below_drewN hbx _⟩
  have d3 : ((s.size : Int) != ((m : Int) + 7) / 8) = false := by rw [bne_eq_false_iff_eq]; omega
  by_cases h8 : m % 8 = 0
  · have F : Hid (0 = chk s m) := Lib.hid (if_pos (right_full s m hm h3 h8)).symm
    have d4 : ((m : Int) % 8 != 0) = false := by rw [bne_eq_false_iff_eq]; omega
    clear h3 h8
    go_enter Try.func34, Try.ntmps34
    go_wp2_with fail
    go_quiet ((go_at_call 51; exact quiet_same (bytesFor_any _ (by omega) (by omega) _)))
    go_wp2_with fail
    go_ret
    exact ⟨ret_int F.out, below_drewN hbx _⟩
  have d4 : ((m : Int) % 8 != 0) = true := by rw [bne_iff_ne]; omega
  have l1 : 1 ≤ s.size := by omega
  have l2 : (0 : Int) ≤ (s.size : Int) - 1 := by omega
  have l3 : ((s.size : Int) - 1).toNat = s.size - 1 := by omega
  have l4 : s.size - 1 < s.size := by omega
  obtain ⟨c, hc⟩ : ∃ c, c = s[s.size - 1] := ⟨_, rfl⟩
  have hg := getD_bytes s (s.size - 1) l4
  by_cases h0 : ((bytes s).getD (s.size - 1) 0).toNat * 2 ^ (m % 8) % 256 = 0
  · have F : Hid (0 = chk s m) := Lib.hid (if_pos ((right_iff s m hm h3 h8).2 h0)).symm
    rw [hg] at h0
    have d5 : ((s[s.size - 1].toNat : Int) * 2 ^ (m % 8) % 256 != 0) = false := by
      have e := byte_cast s[s.size - 1].toNat (m % 8)
      rw [bne_eq_false_iff_eq, ← e, h0]; rfl
    clear h3 h8 hg hc h0
    go_enter Try.func34, Try.ntmps34
    go_wp2_with fail
    go_quiet ((go_at_call 51; exact quiet_same (bytesFor_any _ (by omega) (by omega) _)))
    go_wp2_with fail
    go_ret
    exact ⟨ret_int F.out, below_drewN hbx _⟩
  · have F : Hid (2 = chk s m) := Lib.hid (if_neg (fun h => h0 ((right_iff s m hm h3 h8).1 h))).symm
    rw [hg] at h0
    have d5 : ((s[s.size - 1].toNat : Int) * 2 ^ (m % 8) % 256 != 0) = true := by
      have e := byte_cast s[s.size - 1].toNat (m % 8)
      rw [bne_iff_ne, ← e]; omega
    clear h3 h8 hg hc h0
    go_enter Try.func34, Try.ntmps34
    go_wp2_with fail
    go_quiet ((go_at_call 51; exact quiet_same (bytesFor_any _ (by omega) (by omega) _)))
    go_wp2_with fail
    go_ret
    exact ⟨ret_int F.out, below_drewN hbx _⟩
end Go.Proofs.Ytgpheofdeflhdaa.Bt
namespace Go.Proofs.Ytgpheofdeflhdaa.Bt
open Go.RowKit

theorem get_step {l : List UInt8} {X : List Bool} (h : Packs l X) (a step : Nat) (hs : step ≤ 8 - a % 8) (hin : a + step ≤ X.length) :
    (X.drop a).take step = nbits ((l.getD (a / 8) 0).toNat / 2 ^ (8 - a % 8 - step) % 2 ^ step) step := by
  apply ext_getD (by rw [List.length_take, List.length_drop, nbits_length]; omega)
  intro i hi
  rw [List.length_take, List.length_drop] at hi
  have e1 : ((X.drop a).take step).getD i false = X.getD (a + i) false := by
    rw [List.getD_eq_getElem?_getD, List.getElem?_take, if_pos (by omega), List.getElem?_drop, ← List.getD_eq_getElem?_getD]
  rw [e1, ← h.2, nbits_getD, if_pos (by omega), Nat.testBit_mod_two_pow, Nat.testBit_div_two_pow]
  unfold bitAt
  rw [show (a + i) / 8 = a / 8 from by omega, show step - 1 - i + (8 - a % 8 - step) = 7 - (a + i) % 8 from by omega]
  simp; omega
theorem take_add (X : List Bool) (a d k : Nat) : (X.drop a).take (d + k) = (X.drop a).take d ++ (X.drop (a + d)).take k := by
  rw [List.take_add, List.drop_drop]
/-- the number goes on by a step -/
theorem num_step {l : List UInt8} {X : List Bool} (h : Packs l X) (a d step : Nat) (hs : step ≤ 8 - (a + d) % 8) (hin : a + d + step ≤ X.length) :
    num ((X.drop a).take (d + step)) = num ((X.drop a).take d) * 2 ^ step + (l.getD ((a + d) / 8) 0).toNat / 2 ^ (8 - (a + d) % 8 - step) % 2 ^ step := by
  rw [take_add, num_append, get_step h (a + d) step hs hin, nbits_length, num_nbits _ _ (Nat.mod_lt _ (Nat.two_pow_pos step))]
theorem num_take_lt (X : List Bool) (a d : Nat) : num ((X.drop a).take d) < 2 ^ d :=
  Nat.lt_of_lt_of_le (num_lt _) (Nat.pow_le_pow_right (by decide) (by rw [List.length_take]; omega))

theorem wrap_u64 (n : Int) : IntKind.u64.wrap n = n % 18446744073709551616 := by simp [IntKind.wrap, IntKind.bits, IntKind.signed]
theorem wrap_nat {n : Nat} (h : n < 18446744073709551616) : IntKind.u64.wrap (n : Int) = (n : Int) := by rw [wrap_u64]; omega
theorem pow_small {k : Nat} (h : k ≤ 8) : 2 ^ k ≤ 256 := by have := Nat.pow_le_pow_right (n := 2) (by decide) h; simpa using this
/-- a number with more bits behind it -/
theorem num_val (v d step sh : Nat) (c : UInt8) (hv : v < 2 ^ d) (hd : d + step ≤ 64) (hs : step ≤ 8) :
    bits .or .u64 (IntKind.u64.wrap ((v : Int) * 2 ^ step)) (bits .and .u64 (IntKind.u64.wrap (c.toNat : Int) / 2 ^ sh) (IntKind.u64.wrap (IntKind.u64.wrap (2 ^ step) - 1))) = ((v * 2 ^ step + c.toNat / 2 ^ sh % 2 ^ step : Nat) : Int) := by
  have hc := c.toNat_lt
  have hp := pow_small hs
  have hp1 := Nat.two_pow_pos step
  have hvs : v * 2 ^ step < 18446744073709551616 := by
    have h1 : v * 2 ^ step < 2 ^ d * 2 ^ step := Nat.mul_lt_mul_of_pos_right hv hp1
    rw [← Nat.pow_add] at h1
    have h2 := Nat.pow_le_pow_right (n := 2) (by decide) hd
    have h3 : (2 : Nat) ^ 64 = 18446744073709551616 := by decide
    omega
  have e1 : ((v : Int) * 2 ^ step) = ((v * 2 ^ step : Nat) : Int) := by simp
  have e2 : (c.toNat : Int) / 2 ^ sh = ((c.toNat / 2 ^ sh : Nat) : Int) := by simp
  have e3 : (2 : Int) ^ step = ((2 ^ step : Nat) : Int) := by simp
  have e4 : ((2 ^ step : Nat) : Int) - 1 = ((2 ^ step - 1 : Nat) : Int) := by omega
  have hcs : c.toNat / 2 ^ sh ≤ c.toNat := Nat.div_le_self _ _
  have hr : c.toNat / 2 ^ sh % 2 ^ step < 2 ^ step := Nat.mod_lt _ hp1
  rw [e1, wrap_nat hvs, wrap_nat (by omega), e2, e3, wrap_nat (by omega), e4, wrap_nat (by omega), u64_and_nat _ _ (by omega) (by omega), Nat.and_two_pow_sub_one_eq_mod, u64_or_nat _ _ hvs (by omega)]
  rw [nat_join step (v * 2 ^ step) (c.toNat / 2 ^ sh % 2 ^ step) (Nat.mul_mod_left _ _) hr]

set_option maxHeartbeats 2000000 in
theorem number_any (s : ByteArray) (n a r : Int) (X : List Bool) (hX : Packs (bytes s) X) (hn : X.length ≤ 1048576) (h0 : 0 ≤ a) (h1 : 0 ≤ r) (h2 : r ≤ 64) (h3 : a + r ≤ X.length) (w : World) :
    Calls Try.prog 39 #[.agg #[.string s, .int .i64 n], .int .i64 a, .int .i64 r] w fun e w' => e = .returned (.int .u64 (num ((X.drop a.toNat).take r.toNat) : Nat)) ∧ Below w.heap.size w w' := by
  obtain ⟨a, rfl⟩ := Int.eq_ofNat_of_zero_le h0
  obtain ⟨r, rfl⟩ := Int.eq_ofNat_of_zero_le h1
  rw [Int.toNat_natCast, Int.toNat_natCast]
  have hbx : Below w.heap.size w (w.alloc (.cells #[.string s, .int .i64 n] 48)) := (Below.refl _ _).alloc (Nat.le_refl _) _
  have hsz : s.size = (X.length + 7) / 8 := by rw [← bytes_len]; exact hX.1
  clear h0 h1
  have h2' : r ≤ 64 := by omega
  have h3' : a + r ≤ X.length := by omega
  have HX := Lib.hid hX; clear hX h2 h3
  go_enter Try.func39, Try.ntmps39
  go_wp2_with fail
  go_loopw [7, 1, 2, 8, 9, 10] (fun v at' rr _ _ _ wr => ∃ d : Nat, d ≤ r ∧ at' = .int .i64 (a + d : Nat) ∧ rr = .int .i64 (r - d : Nat) ∧ v = .int .u64 (num ((X.drop a).take d) : Nat) ∧ wr.cell? ⟨w.heap.size, 0, none⟩ = some (.string s) ∧ Below w.heap.size w wr) (fun _ _ rr _ _ _ _ => (intOf rr).toNat)
  case atStart => exact ⟨0, by omega, rfl, rfl, rfl, by simp, hbx⟩
  case round =>
    obtain ⟨d, hd, rfl, rfl, rfl, hcell, hbl⟩ := hrel
    by_cases hlt : d < r
    · obtain ⟨p, hp⟩ : ∃ p, p = a + d := ⟨_, rfl⟩
      obtain ⟨q, hq⟩ : ∃ q, q = r - d := ⟨_, rfl⟩
      obtain ⟨left, hleft⟩ : ∃ left, left = 8 - p % 8 := ⟨_, rfl⟩
      obtain ⟨step, hstep⟩ : ∃ step, step = min left q := ⟨_, rfl⟩
      obtain ⟨m, hm⟩ : ∃ m, m = p / 8 := ⟨_, rfl⟩
      have hl8 : m < s.size := by omega
      have hns := num_step HX.out a d step (by omega) (by omega)
      have hvl := num_take_lt X a d
      rw [← hp, ← hm] at hns
      have hgc := getD_bytes s m hl8
      rw [hgc] at hns
      obtain ⟨v, hv⟩ : ∃ v, v = num ((X.drop a).take d) := ⟨_, rfl⟩
      rw [← hv] at hns hvl
      have e1 : (8 : Int) - (p : Int) % 8 = (left : Int) := by omega
      have e2 : min (left : Int) (q : Int) = (step : Int) := by omega
      obtain ⟨sh, hsh⟩ : ∃ sh, sh = left - step := ⟨_, rfl⟩
      have e3 : (left : Int) - (step : Int) = (sh : Int) := by omega
      have e4 : IntKind.i64.wrap ((left : Int) - (step : Int)) = (sh : Int) := by rw [e3]; exact IntWalk.i64_in _ (by omega)
      have e5 : IntKind.i64.wrap (sh : Int) = (sh : Int) := IntWalk.i64_in _ (by omega)
      have e6 : (p : Int) / 8 = (m : Int) := by omega
      have e7 : (p : Int).tdiv 8 = (m : Int) := by rw [Int.tdiv_eq_ediv_of_nonneg (by omega)]; exact e6
      have e8 : IntKind.i64.wrap ((p : Int) / 8) = (m : Int) := by rw [e6]; exact IntWalk.i64_in _ (by omega)
      have e9 : IntKind.i64.wrap (m : Int) = (m : Int) := IntWalk.i64_in _ (by omega)
      have i0 : (0 : Int) ≤ (m : Int) := by omega
      have i1 : (m : Int) < (s.size : Int) := by omega
      have hq0 : 0 < q := by omega
      have hp2 : p ≤ 1048576 := by omega
      have hq2 : q ≤ 64 := by omega
      have hsq : step ≤ q := by omega
      have hds : d + step ≤ 64 := by omega
      have hval := num_val v d step sh s[m] hvl hds (by omega)
      rw [hsh, hleft] at hval
      rw [← hns] at hval
      rw [← hleft, ← hsh] at hval
      have HVAL := Lib.hid hval
      have HD : Hid (d + step ≤ r) := Lib.hid (by omega)
      have hst8 : step ≤ 8 := by omega
      have hsh8 : sh ≤ 8 := by omega
      have hs1 : 1 ≤ step := by omega
      clear hgc hns hvl hleft hstep hsh hm hval hds
      rw [← hv, ← hp, ← hq]
      have HP := Lib.hid hp; have HQ := Lib.hid hq; have HV := Lib.hid hv
      clear hp hq hv hlt hd hsz h2' h3'
      go_wp2_with fail
      go_quiet (fail)
      go_wp2_with fail
      go_roundw
      case rel => exact ⟨d + step, HD.out, by have := HP.out; go_num, by have := HQ.out; go_num, by rw [HVAL.out], hcell, below_drewN hbl _⟩
      case measure => simp [intOf]; omega
    · obtain rfl : d = r := by omega
      obtain ⟨v, hv⟩ : ∃ v, v = num ((X.drop a).take d) := ⟨_, rfl⟩
      rw [← hv]
      have HV := Lib.hid hv
      clear hv hsz
      go_wp2_with fail
      go_ret
      exact ⟨by show Ending.returned (.int .u64 (v : Int)) = _; rw [HV.out], hbl⟩
end Go.Proofs.Ytgpheofdeflhdaa.Bt
namespace Go.Proofs.Ytgpheofdeflhdaa.Bt
open Go.RowKit

def getE (s : ByteArray) (n a r : Int) : Int := if chk s n ≠ 0 then 2 else if r < 0 ∨ 64 < r ∨ a < 0 ∨ n < a then 1 else if n - a < r then 5 else 0
def getV (s : ByteArray) (n a r : Int) : Nat := if getE s n a r = 0 then num (((bl (bytes s) n.toNat).drop a.toNat).take r.toNat) else 0
theorem chk_zero {s : ByteArray} {n : Int} (h : chk s n = 0) : Right (bytes s) n := by
  unfold chk at h; split at h
  · assumption
  · omega
theorem chk_cases (s : ByteArray) (n : Int) : chk s n = 0 ∨ chk s n = 2 := by unfold chk; split <;> simp
theorem ret_vi {a b c d : Int} (h : a = c) (k : b = d) : Ending.returned (.tuple #[.int .u64 a, .int .i64 b]) = .returned (.tuple #[.int .u64 c, .int .i64 d]) := by rw [h, k]

set_option maxHeartbeats 2000000 in
theorem get_any (s : ByteArray) (n a r : Int) (w : World) (hs : s.size ≤ maxLen) :
    Calls Try.prog 15 #[.agg #[.string s, .int .i64 n], .int .i64 a, .int .i64 r] w fun e w' => e = .returned (.tuple #[.int .u64 (getV s n a r : Nat), .int .i64 (getE s n a r)]) ∧ Below w.heap.size w w' := by
  have hbx : Below w.heap.size w (w.alloc (.cells #[.string s, .int .i64 n] 48)) := (Below.refl _ _).alloc (Nat.le_refl _) _
  rcases chk_cases s n with hc | hc
  case inr =>
    have e1 : getE s n a r = 2 := if_pos (by omega)
    have F : Hid (getV s n a r = 0 ∧ getE s n a r = 2) := Lib.hid ⟨if_neg (by omega), e1⟩
    clear e1
    go_enter Try.func15, Try.ntmps15
    go_wp2_with fail
    refine (check_any _ _ _ hs).mono ?_
    rintro e w1 ⟨rfl, b1⟩
    have b2 := hbx.trans (b1.mono (by simp))
    rw [hc]
    clear b1
    go_wp2_with fail
    go_ret2
    exact ⟨ret_vi (by rw [F.out.1]; rfl) F.out.2.symm, b2⟩
  have hR := chk_zero hc
  obtain ⟨m, rfl⟩ := Int.eq_ofNat_of_zero_le hR.1
  have hm : m ≤ 1048576 := by have := hR.2.1; omega
  by_cases hbad : r < 0 ∨ 64 < r ∨ a < 0 ∨ (m : Int) < a
  · have e1 : getE s m a r = 1 := by unfold getE; rw [if_neg (by omega), if_pos hbad]
    have F : Hid (getV s m a r = 0 ∧ getE s m a r = 1) := Lib.hid ⟨if_neg (by omega), e1⟩
    clear e1
    clear hR
    by_cases q1 : r < 0
    · go_enter Try.func15, Try.ntmps15
      go_wp2_with fail
      refine (check_any _ _ _ hs).mono ?_
      rintro e w1 ⟨rfl, b1⟩
      have b2 := hbx.trans (b1.mono (by simp))
      rw [hc]
      clear b1
      go_wp2_with fail
      go_ret2
      exact ⟨ret_vi (by rw [F.out.1]; rfl) F.out.2.symm, b2⟩
    by_cases q2 : 64 < r
    · go_enter Try.func15, Try.ntmps15
      go_wp2_with fail
      refine (check_any _ _ _ hs).mono ?_
      rintro e w1 ⟨rfl, b1⟩
      have b2 := hbx.trans (b1.mono (by simp))
      rw [hc]
      clear b1
      go_wp2_with fail
      go_ret2
      exact ⟨ret_vi (by rw [F.out.1]; rfl) F.out.2.symm, b2⟩
    by_cases q3 : a < 0
    · go_enter Try.func15, Try.ntmps15
      go_wp2_with fail
      refine (check_any _ _ _ hs).mono ?_
      rintro e w1 ⟨rfl, b1⟩
      have b2 := hbx.trans (b1.mono (by simp))
      rw [hc]
      clear b1
      go_wp2_with fail
      go_ret2
      exact ⟨ret_vi (by rw [F.out.1]; rfl) F.out.2.symm, b2⟩
    have q4 : (m : Int) < a := by omega
    clear hbad
    go_enter Try.func15, Try.ntmps15
    go_wp2_with fail
    refine (check_any _ _ _ hs).mono ?_
    rintro e w1 ⟨rfl, b1⟩
    have b2 := hbx.trans (b1.mono (by simp))
    have c1 : w1.cell? ⟨w.heap.size, 1, none⟩ = some (.int .i64 m) := by rw [b1.cell (by simp)]; simp
    rw [hc]
    clear b1
    go_wp2_with fail
    go_ret2
    exact ⟨ret_vi (by rw [F.out.1]; rfl) F.out.2.symm, b2⟩
  · obtain ⟨a, rfl⟩ := Int.eq_ofNat_of_zero_le (show 0 ≤ a by omega)
    obtain ⟨r, rfl⟩ := Int.eq_ofNat_of_zero_le (show 0 ≤ r by omega)
    have q2 : r ≤ 64 := by omega
    have q4 : a ≤ m := by omega
    by_cases q5 : (m : Int) - (a : Int) < (r : Int)
    · have e1 : getE s m a r = 5 := by unfold getE; rw [if_neg (by omega), if_neg hbad, if_pos q5]
      have F : Hid (getV s m a r = 0 ∧ getE s m a r = 5) := Lib.hid ⟨if_neg (by omega), e1⟩
      clear e1 hbad hR
      go_enter Try.func15, Try.ntmps15
      go_wp2_with fail
      refine (check_any _ _ _ hs).mono ?_
      rintro e w1 ⟨rfl, b1⟩
      have b2 := hbx.trans (b1.mono (by simp))
      have c1 : w1.cell? ⟨w.heap.size, 1, none⟩ = some (.int .i64 m) := by rw [b1.cell (by simp)]; simp
      rw [hc]
      clear b1
      go_wp2_with fail
      go_ret2
      exact ⟨ret_vi (by rw [F.out.1]; rfl) F.out.2.symm, b2⟩
    · have e1 : getE s m a r = 0 := by unfold getE; rw [if_neg (by omega), if_neg hbad, if_neg q5]
      have F : Hid (getV s m a r = num (((bl (bytes s) m).drop a).take r) ∧ getE s m a r = 0) := Lib.hid ⟨if_pos e1, e1⟩
      have hp := hR.packs
      rw [Int.toNat_natCast] at hp
      have hl := bl_length (bytes s) m
      generalize bl (bytes s) m = X at hp hl F
      have HP := Lib.hid hp
      have HL := Lib.hid hl
      clear e1 hbad hR hp hl
      go_enter Try.func15, Try.ntmps15
      go_wp2_with fail
      refine (check_any _ _ _ hs).mono ?_
      rintro e w1 ⟨rfl, b1⟩
      have b2 := hbx.trans (b1.mono (by simp))
      have c1 : w1.cell? ⟨w.heap.size, 1, none⟩ = some (.int .i64 m) := by rw [b1.cell (by simp)]; simp
      have c0 : w1.cell? ⟨w.heap.size, 0, none⟩ = some (.string s) := by rw [b1.cell (by simp)]; simp
      rw [hc]
      clear b1
      go_wp2_with fail
      refine (number_any s m a r X HP.out (by rw [HL.out]; exact hm) (by omega) (by omega) (by omega) (by rw [HL.out]; omega) _).mono ?_
      rintro e w2 ⟨rfl, b3⟩
      have b4 := b2.trans (b3.mono b2.size)
      clear b2 b3 c1 c0
      go_wp2_with fail
      go_ret2
      exact ⟨ret_vi (by rw [F.out.1]) F.out.2.symm, b4⟩
end Go.Proofs.Ytgpheofdeflhdaa.Bt
namespace Go.Proofs.Ytgpheofdeflhdaa.Bt
open Go.RowKit

theorem bit_beq (c k : Nat) : ((c : Int) / 2 ^ k % 2 == 1) = c.testBit k := by
  have e : (c : Int) / 2 ^ k % 2 = ((c / 2 ^ k % 2 : Nat) : Int) := by simp
  rw [e, Nat.testBit_eq_decide_div_mod_eq, Bool.eq_iff_iff, beq_iff_eq, decide_eq_true_iff]
  omega
theorem bit_tmod (c k : Nat) : (((c : Int) / 2 ^ k).tmod 2 == 1) = c.testBit k := by
  rw [Int.tmod_eq_emod_of_nonneg (Int.ediv_nonneg (by omega) (Int.pow_nonneg (by decide)))]; exact bit_beq c k

end Go.Proofs.Ytgpheofdeflhdaa.Bt
namespace Go.Proofs.Ytgpheofdeflhdaa.Bt
open Go.RowKit

theorem getD_take_drop (X : List Bool) (a d : Nat) (h : a + d < X.length) : (X.drop a).take (d + 1) = (X.drop a).take d ++ [X.getD (a + d) false] := by
  have hl : d < (X.drop a).length := by rw [List.length_drop]; omega
  rw [List.take_succ_eq_append_getElem hl]
  simp [List.getD_eq_getElem?_getD, List.getElem?_eq_getElem h]

end Go.Proofs.Ytgpheofdeflhdaa.Bt

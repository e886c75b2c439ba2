/- The walks of bits.bytesFor, Check, number, same. -/
import Derived.Test.YtjbbkcnfilnmcaaDoorRows
import Derived.Test.YtjbbkcnfilnmcaaDoorBitMath
import Derived.Test.YtjbbkcnfilnmcaaDoorClone
import Derived.WalkSpells
import Derived.WalkLawsBesides
import Derived.Lib.Strings
import Derived.Lib.Hide
import Derived.Deep.QuietTactic
import Derived.BigQuiet
namespace Go.Proofs.YtjbbkcnfilnmcaaDoor.Bt
open Go.RowKit

def bytes (s : ByteArray) : List UInt8 := s.data.toList
theorem bytes_len (s : ByteArray) : (bytes s).length = s.size := (Lib.size_eq s).symm
theorem getD_bytes (s : ByteArray) (k : Nat) (h : k < s.size) : (bytes s).getD k 0 = s[k] := by
  unfold bytes
  rw [List.getD_eq_getElem?_getD, List.getElem?_eq_getElem (by simpa using h)]; rfl
/-- what Check answers -/
def chk (s : ByteArray) (n : Int) : Int := if Right (bytes s) n then 0 else 2
theorem ret_int {k : IntKind} {a b : Int} (h : a = b) : Ending.returned (.int k a) = .returned (.int k b) := by rw [h]

theorem bytesFor_any (n : Int) (h0 : 0 ≤ n) (h1 : n ≤ 2000000) (w : World) :
    Calls Tryd.prog 19 #[.int .i64 n] w fun e w' => e = .returned (.int .i64 ((n + 7) / 8)) ∧ w = w' := by
  go_enter Tryd.func19, Tryd.ntmps19
  go_wp2
  go_ret
  exact ⟨rfl, rfl⟩

/-- the last byte's shape: shifted by the bits that count it is 0 just if the others are -/
theorem last_zero (c : UInt8) (t : Nat) (ht : t < 8) : (c.toNat * 2 ^ t % 256 = 0) ↔ ∀ k, k < 8 → t ≤ k → c.toNat.testBit (7 - k) = false := by
  constructor
  · intro h k hk htk
    have e : (c.toNat * 2 ^ t % 256).testBit (7 - k + t) = false := by rw [h]; simp
    rw [show (256 : Nat) = 2 ^ 8 from rfl, Nat.testBit_mod_two_pow, ← Nat.shiftLeft_eq, Nat.testBit_shiftLeft] at e
    have h1 : decide (7 - k + t < 8) = true := by simp; omega
    have h2 : decide (7 - k + t ≥ t) = true := by simp
    rw [h1, h2, Bool.true_and, Bool.true_and, show 7 - k + t - t = 7 - k from by omega] at e
    exact e
  · intro h
    apply Nat.eq_of_testBit_eq
    intro i
    rw [show (256 : Nat) = 2 ^ 8 from rfl, Nat.testBit_mod_two_pow, ← Nat.shiftLeft_eq, Nat.testBit_shiftLeft, Nat.zero_testBit]
    by_cases hi : i < 8
    · by_cases hit : t ≤ i
      · have := h (7 - (i - t)) (by omega) (by omega)
        rw [show 7 - (7 - (i - t)) = i - t from by omega] at this
        rw [this]; simp
      · have : decide (i ≥ t) = false := by simp; omega
        rw [this]; simp
    · have : decide (i < 8) = false := by simp; omega
      rw [this]; simp
theorem right_iff (s : ByteArray) (n : Nat) (hn : n ≤ 1048576) (hs : s.size = (n + 7) / 8) (h8 : n % 8 ≠ 0) : Right (bytes s) (n : Int) ↔ ((bytes s).getD (s.size - 1) 0).toNat * 2 ^ (n % 8) % 256 = 0 := by
  rw [last_zero _ _ (by omega)]
  constructor
  · intro h k hk hkt
    have := h.2.2.2 (8 * (s.size - 1) + k) (by rw [bytes_len]; omega) (by simp; omega)
    unfold bitAt at this
    rw [show (8 * (s.size - 1) + k) / 8 = s.size - 1 from by omega, show 7 - (8 * (s.size - 1) + k) % 8 = 7 - k from by omega] at this
    exact this
  · intro h
    refine ⟨by omega, by omega, by rw [bytes_len, hs]; simp, fun i hi hni => ?_⟩
    rw [bytes_len] at hi
    simp at hni
    unfold bitAt
    rw [show i / 8 = s.size - 1 from by omega]
    have := h (i % 8) (by omega) (by omega)
    exact this
theorem right_full (s : ByteArray) (n : Nat) (hn : n ≤ 1048576) (hs : s.size = (n + 7) / 8) (h8 : n % 8 = 0) : Right (bytes s) (n : Int) :=
  ⟨by omega, by omega, by rw [bytes_len, hs]; simp, fun i hi hni => by rw [bytes_len] at hi; simp at hni; omega⟩

theorem byte_cast (x t : Nat) : ((x * 2 ^ t % 256 : Nat) : Int) = (x : Int) * 2 ^ t % 256 := by simp
theorem quiet_same {P : Program} {f : FuncId} {args : Array Value} {w : World} {n : Nat} {v : Value}
    (h : Calls P f args (w.drewN n) fun e w' => e = .returned v ∧ w.drewN n = w') : Calls P f args (w.drewN n) fun e w'' => e = .returned v ∧ ∃ m, w'' = w.drewN m :=
  h.mono fun _ _ ⟨he, hm⟩ => ⟨he, n, hm.symm⟩

set_option maxHeartbeats 1000000 in
theorem check_any (s : ByteArray) (n : Int) (w : World) (hs : s.size ≤ maxLen) :
    Calls Tryd.prog 10 #[.agg #[.string s, .int .i64 n]] w fun e w' => e = .returned (.int .i64 (chk s n)) ∧ Below w.heap.size w w' := by
  unfold maxLen at hs
  have hbx : Below w.heap.size w (w.alloc (.cells #[.string s, .int .i64 n] 25)) := (Below.refl _ _).alloc (Nat.le_refl _) _
  by_cases h1 : n < 0
  · have F : Hid (2 = chk s n) := Lib.hid (if_neg (fun h => by have := h.1; omega)).symm
    go_enter Tryd.func10, Tryd.ntmps10
    go_wp2_with fail
    go_quiet (fail)
    go_wp2_with fail
    go_ret
    exact ⟨ret_int F.out, below_drewN hbx _⟩
  by_cases h2 : 1048576 < n
  · have F : Hid (2 = chk s n) := Lib.hid (if_neg (fun h => by have := h.2.1; omega)).symm
    have d1 : decide (n < 0) = false := decide_eq_false h1
    go_enter Tryd.func10, Tryd.ntmps10
    go_wp2_with fail
    go_quiet (fail)
    go_wp2_with fail
    go_ret
    exact ⟨ret_int F.out, below_drewN hbx _⟩
  obtain ⟨m, rfl⟩ := Int.eq_ofNat_of_zero_le (show 0 ≤ n by omega)
  have hm : m ≤ 1048576 := by omega
  have d2 : decide ((1048576 : Int) < (m : Int)) = false := by simp; omega
  have d1 : decide ((m : Int) < 0) = false := by simp
  by_cases h3 : s.size = (m + 7) / 8
  case neg =>
    have F : Hid (2 = chk s m) := Lib.hid (if_neg (fun h => by have := h.2.2.1; rw [bytes_len] at this; simp at this; exact h3 this)).symm
    have d3 : ((s.size : Int) != ((m : Int) + 7) / 8) = true := by rw [bne_iff_ne]; omega
    clear h3
    go_enter Tryd.func10, Tryd.ntmps10
    go_wp2_with fail
    go_quiet ((go_at_call 19; exact quiet_same (bytesFor_any _ (by omega) (by omega) _)))
    go_wp2_with fail
    go_ret
    exact ⟨ret_int F.out, below_drewN hbx _⟩
  have d3 : ((s.size : Int) != ((m : Int) + 7) / 8) = false := by rw [bne_eq_false_iff_eq]; omega
  by_cases h8 : m % 8 = 0
  · have F : Hid (0 = chk s m) := Lib.hid (if_pos (right_full s m hm h3 h8)).symm
    have d4 : ((m : Int) % 8 != 0) = false := by rw [bne_eq_false_iff_eq]; omega
    clear h3 h8
    go_enter Tryd.func10, Tryd.ntmps10
    go_wp2_with fail
    go_quiet ((go_at_call 19; exact quiet_same (bytesFor_any _ (by omega) (by omega) _)))
    go_wp2_with fail
    go_ret
    exact ⟨ret_int F.out, below_drewN hbx _⟩
  have d4 : ((m : Int) % 8 != 0) = true := by rw [bne_iff_ne]; omega
  have l1 : 1 ≤ s.size := by omega
  have l2 : (0 : Int) ≤ (s.size : Int) - 1 := by omega
  have l3 : ((s.size : Int) - 1).toNat = s.size - 1 := by omega
  have l4 : s.size - 1 < s.size := by omega
  obtain ⟨c, hc⟩ : ∃ c, c = s[s.size - 1] := ⟨_, rfl⟩
  have hg := getD_bytes s (s.size - 1) l4
  by_cases h0 : ((bytes s).getD (s.size - 1) 0).toNat * 2 ^ (m % 8) % 256 = 0
  · have F : Hid (0 = chk s m) := Lib.hid (if_pos ((right_iff s m hm h3 h8).2 h0)).symm
    rw [hg] at h0
    have d5 : ((s[s.size - 1].toNat : Int) * 2 ^ (m % 8) % 256 != 0) = false := by
      have e := byte_cast s[s.size - 1].toNat (m % 8)
      rw [bne_eq_false_iff_eq, ← e, h0]; rfl
    clear h3 h8 hg hc h0
    go_enter Tryd.func10, Tryd.ntmps10
    go_wp2_with fail
    go_quiet ((go_at_call 19; exact quiet_same (bytesFor_any _ (by omega) (by omega) _)))
    go_wp2_with fail
    go_ret
    exact ⟨ret_int F.out, below_drewN hbx _⟩
  · have F : Hid (2 = chk s m) := Lib.hid (if_neg (fun h => h0 ((right_iff s m hm h3 h8).1 h))).symm
    rw [hg] at h0
    have d5 : ((s[s.size - 1].toNat : Int) * 2 ^ (m % 8) % 256 != 0) = true := by
      have e := byte_cast s[s.size - 1].toNat (m % 8)
      rw [bne_iff_ne, ← e]; omega
    clear h3 h8 hg hc h0
    go_enter Tryd.func10, Tryd.ntmps10
    go_wp2_with fail
    go_quiet ((go_at_call 19; exact quiet_same (bytesFor_any _ (by omega) (by omega) _)))
    go_wp2_with fail
    go_ret
    exact ⟨ret_int F.out, below_drewN hbx _⟩
end Go.Proofs.YtjbbkcnfilnmcaaDoor.Bt

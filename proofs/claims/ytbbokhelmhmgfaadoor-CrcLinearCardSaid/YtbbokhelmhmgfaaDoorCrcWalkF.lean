/- The walks of Apart, the program's and the document's. -/
import Derived.Test.YtbbokhelmhmgfaaDoorCrcWalkE
import Derived.Deep.QuietTactic
import Derived.BigQuiet
namespace Go.Proofs.YtbbokhelmhmgfaaDoor.Crc
open Go.RowKit

/-- at how many of the first k places two lists part -/
def apN (a b : List UInt8) : Nat → Nat
  | 0 => 0
  | k + 1 => apN a b k + if a.getD k 0 = b.getD k 0 then 0 else 1
/-- the first place below k at which they part, or d -/
def apF (a b : List UInt8) (d : Nat) : Nat → Nat
  | 0 => d
  | k + 1 => if apN a b k = 0 ∧ a.getD k 0 ≠ b.getD k 0 then k else apF a b d k
theorem apN_le (a b : List UInt8) (k : Nat) : apN a b k ≤ k := by
  induction k with
  | zero => simp [apN]
  | succ k ih => simp only [apN]; split <;> omega
theorem apN_comm (a b : List UInt8) (k : Nat) : apN a b k = apN b a k := by
  induction k with
  | zero => rfl
  | succ k ih =>
    simp only [apN, ih]
    by_cases h : a.getD k 0 = b.getD k 0
    · rw [if_pos h, if_pos h.symm]
    · rw [if_neg h, if_neg (fun e => h e.symm)]
theorem apF_comm (a b : List UInt8) (d k : Nat) : apF a b d k = apF b a d k := by
  induction k with
  | zero => rfl
  | succ k ih =>
    simp only [apF, ih, apN_comm a b]
    by_cases h : apN b a k = 0 ∧ a.getD k 0 ≠ b.getD k 0
    · rw [if_pos h, if_pos ⟨h.1, fun e => h.2 e.symm⟩]
    · rw [if_neg h, if_neg (fun e => h ⟨e.1, fun x => e.2 x.symm⟩)]
/-- none parts: the first place is d -/
theorem apF_none (a b : List UInt8) (d k : Nat) (h : apN a b k = 0) : apF a b d k = d := by
  induction k with
  | zero => rfl
  | succ k ih =>
    simp only [apN] at h
    have h1 : apN a b k = 0 := by omega
    have h2 : a.getD k 0 = b.getD k 0 := by
      by_cases e : a.getD k 0 = b.getD k 0
      · exact e
      · rw [if_neg e] at h; omega
    simp only [apF]
    rw [if_neg (fun x => x.2 h2), ih h1]
theorem apF_lt (a b : List UInt8) (d k : Nat) (h : apN a b k ≠ 0) : apF a b d k < k := by
  induction k with
  | zero => simp [apN] at h
  | succ k ih =>
    simp only [apF]
    split
    · omega
    · rename_i hn
      have : apN a b k ≠ 0 := by
        intro e
        apply hn
        refine ⟨e, fun e2 => h ?_⟩
        simp only [apN, e, if_pos e2]
      have := ih this; omega
def apartN (a b : ByteArray) : Nat := let m := min a.size b.size; (max a.size b.size - m) + apN (bytes a) (bytes b) m
def apartF (a b : ByteArray) : Nat := let m := min a.size b.size; apF (bytes a) (bytes b) m m
theorem getD_bytes (s : ByteArray) (k : Nat) (h : k < s.size) : (bytes s).getD k 0 = s[k] := by
  unfold bytes
  rw [List.getD_eq_getElem?_getD, List.getElem?_eq_getElem (by simpa using h)]; rfl
theorem ret2 {a b c d : Int} (h : a = c) (k : b = d) : Ending.returned (.tuple #[.int .i64 a, .int .i64 b]) = .returned (.tuple #[.int .i64 c, .int .i64 d]) := by rw [h, k]

theorem apF_step (a b : List UInt8) (d k : Nat) (hk : k < d) (hne : a.getD k 0 ≠ b.getD k 0) : min (apF a b d k) k = apF a b d (k + 1) := by
  simp only [apF]
  by_cases h : apN a b k = 0
  · rw [if_pos ⟨h, hne⟩, apF_none a b d k h]; omega
  · rw [if_neg (fun x => h x.1)]
    have := apF_lt a b d k h; omega
theorem ne_bytes {a b : UInt8} (h : a ≠ b) : ((a.toNat : Int) != (b.toNat : Int)) = true := by
  rw [bne_iff_ne]; intro e; apply h; apply UInt8.toNat_inj.1; omega
theorem eq_bytes {a b : UInt8} (h : a = b) : ((a.toNat : Int) != (b.toNat : Int)) = false := by subst h; simp

set_option maxHeartbeats 1000000 in
theorem apart_any (a b : ByteArray) (w : World) (ha : a.size ≤ maxLen) (hb : b.size ≤ maxLen) :
    Calls Tryd.prog 18 #[.string a, .string b] w fun e w' => e = .returned (.tuple #[.int .i64 (apartN a b), .int .i64 (apartF a b)]) ∧ Below w.heap.size w w' := by
  unfold maxLen at ha hb
  by_cases hgt : b.size < a.size
  · have hm : b.size ≤ a.size := by omega
    have FN : Hid ((a.size - b.size) + apN (bytes b) (bytes a) b.size = apartN a b) := Lib.hid (by unfold apartN; rw [apN_comm]; simp only []; rw [show min a.size b.size = b.size from by omega, show max a.size b.size = a.size from by omega])
    have FF : Hid (apF (bytes b) (bytes a) b.size b.size = apartF a b) := Lib.hid (by unfold apartF; rw [apF_comm]; simp only []; rw [show min a.size b.size = b.size from by omega])
    go_enter Tryd.func18, Tryd.ntmps18
    go_wp2_with fail
    go_loopw [6, 7, 25, 8] (fun m f i _ wr => ∃ k c d : Nat, k ≤ b.size ∧ i = .int .i64 k ∧ c = (a.size - b.size) + apN (bytes b) (bytes a) k ∧ m = .int .i64 c ∧ d = apF (bytes b) (bytes a) b.size k ∧ f = .int .i64 d ∧ Below w.heap.size w wr) (fun _ _ i _ _ => b.size - (intOf i).toNat)
    case atStart => exact ⟨0, a.size - b.size, b.size, by omega, rfl, rfl, by go_num, rfl, rfl, Below.refl _ _⟩
    case round =>
      obtain ⟨k, c, d, hk, rfl, hc, rfl, hd, rfl, hbl⟩ := hrel
      have hcb : c ≤ a.size := by have := apN_le (bytes b) (bytes a) k; omega
      have HC := Lib.hid hc; have HD := Lib.hid hd; clear hc hd
      by_cases hlt : k < b.size
      · have hk1 : (0 : Int) ≤ (k : Int) := by omega
        have hk2 : (k : Int) < (b.size : Int) := by omega
        have hk3 : (k : Int) < (a.size : Int) := by omega
        have hky : k < a.size := by omega
        have g1 := getD_bytes b k hlt
        have g2 := getD_bytes a k hky
        by_cases he : b[k] = a[k]
        · have hne := eq_bytes he
          have FC : Hid (c = (a.size - b.size) + apN (bytes b) (bytes a) (k + 1)) := Lib.hid (by rw [HC.out]; simp only [apN, g1, g2, if_pos he]; omega)
          have FD : Hid (d = apF (bytes b) (bytes a) b.size (k + 1)) := Lib.hid (by rw [HD.out]; simp only [apF, g1, g2]; rw [if_neg (fun h => h.2 he)])
          clear g1 g2 he
          go_wp2_with fail
          go_quiet (fail)
          go_wp2_with fail
          go_roundw
          case rel => exact ⟨k + 1, c, d, by omega, by go_num, FC.out, rfl, FD.out, rfl, below_drewN hbl _⟩
          case measure => simp [intOf]; omega
        · have hne := ne_bytes he
          have FC : Hid (c + 1 = (a.size - b.size) + apN (bytes b) (bytes a) (k + 1)) := Lib.hid (by rw [HC.out]; simp only [apN, g1, g2, if_neg he]; omega)
          have hst := apF_step (bytes b) (bytes a) b.size k hlt (by rw [g1, g2]; exact he)
          rw [← HD.out] at hst
          obtain ⟨d2, hd2⟩ : ∃ d2, d2 = min d k := ⟨_, rfl⟩
          rw [← hd2] at hst
          have FD := Lib.hid hst
          have hmin : min (d : Int) (k : Int) = (d2 : Int) := by omega
          have hcw : (c : Int) + 1 ≤ 9223372036854775807 := by
            have := apN_le (bytes b) (bytes a) k
            have := HC.out
            omega
          clear g1 g2 he hst hd2
          go_wp2_with fail
          go_quiet (fail)
          go_wp2_with fail
          go_roundw
          case rel => exact ⟨k + 1, c + 1, d2, by omega, by go_num, FC.out, by go_num, FD.out, by first | rfl | go_num, below_drewN hbl _⟩
          case measure => simp [intOf]; omega
      · obtain rfl : k = b.size := by omega
        rw [FN.out] at HC
        rw [FF.out] at HD
        go_wp2_with fail
        go_ret2
        exact ⟨ret2 (by rw [HC.out]) (by rw [HD.out]), hbl⟩
  · have hm : a.size ≤ b.size := by omega
    have FN : Hid ((b.size - a.size) + apN (bytes a) (bytes b) a.size = apartN a b) := Lib.hid (by unfold apartN; simp only []; rw [show min a.size b.size = a.size from by omega, show max a.size b.size = b.size from by omega])
    have FF : Hid (apF (bytes a) (bytes b) a.size a.size = apartF a b) := Lib.hid (by unfold apartF; simp only []; rw [show min a.size b.size = a.size from by omega])
    go_enter Tryd.func18, Tryd.ntmps18
    go_wp2_with fail
    go_loopw [6, 7, 25, 8] (fun m f i _ wr => ∃ k c d : Nat, k ≤ a.size ∧ i = .int .i64 k ∧ c = (b.size - a.size) + apN (bytes a) (bytes b) k ∧ m = .int .i64 c ∧ d = apF (bytes a) (bytes b) a.size k ∧ f = .int .i64 d ∧ Below w.heap.size w wr) (fun _ _ i _ _ => a.size - (intOf i).toNat)
    case atStart => exact ⟨0, b.size - a.size, a.size, by omega, rfl, rfl, by go_num, rfl, rfl, Below.refl _ _⟩
    case round =>
      obtain ⟨k, c, d, hk, rfl, hc, rfl, hd, rfl, hbl⟩ := hrel
      have hcb : c ≤ b.size := by have := apN_le (bytes a) (bytes b) k; omega
      have HC := Lib.hid hc; have HD := Lib.hid hd; clear hc hd
      by_cases hlt : k < a.size
      · have hk1 : (0 : Int) ≤ (k : Int) := by omega
        have hk2 : (k : Int) < (a.size : Int) := by omega
        have hk3 : (k : Int) < (b.size : Int) := by omega
        have hky : k < b.size := by omega
        have g1 := getD_bytes a k hlt
        have g2 := getD_bytes b k hky
        by_cases he : a[k] = b[k]
        · have hne := eq_bytes he
          have FC : Hid (c = (b.size - a.size) + apN (bytes a) (bytes b) (k + 1)) := Lib.hid (by rw [HC.out]; simp only [apN, g1, g2, if_pos he]; omega)
          have FD : Hid (d = apF (bytes a) (bytes b) a.size (k + 1)) := Lib.hid (by rw [HD.out]; simp only [apF, g1, g2]; rw [if_neg (fun h => h.2 he)])
          clear g1 g2 he
          go_wp2_with fail
          go_quiet (fail)
          go_wp2_with fail
          go_roundw
          case rel => exact ⟨k + 1, c, d, by omega, by go_num, FC.out, rfl, FD.out, rfl, below_drewN hbl _⟩
          case measure => simp [intOf]; omega
        · have hne := ne_bytes he
          have FC : Hid (c + 1 = (b.size - a.size) + apN (bytes a) (bytes b) (k + 1)) := Lib.hid (by rw [HC.out]; simp only [apN, g1, g2, if_neg he]; omega)
          have hst := apF_step (bytes a) (bytes b) a.size k hlt (by rw [g1, g2]; exact he)
          rw [← HD.out] at hst
          obtain ⟨d2, hd2⟩ : ∃ d2, d2 = min d k := ⟨_, rfl⟩
          rw [← hd2] at hst
          have FD := Lib.hid hst
          have hmin : min (d : Int) (k : Int) = (d2 : Int) := by omega
          have hcw : (c : Int) + 1 ≤ 9223372036854775807 := by
            have := apN_le (bytes a) (bytes b) k
            have := HC.out
            omega
          clear g1 g2 he hst hd2
          go_wp2_with fail
          go_quiet (fail)
          go_wp2_with fail
          go_roundw
          case rel => exact ⟨k + 1, c + 1, d2, by omega, by go_num, FC.out, by go_num, FD.out, by first | rfl | go_num, below_drewN hbl _⟩
          case measure => simp [intOf]; omega
      · obtain rfl : k = a.size := by omega
        rw [FN.out] at HC
        rw [FF.out] at HD
        go_wp2_with fail
        go_ret2
        exact ⟨ret2 (by rw [HC.out]) (by rw [HD.out]), hbl⟩
end Go.Proofs.YtbbokhelmhmgfaaDoor.Crc

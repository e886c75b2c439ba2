/- The walk of the law CrcBursts. -/
import Derived.Test.YtbbokhelmhmgfaaDoorCrcLawsC
import Derived.Test.YtbbokhelmhmgfaaDoorBytesRow
namespace Go.Proofs.YtbbokhelmhmgfaaDoor.Crc
open Go.RowKit

/-- k of the four bytes from n on are turned -/
def turned (l : List UInt8) (n v : Nat) : Nat → List UInt8
  | 0 => l
  | k + 1 => (turned l n v k).set (n + k) (xb ((turned l n v k).getD (n + k) 0) (v / 2 ^ (8 * k)))
theorem turned_length (l : List UInt8) (n v k : Nat) : (turned l n v k).length = l.length := by
  induction k with
  | zero => rfl
  | succ k ih => simp only [turned, List.length_set, ih]
theorem four_of (l : List UInt8) (n : Nat) (h : n + 4 ≤ l.length) : ∃ (p t : List UInt8) (a b c d : UInt8), p.length = n ∧ l = p ++ [a, b, c, d] ++ t := by
  have e : l = l.take n ++ (l.drop n) := (List.take_append_drop n l).symm
  have h4 : 4 ≤ (l.drop n).length := by rw [List.length_drop]; omega
  match hm : l.drop n, h4 with
  | a :: b :: c :: d :: t, _ => exact ⟨l.take n, t, a, b, c, d, by rw [List.length_take]; omega, by rw [hm] at e; simpa using e⟩
theorem turned_four (p t : List UInt8) (a b c d : UInt8) (v : Nat) : turned (p ++ [a, b, c, d] ++ t) p.length v 4 = p ++ [xb a v, xb b (v / 256), xb c (v / 65536), xb d (v / 16777216)] ++ t := by
  simp [turned]
theorem xb_bits (c : UInt8) (m : Nat) : bits .xor .u8 (c.toNat : Int) ((m : Int) % 256) = ((xb c m).toNat : Int) := by
  rw [xb_nat]
  have := u8_xor_nat c.toNat (m % 256) c.toNat_lt (by omega)
  rw [← this]; simp

set_option maxHeartbeats 2000000 in
theorem bursts_law (s : ByteArray) (a : Int) (v : Nat) (hv : v < 4294967296) (w : World) (hs : s.size ≤ maxLen) (ht : TabOk w) :
    Calls Tryd.prog 6 #[.string s, .int .i64 a, .int .u32 v] w fun e w' => e = .returned (.bool true) ∧ Below w.heap.size w w' := by
  have hs' : s.size ≤ maxLen := hs
  unfold maxLen at hs'
  by_cases ha : a < 0
  · go_enter Tryd.func6, Tryd.ntmps6
    go_wp2_with fail
    refine (lives_any _ ht).mono ?_
    rintro e w1 ⟨rfl, b1⟩
    go_wp2_with fail
    go_ret
    exact ⟨rfl, b1⟩
  by_cases hb : (s.size : Int) - 4 < a
  · go_enter Tryd.func6, Tryd.ntmps6
    go_wp2_with fail
    refine (lives_any _ ht).mono ?_
    rintro e w1 ⟨rfl, b1⟩
    go_wp2_with fail
    go_ret
    exact ⟨rfl, b1⟩
  obtain ⟨n, rfl⟩ := Int.eq_ofNat_of_zero_le (show 0 ≤ a by omega)
  have hn : n + 4 ≤ s.size := by omega
  have hlen : s.data.toList.length = s.size := (Lib.size_eq s).symm
  go_enter Tryd.func6, Tryd.ntmps6
  go_wp2_with fail
  refine (lives_any _ ht).mono ?_
  rintro e w1 ⟨rfl, b1⟩
  have t1 := ht.below b1
  have hmk := Row.run_make w1 s
  have b2 := b1.trans ((Row.madeOf_below w1 s).mono b1.size)
  have r2 := Row.madeOf_bytes w1 s
  have t2 := t1.below (Row.madeOf_below w1 s)
  have z2 := Row.madeOf_size w1 s
  have hw2 := Row.madeOf_below w1 s
  generalize hg : Row.madeOf w1 s = w2 at *
  clear hg
  have B1 := Lib.hid b1; have R2 := Lib.hid r2; have B2 := Lib.hid hw2
  clear b2 r2 b1 hw2
  go_wp2_with fail
  go_loopw [8] (fun i wr => ∃ k : Nat, k ≤ 4 ∧ i = .int .i64 k ∧ Row.Bytes wr w1.heap.size (turned (bytes s) n v k) ∧ Below w1.heap.size w1 wr) (fun i _ => 4 - (intOf i).toNat)
  case atStart => exact ⟨0, by omega, rfl, R2.out, B2.out⟩
  case round =>
    obtain ⟨k, hk, rfl, hrow, hbl⟩ := hrel
    have ROW := Lib.hid hrow
    have BL := Lib.hid hbl
    have hll : (turned (bytes s) n v k).length = s.size := by rw [turned_length]; exact hlen
    by_cases hlt : k < 4
    · have hc := hrow.cell (n + k) (by rw [hll]; omega)
      have hf := hrow.free (n + k) (by rw [hll]; omega)
      obtain ⟨c, hcc⟩ : ∃ c, c = (turned (bytes s) n v k).getD (n + k) 0 := ⟨_, rfl⟩
      rw [← hcc] at hc
      obtain ⟨y, hy⟩ : ∃ y, y = xb c (v / 2 ^ (8 * k)) := ⟨_, rfl⟩
      have hx : bits .xor .u8 (c.toNat : Int) ((v : Int) / 2 ^ (8 * k) % 256) = (y.toNat : Int) := by
        have h := xb_bits c (v / 2 ^ (8 * k))
        rw [hy, ← h]; simp
      have HN : Hid ((turned (bytes s) n v k).set (n + k) y = turned (bytes s) n v (k + 1)) := Lib.hid (by simp only [turned]; rw [hy, hcc])
      have l1 : (n : Int) + (k : Int) < (s.size : Int) := by omega
      clear hrow hbl hcc hy hll
      go_wp2_with fail
      go_roundw
      case rel => exact ⟨k + 1, by omega, by go_num, by rw [← HN.out]; exact ROW.out.set (n + k) (by rw [turned_length]; show _ < s.data.toList.length; omega) y, BL.out.setCell (Nat.le_refl _) _⟩
      case measure => simp [intOf]; omega
    · obtain rfl : k = 4 := by omega
      obtain ⟨L, hL⟩ : ∃ L, L = turned (bytes s) n v 4 := ⟨_, rfl⟩
      rw [← hL] at hrow hll
      have hbk := Row.run_back hrow (grownCap w1 s.size 0 5)
      rw [hll] at hbk
      have tr := t1.below hbl
      have hLs : (⟨L.toArray⟩ : ByteArray).size = s.size := by rw [← hll]; simp [ByteArray.size]
      have hiff : (sums [⟨L.toArray⟩] = sums [s]) ↔ v = 0 := by
        obtain ⟨p, t, a, b, c, d, hp, he⟩ := four_of (bytes s) n (by show _ ≤ s.data.toList.length; omega)
        have h1 := turned_four p t a b c d v
        rw [hp, ← he, ← hL] at h1
        have h2 := burst p t a b c d v hv
        rw [← h1, ← he] at h2
        exact h2
      obtain ⟨S, hS⟩ : ∃ S : ByteArray, S = ⟨L.toArray⟩ := ⟨_, rfl⟩
      rw [← hS] at hbk hLs hiff
      have b3 : Below w.heap.size w wr := B1.out.trans (hbl.mono B1.out.size)
      clear hrow ROW BL hbl R2 B2 hL hll hS
      go_wp2_with fail
      have a1 : Below wr.heap.size wr (wr.alloc (.cells #[.string S] 9)) := (Below.refl _ _).alloc (Nat.le_refl _) _
      refine (sum_any _ _ [S] _ (small (by simp)) (all1 (by rw [hLs]; exact hs)) (one_text _) (tr.below a1)).mono ?_
      rintro e w3 ⟨rfl, rfl⟩
      go_wp2_with fail
      refine (sum_any _ _ [s] _ (small (by simp)) (all1 hs) (text_at _ (by simp)) ((tr.below a1).alloc _)).mono ?_
      rintro e w3 ⟨rfl, rfl⟩
      by_cases h0 : v = 0
      · have e1 : ((sums [S] : Nat) : Int) = ((sums [s] : Nat) : Int) := by rw [hiff.2 h0]
        have e2 : (((sums [S] : Nat) : Int) == ((sums [s] : Nat) : Int)) = true := by rw [e1]; simp
        have e3 : ((v : Int) == 0) = true := by subst h0; rfl
        clear e1 hiff
        go_wp2_with fail
        go_ret
        exact ⟨rfl, (b3.alloc b3.size _).alloc (by have := b3.size; simp; omega) _⟩
      · have e2 : (((sums [S] : Nat) : Int) == ((sums [s] : Nat) : Int)) = false := by rw [beq_eq_false_iff_ne]; intro h; exact h0 (hiff.1 (by omega))
        have e3 : ((v : Int) == 0) = false := by rw [beq_eq_false_iff_ne]; omega
        clear hiff
        go_wp2_with fail
        go_ret
        exact ⟨rfl, (b3.alloc b3.size _).alloc (by have := b3.size; simp; omega) _⟩
end Go.Proofs.YtbbokhelmhmgfaaDoor.Crc

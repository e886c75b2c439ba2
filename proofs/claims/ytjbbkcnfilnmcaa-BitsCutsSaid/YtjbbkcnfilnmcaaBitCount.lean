/- How many bits are 1: the maths, and OnesCount8. -/
import Derived.Test.YtjbbkcnfilnmcaaBitGather
import Derived.Lib.BitFns
namespace Go.Proofs.Ytjbbkcnfilnmcaa.Bt
open Go.RowKit

set_option maxHeartbeats 4000000 in
set_option maxRecDepth 100000 in
theorem pop_any (x : Int) (w : World) (h0 : 0 ≤ x) (h1 : x ≤ 255) :
    Calls Try.prog 44 #[.int .u8 x] w fun e w' => e = .returned (.int .i64 (Lib.onesCount x.toNat)) ∧ w' = w := by
  rw [← Lib.pop8_int x h0 h1]
  go_enter Try.func44, Try.ntmps44
  go_wp2
  go_ret
  generalize Lib.pop8 x = y
  refine ⟨?_, rfl⟩
  show Ending.returned (.int .i64 (wrap64 y)) = _
  simp [wrap64]

/-- how many are true -/
def bsum (f : Nat → Bool) : Nat → Nat
  | 0 => 0
  | n + 1 => bsum f n + (f n).toNat
theorem bsum_congr {f g : Nat → Bool} : ∀ n, (∀ i, i < n → f i = g i) → bsum f n = bsum g n
  | 0, _ => rfl
  | n + 1, h => by
    show bsum f n + _ = bsum g n + _
    rw [bsum_congr n (fun i hi => h i (by omega)), h n (Nat.lt_succ_self n)]
theorem bsum_past {f : Nat → Bool} (n : Nat) (h : ∀ i, n ≤ i → f i = false) : ∀ m, bsum f (n + m) = bsum f n
  | 0 => rfl
  | m + 1 => by
    show bsum f (n + m) + _ = _
    rw [bsum_past n h m, show f (n.add m) = false from h _ (Nat.le_add_right n m)]; rfl
theorem bsum_le (f : Nat → Bool) : ∀ n, bsum f n ≤ n
  | 0 => Nat.le_refl _
  | n + 1 => by
    have := bsum_le f n
    show bsum f n + _ ≤ _
    have h2 : (f n).toNat ≤ 1 := by cases f n <;> decide
    omega
theorem pop_bits : ∀ a : Fin 256, Lib.onesCount a.val = (a.val.testBit 7).toNat + (a.val.testBit 6).toNat + (a.val.testBit 5).toNat + (a.val.testBit 4).toNat + (a.val.testBit 3).toNat + (a.val.testBit 2).toNat + (a.val.testBit 1).toNat + (a.val.testBit 0).toNat := by decide +kernel
theorem bsum_byte (L : List UInt8) (k : Nat) : bsum (bitAt L) (8 * (k + 1)) = bsum (bitAt L) (8 * k) + Lib.onesCount (L.getD k 0).toNat := by
  have hp := pop_bits ⟨(L.getD k 0).toNat, (L.getD k 0).toNat_lt⟩
  have hb : ∀ t, t < 8 → bitAt L (8 * k + t) = (L.getD k 0).toNat.testBit (7 - t) := by
    intro t ht
    unfold bitAt
    rw [show (8 * k + t) / 8 = k from by omega, show 7 - (8 * k + t) % 8 = 7 - t from by omega]
  show bsum (bitAt L) (8 * k + 8) = _
  have e : bsum (bitAt L) (8 * k + 8) = bsum (bitAt L) (8 * k) + (bitAt L (8 * k + 0)).toNat + (bitAt L (8 * k + 1)).toNat + (bitAt L (8 * k + 2)).toNat + (bitAt L (8 * k + 3)).toNat + (bitAt L (8 * k + 4)).toNat + (bitAt L (8 * k + 5)).toNat + (bitAt L (8 * k + 6)).toNat + (bitAt L (8 * k + 7)).toNat := rfl
  rw [e, hb 0 (by omega), hb 1 (by omega), hb 2 (by omega), hb 3 (by omega), hb 4 (by omega), hb 5 (by omega), hb 6 (by omega), hb 7 (by omega)]
  dsimp only at hp
  rw [hp]
  simp only [Nat.sub_zero, Nat.add_assoc]
/-- as many as are 1 -/
def cnt (X : List Bool) : Nat := X.count true
theorem bsum_cnt : ∀ (n : Nat) (X : List Bool), X.length = n → bsum (fun i => X.getD i false) n = cnt X
  | 0, X, h => by
    have : X = [] := List.length_eq_zero_iff.1 h
    subst this; rfl
  | n + 1, X, h => by
    rcases List.eq_nil_or_concat X with rfl | ⟨Y, b, rfl⟩
    · simp at h
    · rw [List.concat_eq_append] at h ⊢
      have hY : Y.length = n := by simp at h; omega
      show bsum _ n + _ = _
      rw [bsum_congr (g := fun i => Y.getD i false) n (fun i hi => by simp only [List.getD_eq_getElem?_getD]; rw [List.getElem?_append_left (by omega)]), bsum_cnt n Y hY]
      have e : (Y ++ [b]).getD n false = b := by simp [List.getD_eq_getElem?_getD, ← hY]
      show cnt Y + ((Y ++ [b]).getD n false).toNat = _
      rw [e]
      unfold cnt
      rw [List.count_append]
      cases b <;> simp
theorem packs_cnt {L : List UInt8} {X : List Bool} (h : Packs L X) : bsum (bitAt L) (8 * L.length) = cnt X := by
  rw [bsum_congr (g := fun i => X.getD i false) _ (fun i _ => h.2 i), show 8 * L.length = X.length + (8 * L.length - X.length) from by have := h.1; omega, bsum_past X.length (fun i hi => by rw [List.getD_eq_getElem?_getD, List.getElem?_eq_none hi]; rfl), bsum_cnt _ X rfl]

noncomputable def onesN (s : ByteArray) (n : Int) : Nat := if chk s n = 0 then cnt (bl (bytes s) n.toNat) else 0
theorem ret_ii {a b c d : Int} (h : a = c) (k : b = d) : Ending.returned (.tuple #[.int .i64 a, .int .i64 b]) = .returned (.tuple #[.int .i64 c, .int .i64 d]) := by rw [h, k]

end Go.Proofs.Ytjbbkcnfilnmcaa.Bt

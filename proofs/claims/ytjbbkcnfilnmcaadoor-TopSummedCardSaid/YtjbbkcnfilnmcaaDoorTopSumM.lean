/- Whole bytes as bits: what TopSummed leans on. -/
import Derived.Test.YtjbbkcnfilnmcaaDoorBitTurn
import Derived.Test.YtjbbkcnfilnmcaaDoorCrcLawsE
namespace Go.Proofs.YtjbbkcnfilnmcaaDoor.Ts
open Go.RowKit Bt

theorem size_data (s : ByteArray) : s.data.toList.length = s.size := by simp
def ofB (l : List UInt8) : ByteArray := ⟨l.toArray⟩
theorem ofB_data (l : List UInt8) : Bt.bytes (ofB l) = l := by simp [ofB, Bt.bytes]
theorem ofB_self (s : ByteArray) : ofB (Bt.bytes s) = s := by simp [ofB, Bt.bytes]
theorem ofB_size (l : List UInt8) : (ofB l).size = l.length := by simp [ofB, ByteArray.size]
/-- whole bytes are right bits -/
theorem whole (l : List UInt8) (h : 8 * l.length ≤ 1048576) : Right l ((8 * l.length : Nat) : Int) :=
  ⟨by omega, by omega, by rw [Int.toNat_natCast]; omega, fun i hi hn => by rw [Int.toNat_natCast] at hn; omega⟩
theorem chk_whole (s : ByteArray) (m : Nat) (hm : m = 8 * s.size) (h : m ≤ 1048576) : chk s (m : Int) = 0 := by
  subst hm
  unfold chk
  have e : (Bt.bytes s).length = s.size := by rw [Bt.bytes_len]
  have := whole (Bt.bytes s) (by rw [e]; exact h)
  rw [e] at this
  exact if_pos this
theorem packs_whole (l : List UInt8) (h : 8 * l.length ≤ 1048576) : Packs l (bl l (8 * l.length)) := by
  have := (whole l h).packs
  rwa [Int.toNat_natCast] at this
theorem bitAt_append_left (l : List UInt8) (c : UInt8) (i : Nat) (h : i < 8 * l.length) : bitAt (l ++ [c]) i = bitAt l i := by
  unfold bitAt
  have : i / 8 < l.length := by omega
  simp only [List.getD_eq_getElem?_getD, List.getElem?_append_left this]
theorem bitAt_append_right (l : List UInt8) (c : UInt8) (i : Nat) (h : i < 8) : bitAt (l ++ [c]) (8 * l.length + i) = c.toNat.testBit (7 - i) := by
  unfold bitAt
  have e1 : (8 * l.length + i) / 8 = l.length := by omega
  have e2 : (8 * l.length + i) % 8 = i := by omega
  rw [e1, e2]
  simp [List.getD_eq_getElem?_getD]
/-- a byte more -/
theorem byte_more (l : List UInt8) (c : UInt8) : Packs (l ++ [c]) (bl l (8 * l.length) ++ nbits c.toNat 8) := by
  refine packs_of (by rw [List.length_append, List.length_append, bl_length, nbits_length, List.length_singleton]; omega) ?_
  intro i hi
  rw [List.length_append, List.length_singleton] at hi
  by_cases h1 : i < 8 * l.length
  · rw [bitAt_append_left l c i h1]
    have e : (bl l (8 * l.length) ++ nbits c.toNat 8).getD i false = (bl l (8 * l.length)).getD i false := by
      simp only [List.getD_eq_getElem?_getD]
      rw [List.getElem?_append_left (by rw [bl_length]; exact h1)]
    rw [e, bl_getD, if_pos h1]
  · obtain ⟨j, rfl⟩ : ∃ j, i = 8 * l.length + j := ⟨i - 8 * l.length, by omega⟩
    rw [bitAt_append_right l c j (by omega)]
    have e : (bl l (8 * l.length) ++ nbits c.toNat 8).getD (8 * l.length + j) false = (nbits c.toNat 8).getD j false := by
      simp only [List.getD_eq_getElem?_getD]
      rw [List.getElem?_append_right (by rw [bl_length]; omega), bl_length, Nat.add_sub_cancel_left]
    rw [e, nbits_getD, if_pos (by omega)]
theorem put_whole (l : List UInt8) (c : UInt8) (m : Nat) (hm : m = 8 * l.length) (h : m + 8 ≤ 1048576) : putE (ofB l) (m : Int) c.toNat 8 = 0 ∧ putS (ofB l) (m : Int) c.toNat 8 = ofB (l ++ [c]) ∧ putN (ofB l) (m : Int) c.toNat 8 = ((m + 8 : Nat) : Int) := by
  have hc := c.toNat_lt
  have e0 : putE (ofB l) (m : Int) c.toNat 8 = 0 := by
    unfold putE
    have hk := chk_whole (ofB l) m (by rw [ofB_size]; exact hm) (by omega)
    have hd : c.toNat / 2 ^ (8 : Int).toNat = 0 := by show c.toNat / 2 ^ 8 = 0; exact Nat.div_eq_of_lt hc
    rw [if_neg (by omega), if_neg (by omega), if_neg (by omega)]
  refine ⟨e0, ?_, by unfold putN; rw [if_pos e0]; omega⟩
  unfold putS
  rw [if_pos e0, ofB_data, Int.toNat_natCast, hm]
  exact packS_of (byte_more l c)
theorem bl_cut (l : List UInt8) (i : Nat) (h : i < l.length) : ((bl l (8 * l.length)).drop (8 * i)).take 8 = nbits (l.getD i 0).toNat 8 := by
  apply ext_getD (by rw [List.length_take, List.length_drop, bl_length, nbits_length]; omega)
  intro j hj
  rw [List.length_take, List.length_drop, bl_length] at hj
  have e : (((bl l (8 * l.length)).drop (8 * i)).take 8).getD j false = (bl l (8 * l.length)).getD (8 * i + j) false := by
    simp only [List.getD_eq_getElem?_getD, List.getElem?_take, List.getElem?_drop, if_pos (show j < 8 by omega)]
  rw [e, bl_getD, if_pos (by omega), nbits_getD, if_pos (by omega)]
  unfold bitAt
  rw [show (8 * i + j) / 8 = i from by omega, show (8 * i + j) % 8 = j from by omega]
theorem get_whole (s : ByteArray) (m a i : Nat) (hm : m = 8 * s.size) (h : m ≤ 1048576) (ha : a = 8 * i) (hi : i < s.size) : getE s (m : Int) (a : Int) 8 = 0 ∧ getV s (m : Int) (a : Int) 8 = ((Bt.bytes s).getD i 0).toNat := by
  have hk := chk_whole s m hm h
  have e0 : getE s (m : Int) (a : Int) 8 = 0 := by
    unfold getE
    rw [if_neg (by omega), if_neg (by omega), if_neg (by omega)]
  refine ⟨e0, ?_⟩
  unfold getV
  rw [if_pos e0, Int.toNat_natCast, Int.toNat_natCast, hm, ha]
  have e := bl_cut (Bt.bytes s) i (by rw [Bt.bytes_len]; exact hi)
  rw [Bt.bytes_len] at e
  have e8 : ((8 : Int).toNat) = 8 := rfl
  rw [e8, e, num_nbits 8 _ (UInt8.toNat_lt _)]
theorem xor_ne (c : UInt8) (t : Nat) (ht : t < 8) : UInt8.ofNat (c.toNat ^^^ 2 ^ t) ≠ c := by
  intro h
  have h1 := congrArg UInt8.toNat h
  rw [UInt8.toNat_ofNat_of_lt' (xor_lt8 c t ht)] at h1
  have h2 : c.toNat ^^^ (c.toNat ^^^ 2 ^ t) = c.toNat ^^^ c.toNat := by rw [h1]
  rw [← Nat.xor_assoc, Nat.xor_self, Nat.zero_xor] at h2
  have := Nat.two_pow_pos t
  omega
/-- one bit of a frame turned: it is none -/
theorem turn_frame (s : ByteArray) (hs : s.size ≤ 65536) (m at_ : Nat) (hm : m = 8 * (s ++ Crc.tailS s).size) (h : at_ < m) : turnE (s ++ Crc.tailS s) (m : Int) (at_ : Int) = 0 ∧ Crc.openE (turnS (s ++ Crc.tailS s) (m : Int) (at_ : Int)) = 6 ∧ turnN (s ++ Crc.tailS s) (m : Int) (at_ : Int) = m ∧ (turnS (s ++ Crc.tailS s) (m : Int) (at_ : Int)).size = (s ++ Crc.tailS s).size := by
  have hz : (s ++ Crc.tailS s).size = s.size + 4 := by rw [ByteArray.size_append, Crc.tailS_size]
  obtain ⟨f, hf⟩ : ∃ f, f = s ++ Crc.tailS s := ⟨_, rfl⟩
  rw [← hf] at hz hm ⊢
  have hk := chk_whole f m hm (by omega)
  have e0 : turnE f (m : Int) (at_ : Int) = 0 := by unfold turnE; rw [if_neg (by omega), if_neg (by omega)]
  have hb : (Bt.bytes f).length = f.size := Bt.bytes_len f
  have hp := packs_whole (Bt.bytes f) (by rw [hb]; omega)
  have hfl := flip_packs hp at_ (by rw [bl_length, hb]; omega)
  have eS : turnS f (m : Int) (at_ : Int) = ⟨((Bt.bytes f).set (at_ / 8) (UInt8.ofNat (((Bt.bytes f).getD (at_ / 8) 0).toNat ^^^ 2 ^ (7 - at_ % 8)))).toArray⟩ := by
    unfold turnS
    rw [if_pos e0, Int.toNat_natCast, Int.toNat_natCast, hm, ← hb]
    exact packS_of hfl
  refine ⟨e0, ?_, by unfold turnN; rw [if_neg (by omega)], ?_⟩
  · rw [eS, hf]
    exact Crc.frame_turned s hs (at_ / 8) (by omega) _ (xor_ne _ _ (by omega))
  · rw [eS]
    show (List.toArray _).size = _
    rw [List.size_toArray, List.length_set, hb]
theorem turn_out (f : ByteArray) (m : Nat) (a : Int) (hm : m = 8 * f.size) (h : m ≤ 1048576) (ha : a < 0 ∨ (m : Int) ≤ a) : turnE f (m : Int) a = 1 := by
  have hk := chk_whole f m hm h
  unfold turnE
  rw [if_neg (by omega), if_pos ha]
end Go.Proofs.YtjbbkcnfilnmcaaDoor.Ts

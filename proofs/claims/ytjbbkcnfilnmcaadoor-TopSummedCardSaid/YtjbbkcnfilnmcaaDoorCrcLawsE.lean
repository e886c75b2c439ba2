/- Plain facts for the law CrcOne: a frame with one byte another. -/
import Derived.Test.YtjbbkcnfilnmcaaDoorCrcLawsD
namespace Go.Proofs.YtjbbkcnfilnmcaaDoor.Crc
open Go.RowKit

theorem leb_inj {m n : Nat} (hm : m < 4294967296) (hn : n < 4294967296) (h : leb m = leb n) : m = n := by
  simp only [leb, List.cons.injEq, and_true] at h
  obtain ⟨h0, h1, h2, h3⟩ := h
  have g0 := congrArg UInt8.toNat h0
  have g1 := congrArg UInt8.toNat h1
  have g2 := congrArg UInt8.toNat h2
  have g3 := congrArg UInt8.toNat h3
  simp at g0 g1 g2 g3
  omega
theorem lebS_inj {m n : Nat} (hm : m < 4294967296) (hn : n < 4294967296) (h : lebS m = lebS n) : m = n := by
  apply leb_inj hm hn
  have := congrArg (fun b : ByteArray => b.data.toList) h
  simpa [lebS] using this
theorem bytes_mk (l : List UInt8) : bytes (⟨l.toArray⟩ : ByteArray) = l := by simp [bytes]
theorem bytes_inj {a b : ByteArray} (h : bytes a = bytes b) : a = b := ByteArray.ext (Array.toList_inj.1 h)
theorem bytes_len (s : ByteArray) : (bytes s).length = s.size := (Lib.size_eq s).symm
theorem bytes_append (a b : ByteArray) : bytes (a ++ b) = bytes a ++ bytes b := by
  unfold bytes; rw [ByteArray.data_append, Array.toList_append]
theorem bytes_extract (s : ByteArray) (a b : Nat) : bytes (s.extract a b) = ((bytes s).drop a).take (b - a) := by
  have := Lib.extract_toList s a b
  rw [toList_data] at this
  exact this
theorem tailS_bytes (s : ByteArray) : bytes (tailS s) = leb (sums [s]) := bytes_mk _
/-- a frame is opened as what it was made of -/
theorem frame_open (s : ByteArray) (h : s.size ≤ 65536) : openS (s ++ tailS s) = s ∧ openE (s ++ tailS s) = 0 := by
  have hz : (s ++ tailS s).size = s.size + 4 := by rw [ByteArray.size_append, tailS_size]
  have hb : bodyOf (s ++ tailS s) = s := by
    apply bytes_inj
    unfold bodyOf
    rw [bytes_extract, bytes_append, hz, List.drop_zero, List.take_append_of_le_length (by rw [bytes_len]; omega), List.take_of_length_le (by rw [bytes_len]; omega)]
  have ht : (s ++ tailS s).extract ((s ++ tailS s).size - 4) (s ++ tailS s).size = tailS s := by
    apply bytes_inj
    rw [bytes_extract, bytes_append, hz, List.drop_append_of_le_length (by rw [bytes_len]; omega), List.drop_eq_nil_of_le (by rw [bytes_len]; omega), List.nil_append, List.take_of_length_le (by rw [bytes_len, tailS_size]; omega)]
  have he : openE (s ++ tailS s) = 0 := by
    unfold openE
    rw [if_neg (by omega), if_neg (by omega), hb, ht, if_pos rfl]
  exact ⟨by unfold openS; rw [if_pos he, hb], he⟩
theorem run_one (p t : List UInt8) (c d : UInt8) (h : c ≠ d) : more 0 (p ++ [c] ++ t) ≠ more 0 (p ++ [d] ++ t) := by
  intro e
  have hr : run (neg 0) p < 4294967296 := run_lt p (neg_lt 0)
  unfold more at e
  rw [run_append, run_append, run_append, run_append] at e
  have hc : run (run (neg 0) p) [c] < 4294967296 := run_lt _ hr
  have hd : run (run (neg 0) p) [d] < 4294967296 := run_lt _ hr
  have e1 := congrArg neg e
  rw [neg_neg (run_lt t hc), neg_neg (run_lt t hd)] at e1
  have e2 := run_inj hc hd e1
  have e3 : stepP (run (neg 0) p) c.toNat = stepP (run (neg 0) p) d.toNat := e2
  rw [stepP_is, stepP_is] at e3
  have e4 : fn 8 (c.toNat ^^^ d.toNat) = 0 := by
    have : fn 8 ((run (neg 0) p ^^^ c.toNat) ^^^ (run (neg 0) p ^^^ d.toNat)) = 0 := by rw [fn_xor, e3, Nat.xor_self]
    rwa [xc, Nat.xor_self, Nat.zero_xor] at this
  have e5 := fn_inj0 8 (a := c.toNat ^^^ d.toNat) (by have := xor8 c.toNat d.toNat c.toNat_lt d.toNat_lt; omega) e4
  exact h (UInt8.toNat_inj.1 (xor_eq0 e5))
theorem set_split (l : List UInt8) (i : Nat) (x : UInt8) (h : i < l.length) : l.set i x = l.take i ++ [x] ++ l.drop (i + 1) := by
  rw [List.set_eq_take_append_cons_drop, if_pos h]; simp
theorem get_split (l : List UInt8) (i : Nat) (h : i < l.length) : l = l.take i ++ [l.getD i 0] ++ l.drop (i + 1) := by
  have := set_split l i (l.getD i 0) h
  rw [← this, List.getD_eq_getElem?_getD, List.getElem?_eq_getElem h]
  simp
/-- with one byte another it is none -/
theorem frame_turned (s : ByteArray) (h : s.size ≤ 65536) (i : Nat) (hi : i < s.size + 4) (x : UInt8) (hx : x ≠ (bytes (s ++ tailS s)).getD i 0) : openE ⟨((bytes (s ++ tailS s)).set i x).toArray⟩ = 6 := by
  generalize hG : (⟨((bytes (s ++ tailS s)).set i x).toArray⟩ : ByteArray) = G
  have hGb : bytes G = (bytes (s ++ tailS s)).set i x := by rw [← hG, bytes_mk]
  have hz : G.size = s.size + 4 := by rw [← bytes_len, hGb, List.length_set, bytes_len, ByteArray.size_append, tailS_size]
  unfold openE
  rw [if_neg (by omega), if_neg (by omega), if_neg]
  intro e
  have eb := congrArg bytes e
  rw [tailS_bytes, bytes_extract, hGb, hz] at eb
  have hbody : bytes (bodyOf G) = ((bytes (s ++ tailS s)).set i x).take s.size := by
    unfold bodyOf; rw [bytes_extract, hGb, hz, List.drop_zero]; congr 1
  have hl : (bytes s).length = s.size := bytes_len s
  rw [bytes_append] at eb hbody hx
  rw [show s.size + 4 - 4 = s.size from by omega] at eb
  have e4 : s.size + 4 - s.size = 4 := by omega
  have hl4 : (bytes (tailS s)).length = 4 := by rw [bytes_len, tailS_size]
  by_cases hi2 : i < s.size
  · -- the text is another one
    have hset : (bytes s ++ bytes (tailS s)).set i x = (bytes s).set i x ++ bytes (tailS s) := by rw [List.set_append_left _ _ (by omega)]
    rw [hset] at eb hbody
    have hl2 : ((bytes s).set i x).length = s.size := by rw [List.length_set, hl]
    rw [List.take_append_of_le_length (by omega), List.take_of_length_le (by omega)] at hbody
    rw [List.drop_append_of_le_length (by omega), List.drop_eq_nil_of_le (by omega), List.nil_append, e4, List.take_of_length_le (by omega), tailS_bytes] at eb
    have h2 := leb_inj (sums_lt _) (sums_lt _) eb
    rw [sums1, sums1, hbody, set_split _ _ _ (by omega)] at h2
    have h3 := get_split (bytes s) i (by omega)
    rw [List.getD_eq_getElem?_getD, List.getElem?_append_left (by omega), ← List.getD_eq_getElem?_getD] at hx
    have h4 : more 0 (bytes s) = more 0 ((bytes s).take i ++ [(bytes s).getD i 0] ++ (bytes s).drop (i + 1)) := by rw [← h3]
    rw [h4] at h2
    exact run_one _ _ _ _ hx h2
  · -- the sum's bytes are others
    have hset : (bytes s ++ bytes (tailS s)).set i x = bytes s ++ (bytes (tailS s)).set (i - s.size) x := by rw [List.set_append_right _ _ (by omega), hl]
    rw [hset] at eb hbody
    rw [List.take_append_of_le_length (by omega), List.take_of_length_le (by omega)] at hbody
    rw [List.drop_append_of_le_length (by omega), List.drop_eq_nil_of_le (by omega), List.nil_append, e4, List.take_of_length_le (by rw [List.length_set]; omega), tailS_bytes] at eb
    have hs1 : sums [bodyOf G] = sums [s] := by rw [sums1, sums1, hbody]
    rw [hs1] at eb
    have hlb : (leb (sums [s])).length = 4 := rfl
    have h5 : (leb (sums [s])).getD (i - s.size) 0 = ((bytes (tailS s)).set (i - s.size) x).getD (i - s.size) 0 := congrArg (fun l => l.getD (i - s.size) 0) eb
    rw [Row.getD_set _ _ _ _ (by omega), if_pos rfl] at h5
    rw [List.getD_eq_getElem?_getD, List.getElem?_append_right (by omega), ← List.getD_eq_getElem?_getD, hl, tailS_bytes] at hx
    exact hx h5.symm
/-! two lists that part at one place -/
theorem apN_set (l : List UInt8) (i : Nat) (x : UInt8) (hi : i < l.length) (hx : x ≠ l.getD i 0) (k : Nat) : apN l (l.set i x) k = if i < k then 1 else 0 := by
  induction k with
  | zero => simp [apN]
  | succ k ih =>
    simp only [apN, ih, Row.getD_set l i k x hi]
    by_cases h : i = k
    · subst h; rw [if_neg (by omega), if_pos rfl, if_neg (fun e => hx e.symm), if_pos (by omega)]
    · rw [if_neg h, if_pos rfl]
      by_cases h2 : i < k
      · rw [if_pos h2, if_pos (by omega)]
      · rw [if_neg h2, if_neg (by omega)]
theorem apF_set (l : List UInt8) (i : Nat) (x : UInt8) (hi : i < l.length) (hx : x ≠ l.getD i 0) (d k : Nat) : apF l (l.set i x) d k = if i < k then i else d := by
  induction k with
  | zero => simp [apF]
  | succ k ih =>
    simp only [apF, ih, Row.getD_set l i k x hi, apN_set l i x hi hx]
    by_cases h : i = k
    · subst h; rw [if_pos ⟨if_neg (by omega), by rw [if_pos rfl]; exact fun e => hx e.symm⟩, if_pos (by omega)]
    · rw [if_neg (fun e => e.2 (by rw [if_neg h]))]
      by_cases h2 : i < k
      · rw [if_pos h2, if_pos (by omega)]
      · rw [if_neg h2, if_neg (by omega)]
theorem apart_set (f : ByteArray) (i : Nat) (x : UInt8) (hi : i < f.size) (hx : x ≠ (bytes f).getD i 0) :
    apartN f ⟨((bytes f).set i x).toArray⟩ = 1 ∧ apartF f ⟨((bytes f).set i x).toArray⟩ = i := by
  have hl : (bytes f).length = f.size := bytes_len f
  have hz : (⟨((bytes f).set i x).toArray⟩ : ByteArray).size = f.size := by rw [← bytes_len, bytes_mk, List.length_set, hl]
  unfold apartN apartF
  simp only [hz, bytes_mk, apN_set (bytes f) i x (by omega) hx, apF_set (bytes f) i x (by omega) hx]
  rw [show min f.size f.size = f.size from by omega, show max f.size f.size = f.size from by omega, if_pos hi, if_pos hi]
  omega
end Go.Proofs.YtjbbkcnfilnmcaaDoor.Crc

/- The walk of the law BitsBack. -/
import Derived.Test.YtjbbkcnfilnmcaaDoorBitLong
namespace Go.Proofs.YtjbbkcnfilnmcaaDoor.Bt
open Go.RowKit

theorem bytes_mk (l : List UInt8) : bytes (⟨l.toArray⟩ : ByteArray) = l := by simp [bytes]
theorem packS_packs (X : List Bool) : Packs (bytes (packS X)) X := by unfold packS; rw [bytes_mk]; exact pack_packs X
theorem packS_chk {X : List Bool} (h : X.length ≤ 1048576) : chk (packS X) X.length = 0 := if_pos ((packS_packs X).right h)
theorem packS_size {X : List Bool} (h : X.length ≤ 1048576) : (packS X).size ≤ 200000 := size_small ((packS_packs X).right h)
theorem packS_bits (X : List Bool) : bl (bytes (packS X)) X.length = X := (packS_packs X).bitsOf
theorem put_zero {s : ByteArray} {n : Int} {v : Nat} {r : Int} (h : putE s n v r = 0) : chk s n = 0 ∧ 0 ≤ r ∧ r ≤ 64 ∧ v < 2 ^ r.toNat ∧ n + r ≤ 1048576 := by
  unfold putE at h
  split at h
  · cases h
  · split at h
    · cases h
    · split at h
      · cases h
      · rename_i h1 h2 h3
        refine ⟨by omega, by omega, by omega, ?_, by omega⟩
        exact (div_zero_iff v _).1 (by omega)
theorem put_cases (s : ByteArray) (n : Int) (v : Nat) (r : Int) : putE s n v r = 0 ∨ putE s n v r = 2 ∨ (putE s n v r ≠ 0 ∧ putE s n v r ≠ 2 ∧ putS s n v r = s ∧ putN s n v r = n) := by
  by_cases h0 : putE s n v r = 0
  · exact .inl h0
  · by_cases h2 : putE s n v r = 2
    · exact .inr (.inl h2)
    · exact .inr (.inr ⟨h0, h2, by unfold putS; rw [if_neg h0, if_neg h2], by unfold putN; rw [if_neg h0, if_neg h2]⟩)
/-- what was put is got -/
theorem back_got {s : ByteArray} {n : Int} {v : Nat} {r : Int} (h : putE s n v r = 0) : getE (putS s n v r) (putN s n v r) n r = 0 ∧ getV (putS s n v r) (putN s n v r) n r = v ∧ chk (putS s n v r) (putN s n v r) = 0 ∧ putN s n v r = n + r ∧ (putS s n v r).size ≤ 200000 := by
  obtain ⟨h1, h2, h3, h4, h5⟩ := put_zero h
  have hR := chk_zero h1
  have hn := hR.1
  have eS : putS s n v r = packS (bl (bytes s) n.toNat ++ nbits v r.toNat) := if_pos h
  have eN : putN s n v r = n + r := if_pos h
  have hl : (bl (bytes s) n.toNat ++ nbits v r.toNat).length = n.toNat + r.toNat := by rw [List.length_append, bl_length, nbits_length]
  have hc : chk (putS s n v r) (putN s n v r) = 0 := by
    rw [eS, eN]
    have := packS_chk (X := bl (bytes s) n.toNat ++ nbits v r.toNat) (by omega)
    rw [hl] at this
    rw [show n + r = ((n.toNat + r.toNat : Nat) : Int) from by omega]; exact this
  have hg : getE (putS s n v r) (putN s n v r) n r = 0 := get_of hc h2 h3 hn (by omega) (by omega)
  refine ⟨hg, ?_, hc, eN, by rw [eS]; exact packS_size (by omega)⟩
  unfold getV
  rw [if_pos hg, eS, eN, show (n + r).toNat = (bl (bytes s) n.toNat ++ nbits v r.toNat).length from by omega, packS_bits]
  rw [List.drop_append_of_le_length (by rw [bl_length]; exact Nat.le_refl _), List.drop_eq_nil_of_le (by rw [bl_length]; exact Nat.le_refl _), List.nil_append, List.take_of_length_le (by rw [nbits_length]; exact Nat.le_refl _), num_nbits _ _ h4]
/-- what was there stays -/
theorem back_stays {s : ByteArray} {n : Int} {v : Nat} {r a q : Int} (h : putE s n v r = 0) (hg : getE s n a q = 0) : getE (putS s n v r) (putN s n v r) a q = 0 ∧ getV (putS s n v r) (putN s n v r) a q = getV s n a q := by
  obtain ⟨h1, h2, h3, h4, h5⟩ := put_zero h
  have hb := back_got h
  obtain ⟨g1, g2, g3, g4, g5, g6, g7⟩ := get_zero hg
  have hc := hb.2.2.1
  have eN : putN s n v r = n + r := if_pos h
  have hg2 : getE (putS s n v r) (putN s n v r) a q = 0 := get_of hc g2 g3 g4 (by omega) (by omega)
  refine ⟨hg2, ?_⟩
  have eS : putS s n v r = packS (bl (bytes s) n.toNat ++ nbits v r.toNat) := if_pos h
  have hl : (bl (bytes s) n.toNat ++ nbits v r.toNat).length = n.toNat + r.toNat := by rw [List.length_append, bl_length, nbits_length]
  unfold getV
  rw [if_pos hg2, if_pos hg, eS, eN, show (n + r).toNat = (bl (bytes s) n.toNat ++ nbits v r.toNat).length from by omega, packS_bits]
  rw [List.drop_append_of_le_length (by rw [bl_length]; omega), List.take_append_of_le_length (by rw [List.length_drop, bl_length]; omega)]

end Go.Proofs.YtjbbkcnfilnmcaaDoor.Bt

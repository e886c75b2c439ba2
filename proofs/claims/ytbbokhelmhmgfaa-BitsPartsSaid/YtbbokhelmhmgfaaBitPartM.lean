/- The maths of bits in parts. -/
import Derived.Test.YtbbokhelmhmgfaaBitTurned
namespace Go.Proofs.Ytbbokhelmhmgfaa.Bt
open Go.RowKit

theorem cut_packs {s : ByteArray} {n a c : Int} (h : cutE s n a c = 0) : chk s n = 0 ∧ 0 ≤ a ∧ 0 ≤ c ∧ a + c ≤ n ∧ cutN s n a c = c ∧ cutS s n a c = packS (((bl (bytes s) n.toNat).drop a.toNat).take c.toNat) := by
  have hS : cutS s n a c = packS (((bl (bytes s) n.toNat).drop a.toNat).take c.toNat) := if_pos h
  have hN : cutN s n a c = c := if_pos h
  unfold cutE at h
  split at h
  · cases h
  · split at h
    · cases h
    · split at h
      · cases h
      · exact ⟨by omega, by omega, by omega, by omega, hN, hS⟩
theorem cut_cases (s : ByteArray) (n a c : Int) : cutE s n a c = 0 ∨ (cutE s n a c ≠ 0 ∧ cutS s n a c = ⟨#[]⟩ ∧ cutN s n a c = 0) := by
  by_cases h : cutE s n a c = 0
  · exact .inl h
  · exact .inr ⟨h, if_neg h, if_neg h⟩
/-- all that the law asks of bits in two parts -/
theorem parts_all {s : ByteArray} {n a : Int} (h : cutE s n 0 a = 0) : ∃ (S1 S2 : ByteArray) (q : Int) (x y : Nat), S1 = cutS s n 0 a ∧ cutN s n 0 a = a ∧ n - a = q ∧ cutE s n a q = 0 ∧ S2 = cutS s n a q ∧ cutN s n a q = q ∧
    catE S1 a [(S2, q)] = 0 ∧ catS S1 a [(S2, q)] = s ∧ catN S1 a [(S2, q)] = n ∧ chk s n = 0 ∧ chk S1 a = 0 ∧ chk S2 q = 0 ∧ onesN s n = x + y ∧ onesN S1 a = x ∧ onesN S2 q = y ∧ S1.size ≤ 200000 ∧ S2.size ≤ 200000 := by
  obtain ⟨hc, h1, h2, h3, hN, hS⟩ := cut_packs h
  have hR := chk_zero hc
  obtain ⟨m, rfl⟩ := Int.eq_ofNat_of_zero_le hR.1
  obtain ⟨a, rfl⟩ := Int.eq_ofNat_of_zero_le h2
  have hm : m ≤ 1048576 := by have := hR.2.1; omega
  obtain ⟨q, hq⟩ : ∃ q : Nat, q = m - a := ⟨_, rfl⟩
  have hqq : (m : Int) - a = (q : Int) := by omega
  have hself := packS_self hc
  have hl := bl_length (bytes s) m
  rw [Int.toNat_natCast] at hself
  have hs1 : cutS s m 0 a = packS ((bl (bytes s) m).take a) := by
    rw [hS, Int.toNat_natCast, Int.toNat_natCast]; simp
  have hE2 : cutE s m a q = 0 := by unfold cutE; rw [if_neg (by omega), if_neg (by omega), if_neg (by omega)]
  have hs2 : cutS s m a q = packS ((bl (bytes s) m).drop a) := by
    rw [(cut_packs hE2).2.2.2.2.2, Int.toNat_natCast, Int.toNat_natCast, Int.toNat_natCast, List.take_of_length_le (by rw [List.length_drop, hl]; omega)]
  generalize hX : bl (bytes s) m = X at hself hl hs1 hs2
  have l1 : (X.take a).length = a := by rw [List.length_take, hl]; omega
  have l2 : (X.drop a).length = q := by rw [List.length_drop, hl]; omega
  have hc1 : chk (packS (X.take a)) a = 0 := by have := packS_chk (X := X.take a) (by omega); rw [l1] at this; exact this
  have hc2 : chk (packS (X.drop a)) q = 0 := by have := packS_chk (X := X.drop a) (by omega); rw [l2] at this; exact this
  have b1 : bl (bytes (packS (X.take a))) a = X.take a := by have := packS_bits (X.take a); rw [l1] at this; exact this
  have b2 : bl (bytes (packS (X.drop a))) q = X.drop a := by have := packS_bits (X.drop a); rw [l2] at this; exact this
  have hF : catF (a : Int) [(packS (X.drop a), (q : Int))] = 0 := by
    show (if chk _ _ ≠ 0 then _ else if _ then _ else (0 : Int)) = 0
    rw [hc2, if_neg (by omega), if_neg (by omega)]
  refine ⟨packS (X.take a), packS (X.drop a), q, cnt (X.take a), cnt (X.drop a), hs1.symm, hN, hqq, hE2, hs2.symm, (cut_packs hE2).2.2.2.2.1, ?_, ?_, ?_, hc, hc1, hc2, ?_, ?_, ?_, packS_size (by omega), packS_size (by omega)⟩
  · unfold catE; rw [if_neg (by omega)]; exact hF
  · unfold catS
    rw [if_neg (by omega), if_pos hF, Int.toNat_natCast, b1]
    have : catX [(packS (X.drop a), (q : Int))] = X.drop a := by
      rw [catX_cons, Int.toNat_natCast, b2]; simp [catX]
    rw [this, List.take_append_drop]; exact hself
  · unfold catN
    rw [if_neg (by omega), if_pos hF]
    show (a : Int) + ((q : Int) + 0) = m
    omega
  · unfold onesN
    rw [if_pos hc, Int.toNat_natCast, hX]
    unfold cnt
    rw [← List.count_append, List.take_append_drop]
  · unfold onesN; rw [if_pos hc1, Int.toNat_natCast, b1]
  · unfold onesN; rw [if_pos hc2, Int.toNat_natCast, b2]
end Go.Proofs.Ytbbokhelmhmgfaa.Bt

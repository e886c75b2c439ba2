/- Bits at work: begin, put, done. -/
import Derived.Test.YtgpheofdeflhdaaBitWalkE
import Derived.Lib.AppendStr
import Derived.Lib.UnsafeStr
import Derived.RegionTactic
import Derived.ChangeAlike
import Derived.BigRegion
namespace Go.Proofs.Ytgpheofdeflhdaa.Bt
open Go.RowKit

/-- bits at work at block p: the bytes L lie in a row of the call's own (blocks from B on), N bits -/
structure Work (w : World) (B p : Nat) (L : List UInt8) (N : Int) : Prop where
  own : B ≤ p
  block : ∃ (s0 : ByteArray) (v : Value), w.heap[p]? = some (.cells #[.string s0, .int .i64 N, v] 93 (0, 0)) ∧ w.ownsRow B 5 1 v L.length (Lib.byteCells L) ∧ v ≠ .slice none 0 0

theorem info_u8 : (Try.prog.info? 5).map (fun i => (i.zero, i.size, i.bytes)) = some (some (.int .u8 0), 1, 1) := by kernel_rfl

set_option maxHeartbeats 2000000 in
theorem begin_any (s : ByteArray) (n t : Int) (h0 : 0 ≤ t) (h1 : t ≤ 1048576) (hs : s.size ≤ (t.toNat + 7) / 8) (w : World) (B : Nat) (hB : B ≤ w.heap.size) :
    Calls Try.prog 36 #[.agg #[.string s, .int .i64 n], .int .i64 t] w fun e w' => ∃ p, e = .returned (.pointer (some ⟨p, 0, none⟩)) ∧ Work w' B p (bytes s) n ∧ Below w.heap.size w w' := by
  obtain ⟨t, rfl⟩ := Int.eq_ofNat_of_zero_le h0
  obtain ⟨i0, hi, hz0, hz1, hz2⟩ := info_parts info_u8
  obtain ⟨c, hc⟩ : ∃ c, c = (t + 7) / 8 := ⟨_, rfl⟩
  have hcc : ((t : Int) + 7) / 8 = (c : Int) := by omega
  obtain ⟨M, hM⟩ : ∃ M, M = madeCells (Value.int .u8 0).cells (((c : Nat) : Int).toNat * i0.size) := ⟨_, rfl⟩
  have hMs : M.size = c := by rw [hM, size_madeCells, hz1]; simp
  have hmk : ∀ W : World, (Instr.makeSlice 36 (.int .i64 0) (.int .i64 (c : Int))).run Try.prog W = .ok (.slice (some ⟨W.heap.size, 0, none⟩) 0 c) (W.alloc (.cells M 5)) := by
    intro W
    have h := run_make (P := Try.prog) W 36 5 i0 (.int .u8 0) Try.underlying36 hi hz0 .i64 .i64 (0 : Int) (c : Int) (by omega) (by omega) (by rw [hz2]; omega) (by omega)
    rw [← hM] at h
    simpa using h
  have HCC := Lib.hid hcc; have HMS := Lib.hid hMs; have HC := Lib.hid hc
  clear hcc hM hMs hc hi hz0 hz1 hz2
  go_enter Try.func36, Try.ntmps36
  go_wp2_with fail
  refine (bytesFor_any _ (by omega) (by omega) _).mono ?_
  rw [HCC.out]
  rintro e w1 ⟨rfl, rfl⟩
  go_wp2_with fail
  obtain ⟨W0, hW0⟩ : ∃ W0, W0 = ((w.alloc (.cells #[.string s, .int .i64 n] 48)).alloc (.cells M 5)) := ⟨_, rfl⟩
  have hz : W0.heap.size = w.heap.size + 2 := by rw [hW0]; simp
  have hrow : W0.heap[w.heap.size + 1]? = some (.cells M 5 (0, 0)) := by
    rw [hW0]
    have := heap_alloc_new (w.alloc (.cells #[.string s, .int .i64 n] 48)) (.cells M 5)
    simpa using this
  have hsc : s.size ≤ c := by have := HC.out; rw [Int.toNat_natCast] at hs; omega
  have hlen : s.data.toList.length = s.size := (Lib.size_eq s).symm
  have htk : List.take s.size (List.map (fun b => Value.int IntKind.u8 (b.toNat : Int)) s.data.toList) = Lib.byteCells s.data.toList := List.take_of_length_le (by simp [hlen])
  have hst := run_storeCells_at Try.prog (w.heap.size + 1) 0 5 (Lib.byteCells s.data.toList) 0 M W0.drew hrow (by rw [Lib.byteCells_length, hlen, HMS.out]; omega) (by intro v hv; simp only [Lib.byteCells, List.mem_map] at hv; obtain ⟨b, _, rfl⟩ := hv; rfl)
  rw [← htk] at hst
  obtain ⟨Y, hY⟩ : ∃ Y, Y = (M.toList.take (0 + 0) ++ List.take s.size (List.map (fun b => Value.int IntKind.u8 (b.toNat : Int)) s.data.toList) ++ M.toList.drop (0 + 0 + (List.take s.size (List.map (fun b => Value.int IntKind.u8 (b.toNat : Int)) s.data.toList)).length)).toArray := ⟨_, rfl⟩
  rw [← hY] at hst
  have hYt : Y.toList.take s.size = Lib.byteCells (bytes s) := by
    rw [hY, htk]
    have e : (Lib.byteCells s.data.toList).length = s.size := by rw [Lib.byteCells_length, hlen]
    simp only [Nat.add_zero, List.take_zero, List.nil_append]
    rw [List.take_append_of_le_length (by omega), List.take_of_length_le (by omega)]; rfl
  have hYs : Y.size = c := by
    rw [hY, htk, ← Array.length_toList, List.toList_toArray]
    have e : (Lib.byteCells s.data.toList).length = s.size := by rw [Lib.byteCells_length, hlen]
    simp only [Nat.add_zero, List.take_zero, List.nil_append, List.length_append, List.length_drop, e, Array.length_toList, HMS.out]
    omega
  obtain ⟨W1, hW1⟩ : ∃ W1, W1 = W0.drew.setRow (w.heap.size + 1) Y := ⟨_, rfl⟩
  have hrow1 : W1.heap[w.heap.size + 1]? = some (.cells Y 5 (0, 0)) := by rw [hW1]; exact setRow_heap W0.drew _ M Y _ _ hrow
  have hoth : ∀ k, k ≠ w.heap.size + 1 → W1.heap[k]? = W0.heap[k]? := fun k hk => by rw [hW1]; exact setRow_other W0.drew _ _ _ hk
  have hz1 : W1.heap.size = W0.heap.size := by rw [hW1]; simp [World.setRow]
  have hos : W1.os = W0.os ∧ W1.tape = W0.tape ∧ W1.output = W0.output := by rw [hW1]; exact ⟨rfl, rfl, rfl⟩
  rw [← hW1] at hst
  rw [← hW0]
  have c0 : W0.cell? ⟨w.heap.size, 0, none⟩ = some (.string s) := by rw [hW0]; simp
  have c1 : W0.cell? ⟨w.heap.size, 1, none⟩ = some (.int .i64 n) := by rw [hW0]; simp
  have d0 : W1.cell? ⟨w.heap.size, 0, none⟩ = some (.string s) := by rw [World.cell?_of_block (w := W0) (hoth w.heap.size (by omega))]; exact c0
  have d1 : W1.cell? ⟨w.heap.size, 1, none⟩ = some (.int .i64 n) := by rw [World.cell?_of_block (w := W0) (hoth w.heap.size (by omega))]; exact c1
  have B0 : Below w.heap.size w W0 := by rw [hW0]; exact ((Below.refl _ _).alloc (Nat.le_refl _) _).alloc (by simp) _
  have B1 : Below w.heap.size w W1 := B0.trans ⟨hos.1, hos.2.1, hos.2.2, by omega, fun k hk => hoth k (by omega)⟩
  have HR := Lib.hid hrow1; have BB1 := Lib.hid B1; have HZ : Hid (W1.heap.size = w.heap.size + 2) := Lib.hid (by rw [hz1, hz]); have HY := Lib.hid hYt; have HYS := Lib.hid hYs
  clear hmk htk hW0 hW1 hrow hlen hY hYt hYs hoth hos hz1 hz B0 B1 hrow1 hs
  go_region
  go_wp2_with fail
  have hc9 : c ≤ maxLen := by unfold maxLen; have := HC.out; omega
  go_ret
  refine ⟨W1.heap.size, rfl, ⟨by have := HZ.out; omega, s, .slice (some ⟨w.heap.size + 1, 0, none⟩) s.size c, heap_alloc_new W1 _, ?_, by simp⟩, BB1.out.alloc (by have := HZ.out; omega) _⟩
  refine ⟨by rw [Lib.byteCells_length]; simp, .inr ⟨w.heap.size + 1, c, Y, by rw [bytes_len], by omega, ?_, by rw [bytes_len]; exact hsc, hc9, by rw [HYS.out]; simp, by rw [bytes_len, Nat.mul_one]; exact HY.out⟩⟩
  rw [Below.heap_alloc W1 _ _ (by have := HZ.out; omega)]
  exact HR.out
end Go.Proofs.Ytgpheofdeflhdaa.Bt

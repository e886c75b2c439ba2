/- The document's Zeros; its Same, of two alike. -/
import Derived.Test.YtejmbbhbimgheaaDkModel
namespace Go.Proofs.Ytejmbbhbimgheaa.Dk
open Go.RowKit Go.Op

set_option maxHeartbeats 4000000 in
set_option maxRecDepth 100000 in
theorem Zeros_any (m : Nat) (w : World) (hm : m ≤ 16384) : Calls Try.prog 37 #[.int .i64 (m : Int)] w fun e w' => e = .returned (.string (zer (m * 64))) ∧ Below w.heap.size w w' := by
  obtain ⟨i0, hi0, hz0, hz1, hz2⟩ := info_parts Cln.info_u8
  obtain ⟨M, hM⟩ : ∃ M, M = madeCells #[Value.int .u8 0] (m * 64) := ⟨_, rfl⟩
  obtain ⟨n, hn⟩ : ∃ n, n = m * 64 := ⟨_, rfl⟩
  have hwr : IntKind.i64.wrap (64 * (m : Int)) = (n : Int) := by rw [IntWalk.i64_in _ (by omega), hn]; omega
  have hmk : ∀ W : World, (Instr.makeSlice 68 (.int .i64 (n : Int)) (.int .i64 (n : Int))).run Try.prog W = .ok (.slice (some ⟨W.heap.size, 0, none⟩) n n) (W.alloc (.cells M 5)) := by
    intro W
    have h := run_make (P := Try.prog) W 68 5 i0 (.int .u8 0) Try.underlying68 hi0 hz0 .i64 .i64 (n : Int) (n : Int) (by omega) (by omega) (by rw [hz2]; omega) (by omega)
    rw [h, hM, ← hn]
    simp [hz1, Value.cells]
  have hB : Row.Bytes (w.alloc (.cells M 5)) w.heap.size (List.replicate n 0) := by rw [hn]; exact zeros_made w (m * 64) M hM
  have hCV := Row.run_back hB n
  rw [List.length_replicate] at hCV
  have F : Hid (Below w.heap.size w (w.alloc (.cells M 5))) := Lib.hid ((Below.refl _ _).alloc (Nat.le_refl _) _)
  have HS : Hid ((⟨(List.replicate n (0 : UInt8)).toArray⟩ : ByteArray) = zer (m * 64)) := Lib.hid (by rw [hn]; rfl)
  obtain ⟨S, hS⟩ : ∃ S : ByteArray, S = ⟨(List.replicate n (0 : UInt8)).toArray⟩ := ⟨_, rfl⟩
  rw [← hS] at hCV HS
  clear hi0 hz0 hz1 hz2 hM hn hB hS
  go_enter Try.func37, Try.ntmps37
  go_wp2_with fail
  go_ret
  rw [← HS.out]
  exact ⟨rfl, F.out⟩

set_option maxHeartbeats 8000000 in
set_option maxRecDepth 100000 in
theorem Same_any (D : Dsk) (v u : DVal) (w : World) (hv : VarAt w D v) (hu : VarAt w D u) :
    Calls Try.prog 17 #[.agg #[.int .i64 D.size, .slice v.pE v.nE v.cE, .slice v.pW v.nW v.cW, .int .i64 D.fuse, .bool D.down], .agg #[.int .i64 D.size, .slice u.pE u.nE u.cE, .slice u.pW u.nW u.cW, .int .i64 D.fuse, .bool D.down]] w fun e w' => e = .returned (.bool true) ∧ Below w.heap.size w w' := by
  obtain ⟨A1, hA1⟩ : ∃ A1, A1 = w.alloc (.cells #[.int .i64 D.size, .slice v.pE v.nE v.cE, .slice v.pW v.nW v.cW, .int .i64 D.fuse, .bool D.down] 25) := ⟨_, rfl⟩
  obtain ⟨A2, hA2⟩ : ∃ A2, A2 = A1.alloc (.cells #[.int .i64 D.size, .slice u.pE u.nE u.cE, .slice u.pW u.nW u.cW, .int .i64 D.fuse, .bool D.down] 25) := ⟨_, rfl⟩
  have s1 : A1.heap.size = w.heap.size + 1 := by rw [hA1]; simp
  have b1 : Below w.heap.size w A1 := by rw [hA1]; exact (Below.refl _ _).alloc (Nat.le_refl _) _
  have b2 : Below A1.heap.size A1 A2 := by rw [hA2]; exact (Below.refl _ _).alloc (Nat.le_refl _) _
  have bb : Below w.heap.size w A2 := b1.trans (b2.mono (by omega))
  have x1 : Boxed A2 w.heap.size [.int .i64 D.size, .slice v.pE v.nE v.cE, .slice v.pW v.nW v.cW, .int .i64 D.fuse, .bool D.down] := by
    have := Boxed.new w #[.int .i64 D.size, .slice v.pE v.nE v.cE, .slice v.pW v.nW v.cW, .int .i64 D.fuse, .bool D.down] 25
    rw [← hA1] at this
    exact this.below b2
  have x2 : Boxed A2 (w.heap.size + 1) [.int .i64 D.size, .slice u.pE u.nE u.cE, .slice u.pW u.nW u.cW, .int .i64 D.fuse, .bool D.down] := by
    have := Boxed.new A1 #[.int .i64 D.size, .slice u.pE u.nE u.cE, .slice u.pW u.nW u.cW, .int .i64 D.fuse, .bool D.down] 25
    rw [← hA2, s1] at this
    exact this
  have hE := hv.hE.trans hu.hE.symm
  have hW := hv.hW.trans hu.hW.symm
  have HV := Lib.hid (hv.below bb); have HU := Lib.hid (hu.below bb); have X1 := Lib.hid x1; have X2 := Lib.hid x2; have BB := Lib.hid bb
  have HA1 := Lib.hid hA1; have HA2 := Lib.hid hA2
  obtain ⟨pE, nE, cE, pW, nW, cW⟩ := v
  obtain ⟨qE, mE, dE, qW, mW, dW⟩ := u
  simp only at hE hW X1 X2 HA1 HA2
  subst hE hW
  obtain ⟨z, E, L, fz, dn⟩ := D
  have hl1 : nE ≤ 9223372036854775807 := HV.out.l1
  have hl2 : nW ≤ 9223372036854775807 := HV.out.l2
  simp only at X1 X2 HA1 HA2 ⊢
  clear hv hu hA1 hA2 s1 b1 b2 bb x1 x2
  go_enter Try.func17, Try.ntmps17
  go_wp2_with fail
  rw [← HA1.out, ← HA2.out]
  go_loopw [5, 47] (fun _ i wr => ∃ k : Nat, k ≤ nE ∧ i = .int .i64 k ∧ Below A2.heap.size A2 wr) (fun _ i _ => nE - (intOf i).toNat)
  case atStart => exact ⟨0, by omega, rfl, Below.refl _ _⟩
  case round =>
    obtain ⟨k, hk, rfl, hb⟩ := hrel
    have y1 := X1.out.below hb
    have y2 := X2.out.below hb
    have HB := Lib.hid hb
    by_cases hlt : k < nE
    · have hkE : k < E.length := by have := HV.out.hE; simp only at this; omega
      obtain ⟨ga, oa, e1, _, d0, d1, _, _⟩ := (HV.out.E.below hb) k hkE
      obtain ⟨gb, ob, e2, _, d2, d3, _, _⟩ := (HU.out.E.below hb) k hkE
      simp only at e1 e2 d0 d1 d2 d3
      subst e1 e2
      obtain ⟨x, hx⟩ : ∃ x, x = (E.getD k default).1 := ⟨_, rfl⟩
      obtain ⟨y, hy⟩ : ∃ y, y = (E.getD k default).2 := ⟨_, rfl⟩
      rw [← hx] at d0 d2
      rw [← hy] at d1 d3
      have q1 : wr.cell? ⟨w.heap.size, 1, none⟩ = some (.slice (some ⟨ga, oa, none⟩) nE cE) := y1.cell 1 (by simp)
      have q2 : wr.cell? ⟨w.heap.size + 1, 1, none⟩ = some (.slice (some ⟨gb, ob, none⟩) nE dE) := y2.cell 1 (by simp)
      have m0 : (0 : Int) ≤ (k : Int) := by omega
      have m1 : (k : Int) < (nE : Int) := by omega
      clear hx hy y1 y2 hb
      go_wp2_with fail
      go_quiet (fail)
      go_wp2_with fail
      go_roundw
      case rel => exact ⟨k + 1, by omega, by go_num, below_drewN HB.out _⟩
      case measure => simp [intOf]; omega
    · obtain rfl : nE = k := by omega
      have q1 : wr.cell? ⟨w.heap.size, 2, none⟩ = some (.slice pW nW cW) := y1.cell 2 (by simp)
      have q2 : wr.cell? ⟨w.heap.size + 1, 2, none⟩ = some (.slice qW nW dW) := y2.cell 2 (by simp)
      have Y1 := Lib.hid y1; have Y2 := Lib.hid y2
      clear y1 y2 hb
      go_wp2_with fail
      go_loopw [6, 65] (fun _ i w2 => ∃ k : Nat, k ≤ nW ∧ i = .int .i64 k ∧ Below wr.heap.size wr w2) (fun _ i _ => nW - (intOf i).toNat)
      case atStart => exact ⟨0, by omega, rfl, Below.refl _ _⟩
      case round =>
        obtain ⟨k, hk, rfl, hb⟩ := hrel
        have y1 := Y1.out.below hb
        have y2 := Y2.out.below hb
        have HB2 := Lib.hid hb
        by_cases hlt : k < nW
        · have hkL : k < L.length := by have := HV.out.hW; simp only at this; omega
          obtain ⟨ga, oa, e1, _, d0, d1, d4, _, _⟩ := ((HV.out.W.below HB.out).below hb) k hkL
          obtain ⟨gb, ob, e2, _, d2, d3, d5, _, _⟩ := ((HU.out.W.below HB.out).below hb) k hkL
          simp only at e1 e2 d0 d1 d2 d3 d4 d5
          subst e1 e2
          obtain ⟨x, hx⟩ : ∃ x, x = (L.getD k default).1 := ⟨_, rfl⟩
          obtain ⟨s, hs⟩ : ∃ s, s = (L.getD k default).2.1 := ⟨_, rfl⟩
          obtain ⟨y, hy⟩ : ∃ y, y = (L.getD k default).2.2 := ⟨_, rfl⟩
          rw [← hx] at d0 d2
          rw [← hs] at d1 d3
          rw [← hy] at d4 d5
          have q1 : wr.cell? ⟨w.heap.size, 2, none⟩ = some (.slice (some ⟨ga, oa, none⟩) nW cW) := y1.cell 2 (by simp)
          have q2 : wr.cell? ⟨w.heap.size + 1, 2, none⟩ = some (.slice (some ⟨gb, ob, none⟩) nW dW) := y2.cell 2 (by simp)
          have m0 : (0 : Int) ≤ (k : Int) := by omega
          have m1 : (k : Int) < (nW : Int) := by omega
          clear hx hs hy y1 y2 hb
          go_wp2_with fail
          go_quiet (fail)
          go_wp2_with fail
          go_roundw
          case rel => exact ⟨k + 1, by omega, by go_num, below_drewN HB2.out _⟩
          case measure => simp [intOf]; omega
        · obtain rfl : nW = k := by omega
          clear y1 y2 hb
          go_wp2_with fail
          go_ret
          exact ⟨rfl, BB.out.trans ((HB.out.trans (HB2.out.mono HB.out.size)).mono BB.out.size)⟩
end Go.Proofs.Ytejmbbhbimgheaa.Dk

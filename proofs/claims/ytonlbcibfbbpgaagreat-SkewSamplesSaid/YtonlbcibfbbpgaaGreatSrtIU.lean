/- The walk of the library's sort at uint64: partition by what is alike -/
import Derived.Test.YtonlbcibfbbpgaaGreatSrtAU
namespace Go.Proofs.YtonlbcibfbbpgaaGreat.StU
open Go.RowKit Go.Lib Go.Sort Rw St

set_option maxHeartbeats 16000000 in
set_option maxRecDepth 1000000 in
theorem peq_any (w0 w : World) (blk off n cap a b p : Nat) (d : Array Int) (S : At .u64 w0 blk off n d w) (hap : a ≤ p) (hpb : p < b) (hb : b ≤ n) (hn : n ≤ 2305843009213693952) :
    Calls Tryz.prog 105 #[.slice (some ⟨blk, off, none⟩) n cap, .int .i64 a, .int .i64 b, .int .i64 p] w (fun e w' => Sorts .u64 w0 blk off n (.int .i64 (partitionEqual ltInt d a b p).1) (partitionEqual ltInt d a b p).2 e w') := by
  obtain ⟨D, hD⟩ : ∃ D, D = partitionEqual ltInt d a b p := ⟨_, rfl⟩
  have HD : Hid (partEqLoop ltInt a (a + 1) (b - 1) (swp d a p) = D) := Lib.hid hD.symm
  rw [← hD]
  clear hD
  have S0 := Lib.hid S
  clear S
  have az : (a : Int) < (n : Int) := by omega
  have pz : (p : Int) < (n : Int) := by omega
  obtain ⟨j0, hj0⟩ : ∃ j, j = b - 1 := ⟨_, rfl⟩
  have bz : (b : Int) - 1 = (j0 : Int) := by omega
  rw [← hj0] at HD
  have jb : j0 + 1 = b := by omega
  clear hj0
  go_enter Tryz.func105, Tryz.ntmps105
  go_wp2_with fail
  obtain ⟨x, hx⟩ : ∃ x, x = d[a]! := ⟨_, rfl⟩
  obtain ⟨y, hy⟩ : ∃ y, y = d[p]! := ⟨_, rfl⟩
  have HX := Lib.hid hx; have HY := Lib.hid hy
  clear hx hy
  have c1 := S0.out.cell (i := a) (by omega)
  have c2 := S0.out.cell (i := p) (by omega)
  have f1 := S0.out.free (i := a) (by omega)
  have f2 := S0.out.free (i := p) (by omega)
  obtain ⟨u, c3⟩ := S0.out.second (i := a) (j := p) (by omega) (by omega) (.int .u64 y)
  have S3 := S0.out.swap (i := a) (j := p) (by omega) (by omega)
  rw [← HX.out] at c1 S3
  rw [← HY.out] at c2 S3
  have T3 := Lib.hid S3
  clear S3 S0
  go_wp2_with fail
  go_big_region
  clear c1 c2 c3 f1 f2
  have S3 := Lib.hid (T3.out.drew)
  clear T3
  obtain ⟨w3, hw3⟩ : ∃ w3, w3 = ((w.setCell ⟨blk, off + a, none⟩ (.int .u64 y)).setCell ⟨blk, off + p, none⟩ (.int .u64 x)).drew := ⟨_, rfl⟩
  rw [← hw3] at S3 ⊢
  clear hw3
  clear HX HY
  go_wp2
  go_loopg [9, 10] (j0 + 1) (fun g vi vj wr => ∃ (i j : Nat) (dk : Array Int), vi = .int .i64 i ∧ vj = .int .i64 j ∧ a < i ∧ i ≤ j + 1 ∧ j ≤ j0 ∧ j + 1 - i ≤ g ∧ Hid (At .u64 w0 blk off n dk wr) ∧ Hid (partEqLoop ltInt a i j dk = D))
  case atStart => exact ⟨a + 1, j0, _, by first | rfl | go_num | (congr 1; omega), rfl, by omega, by omega, Nat.le_refl _, by omega, S3, HD⟩
  case round =>
    clear S3 HD
    obtain ⟨i, j, dk, rfl, rfl, hai, hij, hjb, hg, S, HO⟩ := hrel
    go_wp2
    go_loopg [9] (j + 1 - i) (fun g vi wr => ∃ i2 : Nat, vi = .int .i64 i2 ∧ i ≤ i2 ∧ i2 ≤ j + 1 ∧ j + 1 - i2 ≤ g ∧ Hid (At .u64 w0 blk off n dk wr) ∧ Hid (scanUp (fun x => !ltInt dk[a]! x) dk j i2 = scanUp (fun x => !ltInt dk[a]! x) dk j i))
    case atStart => exact ⟨i, rfl, Nat.le_refl _, by omega, Nat.le_refl _, S, Lib.hid rfl⟩
    case round =>
      clear S
      obtain ⟨i2, rfl, hi2a, hi2b, hi2g, S1, HU⟩ := hrel
      by_cases hle : i2 ≤ j
      · have gz : (i2 : Int) ≤ (j : Int) := by omega
        have gz2 : decide ((i2 : Int) ≤ (j : Int)) = true := decide_eq_true gz
        have iz : (i2 : Int) < (n : Int) := by omega
        obtain ⟨x, hx⟩ : ∃ x, x = dk[i2]! := ⟨_, rfl⟩
        obtain ⟨y, hy⟩ : ∃ y, y = dk[a]! := ⟨_, rfl⟩
        have c1 := S1.out.cell (i := i2) (by omega)
        have c2 := S1.out.cell (i := a) (by omega)
        rw [← hx] at c1
        rw [← hy] at c2
        have HX := Lib.hid hx; have HY := Lib.hid hy
        clear hx hy
        cases hl : ltInt y x with
        | false =>
          have HL := Lib.hid hl
          go_wp2_with fail
          go_big_quiet (first | (go_at_call 64; refine Calls.quiet_of_same (less_any _ _ _)))
          have S2 := Lib.hid (S1.out.drewN nq)
          clear S1 
          obtain ⟨W2, hw2⟩ : ∃ W, W = wr.drewN nq := ⟨_, rfl⟩
          rw [← hw2] at S2 ⊢
          clear hw2 nq
          (try rw [hl])
          clear c1 c2 hl
          go_wp2
          go_roundg (j - i2)
          case measure => omega
          case rel => exact ⟨i2 + 1, by first | rfl | go_num | (congr 1; omega), by omega, by omega, by omega, S2, Lib.hid ((scanUp_go (fun x => !ltInt dk[a]! x) dk j i2 hle (by simp [← HX.out, ← HY.out, HL.out])).symm.trans HU.out)⟩
        | true =>
          have HL := Lib.hid hl
          have HI2 : Hid (i2 = scanUp (fun x => !ltInt dk[a]! x) dk j i) := Lib.hid ((scanUp_end (fun x => !ltInt dk[a]! x) dk j i2 (.inr (by simp [← HX.out, ← HY.out, HL.out]))).symm.trans HU.out)
          go_wp2_with fail
          go_big_quiet (first | (go_at_call 64; refine Calls.quiet_of_same (less_any _ _ _)))
          have S2 := Lib.hid (S1.out.drewN nq)
          clear S1 
          obtain ⟨W2, hw2⟩ : ∃ W, W = wr.drewN nq := ⟨_, rfl⟩
          rw [← hw2] at S2 ⊢
          clear hw2 nq
          (try rw [hl])
          clear c1 c2 hl HL HX HY HU
          go_wp2
          clear gz gz2
          go_loopg [10] j (fun g vj wr => ∃ j2 : Nat, vj = .int .i64 j2 ∧ j2 ≤ j ∧ i2 ≤ j2 + 1 ∧ j2 ≤ g ∧ Hid (At .u64 w0 blk off n dk wr) ∧ Hid (scanDown (fun x => ltInt dk[a]! x) dk i2 j2 = scanDown (fun x => ltInt dk[a]! x) dk i2 j))
          case atStart => exact ⟨j, rfl, Nat.le_refl _, by omega, Nat.le_refl _, S2, Lib.hid rfl⟩
          case round =>
            clear S2
            obtain ⟨j2, rfl, hj2a, hj2b, hj2g, S3, HV⟩ := hrel
            by_cases hle2 : i2 ≤ j2
            · have gz : (i2 : Int) ≤ (j2 : Int) := by omega
              have gz2 : decide ((i2 : Int) ≤ (j2 : Int)) = true := decide_eq_true gz
              have jz : (j2 : Int) < (n : Int) := by omega
              obtain ⟨x, hx⟩ : ∃ x, x = dk[j2]! := ⟨_, rfl⟩
              obtain ⟨y, hy⟩ : ∃ y, y = dk[a]! := ⟨_, rfl⟩
              have c1 := S3.out.cell (i := j2) (by omega)
              have c2 := S3.out.cell (i := a) (by omega)
              rw [← hx] at c1
              rw [← hy] at c2
              have HX := Lib.hid hx; have HY := Lib.hid hy
              clear hx hy
              cases hl : ltInt y x with
              | true =>
                obtain ⟨q, hq⟩ : ∃ q, q = j2 - 1 := ⟨_, rfl⟩
                have jq : (j2 : Int) - 1 = (q : Int) := by omega
                have j1 : 0 < j2 := by omega
                have HQ := Lib.hid hq
                clear hq
                have HL := Lib.hid hl
                go_wp2_with fail
                go_big_quiet (first | (go_at_call 64; refine Calls.quiet_of_same (less_any _ _ _)))
                have S4 := Lib.hid (S3.out.drewN nq)
                clear S3 
                obtain ⟨W2, hw2⟩ : ∃ W, W = wr.drewN nq := ⟨_, rfl⟩
                rw [← hw2] at S4 ⊢
                clear hw2 nq
                (try rw [hl])
                clear c1 c2 hl
                go_wp2
                go_roundg q
                case measure => omega
                case rel => exact ⟨q, by first | rfl | go_num | (congr 1; omega), by omega, by omega, Nat.le_refl _, S4, Lib.hid (by rw [HQ.out]; exact (scanDown_go (fun x => ltInt dk[a]! x) dk i2 j2 hle2 j1 (by simp [← HX.out, ← HY.out, HL.out])).symm.trans HV.out)⟩
              | false =>
                have HL := Lib.hid hl
                have HJ2 : Hid (j2 = scanDown (fun x => ltInt dk[a]! x) dk i2 j) := Lib.hid ((scanDown_end (fun x => ltInt dk[a]! x) dk i2 j2 (.inr (by simp [← HX.out, ← HY.out, HL.out]))).symm.trans HV.out)
                go_wp2_with fail
                go_big_quiet (first | (go_at_call 64; refine Calls.quiet_of_same (less_any _ _ _)))
                have S4 := Lib.hid (S3.out.drewN nq)
                clear S3 
                obtain ⟨W2, hw2⟩ : ∃ W, W = wr.drewN nq := ⟨_, rfl⟩
                rw [← hw2] at S4 ⊢
                clear hw2 nq
                (try rw [hl])
                clear c1 c2 hl HL HX HY HV
                have HLT : i2 < j2 := scans_lt ltInt a i j dk (by omega) HI2.out HJ2.out hle2
                have gz3 : ¬ (j2 : Int) < (i2 : Int) := by omega
                go_wp2_with fail
                obtain ⟨q, hq⟩ : ∃ q, q = j2 - 1 := ⟨_, rfl⟩
                have jq : (j2 : Int) - 1 = (q : Int) := by omega
                have j1 : q + 1 = j2 := by omega
                have HQ := Lib.hid hq
                have J1 := Lib.hid j1
                clear gz gz2 gz3 hq j1
                obtain ⟨x, hx⟩ : ∃ x, x = dk[i2]! := ⟨_, rfl⟩
                obtain ⟨y, hy⟩ : ∃ y, y = dk[j2]! := ⟨_, rfl⟩
                have HX := Lib.hid hx; have HY := Lib.hid hy
                clear hx hy
                have c1 := S4.out.cell (i := i2) (by omega)
                have c2 := S4.out.cell (i := j2) (by omega)
                have f1 := S4.out.free (i := i2) (by omega)
                have f2 := S4.out.free (i := j2) (by omega)
                obtain ⟨u, c3⟩ := S4.out.second (i := i2) (j := j2) (by omega) (by omega) (.int .u64 y)
                have S3 := S4.out.swap (i := i2) (j := j2) (by omega) (by omega)
                rw [← HX.out] at c1 S3
                rw [← HY.out] at c2 S3
                have T3 := Lib.hid S3
                clear S3 S4
                go_wp2_with fail
                go_big_region
                clear c1 c2 c3 f1 f2
                have S3 := Lib.hid (T3.out.drew)
                clear T3
                obtain ⟨w3, hw3⟩ : ∃ w3, w3 = ((W2.setCell ⟨blk, off + i2, none⟩ (.int .u64 y)).setCell ⟨blk, off + j2, none⟩ (.int .u64 x)).drew := ⟨_, rfl⟩
                rw [← hw3] at S3 ⊢
                clear hw3
                clear HX HY
                go_wp2
                go_roundg (j2 - (i2 + 1))
                case measure => omega
                case rel => have J2 := J1.out; exact ⟨i2 + 1, q, _, by first | rfl | go_num | (congr 1; omega), by first | rfl | go_num | (congr 1; omega), by omega, by omega, by omega, by omega, S3, Lib.hid (by rw [← HO.out, partEq_go ltInt a i j dk HI2.out HJ2.out (by omega), HQ.out])⟩
            · have gz : ¬ (i2 : Int) ≤ (j2 : Int) := by omega
              have gz2 : decide ((i2 : Int) ≤ (j2 : Int)) = false := decide_eq_false gz
              have HJ2 : Hid (j2 = scanDown (fun x => ltInt dk[a]! x) dk i2 j) := Lib.hid ((scanDown_end (fun x => ltInt dk[a]! x) dk i2 j2 (.inl hle2)).symm.trans HV.out)
              go_wp2_with fail
              go_big_quiet (first | (go_at_call 64; refine Calls.quiet_of_same (less_any _ _ _)))
              have S4 := Lib.hid (S3.out.drewN nq)
              clear S3 
              obtain ⟨W2, hw2⟩ : ∃ W, W = wr.drewN nq := ⟨_, rfl⟩
              rw [← hw2] at S4 ⊢
              clear hw2 nq
              clear HV
              have HLT : j2 < i2 := by omega
              have gz3 : (j2 : Int) < (i2 : Int) := by omega
              go_wp2_with fail
              go_ret
              exact ⟨by rw [← HO.out, partEq_break ltInt a i j dk HI2.out HJ2.out HLT]; rfl, by rw [← HO.out, partEq_break ltInt a i j dk HI2.out HJ2.out HLT]; exact S4.out⟩
      · have gz : ¬ (i2 : Int) ≤ (j : Int) := by omega
        have gz2 : decide ((i2 : Int) ≤ (j : Int)) = false := decide_eq_false gz
        have HI2 : Hid (i2 = scanUp (fun x => !ltInt dk[a]! x) dk j i) := Lib.hid ((scanUp_end (fun x => !ltInt dk[a]! x) dk j i2 (.inl hle)).symm.trans HU.out)
        go_wp2_with fail
        go_big_quiet (first | (go_at_call 64; refine Calls.quiet_of_same (less_any _ _ _)))
        have S2 := Lib.hid (S1.out.drewN nq)
        clear S1 
        obtain ⟨W2, hw2⟩ : ∃ W, W = wr.drewN nq := ⟨_, rfl⟩
        rw [← hw2] at S2 ⊢
        clear hw2 nq
        clear HU
        go_wp2
        clear gz gz2
        go_loopg [10] j (fun g vj wr => ∃ j2 : Nat, vj = .int .i64 j2 ∧ j2 ≤ j ∧ i2 ≤ j2 + 1 ∧ j2 ≤ g ∧ Hid (At .u64 w0 blk off n dk wr) ∧ Hid (scanDown (fun x => ltInt dk[a]! x) dk i2 j2 = scanDown (fun x => ltInt dk[a]! x) dk i2 j))
        case atStart => exact ⟨j, rfl, Nat.le_refl _, by omega, Nat.le_refl _, S2, Lib.hid rfl⟩
        case round =>
          clear S2
          obtain ⟨j2, rfl, hj2a, hj2b, hj2g, S3, HV⟩ := hrel
          have hle2 : ¬ i2 ≤ j2 := by omega
          have gz : ¬ (i2 : Int) ≤ (j2 : Int) := by omega
          have gz2 : decide ((i2 : Int) ≤ (j2 : Int)) = false := decide_eq_false gz
          have HJ2 : Hid (j2 = scanDown (fun x => ltInt dk[a]! x) dk i2 j) := Lib.hid ((scanDown_end (fun x => ltInt dk[a]! x) dk i2 j2 (.inl hle2)).symm.trans HV.out)
          go_wp2_with fail
          go_big_quiet (first | (go_at_call 64; refine Calls.quiet_of_same (less_any _ _ _)))
          have S4 := Lib.hid (S3.out.drewN nq)
          clear S3 
          obtain ⟨W2, hw2⟩ : ∃ W, W = wr.drewN nq := ⟨_, rfl⟩
          rw [← hw2] at S4 ⊢
          clear hw2 nq
          clear HV
          have HLT : j2 < i2 := by omega
          have gz3 : (j2 : Int) < (i2 : Int) := by omega
          go_wp2_with fail
          go_ret
          exact ⟨by rw [← HO.out, partEq_break ltInt a i j dk HI2.out HJ2.out HLT]; rfl, by rw [← HO.out, partEq_break ltInt a i j dk HI2.out HJ2.out HLT]; exact S4.out⟩
end Go.Proofs.YtonlbcibfbbpgaaGreat.StU

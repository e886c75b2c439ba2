/- The walk of the library's sort at uint64: partition -/
import Derived.Test.YtonlbcibfbbpgaaGreatSrtAU
namespace Go.Proofs.YtonlbcibfbbpgaaGreat.StU
open Go.RowKit Go.Lib Go.Sort Rw St

theorem partLoop_ok {P Q R : Nat × Array Int} (h1 : Q = P) (h2 : Q = R) : P = R := h1.symm.trans h2
/-- a place, whether all was parted, a row -/
def PtP (w0 : World) (blk off n : Nat) (r : Nat × Bool × Array Int) (e : Ending) (w' : World) : Prop := e = .returned (.tuple #[.int .i64 r.1, .bool r.2.1]) ∧ At .u64 w0 blk off n r.2.2 w'
set_option maxHeartbeats 32000000 in
set_option maxRecDepth 1000000 in
theorem part_any (w0 w : World) (blk off n cap a b p : Nat) (d : Array Int) (S : At .u64 w0 blk off n d w) (hap : a ≤ p) (hpb : p < b) (hb : b ≤ n) (hn : n ≤ 2305843009213693952) :
    Calls Tryz.prog 106 #[.slice (some ⟨blk, off, none⟩) n cap, .int .i64 a, .int .i64 b, .int .i64 p] w (PtP w0 blk off n (partition ltInt d a b p)) := by
  obtain ⟨D, hD⟩ : ∃ D, D = partition ltInt d a b p := ⟨_, rfl⟩
  obtain ⟨dk, hdk⟩ : ∃ dk, dk = swp d a p := ⟨_, rfl⟩
  obtain ⟨i, hi⟩ : ∃ i, i = a + 1 := ⟨_, rfl⟩
  obtain ⟨j, hj⟩ : ∃ j, j = b - 1 := ⟨_, rfl⟩
  have HF := Lib.hid (fun (i2 j2 : Nat) (h1 : i2 = scanUp (fun x => ltInt x dk[a]!) dk j i) (h2 : j2 = scanDown (fun x => !ltInt x dk[a]!) dk i2 j) (h : j2 < i2) => (part_first_break ltInt d a b p hi hj hdk h1 h2 h).symm.trans hD.symm)
  have HG := Lib.hid (fun (i2 j2 : Nat) (h1 : i2 = scanUp (fun x => ltInt x dk[a]!) dk j i) (h2 : j2 = scanDown (fun x => !ltInt x dk[a]!) dk i2 j) (h : ¬ i2 > j2) => (part_first_go ltInt d a b p hi hj hdk h1 h2 h).symm.trans hD.symm)
  rw [← hD]
  have S0 := Lib.hid S
  have az : (a : Int) < (n : Int) := by omega
  have pz : (p : Int) < (n : Int) := by omega
  have bz : (b : Int) - 1 = (j : Int) := by omega
  have iz0 : (a : Int) + 1 = (i : Int) := by omega
  have hai : a < i := by omega
  have hij : i ≤ j + 1 := by omega
  have hjb : j < n := by omega
  have HDK := Lib.hid hdk
  clear S hD hi hj hdk
  go_enter Tryz.func106, Tryz.ntmps106
  go_wp2_with fail
  obtain ⟨x, hx⟩ : ∃ x, x = d[a]! := ⟨_, rfl⟩
  obtain ⟨y, hy⟩ : ∃ y, y = d[p]! := ⟨_, rfl⟩
  have HX := Lib.hid hx; have HY := Lib.hid hy
  clear hx hy
  have c1 := S0.out.cell (i := a) (by omega)
  have c2 := S0.out.cell (i := p) (by omega)
  have f1 := S0.out.free (i := a) (by omega)
  have f2 := S0.out.free (i := p) (by omega)
  obtain ⟨u, c3⟩ := S0.out.second (i := a) (j := p) (by omega) (by omega) (.int .u64 y)
  have S3 := S0.out.swap (i := a) (j := p) (by omega) (by omega)
  rw [← HX.out] at c1 S3
  rw [← HY.out] at c2 S3
  have T3 := Lib.hid S3
  clear S3 S0
  go_wp2_with fail
  go_big_region
  clear c1 c2 c3 f1 f2
  have S3 := Lib.hid (T3.out.drew)
  clear T3
  obtain ⟨w3, hw3⟩ : ∃ w3, w3 = ((w.setCell ⟨blk, off + a, none⟩ (.int .u64 y)).setCell ⟨blk, off + p, none⟩ (.int .u64 x)).drew := ⟨_, rfl⟩
  rw [← hw3] at S3 ⊢
  clear hw3
  rw [← HDK.out] at S3
  clear HX HY HDK
  go_wp2_with fail
  go_wp2
  go_loopg [10] (j + 1 - i) (fun g vi wr => ∃ i2 : Nat, vi = .int .i64 i2 ∧ i ≤ i2 ∧ i2 ≤ j + 1 ∧ j + 1 - i2 ≤ g ∧ Hid (At .u64 w0 blk off n dk wr) ∧ Hid (scanUp (fun x => ltInt x dk[a]!) dk j i2 = scanUp (fun x => ltInt x dk[a]!) dk j i))
  case atStart => exact ⟨i, rfl, Nat.le_refl _, by omega, Nat.le_refl _, S3, Lib.hid rfl⟩
  case round =>
    clear S3
    obtain ⟨i2, rfl, hi2a, hi2b, hi2g, S1, HU⟩ := hrel
    by_cases hle : i2 ≤ j
    · have gz : (i2 : Int) ≤ (j : Int) := by omega
      have gz2 : decide ((i2 : Int) ≤ (j : Int)) = true := decide_eq_true gz
      have iz : (i2 : Int) < (n : Int) := by omega
      obtain ⟨x, hx⟩ : ∃ x, x = dk[i2]! := ⟨_, rfl⟩
      obtain ⟨y, hy⟩ : ∃ y, y = dk[a]! := ⟨_, rfl⟩
      have c1 := S1.out.cell (i := i2) (by omega)
      have c2 := S1.out.cell (i := a) (by omega)
      rw [← hx] at c1
      rw [← hy] at c2
      have HX := Lib.hid hx; have HY := Lib.hid hy
      clear hx hy
      cases hl : ltInt x y with
      | true =>
        have HL := Lib.hid hl
        go_wp2_with fail
        go_big_quiet (first | (go_at_call 64; refine Calls.quiet_of_same (less_any _ _ _)))
        have S2 := Lib.hid (S1.out.drewN nq)
        clear S1 
        obtain ⟨W2, hw2⟩ : ∃ W, W = wr.drewN nq := ⟨_, rfl⟩
        rw [← hw2] at S2 ⊢
        clear hw2 nq
        (try rw [hl])
        clear c1 c2 hl
        go_wp2
        go_roundg (j - i2)
        case measure => omega
        case rel => exact ⟨i2 + 1, by first | rfl | go_num | (congr 1; omega), by omega, by omega, by omega, S2, Lib.hid ((scanUp_go (fun x => ltInt x dk[a]!) dk j i2 hle (by simp [← HX.out, ← HY.out, HL.out])).symm.trans HU.out)⟩
      | false =>
        have HL := Lib.hid hl
        have HI2 : Hid (i2 = scanUp (fun x => ltInt x dk[a]!) dk j i) := Lib.hid ((scanUp_end (fun x => ltInt x dk[a]!) dk j i2 (.inr (by simp [← HX.out, ← HY.out, HL.out]))).symm.trans HU.out)
        go_wp2_with fail
        go_big_quiet (first | (go_at_call 64; refine Calls.quiet_of_same (less_any _ _ _)))
        have S2 := Lib.hid (S1.out.drewN nq)
        clear S1 
        obtain ⟨W2, hw2⟩ : ∃ W, W = wr.drewN nq := ⟨_, rfl⟩
        rw [← hw2] at S2 ⊢
        clear hw2 nq
        (try rw [hl])
        clear c1 c2 hl HL HX HY HU
        go_wp2
        clear gz gz2
        go_loopg [11] j (fun g vj wr => ∃ j2 : Nat, vj = .int .i64 j2 ∧ j2 ≤ j ∧ i2 ≤ j2 + 1 ∧ j2 ≤ g ∧ Hid (At .u64 w0 blk off n dk wr) ∧ Hid (scanDown (fun x => !ltInt x dk[a]!) dk i2 j2 = scanDown (fun x => !ltInt x dk[a]!) dk i2 j))
        case atStart => exact ⟨j, rfl, Nat.le_refl _, by omega, Nat.le_refl _, S2, Lib.hid rfl⟩
        case round =>
          clear S2
          obtain ⟨j2, rfl, hj2a, hj2b, hj2g, S3, HV⟩ := hrel
          by_cases hle2 : i2 ≤ j2
          · have gz : (i2 : Int) ≤ (j2 : Int) := by omega
            have gz2 : decide ((i2 : Int) ≤ (j2 : Int)) = true := decide_eq_true gz
            have jz : (j2 : Int) < (n : Int) := by omega
            obtain ⟨x, hx⟩ : ∃ x, x = dk[j2]! := ⟨_, rfl⟩
            obtain ⟨y, hy⟩ : ∃ y, y = dk[a]! := ⟨_, rfl⟩
            have c1 := S3.out.cell (i := j2) (by omega)
            have c2 := S3.out.cell (i := a) (by omega)
            rw [← hx] at c1
            rw [← hy] at c2
            have HX := Lib.hid hx; have HY := Lib.hid hy
            clear hx hy
            cases hl : ltInt x y with
            | false =>
              obtain ⟨q, hq⟩ : ∃ q, q = j2 - 1 := ⟨_, rfl⟩
              have jq : (j2 : Int) - 1 = (q : Int) := by omega
              have j1 : 0 < j2 := by omega
              have HQ := Lib.hid hq
              clear hq
              have HL := Lib.hid hl
              go_wp2_with fail
              go_big_quiet (first | (go_at_call 64; refine Calls.quiet_of_same (less_any _ _ _)))
              have S4 := Lib.hid (S3.out.drewN nq)
              clear S3 
              obtain ⟨W2, hw2⟩ : ∃ W, W = wr.drewN nq := ⟨_, rfl⟩
              rw [← hw2] at S4 ⊢
              clear hw2 nq
              (try rw [hl])
              clear c1 c2 hl
              go_wp2
              go_roundg q
              case measure => omega
              case rel => exact ⟨q, by first | rfl | go_num | (congr 1; omega), by omega, by omega, Nat.le_refl _, S4, Lib.hid (by rw [HQ.out]; exact (scanDown_go (fun x => !ltInt x dk[a]!) dk i2 j2 hle2 j1 (by simp [← HX.out, ← HY.out, HL.out])).symm.trans HV.out)⟩
            | true =>
              have HL := Lib.hid hl
              have HJ2 : Hid (j2 = scanDown (fun x => !ltInt x dk[a]!) dk i2 j) := Lib.hid ((scanDown_end (fun x => !ltInt x dk[a]!) dk i2 j2 (.inr (by simp [← HX.out, ← HY.out, HL.out]))).symm.trans HV.out)
              go_wp2_with fail
              go_big_quiet (first | (go_at_call 64; refine Calls.quiet_of_same (less_any _ _ _)))
              have S4 := Lib.hid (S3.out.drewN nq)
              clear S3 
              obtain ⟨W2, hw2⟩ : ∃ W, W = wr.drewN nq := ⟨_, rfl⟩
              rw [← hw2] at S4 ⊢
              clear hw2 nq
              (try rw [hl])
              clear c1 c2 hl HL HX HY HV
              have HLT : i2 < j2 := part_scans_lt ltInt a i j dk (by omega) HI2.out HJ2.out hle2
              have gz3 : ¬ (j2 : Int) < (i2 : Int) := by omega
              go_wp2_with fail
              obtain ⟨q, hq⟩ : ∃ q, q = j2 - 1 := ⟨_, rfl⟩
              have jq : (j2 : Int) - 1 = (q : Int) := by omega
              have j1 : q + 1 = j2 := by omega
              have HQ := Lib.hid hq
              have J1 := Lib.hid j1
              clear gz gz2 gz3 hq j1
              obtain ⟨x, hx⟩ : ∃ x, x = dk[i2]! := ⟨_, rfl⟩
              obtain ⟨y, hy⟩ : ∃ y, y = dk[j2]! := ⟨_, rfl⟩
              have HX := Lib.hid hx; have HY := Lib.hid hy
              clear hx hy
              have c1 := S4.out.cell (i := i2) (by omega)
              have c2 := S4.out.cell (i := j2) (by omega)
              have f1 := S4.out.free (i := i2) (by omega)
              have f2 := S4.out.free (i := j2) (by omega)
              obtain ⟨u, c3⟩ := S4.out.second (i := i2) (j := j2) (by omega) (by omega) (.int .u64 y)
              have S3 := S4.out.swap (i := i2) (j := j2) (by omega) (by omega)
              rw [← HX.out] at c1 S3
              rw [← HY.out] at c2 S3
              have T3 := Lib.hid S3
              clear S3 S4
              go_wp2_with fail
              go_big_region
              clear c1 c2 c3 f1 f2
              have S3 := Lib.hid (T3.out.drew)
              clear T3
              obtain ⟨w3, hw3⟩ : ∃ w3, w3 = ((W2.setCell ⟨blk, off + i2, none⟩ (.int .u64 y)).setCell ⟨blk, off + j2, none⟩ (.int .u64 x)).drew := ⟨_, rfl⟩
              rw [← hw3] at S3 ⊢
              clear hw3
              have S5 := S3
              have HO := Lib.hid (HG.out i2 j2 HI2.out HJ2.out (by omega))
              rw [← HQ.out] at HO
              obtain ⟨P, hP⟩ : ∃ P, P = partLoop ltInt a (i2 + 1) q (swp dk i2 j2) := ⟨_, rfl⟩
              rw [← hP] at HO
              have HP : Hid (partLoop ltInt a (i2 + 1) q (swp dk i2 j2) = P) := Lib.hid hP.symm
              have hqn : q < n := by have := J1.out; omega
              have J2 := J1.out
              have hqi : i2 + 1 ≤ q + 1 := by omega
              clear HX HY S3 HG HF hP HI2 HJ2 J2
              go_wp2
              go_loopg [10, 11] (q + 1) (fun g vi vj wr => ∃ (i j : Nat) (dk : Array Int), vi = .int .i64 i ∧ vj = .int .i64 j ∧ a < i ∧ i ≤ j + 1 ∧ j ≤ q ∧ j + 1 - i ≤ g ∧ Hid (At .u64 w0 blk off n dk wr) ∧ Hid (partLoop ltInt a i j dk = P))
              case atStart => exact ⟨i2 + 1, q, _, by first | rfl | go_num | (congr 1; omega), by first | rfl | go_num | (congr 1; omega), by omega, by omega, Nat.le_refl _, by omega, S5, HP⟩
              case round =>
                clear S5 HP HLT J1 HQ jq
                obtain ⟨i, j, dk, rfl, rfl, hai, hij, hjb, hg, S, HP⟩ := hrel
                clear hi2a hi2b hj2a hj2b hj2g hle hle2
                go_wp2
                go_loopg [10] (j + 1 - i) (fun g vi wr => ∃ i2 : Nat, vi = .int .i64 i2 ∧ i ≤ i2 ∧ i2 ≤ j + 1 ∧ j + 1 - i2 ≤ g ∧ Hid (At .u64 w0 blk off n dk wr) ∧ Hid (scanUp (fun x => ltInt x dk[a]!) dk j i2 = scanUp (fun x => ltInt x dk[a]!) dk j i))
                case atStart => exact ⟨i, rfl, Nat.le_refl _, by omega, Nat.le_refl _, S, Lib.hid rfl⟩
                case round =>
                  clear S
                  obtain ⟨i2, rfl, hi2a, hi2b, hi2g, S1, HU⟩ := hrel
                  by_cases hle : i2 ≤ j
                  · have gz : (i2 : Int) ≤ (j : Int) := by omega
                    have gz2 : decide ((i2 : Int) ≤ (j : Int)) = true := decide_eq_true gz
                    have iz : (i2 : Int) < (n : Int) := by omega
                    obtain ⟨x, hx⟩ : ∃ x, x = dk[i2]! := ⟨_, rfl⟩
                    obtain ⟨y, hy⟩ : ∃ y, y = dk[a]! := ⟨_, rfl⟩
                    have c1 := S1.out.cell (i := i2) (by omega)
                    have c2 := S1.out.cell (i := a) (by omega)
                    rw [← hx] at c1
                    rw [← hy] at c2
                    have HX := Lib.hid hx; have HY := Lib.hid hy
                    clear hx hy
                    cases hl : ltInt x y with
                    | true =>
                      have HL := Lib.hid hl
                      go_wp2_with fail
                      go_big_quiet (first | (go_at_call 64; refine Calls.quiet_of_same (less_any _ _ _)))
                      have S2 := Lib.hid (S1.out.drewN nq)
                      clear S1 
                      obtain ⟨W2, hw2⟩ : ∃ W, W = wr.drewN nq := ⟨_, rfl⟩
                      rw [← hw2] at S2 ⊢
                      clear hw2 nq
                      (try rw [hl])
                      clear c1 c2 hl
                      go_wp2
                      go_roundg (j - i2)
                      case measure => omega
                      case rel => exact ⟨i2 + 1, by first | rfl | go_num | (congr 1; omega), by omega, by omega, by omega, S2, Lib.hid ((scanUp_go (fun x => ltInt x dk[a]!) dk j i2 hle (by simp [← HX.out, ← HY.out, HL.out])).symm.trans HU.out)⟩
                    | false =>
                      have HL := Lib.hid hl
                      have HI2 : Hid (i2 = scanUp (fun x => ltInt x dk[a]!) dk j i) := Lib.hid ((scanUp_end (fun x => ltInt x dk[a]!) dk j i2 (.inr (by simp [← HX.out, ← HY.out, HL.out]))).symm.trans HU.out)
                      go_wp2_with fail
                      go_big_quiet (first | (go_at_call 64; refine Calls.quiet_of_same (less_any _ _ _)))
                      have S2 := Lib.hid (S1.out.drewN nq)
                      clear S1 
                      obtain ⟨W2, hw2⟩ : ∃ W, W = wr.drewN nq := ⟨_, rfl⟩
                      rw [← hw2] at S2 ⊢
                      clear hw2 nq
                      (try rw [hl])
                      clear c1 c2 hl HL HX HY HU
                      go_wp2
                      clear gz gz2
                      go_loopg [11] j (fun g vj wr => ∃ j2 : Nat, vj = .int .i64 j2 ∧ j2 ≤ j ∧ i2 ≤ j2 + 1 ∧ j2 ≤ g ∧ Hid (At .u64 w0 blk off n dk wr) ∧ Hid (scanDown (fun x => !ltInt x dk[a]!) dk i2 j2 = scanDown (fun x => !ltInt x dk[a]!) dk i2 j))
                      case atStart => exact ⟨j, rfl, Nat.le_refl _, by omega, Nat.le_refl _, S2, Lib.hid rfl⟩
                      case round =>
                        clear S2
                        obtain ⟨j2, rfl, hj2a, hj2b, hj2g, S3, HV⟩ := hrel
                        by_cases hle2 : i2 ≤ j2
                        · have gz : (i2 : Int) ≤ (j2 : Int) := by omega
                          have gz2 : decide ((i2 : Int) ≤ (j2 : Int)) = true := decide_eq_true gz
                          have jz : (j2 : Int) < (n : Int) := by omega
                          obtain ⟨x, hx⟩ : ∃ x, x = dk[j2]! := ⟨_, rfl⟩
                          obtain ⟨y, hy⟩ : ∃ y, y = dk[a]! := ⟨_, rfl⟩
                          have c1 := S3.out.cell (i := j2) (by omega)
                          have c2 := S3.out.cell (i := a) (by omega)
                          rw [← hx] at c1
                          rw [← hy] at c2
                          have HX := Lib.hid hx; have HY := Lib.hid hy
                          clear hx hy
                          cases hl : ltInt x y with
                          | false =>
                            obtain ⟨q, hq⟩ : ∃ q, q = j2 - 1 := ⟨_, rfl⟩
                            have jq : (j2 : Int) - 1 = (q : Int) := by omega
                            have j1 : 0 < j2 := by omega
                            have HQ := Lib.hid hq
                            clear hq
                            have HL := Lib.hid hl
                            go_wp2_with fail
                            go_big_quiet (first | (go_at_call 64; refine Calls.quiet_of_same (less_any _ _ _)))
                            have S4 := Lib.hid (S3.out.drewN nq)
                            clear S3 
                            obtain ⟨W2, hw2⟩ : ∃ W, W = wr.drewN nq := ⟨_, rfl⟩
                            rw [← hw2] at S4 ⊢
                            clear hw2 nq
                            (try rw [hl])
                            clear c1 c2 hl
                            go_wp2
                            go_roundg q
                            case measure => omega
                            case rel => exact ⟨q, by first | rfl | go_num | (congr 1; omega), by omega, by omega, Nat.le_refl _, S4, Lib.hid (by rw [HQ.out]; exact (scanDown_go (fun x => !ltInt x dk[a]!) dk i2 j2 hle2 j1 (by simp [← HX.out, ← HY.out, HL.out])).symm.trans HV.out)⟩
                          | true =>
                            have HL := Lib.hid hl
                            have HJ2 : Hid (j2 = scanDown (fun x => !ltInt x dk[a]!) dk i2 j) := Lib.hid ((scanDown_end (fun x => !ltInt x dk[a]!) dk i2 j2 (.inr (by simp [← HX.out, ← HY.out, HL.out]))).symm.trans HV.out)
                            go_wp2_with fail
                            go_big_quiet (first | (go_at_call 64; refine Calls.quiet_of_same (less_any _ _ _)))
                            have S4 := Lib.hid (S3.out.drewN nq)
                            clear S3 
                            obtain ⟨W2, hw2⟩ : ∃ W, W = wr.drewN nq := ⟨_, rfl⟩
                            rw [← hw2] at S4 ⊢
                            clear hw2 nq
                            (try rw [hl])
                            clear c1 c2 hl HL HX HY HV
                            have HLT : i2 < j2 := part_scans_lt ltInt a i j dk (by omega) HI2.out HJ2.out hle2
                            have gz3 : ¬ (j2 : Int) < (i2 : Int) := by omega
                            go_wp2_with fail
                            obtain ⟨q, hq⟩ : ∃ q, q = j2 - 1 := ⟨_, rfl⟩
                            have jq : (j2 : Int) - 1 = (q : Int) := by omega
                            have j1 : q + 1 = j2 := by omega
                            have HQ := Lib.hid hq
                            have J1 := Lib.hid j1
                            clear gz gz2 gz3 hq j1
                            obtain ⟨x, hx⟩ : ∃ x, x = dk[i2]! := ⟨_, rfl⟩
                            obtain ⟨y, hy⟩ : ∃ y, y = dk[j2]! := ⟨_, rfl⟩
                            have HX := Lib.hid hx; have HY := Lib.hid hy
                            clear hx hy
                            have c1 := S4.out.cell (i := i2) (by omega)
                            have c2 := S4.out.cell (i := j2) (by omega)
                            have f1 := S4.out.free (i := i2) (by omega)
                            have f2 := S4.out.free (i := j2) (by omega)
                            obtain ⟨u, c3⟩ := S4.out.second (i := i2) (j := j2) (by omega) (by omega) (.int .u64 y)
                            have S3 := S4.out.swap (i := i2) (j := j2) (by omega) (by omega)
                            rw [← HX.out] at c1 S3
                            rw [← HY.out] at c2 S3
                            have T3 := Lib.hid S3
                            clear S3 S4
                            go_wp2_with fail
                            go_big_region
                            clear c1 c2 c3 f1 f2
                            have S3 := Lib.hid (T3.out.drew)
                            clear T3
                            obtain ⟨w3, hw3⟩ : ∃ w3, w3 = ((W2.setCell ⟨blk, off + i2, none⟩ (.int .u64 y)).setCell ⟨blk, off + j2, none⟩ (.int .u64 x)).drew := ⟨_, rfl⟩
                            rw [← hw3] at S3 ⊢
                            clear hw3
                            clear HX HY
                            go_wp2
                            go_roundg (j2 - (i2 + 1))
                            case measure => omega
                            case rel => have J2 := J1.out; exact ⟨i2 + 1, q, _, by first | rfl | go_num | (congr 1; omega), by first | rfl | go_num | (congr 1; omega), by omega, by omega, by omega, by omega, S3, Lib.hid (by rw [← HP.out, part_go ltInt a i j dk HI2.out HJ2.out (by omega), HQ.out])⟩
                        · have gz : ¬ (i2 : Int) ≤ (j2 : Int) := by omega
                          have gz2 : decide ((i2 : Int) ≤ (j2 : Int)) = false := decide_eq_false gz
                          have HJ2 : Hid (j2 = scanDown (fun x => !ltInt x dk[a]!) dk i2 j) := Lib.hid ((scanDown_end (fun x => !ltInt x dk[a]!) dk i2 j2 (.inl hle2)).symm.trans HV.out)
                          go_wp2_with fail
                          go_big_quiet (first | (go_at_call 64; refine Calls.quiet_of_same (less_any _ _ _)))
                          have S4 := Lib.hid (S3.out.drewN nq)
                          clear S3 
                          obtain ⟨W2, hw2⟩ : ∃ W, W = wr.drewN nq := ⟨_, rfl⟩
                          rw [← hw2] at S4 ⊢
                          clear hw2 nq
                          clear HV
                          have HLT : j2 < i2 := by omega
                          have gz3 : (j2 : Int) < (i2 : Int) := by omega
                          go_wp2_with fail
                          clear gz gz2 gz3
                          have jz : (j2 : Int) < (n : Int) := by omega
                          have HB := Lib.hid ((partLoop_ok (HP.out) (part_break ltInt a i j dk HI2.out HJ2.out HLT)))
                          obtain ⟨x, hx⟩ : ∃ x, x = dk[j2]! := ⟨_, rfl⟩
                          obtain ⟨y, hy⟩ : ∃ y, y = dk[a]! := ⟨_, rfl⟩
                          have HX := Lib.hid hx; have HY := Lib.hid hy
                          clear hx hy
                          have c1 := S4.out.cell (i := j2) (by omega)
                          have c2 := S4.out.cell (i := a) (by omega)
                          have f1 := S4.out.free (i := j2) (by omega)
                          have f2 := S4.out.free (i := a) (by omega)
                          obtain ⟨u, c3⟩ := S4.out.second (i := j2) (j := a) (by omega) (by omega) (.int .u64 y)
                          have S3 := S4.out.swap (i := j2) (j := a) (by omega) (by omega)
                          rw [← HX.out] at c1 S3
                          rw [← HY.out] at c2 S3
                          have T3 := Lib.hid S3
                          clear S3 S4
                          go_wp2_with fail
                          go_big_region
                          clear c1 c2 c3 f1 f2
                          have S3 := Lib.hid (T3.out.drew)
                          clear T3
                          obtain ⟨w3, hw3⟩ : ∃ w3, w3 = ((W2.setCell ⟨blk, off + j2, none⟩ (.int .u64 y)).setCell ⟨blk, off + a, none⟩ (.int .u64 x)).drew := ⟨_, rfl⟩
                          rw [← hw3] at S3 ⊢
                          clear hw3
                          clear HX HY
                          go_wp2_with fail
                          refine bodyPost_ret (v := .tuple #[.int .i64 j2, .bool false]) (by simp [results, Tryz.results106, go_sem]) rfl ?_
                          rw [← HO.out, HB.out]
                          exact ⟨rfl, S3.out⟩
                  · have gz : ¬ (i2 : Int) ≤ (j : Int) := by omega
                    have gz2 : decide ((i2 : Int) ≤ (j : Int)) = false := decide_eq_false gz
                    have HI2 : Hid (i2 = scanUp (fun x => ltInt x dk[a]!) dk j i) := Lib.hid ((scanUp_end (fun x => ltInt x dk[a]!) dk j i2 (.inl hle)).symm.trans HU.out)
                    go_wp2_with fail
                    go_big_quiet (first | (go_at_call 64; refine Calls.quiet_of_same (less_any _ _ _)))
                    have S2 := Lib.hid (S1.out.drewN nq)
                    clear S1 
                    obtain ⟨W2, hw2⟩ : ∃ W, W = wr.drewN nq := ⟨_, rfl⟩
                    rw [← hw2] at S2 ⊢
                    clear hw2 nq
                    clear HU
                    go_wp2
                    clear gz gz2
                    go_loopg [11] j (fun g vj wr => ∃ j2 : Nat, vj = .int .i64 j2 ∧ j2 ≤ j ∧ i2 ≤ j2 + 1 ∧ j2 ≤ g ∧ Hid (At .u64 w0 blk off n dk wr) ∧ Hid (scanDown (fun x => !ltInt x dk[a]!) dk i2 j2 = scanDown (fun x => !ltInt x dk[a]!) dk i2 j))
                    case atStart => exact ⟨j, rfl, Nat.le_refl _, by omega, Nat.le_refl _, S2, Lib.hid rfl⟩
                    case round =>
                      clear S2
                      obtain ⟨j2, rfl, hj2a, hj2b, hj2g, S3, HV⟩ := hrel
                      have hle2 : ¬ i2 ≤ j2 := by omega
                      have gz : ¬ (i2 : Int) ≤ (j2 : Int) := by omega
                      have gz2 : decide ((i2 : Int) ≤ (j2 : Int)) = false := decide_eq_false gz
                      have HJ2 : Hid (j2 = scanDown (fun x => !ltInt x dk[a]!) dk i2 j) := Lib.hid ((scanDown_end (fun x => !ltInt x dk[a]!) dk i2 j2 (.inl hle2)).symm.trans HV.out)
                      go_wp2_with fail
                      go_big_quiet (first | (go_at_call 64; refine Calls.quiet_of_same (less_any _ _ _)))
                      have S4 := Lib.hid (S3.out.drewN nq)
                      clear S3 
                      obtain ⟨W2, hw2⟩ : ∃ W, W = wr.drewN nq := ⟨_, rfl⟩
                      rw [← hw2] at S4 ⊢
                      clear hw2 nq
                      clear HV
                      have HLT : j2 < i2 := by omega
                      have gz3 : (j2 : Int) < (i2 : Int) := by omega
                      go_wp2_with fail
                      clear gz gz2 gz3
                      have jz : (j2 : Int) < (n : Int) := by omega
                      have HB := Lib.hid ((partLoop_ok (HP.out) (part_break ltInt a i j dk HI2.out HJ2.out HLT)))
                      obtain ⟨x, hx⟩ : ∃ x, x = dk[j2]! := ⟨_, rfl⟩
                      obtain ⟨y, hy⟩ : ∃ y, y = dk[a]! := ⟨_, rfl⟩
                      have HX := Lib.hid hx; have HY := Lib.hid hy
                      clear hx hy
                      have c1 := S4.out.cell (i := j2) (by omega)
                      have c2 := S4.out.cell (i := a) (by omega)
                      have f1 := S4.out.free (i := j2) (by omega)
                      have f2 := S4.out.free (i := a) (by omega)
                      obtain ⟨u, c3⟩ := S4.out.second (i := j2) (j := a) (by omega) (by omega) (.int .u64 y)
                      have S3 := S4.out.swap (i := j2) (j := a) (by omega) (by omega)
                      rw [← HX.out] at c1 S3
                      rw [← HY.out] at c2 S3
                      have T3 := Lib.hid S3
                      clear S3 S4
                      go_wp2_with fail
                      go_big_region
                      clear c1 c2 c3 f1 f2
                      have S3 := Lib.hid (T3.out.drew)
                      clear T3
                      obtain ⟨w3, hw3⟩ : ∃ w3, w3 = ((W2.setCell ⟨blk, off + j2, none⟩ (.int .u64 y)).setCell ⟨blk, off + a, none⟩ (.int .u64 x)).drew := ⟨_, rfl⟩
                      rw [← hw3] at S3 ⊢
                      clear hw3
                      clear HX HY
                      go_wp2_with fail
                      refine bodyPost_ret (v := .tuple #[.int .i64 j2, .bool false]) (by simp [results, Tryz.results106, go_sem]) rfl ?_
                      rw [← HO.out, HB.out]
                      exact ⟨rfl, S3.out⟩
          · have gz : ¬ (i2 : Int) ≤ (j2 : Int) := by omega
            have gz2 : decide ((i2 : Int) ≤ (j2 : Int)) = false := decide_eq_false gz
            have HJ2 : Hid (j2 = scanDown (fun x => !ltInt x dk[a]!) dk i2 j) := Lib.hid ((scanDown_end (fun x => !ltInt x dk[a]!) dk i2 j2 (.inl hle2)).symm.trans HV.out)
            go_wp2_with fail
            go_big_quiet (first | (go_at_call 64; refine Calls.quiet_of_same (less_any _ _ _)))
            have S4 := Lib.hid (S3.out.drewN nq)
            clear S3 
            obtain ⟨W2, hw2⟩ : ∃ W, W = wr.drewN nq := ⟨_, rfl⟩
            rw [← hw2] at S4 ⊢
            clear hw2 nq
            clear HV
            have HLT : j2 < i2 := by omega
            have gz3 : (j2 : Int) < (i2 : Int) := by omega
            go_wp2_with fail
            clear gz gz2 gz3
            have jz : (j2 : Int) < (n : Int) := by omega
            obtain ⟨x, hx⟩ : ∃ x, x = dk[j2]! := ⟨_, rfl⟩
            obtain ⟨y, hy⟩ : ∃ y, y = dk[a]! := ⟨_, rfl⟩
            have HX := Lib.hid hx; have HY := Lib.hid hy
            clear hx hy
            have c1 := S4.out.cell (i := j2) (by omega)
            have c2 := S4.out.cell (i := a) (by omega)
            have f1 := S4.out.free (i := j2) (by omega)
            have f2 := S4.out.free (i := a) (by omega)
            obtain ⟨u, c3⟩ := S4.out.second (i := j2) (j := a) (by omega) (by omega) (.int .u64 y)
            have S3 := S4.out.swap (i := j2) (j := a) (by omega) (by omega)
            rw [← HX.out] at c1 S3
            rw [← HY.out] at c2 S3
            have T3 := Lib.hid S3
            clear S3 S4
            go_wp2_with fail
            go_big_region
            clear c1 c2 c3 f1 f2
            have S3 := Lib.hid (T3.out.drew)
            clear T3
            obtain ⟨w3, hw3⟩ : ∃ w3, w3 = ((W2.setCell ⟨blk, off + j2, none⟩ (.int .u64 y)).setCell ⟨blk, off + a, none⟩ (.int .u64 x)).drew := ⟨_, rfl⟩
            rw [← hw3] at S3 ⊢
            clear hw3
            clear HX HY
            go_wp2_with fail
            refine bodyPost_ret (v := .tuple #[.int .i64 j2, .bool true]) (by simp [results, Tryz.results106, go_sem]) rfl ?_
            rw [← HF.out i2 j2 HI2.out HJ2.out HLT]
            exact ⟨rfl, S3.out⟩
    · have gz : ¬ (i2 : Int) ≤ (j : Int) := by omega
      have gz2 : decide ((i2 : Int) ≤ (j : Int)) = false := decide_eq_false gz
      have HI2 : Hid (i2 = scanUp (fun x => ltInt x dk[a]!) dk j i) := Lib.hid ((scanUp_end (fun x => ltInt x dk[a]!) dk j i2 (.inl hle)).symm.trans HU.out)
      go_wp2_with fail
      go_big_quiet (first | (go_at_call 64; refine Calls.quiet_of_same (less_any _ _ _)))
      have S2 := Lib.hid (S1.out.drewN nq)
      clear S1 
      obtain ⟨W2, hw2⟩ : ∃ W, W = wr.drewN nq := ⟨_, rfl⟩
      rw [← hw2] at S2 ⊢
      clear hw2 nq
      clear HU
      go_wp2
      clear gz gz2
      go_loopg [11] j (fun g vj wr => ∃ j2 : Nat, vj = .int .i64 j2 ∧ j2 ≤ j ∧ i2 ≤ j2 + 1 ∧ j2 ≤ g ∧ Hid (At .u64 w0 blk off n dk wr) ∧ Hid (scanDown (fun x => !ltInt x dk[a]!) dk i2 j2 = scanDown (fun x => !ltInt x dk[a]!) dk i2 j))
      case atStart => exact ⟨j, rfl, Nat.le_refl _, by omega, Nat.le_refl _, S2, Lib.hid rfl⟩
      case round =>
        clear S2
        obtain ⟨j2, rfl, hj2a, hj2b, hj2g, S3, HV⟩ := hrel
        have hle2 : ¬ i2 ≤ j2 := by omega
        have gz : ¬ (i2 : Int) ≤ (j2 : Int) := by omega
        have gz2 : decide ((i2 : Int) ≤ (j2 : Int)) = false := decide_eq_false gz
        have HJ2 : Hid (j2 = scanDown (fun x => !ltInt x dk[a]!) dk i2 j) := Lib.hid ((scanDown_end (fun x => !ltInt x dk[a]!) dk i2 j2 (.inl hle2)).symm.trans HV.out)
        go_wp2_with fail
        go_big_quiet (first | (go_at_call 64; refine Calls.quiet_of_same (less_any _ _ _)))
        have S4 := Lib.hid (S3.out.drewN nq)
        clear S3 
        obtain ⟨W2, hw2⟩ : ∃ W, W = wr.drewN nq := ⟨_, rfl⟩
        rw [← hw2] at S4 ⊢
        clear hw2 nq
        clear HV
        have HLT : j2 < i2 := by omega
        have gz3 : (j2 : Int) < (i2 : Int) := by omega
        go_wp2_with fail
        clear gz gz2 gz3
        have jz : (j2 : Int) < (n : Int) := by omega
        obtain ⟨x, hx⟩ : ∃ x, x = dk[j2]! := ⟨_, rfl⟩
        obtain ⟨y, hy⟩ : ∃ y, y = dk[a]! := ⟨_, rfl⟩
        have HX := Lib.hid hx; have HY := Lib.hid hy
        clear hx hy
        have c1 := S4.out.cell (i := j2) (by omega)
        have c2 := S4.out.cell (i := a) (by omega)
        have f1 := S4.out.free (i := j2) (by omega)
        have f2 := S4.out.free (i := a) (by omega)
        obtain ⟨u, c3⟩ := S4.out.second (i := j2) (j := a) (by omega) (by omega) (.int .u64 y)
        have S3 := S4.out.swap (i := j2) (j := a) (by omega) (by omega)
        rw [← HX.out] at c1 S3
        rw [← HY.out] at c2 S3
        have T3 := Lib.hid S3
        clear S3 S4
        go_wp2_with fail
        go_big_region
        clear c1 c2 c3 f1 f2
        have S3 := Lib.hid (T3.out.drew)
        clear T3
        obtain ⟨w3, hw3⟩ : ∃ w3, w3 = ((W2.setCell ⟨blk, off + j2, none⟩ (.int .u64 y)).setCell ⟨blk, off + a, none⟩ (.int .u64 x)).drew := ⟨_, rfl⟩
        rw [← hw3] at S3 ⊢
        clear hw3
        clear HX HY
        go_wp2_with fail
        refine bodyPost_ret (v := .tuple #[.int .i64 j2, .bool true]) (by simp [results, Tryz.results106, go_sem]) rfl ?_
        rw [← HF.out i2 j2 HI2.out HJ2.out HLT]
        exact ⟨rfl, S3.out⟩
end Go.Proofs.YtonlbcibfbbpgaaGreat.StU

/- The walk of the library's sort at uint64: partial insertion -/
import Derived.Test.YtonlbcibfbbpgaaGreatSrtAU
namespace Go.Proofs.YtonlbcibfbbpgaaGreat.StU
open Go.RowKit Go.Lib Go.Sort Rw St

/-- a bool and a row -/
def PiP (w0 : World) (blk off n : Nat) (r : Array Int × Bool) (e : Ending) (w' : World) : Prop := e = .returned (.bool r.2) ∧ At .u64 w0 blk off n r.1 w'
set_option maxHeartbeats 32000000 in
set_option maxRecDepth 1000000 in
theorem pins_any (w0 w : World) (blk off n cap a b : Nat) (d : Array Int) (S : At .u64 w0 blk off n d w) (hab : a < b) (hb : b ≤ n) (hn : n ≤ 2305843009213693952) :
    Calls Tryz.prog 104 #[.slice (some ⟨blk, off, none⟩) n cap, .int .i64 a, .int .i64 b] w (PiP w0 blk off n (partialInsertionSort ltInt d a b)) := by
  obtain ⟨D, hD⟩ : ∃ D, D = partialInsertionSort ltInt d a b := ⟨_, rfl⟩
  have HD : Hid (partialIns ltInt a b (5 - 0) (a + 1) d = D) := Lib.hid hD.symm
  rw [← hD]
  have S0 := Lib.hid S
  clear S hD
  go_enter Tryz.func104, Tryz.ntmps104
  go_wp2
  go_loopg [7, 8] 5 (fun g vi vs wr => ∃ (s i : Nat) (dk : Array Int), vs = .int .i64 s ∧ s ≤ 5 ∧ 5 - s ≤ g ∧ vi = .int .i64 i ∧ a < i ∧ i ≤ b ∧ Hid (At .u64 w0 blk off n dk wr) ∧ Hid (partialIns ltInt a b (5 - s) i dk = D))
  case atStart => exact ⟨0, a + 1, d, rfl, by omega, by omega, by first | rfl | go_num | (congr 1; omega), by omega, by omega, S0, HD⟩
  case round =>
    clear S0 HD
    obtain ⟨s, i, dk, rfl, hs, hsg, rfl, hai, hib, S1, HO⟩ := hrel
    by_cases hs5 : s < 5
    · have sz : (s : Int) < 5 := by omega
      go_wp2
      go_loopg [7] (b - i) (fun g vi wr => ∃ i2 : Nat, vi = .int .i64 i2 ∧ i ≤ i2 ∧ i2 ≤ b ∧ b - i2 ≤ g ∧ Hid (At .u64 w0 blk off n dk wr) ∧ Hid (scanSorted ltInt dk b i2 = scanSorted ltInt dk b i))
      case atStart => exact ⟨i, rfl, Nat.le_refl _, hib, Nat.le_refl _, S1, Lib.hid rfl⟩
      case round =>
        clear S1
        obtain ⟨i2, rfl, hi1, hi2, hig, S2, HV⟩ := hrel
        by_cases hb2 : i2 < b
        · have iz : (i2 : Int) < (b : Int) := by omega
          have gz : decide ((i2 : Int) < (b : Int)) = true := decide_eq_true iz
          have inn : (i2 : Int) < (n : Int) := by omega
          obtain ⟨p, hp⟩ : ∃ p, p = i2 - 1 := ⟨_, rfl⟩
          have ip : (i2 : Int) - 1 = (p : Int) := by omega
          have p1 : p + 1 = i2 := by omega
          have pn : (p : Int) < (n : Int) := by omega
          obtain ⟨x, hx⟩ : ∃ x, x = dk[i2]! := ⟨_, rfl⟩
          obtain ⟨y, hy⟩ : ∃ y, y = dk[p]! := ⟨_, rfl⟩
          have c1 := S2.out.cell (i := i2) (by omega)
          have c2 := S2.out.cell (i := p) (by omega)
          rw [← hx] at c1
          rw [← hy] at c2
          have HX := Lib.hid hx; have HY := Lib.hid hy
          clear hx hy
          have HP := Lib.hid hp
          have P1 := Lib.hid p1
          clear hp p1
          cases hl : ltInt x y with
          | false =>
            have HL := Lib.hid hl
            go_wp2_with fail
            go_big_quiet (first | (go_at_call 64; refine Calls.quiet_of_same (less_any _ _ _)))
            have S3 := Lib.hid (S2.out.drewN nq)
            clear S2 
            obtain ⟨W2, hw2⟩ : ∃ W, W = wr.drewN nq := ⟨_, rfl⟩
            rw [← hw2] at S3 ⊢
            clear hw2 nq
            clear c1 c2 hl
            go_wp2
            go_roundg (b - (i2 + 1))
            case measure => omega
            case rel => exact ⟨i2 + 1, by first | rfl | go_num | (congr 1; omega), by omega, by omega, Nat.le_refl _, S3, Lib.hid (by rw [← HV.out, scanSorted_go ltInt dk b i2 hb2 (by rw [← HP.out, ← HX.out, ← HY.out]; exact HL.out)])⟩
          | true =>
            have HL := Lib.hid hl
            have HK : Hid (scanSorted ltInt dk b i = i2) := Lib.hid (by rw [← HV.out]; exact scanSorted_stop ltInt dk b i2 (.inr (by rw [← HP.out, ← HX.out, ← HY.out]; exact HL.out)))
            go_wp2_with fail
            go_big_quiet (first | (go_at_call 64; refine Calls.quiet_of_same (less_any _ _ _)))
            have S4 := Lib.hid (S2.out.drewN nq)
            clear S2 
            obtain ⟨W2, hw2⟩ : ∃ W, W = wr.drewN nq := ⟨_, rfl⟩
            rw [← hw2] at S4 ⊢
            clear hw2 nq
            clear c1 c2 hl HV gz
            have nb : ((i2 : Int) == (b : Int)) = false := by simp; omega
            by_cases h50 : b - a < 50
            · have z50 : (b : Int) - (a : Int) < 50 := by omega
              have HE : Hid (D = (dk, false)) := Lib.hid (by rw [← HO.out]; exact pi_short ltInt a b s i dk hs5 (by rw [HK.out]; omega) h50)
              go_wp2
              go_ret
              exact ⟨by rw [HE.out]; rfl, by rw [HE.out]; exact S4.out⟩
            · have z50 : ¬ (b : Int) - (a : Int) < 50 := by omega
              go_wp2_with fail
              clear HX HY nb
              obtain ⟨x, hx⟩ : ∃ x, x = dk[i2]! := ⟨_, rfl⟩
              obtain ⟨y, hy⟩ : ∃ y, y = dk[p]! := ⟨_, rfl⟩
              have HX := Lib.hid hx; have HY := Lib.hid hy
              clear hx hy
              have c1 := S4.out.cell (i := i2) (by omega)
              have c2 := S4.out.cell (i := p) (by omega)
              have f1 := S4.out.free (i := i2) (by omega)
              have f2 := S4.out.free (i := p) (by omega)
              obtain ⟨u, c3⟩ := S4.out.second (i := i2) (j := p) (by omega) (by omega) (.int .u64 y)
              have S3 := S4.out.swap (i := i2) (j := p) (by omega) (by omega)
              rw [← HX.out] at c1 S3
              rw [← HY.out] at c2 S3
              have T3 := Lib.hid S3
              clear S3 S4
              go_wp2_with fail
              go_big_region
              clear c1 c2 c3 f1 f2
              have S3 := Lib.hid (T3.out.drew)
              clear T3
              obtain ⟨w3, hw3⟩ : ∃ w3, w3 = ((W2.setCell ⟨blk, off + i2, none⟩ (.int .u64 y)).setCell ⟨blk, off + p, none⟩ (.int .u64 x)).drew := ⟨_, rfl⟩
              rw [← hw3] at S3 ⊢
              clear hw3
              have S5 := S3
              clear HX HY S3
              obtain ⟨dk1, hdk⟩ : ∃ dk1, dk1 = swp dk i2 p := ⟨_, rfl⟩
              rw [← hdk] at S5
              have HDK := Lib.hid hdk
              clear hdk
              by_cases h2 : 2 ≤ i2 - a
              · have z2 : (2 : Int) ≤ (i2 : Int) - (a : Int) := by omega
                go_wp2
                go_loopg [9] p (fun g vj wr => ∃ (j : Nat) (dj : Array Int), vj = .int .i64 j ∧ j ≤ p ∧ j ≤ g ∧ Hid (At .u64 w0 blk off n dj wr) ∧ Hid (shiftDown ltInt j dj = shiftDown ltInt p dk1))
                case atStart => exact ⟨p, dk1, rfl, Nat.le_refl _, Nat.le_refl _, S5, Lib.hid rfl⟩
                case round =>
                  clear S5 z2
                  obtain ⟨j, d2, rfl, hjp, hjg, S5, HV⟩ := hrel
                  by_cases hj1 : 1 ≤ j
                  · have jz : (1 : Int) ≤ (j : Int) := by omega
                    have jn : (j : Int) < (n : Int) := by omega
                    obtain ⟨q, hq⟩ : ∃ q, q = j - 1 := ⟨_, rfl⟩
                    have jq : (j : Int) - 1 = (q : Int) := by omega
                    have q1 : q + 1 = j := by omega
                    have qn : (q : Int) < (n : Int) := by omega
                    obtain ⟨x, hx⟩ : ∃ x, x = d2[j]! := ⟨_, rfl⟩
                    obtain ⟨y, hy⟩ : ∃ y, y = d2[q]! := ⟨_, rfl⟩
                    have c1 := S5.out.cell (i := j) (by omega)
                    have c2 := S5.out.cell (i := q) (by omega)
                    rw [← hx] at c1
                    rw [← hy] at c2
                    have HX := Lib.hid hx; have HY := Lib.hid hy
                    clear hx hy
                    have HQ := Lib.hid hq
                    clear hq
                    cases hl : ltInt x y with
                    | false =>
                      have HL := Lib.hid hl
                      have HF : Hid (fixDown ltInt a i2 (swp dk i2 p) = d2) := Lib.hid (by unfold fixDown; rw [if_pos h2, ← HDK.out, ← HP.out, ← HV.out, shiftDown_stop ltInt j d2 (.inr (by rw [← HQ.out, ← HX.out, ← HY.out]; exact HL.out))])
                      go_wp2_with fail
                      go_big_quiet (first | (go_at_call 64; refine Calls.quiet_of_same (less_any _ _ _)))
                      have S6 := Lib.hid (S5.out.drewN nq)
                      clear S5 
                      obtain ⟨W2, hw2⟩ : ∃ W, W = wr.drewN nq := ⟨_, rfl⟩
                      rw [← hw2] at S6 ⊢
                      clear hw2 nq
                      clear c1 c2 HV jq hl q1
                      by_cases h3 : 2 ≤ b - i2
                      · have z3 : (2 : Int) ≤ (b : Int) - (i2 : Int) := by omega
                        go_wp2
                        go_loopg [10] (b - i2) (fun g vj wr => ∃ (j : Nat) (dj : Array Int), vj = .int .i64 j ∧ i2 + 1 ≤ j ∧ j ≤ b ∧ b - j ≤ g ∧ Hid (At .u64 w0 blk off n dj wr) ∧ Hid (shiftUp ltInt b j dj = shiftUp ltInt b (i2 + 1) d2))
                        case atStart => exact ⟨i2 + 1, d2, by first | rfl | go_num | (congr 1; omega), Nat.le_refl _, by omega, by omega, S6, Lib.hid rfl⟩
                        case round =>
                          clear S6 z3
                          obtain ⟨j, dj, rfl, hj1, hj2, hjg, S7, HV⟩ := hrel
                          by_cases hjb : j < b
                          · have jz : (j : Int) < (b : Int) := by omega
                            have jn : (j : Int) < (n : Int) := by omega
                            obtain ⟨q, hq⟩ : ∃ q, q = j - 1 := ⟨_, rfl⟩
                            have jq : (j : Int) - 1 = (q : Int) := by omega
                            have q1 : q + 1 = j := by omega
                            have qn : (q : Int) < (n : Int) := by omega
                            obtain ⟨x, hx⟩ : ∃ x, x = dj[j]! := ⟨_, rfl⟩
                            obtain ⟨y, hy⟩ : ∃ y, y = dj[q]! := ⟨_, rfl⟩
                            have c1 := S7.out.cell (i := j) (by omega)
                            have c2 := S7.out.cell (i := q) (by omega)
                            rw [← hx] at c1
                            rw [← hy] at c2
                            have HX := Lib.hid hx; have HY := Lib.hid hy
                            clear hx hy
                            have HQ := Lib.hid hq
                            clear hq q1
                            cases hl : ltInt x y with
                            | false =>
                              have HL := Lib.hid hl
                              have HU : Hid (fixUp ltInt b i2 d2 = dj) := Lib.hid (by unfold fixUp; rw [if_pos h3, ← HV.out, shiftUp_stop ltInt b j dj (.inr (by rw [← HQ.out, ← HX.out, ← HY.out]; exact HL.out))])
                              go_wp2_with fail
                              go_big_quiet (first | (go_at_call 64; refine Calls.quiet_of_same (less_any _ _ _)))
                              have S8 := Lib.hid (S7.out.drewN nq)
                              clear S7 
                              obtain ⟨W2, hw2⟩ : ∃ W, W = wr.drewN nq := ⟨_, rfl⟩
                              rw [← hw2] at S8 ⊢
                              clear hw2 nq
                              clear c1 c2 HV jq
                              go_wp2
                              go_roundg (5 - (s + 1))
                              case measure => omega
                              case rel => exact ⟨s + 1, i2, _, by first | rfl | go_num | (congr 1; omega), by omega, by omega, rfl, by omega, by omega, S8, Lib.hid (by rw [← HO.out, pi_go ltInt a b s i i2 dk hs5 HK.out (by omega) h50, ← HP.out, HF.out, HU.out])⟩
                            | true =>
                              have HL := Lib.hid hl
                              go_wp2_with fail
                              go_big_quiet (first | (go_at_call 64; refine Calls.quiet_of_same (less_any _ _ _)))
                              have S7b := Lib.hid (S7.out.drewN nq)
                              clear S7 
                              obtain ⟨W2, hw2⟩ : ∃ W, W = wr.drewN nq := ⟨_, rfl⟩
                              rw [← hw2] at S7b ⊢
                              clear hw2 nq
                              clear c1 c2 hl
                              go_wp2_with fail
                              have HX1 := HX; have HY1 := HY
                              clear HX HY
                              obtain ⟨x, hx⟩ : ∃ x, x = dj[j]! := ⟨_, rfl⟩
                              obtain ⟨y, hy⟩ : ∃ y, y = dj[q]! := ⟨_, rfl⟩
                              have HX := Lib.hid hx; have HY := Lib.hid hy
                              clear hx hy
                              have c1 := S7b.out.cell (i := j) (by omega)
                              have c2 := S7b.out.cell (i := q) (by omega)
                              have f1 := S7b.out.free (i := j) (by omega)
                              have f2 := S7b.out.free (i := q) (by omega)
                              obtain ⟨u, c3⟩ := S7b.out.second (i := j) (j := q) (by omega) (by omega) (.int .u64 y)
                              have S3 := S7b.out.swap (i := j) (j := q) (by omega) (by omega)
                              rw [← HX.out] at c1 S3
                              rw [← HY.out] at c2 S3
                              have T3 := Lib.hid S3
                              clear S3 S7b
                              go_wp2_with fail
                              go_big_region
                              clear c1 c2 c3 f1 f2
                              have S3 := Lib.hid (T3.out.drew)
                              clear T3
                              obtain ⟨w3, hw3⟩ : ∃ w3, w3 = ((W2.setCell ⟨blk, off + j, none⟩ (.int .u64 y)).setCell ⟨blk, off + q, none⟩ (.int .u64 x)).drew := ⟨_, rfl⟩
                              rw [← hw3] at S3 ⊢
                              clear hw3
                              clear HX HY
                              go_wp2
                              go_roundg (b - (j + 1))
                              case measure => omega
                              case rel => exact ⟨j + 1, _, by first | rfl | go_num | (congr 1; omega), by omega, by omega, Nat.le_refl _, S3, Lib.hid (by rw [← HV.out, shiftUp_go ltInt b j dj hjb (by rw [← HQ.out, ← HX1.out, ← HY1.out]; exact HL.out), HQ.out])⟩
                          · have jz : ¬ (j : Int) < (b : Int) := by omega
                            have HU : Hid (fixUp ltInt b i2 d2 = dj) := Lib.hid (by unfold fixUp; rw [if_pos h3, ← HV.out, shiftUp_stop ltInt b j dj (.inl hjb)])
                            have S8 := S7
                            clear S7 HV
                            go_wp2
                            go_roundg (5 - (s + 1))
                            case measure => omega
                            case rel => exact ⟨s + 1, i2, _, by first | rfl | go_num | (congr 1; omega), by omega, by omega, rfl, by omega, by omega, S8, Lib.hid (by rw [← HO.out, pi_go ltInt a b s i i2 dk hs5 HK.out (by omega) h50, ← HP.out, HF.out, HU.out])⟩
                      · have z3 : ¬ (2 : Int) ≤ (b : Int) - (i2 : Int) := by omega
                        have HU : Hid (fixUp ltInt b i2 d2 = d2) := Lib.hid (by unfold fixUp; rw [if_neg h3])
                        have S8 := S6
                        clear S6
                        go_wp2
                        go_roundg (5 - (s + 1))
                        case measure => omega
                        case rel => exact ⟨s + 1, i2, _, by first | rfl | go_num | (congr 1; omega), by omega, by omega, rfl, by omega, by omega, S8, Lib.hid (by rw [← HO.out, pi_go ltInt a b s i i2 dk hs5 HK.out (by omega) h50, ← HP.out, HF.out, HU.out])⟩
                    | true =>
                      have HL := Lib.hid hl
                      go_wp2_with fail
                      go_big_quiet (first | (go_at_call 64; refine Calls.quiet_of_same (less_any _ _ _)))
                      have S5b := Lib.hid (S5.out.drewN nq)
                      clear S5 
                      obtain ⟨W2, hw2⟩ : ∃ W, W = wr.drewN nq := ⟨_, rfl⟩
                      rw [← hw2] at S5b ⊢
                      clear hw2 nq
                      clear c1 c2 hl q1
                      go_wp2_with fail
                      have HX1 := HX; have HY1 := HY
                      clear HX HY
                      obtain ⟨x, hx⟩ : ∃ x, x = d2[j]! := ⟨_, rfl⟩
                      obtain ⟨y, hy⟩ : ∃ y, y = d2[q]! := ⟨_, rfl⟩
                      have HX := Lib.hid hx; have HY := Lib.hid hy
                      clear hx hy
                      have c1 := S5b.out.cell (i := j) (by omega)
                      have c2 := S5b.out.cell (i := q) (by omega)
                      have f1 := S5b.out.free (i := j) (by omega)
                      have f2 := S5b.out.free (i := q) (by omega)
                      obtain ⟨u, c3⟩ := S5b.out.second (i := j) (j := q) (by omega) (by omega) (.int .u64 y)
                      have S3 := S5b.out.swap (i := j) (j := q) (by omega) (by omega)
                      rw [← HX.out] at c1 S3
                      rw [← HY.out] at c2 S3
                      have T3 := Lib.hid S3
                      clear S3 S5b
                      go_wp2_with fail
                      go_big_region
                      clear c1 c2 c3 f1 f2
                      have S3 := Lib.hid (T3.out.drew)
                      clear T3
                      obtain ⟨w3, hw3⟩ : ∃ w3, w3 = ((W2.setCell ⟨blk, off + j, none⟩ (.int .u64 y)).setCell ⟨blk, off + q, none⟩ (.int .u64 x)).drew := ⟨_, rfl⟩
                      rw [← hw3] at S3 ⊢
                      clear hw3
                      clear HX HY
                      go_wp2
                      go_roundg q
                      case measure => have := HQ.out; omega
                      case rel => have := HQ.out; exact ⟨q, _, by first | rfl | go_num | (congr 1; omega), by omega, Nat.le_refl _, S3, Lib.hid (by rw [← HV.out, shiftDown_go ltInt j d2 hj1 (by rw [← HQ.out, ← HX1.out, ← HY1.out]; exact HL.out), HQ.out])⟩
                  · have jz : ¬ (1 : Int) ≤ (j : Int) := by omega
                    have HF : Hid (fixDown ltInt a i2 (swp dk i2 p) = d2) := Lib.hid (by unfold fixDown; rw [if_pos h2, ← HDK.out, ← HP.out, ← HV.out, shiftDown_stop ltInt j d2 (.inl (by omega))])
                    have S6 := S5
                    clear S5 HV
                    by_cases h3 : 2 ≤ b - i2
                    · have z3 : (2 : Int) ≤ (b : Int) - (i2 : Int) := by omega
                      go_wp2
                      go_loopg [10] (b - i2) (fun g vj wr => ∃ (j : Nat) (dj : Array Int), vj = .int .i64 j ∧ i2 + 1 ≤ j ∧ j ≤ b ∧ b - j ≤ g ∧ Hid (At .u64 w0 blk off n dj wr) ∧ Hid (shiftUp ltInt b j dj = shiftUp ltInt b (i2 + 1) d2))
                      case atStart => exact ⟨i2 + 1, d2, by first | rfl | go_num | (congr 1; omega), Nat.le_refl _, by omega, by omega, S6, Lib.hid rfl⟩
                      case round =>
                        clear S6 z3
                        obtain ⟨j, dj, rfl, hj1, hj2, hjg, S7, HV⟩ := hrel
                        by_cases hjb : j < b
                        · have jz : (j : Int) < (b : Int) := by omega
                          have jn : (j : Int) < (n : Int) := by omega
                          obtain ⟨q, hq⟩ : ∃ q, q = j - 1 := ⟨_, rfl⟩
                          have jq : (j : Int) - 1 = (q : Int) := by omega
                          have q1 : q + 1 = j := by omega
                          have qn : (q : Int) < (n : Int) := by omega
                          obtain ⟨x, hx⟩ : ∃ x, x = dj[j]! := ⟨_, rfl⟩
                          obtain ⟨y, hy⟩ : ∃ y, y = dj[q]! := ⟨_, rfl⟩
                          have c1 := S7.out.cell (i := j) (by omega)
                          have c2 := S7.out.cell (i := q) (by omega)
                          rw [← hx] at c1
                          rw [← hy] at c2
                          have HX := Lib.hid hx; have HY := Lib.hid hy
                          clear hx hy
                          have HQ := Lib.hid hq
                          clear hq q1
                          cases hl : ltInt x y with
                          | false =>
                            have HL := Lib.hid hl
                            have HU : Hid (fixUp ltInt b i2 d2 = dj) := Lib.hid (by unfold fixUp; rw [if_pos h3, ← HV.out, shiftUp_stop ltInt b j dj (.inr (by rw [← HQ.out, ← HX.out, ← HY.out]; exact HL.out))])
                            go_wp2_with fail
                            go_big_quiet (first | (go_at_call 64; refine Calls.quiet_of_same (less_any _ _ _)))
                            have S8 := Lib.hid (S7.out.drewN nq)
                            clear S7 
                            obtain ⟨W2, hw2⟩ : ∃ W, W = wr.drewN nq := ⟨_, rfl⟩
                            rw [← hw2] at S8 ⊢
                            clear hw2 nq
                            clear c1 c2 HV jq
                            go_wp2
                            go_roundg (5 - (s + 1))
                            case measure => omega
                            case rel => exact ⟨s + 1, i2, _, by first | rfl | go_num | (congr 1; omega), by omega, by omega, rfl, by omega, by omega, S8, Lib.hid (by rw [← HO.out, pi_go ltInt a b s i i2 dk hs5 HK.out (by omega) h50, ← HP.out, HF.out, HU.out])⟩
                          | true =>
                            have HL := Lib.hid hl
                            go_wp2_with fail
                            go_big_quiet (first | (go_at_call 64; refine Calls.quiet_of_same (less_any _ _ _)))
                            have S7b := Lib.hid (S7.out.drewN nq)
                            clear S7 
                            obtain ⟨W2, hw2⟩ : ∃ W, W = wr.drewN nq := ⟨_, rfl⟩
                            rw [← hw2] at S7b ⊢
                            clear hw2 nq
                            clear c1 c2 hl
                            go_wp2_with fail
                            have HX1 := HX; have HY1 := HY
                            clear HX HY
                            obtain ⟨x, hx⟩ : ∃ x, x = dj[j]! := ⟨_, rfl⟩
                            obtain ⟨y, hy⟩ : ∃ y, y = dj[q]! := ⟨_, rfl⟩
                            have HX := Lib.hid hx; have HY := Lib.hid hy
                            clear hx hy
                            have c1 := S7b.out.cell (i := j) (by omega)
                            have c2 := S7b.out.cell (i := q) (by omega)
                            have f1 := S7b.out.free (i := j) (by omega)
                            have f2 := S7b.out.free (i := q) (by omega)
                            obtain ⟨u, c3⟩ := S7b.out.second (i := j) (j := q) (by omega) (by omega) (.int .u64 y)
                            have S3 := S7b.out.swap (i := j) (j := q) (by omega) (by omega)
                            rw [← HX.out] at c1 S3
                            rw [← HY.out] at c2 S3
                            have T3 := Lib.hid S3
                            clear S3 S7b
                            go_wp2_with fail
                            go_big_region
                            clear c1 c2 c3 f1 f2
                            have S3 := Lib.hid (T3.out.drew)
                            clear T3
                            obtain ⟨w3, hw3⟩ : ∃ w3, w3 = ((W2.setCell ⟨blk, off + j, none⟩ (.int .u64 y)).setCell ⟨blk, off + q, none⟩ (.int .u64 x)).drew := ⟨_, rfl⟩
                            rw [← hw3] at S3 ⊢
                            clear hw3
                            clear HX HY
                            go_wp2
                            go_roundg (b - (j + 1))
                            case measure => omega
                            case rel => exact ⟨j + 1, _, by first | rfl | go_num | (congr 1; omega), by omega, by omega, Nat.le_refl _, S3, Lib.hid (by rw [← HV.out, shiftUp_go ltInt b j dj hjb (by rw [← HQ.out, ← HX1.out, ← HY1.out]; exact HL.out), HQ.out])⟩
                        · have jz : ¬ (j : Int) < (b : Int) := by omega
                          have HU : Hid (fixUp ltInt b i2 d2 = dj) := Lib.hid (by unfold fixUp; rw [if_pos h3, ← HV.out, shiftUp_stop ltInt b j dj (.inl hjb)])
                          have S8 := S7
                          clear S7 HV
                          go_wp2
                          go_roundg (5 - (s + 1))
                          case measure => omega
                          case rel => exact ⟨s + 1, i2, _, by first | rfl | go_num | (congr 1; omega), by omega, by omega, rfl, by omega, by omega, S8, Lib.hid (by rw [← HO.out, pi_go ltInt a b s i i2 dk hs5 HK.out (by omega) h50, ← HP.out, HF.out, HU.out])⟩
                    · have z3 : ¬ (2 : Int) ≤ (b : Int) - (i2 : Int) := by omega
                      have HU : Hid (fixUp ltInt b i2 d2 = d2) := Lib.hid (by unfold fixUp; rw [if_neg h3])
                      have S8 := S6
                      clear S6
                      go_wp2
                      go_roundg (5 - (s + 1))
                      case measure => omega
                      case rel => exact ⟨s + 1, i2, _, by first | rfl | go_num | (congr 1; omega), by omega, by omega, rfl, by omega, by omega, S8, Lib.hid (by rw [← HO.out, pi_go ltInt a b s i i2 dk hs5 HK.out (by omega) h50, ← HP.out, HF.out, HU.out])⟩
              · have z2 : ¬ (2 : Int) ≤ (i2 : Int) - (a : Int) := by omega
                obtain ⟨d2, rfl⟩ : ∃ d2, d2 = dk1 := ⟨_, rfl⟩
                have HF : Hid (fixDown ltInt a i2 (swp dk i2 p) = d2) := Lib.hid (by unfold fixDown; rw [if_neg h2]; exact HDK.out.symm)
                have S6 := S5
                clear S5
                by_cases h3 : 2 ≤ b - i2
                · have z3 : (2 : Int) ≤ (b : Int) - (i2 : Int) := by omega
                  go_wp2
                  go_loopg [10] (b - i2) (fun g vj wr => ∃ (j : Nat) (dj : Array Int), vj = .int .i64 j ∧ i2 + 1 ≤ j ∧ j ≤ b ∧ b - j ≤ g ∧ Hid (At .u64 w0 blk off n dj wr) ∧ Hid (shiftUp ltInt b j dj = shiftUp ltInt b (i2 + 1) d2))
                  case atStart => exact ⟨i2 + 1, d2, by first | rfl | go_num | (congr 1; omega), Nat.le_refl _, by omega, by omega, S6, Lib.hid rfl⟩
                  case round =>
                    clear S6 z3
                    obtain ⟨j, dj, rfl, hj1, hj2, hjg, S7, HV⟩ := hrel
                    by_cases hjb : j < b
                    · have jz : (j : Int) < (b : Int) := by omega
                      have jn : (j : Int) < (n : Int) := by omega
                      obtain ⟨q, hq⟩ : ∃ q, q = j - 1 := ⟨_, rfl⟩
                      have jq : (j : Int) - 1 = (q : Int) := by omega
                      have q1 : q + 1 = j := by omega
                      have qn : (q : Int) < (n : Int) := by omega
                      obtain ⟨x, hx⟩ : ∃ x, x = dj[j]! := ⟨_, rfl⟩
                      obtain ⟨y, hy⟩ : ∃ y, y = dj[q]! := ⟨_, rfl⟩
                      have c1 := S7.out.cell (i := j) (by omega)
                      have c2 := S7.out.cell (i := q) (by omega)
                      rw [← hx] at c1
                      rw [← hy] at c2
                      have HX := Lib.hid hx; have HY := Lib.hid hy
                      clear hx hy
                      have HQ := Lib.hid hq
                      clear hq q1
                      cases hl : ltInt x y with
                      | false =>
                        have HL := Lib.hid hl
                        have HU : Hid (fixUp ltInt b i2 d2 = dj) := Lib.hid (by unfold fixUp; rw [if_pos h3, ← HV.out, shiftUp_stop ltInt b j dj (.inr (by rw [← HQ.out, ← HX.out, ← HY.out]; exact HL.out))])
                        go_wp2_with fail
                        go_big_quiet (first | (go_at_call 64; refine Calls.quiet_of_same (less_any _ _ _)))
                        have S8 := Lib.hid (S7.out.drewN nq)
                        clear S7 
                        obtain ⟨W2, hw2⟩ : ∃ W, W = wr.drewN nq := ⟨_, rfl⟩
                        rw [← hw2] at S8 ⊢
                        clear hw2 nq
                        clear c1 c2 HV jq
                        go_wp2
                        go_roundg (5 - (s + 1))
                        case measure => omega
                        case rel => exact ⟨s + 1, i2, _, by first | rfl | go_num | (congr 1; omega), by omega, by omega, rfl, by omega, by omega, S8, Lib.hid (by rw [← HO.out, pi_go ltInt a b s i i2 dk hs5 HK.out (by omega) h50, ← HP.out, HF.out, HU.out])⟩
                      | true =>
                        have HL := Lib.hid hl
                        go_wp2_with fail
                        go_big_quiet (first | (go_at_call 64; refine Calls.quiet_of_same (less_any _ _ _)))
                        have S7b := Lib.hid (S7.out.drewN nq)
                        clear S7 
                        obtain ⟨W2, hw2⟩ : ∃ W, W = wr.drewN nq := ⟨_, rfl⟩
                        rw [← hw2] at S7b ⊢
                        clear hw2 nq
                        clear c1 c2 hl
                        go_wp2_with fail
                        have HX1 := HX; have HY1 := HY
                        clear HX HY
                        obtain ⟨x, hx⟩ : ∃ x, x = dj[j]! := ⟨_, rfl⟩
                        obtain ⟨y, hy⟩ : ∃ y, y = dj[q]! := ⟨_, rfl⟩
                        have HX := Lib.hid hx; have HY := Lib.hid hy
                        clear hx hy
                        have c1 := S7b.out.cell (i := j) (by omega)
                        have c2 := S7b.out.cell (i := q) (by omega)
                        have f1 := S7b.out.free (i := j) (by omega)
                        have f2 := S7b.out.free (i := q) (by omega)
                        obtain ⟨u, c3⟩ := S7b.out.second (i := j) (j := q) (by omega) (by omega) (.int .u64 y)
                        have S3 := S7b.out.swap (i := j) (j := q) (by omega) (by omega)
                        rw [← HX.out] at c1 S3
                        rw [← HY.out] at c2 S3
                        have T3 := Lib.hid S3
                        clear S3 S7b
                        go_wp2_with fail
                        go_big_region
                        clear c1 c2 c3 f1 f2
                        have S3 := Lib.hid (T3.out.drew)
                        clear T3
                        obtain ⟨w3, hw3⟩ : ∃ w3, w3 = ((W2.setCell ⟨blk, off + j, none⟩ (.int .u64 y)).setCell ⟨blk, off + q, none⟩ (.int .u64 x)).drew := ⟨_, rfl⟩
                        rw [← hw3] at S3 ⊢
                        clear hw3
                        clear HX HY
                        go_wp2
                        go_roundg (b - (j + 1))
                        case measure => omega
                        case rel => exact ⟨j + 1, _, by first | rfl | go_num | (congr 1; omega), by omega, by omega, Nat.le_refl _, S3, Lib.hid (by rw [← HV.out, shiftUp_go ltInt b j dj hjb (by rw [← HQ.out, ← HX1.out, ← HY1.out]; exact HL.out), HQ.out])⟩
                    · have jz : ¬ (j : Int) < (b : Int) := by omega
                      have HU : Hid (fixUp ltInt b i2 d2 = dj) := Lib.hid (by unfold fixUp; rw [if_pos h3, ← HV.out, shiftUp_stop ltInt b j dj (.inl hjb)])
                      have S8 := S7
                      clear S7 HV
                      go_wp2
                      go_roundg (5 - (s + 1))
                      case measure => omega
                      case rel => exact ⟨s + 1, i2, _, by first | rfl | go_num | (congr 1; omega), by omega, by omega, rfl, by omega, by omega, S8, Lib.hid (by rw [← HO.out, pi_go ltInt a b s i i2 dk hs5 HK.out (by omega) h50, ← HP.out, HF.out, HU.out])⟩
                · have z3 : ¬ (2 : Int) ≤ (b : Int) - (i2 : Int) := by omega
                  have HU : Hid (fixUp ltInt b i2 d2 = d2) := Lib.hid (by unfold fixUp; rw [if_neg h3])
                  have S8 := S6
                  clear S6
                  go_wp2
                  go_roundg (5 - (s + 1))
                  case measure => omega
                  case rel => exact ⟨s + 1, i2, _, by first | rfl | go_num | (congr 1; omega), by omega, by omega, rfl, by omega, by omega, S8, Lib.hid (by rw [← HO.out, pi_go ltInt a b s i i2 dk hs5 HK.out (by omega) h50, ← HP.out, HF.out, HU.out])⟩
        · obtain rfl : i2 = b := by omega
          have iz : ¬ (i2 : Int) < (i2 : Int) := by omega
          have gz : decide ((i2 : Int) < (i2 : Int)) = false := decide_eq_false iz
          have HE : Hid (D = (dk, true)) := Lib.hid (by rw [← HO.out]; exact pi_true ltInt a i2 s i dk hs5 (by rw [← HV.out]; exact scanSorted_stop ltInt dk i2 i2 (.inl hb2)))
          go_wp2_with fail
          go_big_quiet (first | (go_at_call 64; refine Calls.quiet_of_same (less_any _ _ _)))
          have S4 := Lib.hid (S2.out.drewN nq)
          clear S2 
          obtain ⟨W2, hw2⟩ : ∃ W, W = wr.drewN nq := ⟨_, rfl⟩
          rw [← hw2] at S4 ⊢
          clear hw2 nq
          go_wp2
          go_ret
          exact ⟨by rw [HE.out]; rfl, by rw [HE.out]; exact S4.out⟩
    · obtain rfl : s = 5 := by omega
      have HE : Hid (D = (dk, false)) := Lib.hid (by rw [← HO.out]; rfl)
      go_wp2
      go_ret
      exact ⟨by rw [HE.out]; rfl, by rw [HE.out]; exact S1.out⟩
end Go.Proofs.YtonlbcibfbbpgaaGreat.StU

/- The walk of the library's sort at uint64: less The walk of the library's sort at uint64: insertion The walk of the library's sort at uint64: sift down The walk of the library's sort at uint64: heap The walk of the library's sort at uint64: reverse The walk of the library's sort at uint64: the pivot The walk of the library's sort at uint64: the choice The walk of the library's sort at uint64: patterns -/
import Derived.Test.YtonlbcibfbbpgaaGreatSrtK
import Derived.Test.YtonlbcibfbbpgaaGreatShelf
namespace Go.Proofs.YtonlbcibfbbpgaaGreat.StU
open Go.RowKit Go.Lib Go.Sort Rw St

theorem isnan_any (x : Int) (w : World) : Calls Tryz.prog 68 #[.int .u64 x] w fun e w' => e = .returned (.bool false) ∧ w' = w := by
  go_enter Tryz.func68, Tryz.ntmps68
  go_wp2
  go_ret
  exact ⟨by simp, rfl⟩
theorem less_any (x y : Int) (w : World) : Calls Tryz.prog 64 #[.int .u64 x, .int .u64 y] w fun e w' => e = .returned (.bool (ltInt x y)) ∧ w' = w := by
  go_enter Tryz.func64, Tryz.ntmps64
  go_wp2_with (go_at_call 68; refine (isnan_any _ _).mono ?_; rintro e w' ⟨rfl, rfl⟩)
  go_ret
  exact ⟨rfl, rfl⟩
end Go.Proofs.YtonlbcibfbbpgaaGreat.StU
namespace Go.Proofs.YtonlbcibfbbpgaaGreat.StU
open Go.RowKit Go.Lib Go.Sort Rw St

set_option maxHeartbeats 8000000 in
set_option maxRecDepth 1000000 in
theorem ins_any (w0 w : World) (blk off n cap a b : Nat) (d : Array Int) (S : At .u64 w0 blk off n d w) (hab : a ≤ b) (hb : b ≤ n) (hn : n ≤ 4611686018427387904) :
    Calls Tryz.prog 99 #[.slice (some ⟨blk, off, none⟩) n cap, .int .i64 a, .int .i64 b] w (Sorts .u64 w0 blk off n (.tuple #[]) (insertionSort ltInt d a b)) := by
  have S0 := Lib.hid S
  clear S
  go_enter Tryz.func99, Tryz.ntmps99
  go_wp2
  go_loopg [6] (b - a) (fun g1 vi wr => ∃ (i : Nat) (dk : Array Int), vi = .int .i64 i ∧ a < i ∧ i ≤ b + 1 ∧ b + 1 - i ≤ g1 + 1 ∧ Hid (At .u64 w0 blk off n dk wr) ∧ Hid (insOuter ltInt a b i dk = insOuter ltInt a b (a + 1) d))
  case atStart => exact ⟨a + 1, d, by go_num, by omega, by omega, by omega, S0, Lib.hid rfl⟩
  case round =>
    clear S0
    obtain ⟨i, dk, rfl, hai, hib, hg1, S1, HO⟩ := hrel
    by_cases hlt : i < b
    · have hltz : (i : Int) < (b : Int) := by omega
      go_wp2
      go_loopg [7] i (fun g2 vj wr2 => ∃ (j : Nat) (dj : Array Int), vj = .int .i64 j ∧ a ≤ j ∧ j ≤ i ∧ j ≤ g2 ∧ Hid (At .u64 w0 blk off n dj wr2) ∧ Hid (insInner ltInt a j dj = insInner ltInt a i dk))
      case atStart => exact ⟨i, dk, rfl, by omega, Nat.le_refl _, Nat.le_refl _, S1, Lib.hid rfl⟩
      case round =>
        clear S1
        obtain ⟨j, dj, rfl, haj, hji, hg2, SJ, HI⟩ := hrel
        have OUT : Hid ((j ≤ a ∨ ltInt dj[j]! dj[j - 1]! = false) → insOuter ltInt a b (i + 1) dj = insOuter ltInt a b (a + 1) d) := Lib.hid (fun hs => by
          rw [← HO.out, insOuter_go _ _ _ _ _ hlt, ← HI.out, insInner_stop _ _ _ _ hs])
        by_cases hja : a < j
        · obtain ⟨p, rfl⟩ : ∃ q, j = q + 1 := ⟨j - 1, by omega⟩
          have ga : decide ((p : Int) + 1 > (a : Int)) = true := decide_eq_true (by omega)
          have gb : (a : Int) < (p : Int) + 1 := by omega
          obtain ⟨q, hq⟩ : ∃ q, q = p + 1 := ⟨_, rfl⟩
          have ea_q : ((p : Int) + 1).toNat = q := by omega
          have pa_q : (0 : Int) ≤ (p : Int) + 1 := by omega
          have ba_q : (p : Int) + 1 < (n : Int) := by omega
          have ra_q : IntKind.i64.wrap ((p : Int) + 1) = (p : Int) + 1 := by rw [IntKind.wrap_i64]; omega
          have pp : (p : Int) < (n : Int) := by omega
          obtain ⟨x, hx⟩ : ∃ x, x = dj[p + 1]! := ⟨_, rfl⟩
          obtain ⟨y, hy⟩ : ∃ y, y = dj[p]! := ⟨_, rfl⟩
          have c1 := SJ.out.cell (i := p + 1) (by omega)
          have c2 := SJ.out.cell (i := p) (by omega)
          rw [← hx, ← hq] at c1
          rw [← hy] at c2
          have HQ := Lib.hid hq; have HX := Lib.hid hx; have HY := Lib.hid hy
          clear hq hx hy
          cases hl : ltInt x y with
          | true =>
            have HL := Lib.hid hl
            go_wp2_with fail
            go_big_quiet (first | (go_at_call 64; refine Calls.quiet_of_same (less_any _ _ _)))
            have S2 := Lib.hid (SJ.out.drewN nq)
            clear SJ c1 c2 hl
            obtain ⟨w2, hw2⟩ : ∃ w2, w2 = wr.drewN nq := ⟨_, rfl⟩
            rw [← hw2] at S2 ⊢
            clear hw2
            go_wp2_with fail
            have c1 := S2.out.cell (i := p + 1) (by omega)
            have c2 := S2.out.cell (i := p) (by omega)
            have f1 := S2.out.free (i := p + 1) (by omega)
            have f2 := S2.out.free (i := p) (by omega)
            obtain ⟨u, c3⟩ := S2.out.second (i := p + 1) (j := p) (by omega) (by omega) (.int .u64 y)
            have S3 := S2.out.swap (i := p + 1) (j := p) (by omega) (by omega)
            rw [← HX.out] at c1 S3
            rw [← HY.out] at c2 S3
            rw [← HQ.out] at c1 f1 c3 S3
            have T3 := Lib.hid S3
            clear S3 S2
            go_wp2_with fail
            go_big_region
            clear c1 c2 c3 f1 f2
            have S3 := Lib.hid (T3.out.drew)
            clear T3
            obtain ⟨w3, hw3⟩ : ∃ w3, w3 = ((w2.setCell ⟨blk, off + q, none⟩ (.int .u64 y)).setCell ⟨blk, off + p, none⟩ (.int .u64 x)).drew := ⟨_, rfl⟩
            rw [← hw3] at S3 ⊢
            clear hw3
            go_wp2
            go_roundg p
            case measure => omega
            case rel => exact ⟨p, swp dj (p + 1) p, by first | rfl | go_num | (congr 1; omega), by omega, by omega, Nat.le_refl _, Lib.hid (by rw [← HQ.out]; exact S3.out), Lib.hid (by rw [← HI.out, insInner_go ltInt a (p + 1) dj hja (by rw [Nat.add_sub_cancel, ← HX.out, ← HY.out]; exact HL.out), Nat.add_sub_cancel])⟩
          | false =>
            have HL := Lib.hid hl
            go_wp2_with fail
            go_big_quiet (first | (go_at_call 64; refine Calls.quiet_of_same (less_any _ _ _)))
            have S2 := Lib.hid (SJ.out.drewN nq)
            clear SJ c1 c2 hl
            obtain ⟨w2, hw2⟩ : ∃ w2, w2 = wr.drewN nq := ⟨_, rfl⟩
            rw [← hw2] at S2 ⊢
            clear hw2
            go_wp2
            go_roundg (b - (i + 1))
            case measure => omega
            case rel => exact ⟨i + 1, dj, by go_num, by omega, by omega, by omega, S2, Lib.hid (OUT.out (.inr (by rw [Nat.add_sub_cancel, ← HX.out, ← HY.out]; exact HL.out)))⟩
        · have ga : decide ((j : Int) > (a : Int)) = false := decide_eq_false (by omega)
          have gb : ¬ (a : Int) < (j : Int) := by omega
          go_wp2_with fail
          go_big_quiet (first | (go_at_call 64; refine Calls.quiet_of_same (less_any _ _ _)))
          have S2 := Lib.hid (SJ.out.drewN nq)
          clear SJ
          obtain ⟨w2, hw2⟩ : ∃ w2, w2 = wr.drewN nq := ⟨_, rfl⟩
          rw [← hw2] at S2 ⊢
          clear hw2
          go_wp2
          go_roundg (b - (i + 1))
          case measure => omega
          case rel => exact ⟨i + 1, dj, by go_num, by omega, by omega, by omega, S2, Lib.hid (OUT.out (.inl (by omega)))⟩
    · have hltz : ¬ (i : Int) < (b : Int) := by omega
      go_wp2
      go_end0
      exact ⟨rfl, by unfold insertionSort; rw [← HO.out, insOuter_stop _ _ _ _ _ hlt]; exact S1.out⟩
end Go.Proofs.YtonlbcibfbbpgaaGreat.StU
namespace Go.Proofs.YtonlbcibfbbpgaaGreat.StU
open Go.RowKit Go.Lib Go.Sort Rw St

set_option maxHeartbeats 8000000 in
set_option maxRecDepth 1000000 in
theorem sift_any (w0 w : World) (blk off n cap lo hi first : Nat) (d : Array Int) (S : At .u64 w0 blk off n d w) (hlo : lo ≤ hi) (hb : first + hi ≤ n) (hn : n ≤ 2305843009213693952) :
    Calls Tryz.prog 111 #[.slice (some ⟨blk, off, none⟩) n cap, .int .i64 lo, .int .i64 hi, .int .i64 first] w (Sorts .u64 w0 blk off n (.tuple #[]) (siftDown ltInt hi first lo d)) := by
  have S0 := Lib.hid S
  clear S
  go_enter Tryz.func111, Tryz.ntmps111
  go_wp2
  go_loopg [8] (hi - lo) (fun g s8 wr => ∃ (root : Nat) (dk : Array Int), s8 = .int .i64 root ∧ root ≤ hi ∧ hi - root ≤ g ∧ Hid (At .u64 w0 blk off n dk wr) ∧ Hid (siftDown ltInt hi first root dk = siftDown ltInt hi first lo d))
  case atStart => exact ⟨lo, d, rfl, hlo, Nat.le_refl _, S0, Lib.hid rfl⟩
  case round =>
    clear S0
    obtain ⟨root, dk, rfl, hr, hk, S1, HO⟩ := hrel
    by_cases h0 : hi ≤ 2 * root + 1
    · have h0z : (hi : Int) ≤ 2 * (root : Int) + 1 := by omega
      go_wp2
      go_end0
      exact ⟨rfl, by rw [← HO.out, sd_end ltInt dk h0]; exact S1.out⟩
    · have h0z : ¬ ((hi : Int) ≤ 2 * (root : Int) + 1) := by omega
      obtain ⟨r, hr⟩ : ∃ q, q = first + root := ⟨_, rfl⟩
      have ea_r : ((first : Int) + (root : Int)).toNat = r := by omega
      have pa_r : (0 : Int) ≤ (first : Int) + (root : Int) := by omega
      have ba_r : (first : Int) + (root : Int) < (n : Int) := by omega
      have ra_r : IntKind.i64.wrap ((first : Int) + (root : Int)) = (first : Int) + (root : Int) := by rw [IntKind.wrap_i64]; omega
      have HR := Lib.hid hr
      clear hr
      obtain ⟨e, he⟩ : ∃ q, q = first + (2 * root + 1) := ⟨_, rfl⟩
      have ea_e : ((first : Int) + (2 * (root : Int) + 1)).toNat = e := by omega
      have pa_e : (0 : Int) ≤ (first : Int) + (2 * (root : Int) + 1) := by omega
      have ba_e : (first : Int) + (2 * (root : Int) + 1) < (n : Int) := by omega
      have ra_e : IntKind.i64.wrap ((first : Int) + (2 * (root : Int) + 1)) = (first : Int) + (2 * (root : Int) + 1) := by rw [IntKind.wrap_i64]; omega
      have HE := Lib.hid he
      clear he
      obtain ⟨x, hx⟩ : ∃ x, x = dk[first + root]! := ⟨_, rfl⟩
      have HX := Lib.hid hx
      clear hx
      obtain ⟨y, hy⟩ : ∃ x, x = dk[first + (2 * root + 1)]! := ⟨_, rfl⟩
      have HY := Lib.hid hy
      clear hy
      by_cases h1 : 2 * root + 2 < hi
      · have h1z : decide (2 * (root : Int) + 1 + 1 < (hi : Int)) = true := decide_eq_true (by omega)
        obtain ⟨m, hm⟩ : ∃ q, q = first + (2 * root + 2) := ⟨_, rfl⟩
        have ea_m : ((first : Int) + (2 * (root : Int) + 1) + 1).toNat = m := by omega
        have pa_m : (0 : Int) ≤ (first : Int) + (2 * (root : Int) + 1) + 1 := by omega
        have ba_m : (first : Int) + (2 * (root : Int) + 1) + 1 < (n : Int) := by omega
        have ra_m : IntKind.i64.wrap ((first : Int) + (2 * (root : Int) + 1) + 1) = (first : Int) + (2 * (root : Int) + 1) + 1 := by rw [IntKind.wrap_i64]; omega
        have HM := Lib.hid hm
        clear hm
        obtain ⟨z, hz⟩ : ∃ x, x = dk[first + (2 * root + 2)]! := ⟨_, rfl⟩
        have HZ := Lib.hid hz
        clear hz
        have c2 := S1.out.cell (i := first + (2 * root + 1)) (by omega)
        rw [← HY.out] at c2
        rw [← HE.out] at c2
        have c3 := S1.out.cell (i := first + (2 * root + 2)) (by omega)
        rw [← HZ.out] at c3
        rw [← HM.out] at c3
        cases hl : ltInt y z with
        | true =>
          have HL := Lib.hid hl
          go_wp2_with fail
          go_big_quiet (first | (go_at_call 64; refine Calls.quiet_of_same (less_any _ _ _)))
          have S2 := Lib.hid (S1.out.drewN nq)
          clear S1 c2 c3 hl
          obtain ⟨w2, hw2⟩ : ∃ W, W = wr.drewN nq := ⟨_, rfl⟩
          rw [← hw2] at S2 ⊢
          clear hw2 nq
          go_wp2_with fail
          obtain ⟨c, hc⟩ : ∃ q, q = first + (2 * root + 2) := ⟨_, rfl⟩
          have ea_c : ((first : Int) + (2 * (root : Int) + 1 + 1)).toNat = c := by omega
          have pa_c : (0 : Int) ≤ (first : Int) + (2 * (root : Int) + 1 + 1) := by omega
          have ba_c : (first : Int) + (2 * (root : Int) + 1 + 1) < (n : Int) := by omega
          have ra_c : IntKind.i64.wrap ((first : Int) + (2 * (root : Int) + 1 + 1)) = (first : Int) + (2 * (root : Int) + 1 + 1) := by rw [IntKind.wrap_i64]; omega
          have HC := Lib.hid hc
          clear hc
          have c1 := S2.out.cell (i := first + root) (by omega)
          rw [← HX.out] at c1
          rw [← HR.out] at c1
          have c2 := S2.out.cell (i := first + (2 * root + 2)) (by omega)
          rw [← HZ.out] at c2
          rw [← HC.out] at c2
          cases hs : ltInt x z with
          | false =>
            have HS := Lib.hid hs
            go_wp2_with fail
            go_big_quiet (first | (go_at_call 64; refine Calls.quiet_of_same (less_any _ _ _)))
            have S3 := Lib.hid (S2.out.drewN nq)
            clear S2 c1 c2 hs
            obtain ⟨w3, hw2⟩ : ∃ W, W = w2.drewN nq := ⟨_, rfl⟩
            rw [← hw2] at S3 ⊢
            clear hw2 nq
            go_wp2_with fail
            (try simp only [Exit.inBlock, Exit.then])
            refine bodyPost_ret (results_none rfl _ _ _) rfl ?_
            exact ⟨rfl, by rw [← HO.out, sd_right_stop ltInt dk h1 (by rw [show first + (2 * root + 1) = first + (2 * root + 1) from rfl, ← HY.out, ← HZ.out]; exact HL.out) (by rw [← HX.out, ← HZ.out]; exact HS.out)]; exact S3.out⟩
          | true =>
            have HS := Lib.hid hs
            go_wp2_with fail
            go_big_quiet (first | (go_at_call 64; refine Calls.quiet_of_same (less_any _ _ _)))
            have S4 := Lib.hid (S2.out.drewN nq)
            clear S2 c1 c2 hs
            obtain ⟨w4, hw2⟩ : ∃ W, W = w2.drewN nq := ⟨_, rfl⟩
            rw [← hw2] at S4 ⊢
            clear hw2 nq
            have c1 := S4.out.cell (i := first + root) (by omega)
            have c2 := S4.out.cell (i := first + (2 * root + 2)) (by omega)
            have f1 := S4.out.free (i := first + root) (by omega)
            have f2 := S4.out.free (i := first + (2 * root + 2)) (by omega)
            obtain ⟨u, c3⟩ := S4.out.second (i := first + root) (j := first + (2 * root + 2)) (by omega) (by omega) (.int .u64 z)
            have S3 := S4.out.swap (i := first + root) (j := first + (2 * root + 2)) (by omega) (by omega)
            rw [← HX.out] at c1 S3
            rw [← HZ.out] at c2 S3
            rw [← HR.out] at c1 f1 c3 S3
            rw [← HC.out] at c2 f2 c3 S3
            have T3 := Lib.hid S3
            clear S3 S4
            go_wp2_with fail
            go_big_region
            clear c1 c2 c3 f1 f2
            have S3 := Lib.hid (T3.out.drew)
            clear T3
            obtain ⟨w3, hw3⟩ : ∃ w3, w3 = ((w4.setCell ⟨blk, off + r, none⟩ (.int .u64 z)).setCell ⟨blk, off + c, none⟩ (.int .u64 x)).drew := ⟨_, rfl⟩
            rw [← hw3] at S3 ⊢
            clear hw3
            go_wp2
            go_roundg (hi - (2 * root + 2))
            case measure => omega
            case rel => exact ⟨2 * root + 2, swp dk (first + root) (first + (2 * root + 2)), by simp <;> omega, by omega, Nat.le_refl _, Lib.hid (by rw [← HR.out, ← HC.out]; exact S3.out), Lib.hid (by rw [← HO.out, sd_right_go ltInt dk h1 (by rw [show first + (2 * root + 1) = first + (2 * root + 1) from rfl, ← HY.out, ← HZ.out]; exact HL.out) (by rw [← HX.out, ← HZ.out]; exact HS.out)])⟩
        | false =>
          have HL := Lib.hid hl
          go_wp2_with fail
          go_big_quiet (first | (go_at_call 64; refine Calls.quiet_of_same (less_any _ _ _)))
          have S2 := Lib.hid (S1.out.drewN nq)
          clear S1 c2 c3 hl
          obtain ⟨w2, hw2⟩ : ∃ W, W = wr.drewN nq := ⟨_, rfl⟩
          rw [← hw2] at S2 ⊢
          clear hw2 nq
          go_wp2_with fail
          have c1 := S2.out.cell (i := first + root) (by omega)
          rw [← HX.out] at c1
          rw [← HR.out] at c1
          have c2 := S2.out.cell (i := first + (2 * root + 1)) (by omega)
          rw [← HY.out] at c2
          rw [← HE.out] at c2
          cases hs : ltInt x y with
          | false =>
            have HS := Lib.hid hs
            go_wp2_with fail
            go_big_quiet (first | (go_at_call 64; refine Calls.quiet_of_same (less_any _ _ _)))
            have S3 := Lib.hid (S2.out.drewN nq)
            clear S2 c1 c2 hs
            obtain ⟨w3, hw2⟩ : ∃ W, W = w2.drewN nq := ⟨_, rfl⟩
            rw [← hw2] at S3 ⊢
            clear hw2 nq
            go_wp2_with fail
            (try simp only [Exit.inBlock, Exit.then])
            refine bodyPost_ret (results_none rfl _ _ _) rfl ?_
            exact ⟨rfl, by rw [← HO.out, sd_left_stop ltInt dk (by omega) (fun _ => (by rw [show first + (2 * root + 1) = first + (2 * root + 1) from rfl, ← HY.out, ← HZ.out]; exact HL.out)) (by rw [← HX.out, ← HY.out]; exact HS.out)]; exact S3.out⟩
          | true =>
            have HS := Lib.hid hs
            go_wp2_with fail
            go_big_quiet (first | (go_at_call 64; refine Calls.quiet_of_same (less_any _ _ _)))
            have S4 := Lib.hid (S2.out.drewN nq)
            clear S2 c1 c2 hs
            obtain ⟨w4, hw2⟩ : ∃ W, W = w2.drewN nq := ⟨_, rfl⟩
            rw [← hw2] at S4 ⊢
            clear hw2 nq
            have c1 := S4.out.cell (i := first + root) (by omega)
            have c2 := S4.out.cell (i := first + (2 * root + 1)) (by omega)
            have f1 := S4.out.free (i := first + root) (by omega)
            have f2 := S4.out.free (i := first + (2 * root + 1)) (by omega)
            obtain ⟨u, c3⟩ := S4.out.second (i := first + root) (j := first + (2 * root + 1)) (by omega) (by omega) (.int .u64 y)
            have S3 := S4.out.swap (i := first + root) (j := first + (2 * root + 1)) (by omega) (by omega)
            rw [← HX.out] at c1 S3
            rw [← HY.out] at c2 S3
            rw [← HR.out] at c1 f1 c3 S3
            rw [← HE.out] at c2 f2 c3 S3
            have T3 := Lib.hid S3
            clear S3 S4
            go_wp2_with fail
            go_big_region
            clear c1 c2 c3 f1 f2
            have S3 := Lib.hid (T3.out.drew)
            clear T3
            obtain ⟨w3, hw3⟩ : ∃ w3, w3 = ((w4.setCell ⟨blk, off + r, none⟩ (.int .u64 y)).setCell ⟨blk, off + e, none⟩ (.int .u64 x)).drew := ⟨_, rfl⟩
            rw [← hw3] at S3 ⊢
            clear hw3
            go_wp2
            go_roundg (hi - (2 * root + 1))
            case measure => omega
            case rel => exact ⟨2 * root + 1, swp dk (first + root) (first + (2 * root + 1)), by simp <;> omega, by omega, Nat.le_refl _, Lib.hid (by rw [← HR.out, ← HE.out]; exact S3.out), Lib.hid (by rw [← HO.out, sd_left_go ltInt dk (by omega) (fun _ => (by rw [show first + (2 * root + 1) = first + (2 * root + 1) from rfl, ← HY.out, ← HZ.out]; exact HL.out)) (by rw [← HX.out, ← HY.out]; exact HS.out)])⟩
      · have h1z : decide (2 * (root : Int) + 1 + 1 < (hi : Int)) = false := decide_eq_false (by omega)
        go_wp2_with fail
        go_big_quiet (first | (go_at_call 64; refine Calls.quiet_of_same (less_any _ _ _)))
        have S2 := Lib.hid (S1.out.drewN nq)
        clear S1 
        obtain ⟨w2, hw2⟩ : ∃ W, W = wr.drewN nq := ⟨_, rfl⟩
        rw [← hw2] at S2 ⊢
        clear hw2 nq
        go_wp2_with fail
        have c1 := S2.out.cell (i := first + root) (by omega)
        rw [← HX.out] at c1
        rw [← HR.out] at c1
        have c2 := S2.out.cell (i := first + (2 * root + 1)) (by omega)
        rw [← HY.out] at c2
        rw [← HE.out] at c2
        cases hs : ltInt x y with
        | false =>
          have HS := Lib.hid hs
          go_wp2_with fail
          go_big_quiet (first | (go_at_call 64; refine Calls.quiet_of_same (less_any _ _ _)))
          have S3 := Lib.hid (S2.out.drewN nq)
          clear S2 c1 c2 hs
          obtain ⟨w3, hw2⟩ : ∃ W, W = w2.drewN nq := ⟨_, rfl⟩
          rw [← hw2] at S3 ⊢
          clear hw2 nq
          go_wp2_with fail
          (try simp only [Exit.inBlock, Exit.then])
          refine bodyPost_ret (results_none rfl _ _ _) rfl ?_
          exact ⟨rfl, by rw [← HO.out, sd_left_stop ltInt dk (by omega) (fun h => absurd h h1) (by rw [← HX.out, ← HY.out]; exact HS.out)]; exact S3.out⟩
        | true =>
          have HS := Lib.hid hs
          go_wp2_with fail
          go_big_quiet (first | (go_at_call 64; refine Calls.quiet_of_same (less_any _ _ _)))
          have S4 := Lib.hid (S2.out.drewN nq)
          clear S2 c1 c2 hs
          obtain ⟨w4, hw2⟩ : ∃ W, W = w2.drewN nq := ⟨_, rfl⟩
          rw [← hw2] at S4 ⊢
          clear hw2 nq
          have c1 := S4.out.cell (i := first + root) (by omega)
          have c2 := S4.out.cell (i := first + (2 * root + 1)) (by omega)
          have f1 := S4.out.free (i := first + root) (by omega)
          have f2 := S4.out.free (i := first + (2 * root + 1)) (by omega)
          obtain ⟨u, c3⟩ := S4.out.second (i := first + root) (j := first + (2 * root + 1)) (by omega) (by omega) (.int .u64 y)
          have S3 := S4.out.swap (i := first + root) (j := first + (2 * root + 1)) (by omega) (by omega)
          rw [← HX.out] at c1 S3
          rw [← HY.out] at c2 S3
          rw [← HR.out] at c1 f1 c3 S3
          rw [← HE.out] at c2 f2 c3 S3
          have T3 := Lib.hid S3
          clear S3 S4
          go_wp2_with fail
          go_big_region
          clear c1 c2 c3 f1 f2
          have S3 := Lib.hid (T3.out.drew)
          clear T3
          obtain ⟨w3, hw3⟩ : ∃ w3, w3 = ((w4.setCell ⟨blk, off + r, none⟩ (.int .u64 y)).setCell ⟨blk, off + e, none⟩ (.int .u64 x)).drew := ⟨_, rfl⟩
          rw [← hw3] at S3 ⊢
          clear hw3
          go_wp2
          go_roundg (hi - (2 * root + 1))
          case measure => omega
          case rel => exact ⟨2 * root + 1, swp dk (first + root) (first + (2 * root + 1)), by simp <;> omega, by omega, Nat.le_refl _, Lib.hid (by rw [← HR.out, ← HE.out]; exact S3.out), Lib.hid (by rw [← HO.out, sd_left_go ltInt dk (by omega) (fun h => absurd h h1) (by rw [← HX.out, ← HY.out]; exact HS.out)])⟩
end Go.Proofs.YtonlbcibfbbpgaaGreat.StU
namespace Go.Proofs.YtonlbcibfbbpgaaGreat.StU
open Go.RowKit Go.Lib Go.Sort Rw St

theorem sift0_any (w0 w : World) (blk off n cap hi first : Nat) (d : Array Int) (S : At .u64 w0 blk off n d w) (hb : first + hi ≤ n) (hn : n ≤ 2305843009213693952) :
    Calls Tryz.prog 111 #[.slice (some ⟨blk, off, none⟩) n cap, .int .i64 0, .int .i64 hi, .int .i64 first] w (Sorts .u64 w0 blk off n (.tuple #[]) (siftDown ltInt hi first 0 d)) :=
  sift_any w0 w blk off n cap 0 hi first d S (Nat.zero_le _) hb hn
set_option maxHeartbeats 8000000 in
set_option maxRecDepth 1000000 in
theorem heap_any (w0 w : World) (blk off n cap a b m : Nat) (hbm : b = a + m) (d : Array Int) (S : At .u64 w0 blk off n d w) (h1 : 1 ≤ m) (hm : a + m ≤ n) (hn : n ≤ 2305843009213693952) :
    Calls Tryz.prog 100 #[.slice (some ⟨blk, off, none⟩) n cap, .int .i64 a, .int .i64 b] w (Sorts .u64 w0 blk off n (.tuple #[]) (heapSort ltInt d a b)) := by
  obtain ⟨D, hD⟩ : ∃ D, D = heapSort ltInt d a b := ⟨_, rfl⟩
  have H0 : Hid (heapPop ltInt a m (heapBuild ltInt m a ((m - 1) / 2 + 1) d) = D) := Lib.hid (by rw [hD]; unfold heapSort; rw [hbm, Nat.add_sub_cancel_left])
  rw [← hD]
  have S0 := Lib.hid S
  have bz : (b : Int) - (a : Int) = (m : Int) := by omega
  clear S hD hbm
  go_enter Tryz.func100, Tryz.ntmps100
  go_wp2
  go_loopg [9] ((m - 1) / 2 + 1) (fun g vi wr => ∃ (k : Nat) (dk : Array Int), vi = .int .i64 ((k : Int) - 1) ∧ k ≤ (m - 1) / 2 + 1 ∧ k ≤ g ∧ Hid (At .u64 w0 blk off n dk wr) ∧ Hid (heapPop ltInt a m (heapBuild ltInt m a k dk) = D))
  case atStart => exact ⟨(m - 1) / 2 + 1, d, by congr 1; omega, Nat.le_refl _, Nat.le_refl _, S0, H0⟩
  case round =>
    clear S0 H0
    obtain ⟨k, dk, rfl, hk, hg, S1, HO⟩ := hrel
    cases k with
    | succ k =>
      have C1 := Lib.hid (sift_any w0 wr blk off n cap k m a dk S1.out (by omega) hm hn)
      go_wp2_with (first | (go_at_call 111; ((with_reducible refine C1.out.mono ?_); rintro e w1 ⟨rfl, S2⟩; have T2 := Lib.hid S2; clear S2)))
      go_roundg k
      case measure => omega
      case rel => exact ⟨k, _, by first | rfl | go_num | (congr 1; omega), by omega, Nat.le_refl _, T2, HO⟩
    | zero =>
      go_wp2
      go_loopg [10] m (fun g vi wr => ∃ (k : Nat) (dk : Array Int), vi = .int .i64 ((k : Int) - 1) ∧ k ≤ m ∧ k ≤ g ∧ Hid (At .u64 w0 blk off n dk wr) ∧ Hid (heapPop ltInt a k dk = D))
      case atStart => exact ⟨m, dk, by first | rfl | go_num | (congr 1; omega), Nat.le_refl _, Nat.le_refl _, S1, HO⟩
      case round =>
        clear S1 HO
        obtain ⟨k, dk, rfl, hk, hg, S1, HO⟩ := hrel
        cases k with
        | succ k =>
          obtain ⟨q, hq⟩ : ∃ q, q = a + k := ⟨_, rfl⟩
          have ea_q : ((a : Int) + (k : Int)).toNat = q := by omega
          have pa_q : (0 : Int) ≤ (a : Int) + (k : Int) := by omega
          have ba_q : (a : Int) + (k : Int) < (n : Int) := by omega
          have ra_q : IntKind.i64.wrap ((a : Int) + (k : Int)) = (a : Int) + (k : Int) := by rw [IntKind.wrap_i64]; omega
          have HQ := Lib.hid hq
          clear hq
          obtain ⟨x, hx⟩ : ∃ x, x = dk[a]! := ⟨_, rfl⟩
          have HX := Lib.hid hx
          clear hx
          obtain ⟨y, hy⟩ : ∃ x, x = dk[a + k]! := ⟨_, rfl⟩
          have HY := Lib.hid hy
          clear hy
          have pa : (a : Int) < (n : Int) := by omega
          have c1 := S1.out.cell (i := a) (by omega)
          have c2 := S1.out.cell (i := a + k) (by omega)
          have f1 := S1.out.free (i := a) (by omega)
          have f2 := S1.out.free (i := a + k) (by omega)
          obtain ⟨u, c3⟩ := S1.out.second (i := a) (j := a + k) (by omega) (by omega) (.int .u64 y)
          have S3 := S1.out.swap (i := a) (j := a + k) (by omega) (by omega)
          rw [← HX.out] at c1 S3
          rw [← HY.out] at c2 S3
          rw [← HQ.out] at c2 f2 c3 S3
          have T3 := Lib.hid S3
          clear S3 S1
          go_wp2_with fail
          go_big_region
          clear c1 c2 c3 f1 f2
          have S3 := Lib.hid (T3.out.drew)
          clear T3
          obtain ⟨w3, hw3⟩ : ∃ w3, w3 = ((wr.setCell ⟨blk, off + a, none⟩ (.int .u64 y)).setCell ⟨blk, off + q, none⟩ (.int .u64 x)).drew := ⟨_, rfl⟩
          rw [← hw3] at S3 ⊢
          clear hw3
          have S4 : At .u64 w0 blk off n (swp dk a (a + k)) w3 := by rw [← HQ.out]; exact S3.out
          have C1 := Lib.hid (sift0_any w0 w3 blk off n cap k a _ S4 (by omega) hn)
          clear S4 S3
          go_wp2_with (first | (go_at_call 111; ((with_reducible refine C1.out.mono ?_); rintro e w1 ⟨rfl, S2⟩; have T2 := Lib.hid S2; clear S2)))
          go_roundg k
          case measure => omega
          case rel => exact ⟨k, _, by first | rfl | go_num | (congr 1; omega), by omega, Nat.le_refl _, T2, HO⟩
        | zero =>
          go_wp2
          go_end0
          exact ⟨rfl, by rw [← HO.out]; exact S1.out⟩
end Go.Proofs.YtonlbcibfbbpgaaGreat.StU
namespace Go.Proofs.YtonlbcibfbbpgaaGreat.StU
open Go.RowKit Go.Lib Go.Sort Rw St

set_option maxHeartbeats 8000000 in
set_option maxRecDepth 1000000 in
theorem rev_any (w0 w : World) (blk off n cap a b : Nat) (d : Array Int) (S : At .u64 w0 blk off n d w) (hb : b + 1 ≤ n) (hn : n ≤ 2305843009213693952) :
    Calls Tryz.prog 103 #[.slice (some ⟨blk, off, none⟩) n cap, .int .i64 a, .int .i64 ((b + 1 : Nat) : Int)] w (Sorts .u64 w0 blk off n (.tuple #[]) (reverseRange d a (b + 1))) := by
  have H0 : Hid (reverseLoop a b d = reverseRange d a (b + 1)) := Lib.hid rfl
  obtain ⟨D, hD⟩ : ∃ D, D = reverseRange d a (b + 1) := ⟨_, rfl⟩
  rw [← hD] at H0 ⊢
  have S0 := Lib.hid S
  clear S hD
  go_enter Tryz.func103, Tryz.ntmps103
  go_wp2
  go_loopg [6, 7] b (fun g vi vj wr => ∃ (i j : Nat) (dk : Array Int), vi = .int .i64 i ∧ vj = .int .i64 j ∧ j ≤ b ∧ j ≤ g ∧ Hid (At .u64 w0 blk off n dk wr) ∧ Hid (reverseLoop i j dk = D))
  case atStart => exact ⟨a, b, d, rfl, by first | rfl | go_num | (congr 1; omega), Nat.le_refl _, Nat.le_refl _, S0, H0⟩
  case round =>
    clear S0 H0
    obtain ⟨i, j, dk, rfl, rfl, hj, hg, S1, HO⟩ := hrel
    by_cases hlt : i < j
    · have E := Lib.hid (show reverseLoop i j dk = reverseLoop (i + 1) (j - 1) (swp dk i j) by rw [reverseLoop, if_pos hlt])
      obtain ⟨p, rfl⟩ : ∃ p, j = p + 1 := ⟨j - 1, by omega⟩
      have hz : (i : Int) < (p : Int) + 1 := by omega
      obtain ⟨q, hq⟩ : ∃ q, q = p + 1 := ⟨_, rfl⟩
      have ea_q : ((p : Int) + 1).toNat = q := by omega
      have pa_q : (0 : Int) ≤ (p : Int) + 1 := by omega
      have ba_q : (p : Int) + 1 < (n : Int) := by omega
      have ra_q : IntKind.i64.wrap ((p : Int) + 1) = (p : Int) + 1 := by rw [IntKind.wrap_i64]; omega
      have HQ := Lib.hid hq
      clear hq
      obtain ⟨x, hx⟩ : ∃ x, x = dk[i]! := ⟨_, rfl⟩
      have HX := Lib.hid hx
      clear hx
      obtain ⟨y, hy⟩ : ∃ x, x = dk[p + 1]! := ⟨_, rfl⟩
      have HY := Lib.hid hy
      clear hy
      have pi : (i : Int) < (n : Int) := by omega
      go_wp2_with fail
      have c1 := S1.out.cell (i := i) (by omega)
      have c2 := S1.out.cell (i := p + 1) (by omega)
      have f1 := S1.out.free (i := i) (by omega)
      have f2 := S1.out.free (i := p + 1) (by omega)
      obtain ⟨u, c3⟩ := S1.out.second (i := i) (j := p + 1) (by omega) (by omega) (.int .u64 y)
      have S3 := S1.out.swap (i := i) (j := p + 1) (by omega) (by omega)
      rw [← HX.out] at c1 S3
      rw [← HY.out] at c2 S3
      rw [← HQ.out] at c2 f2 c3 S3
      have T3 := Lib.hid S3
      clear S3 S1
      go_wp2_with fail
      go_big_region
      clear c1 c2 c3 f1 f2
      have S3 := Lib.hid (T3.out.drew)
      clear T3
      obtain ⟨w3, hw3⟩ : ∃ w3, w3 = ((wr.setCell ⟨blk, off + i, none⟩ (.int .u64 y)).setCell ⟨blk, off + q, none⟩ (.int .u64 x)).drew := ⟨_, rfl⟩
      rw [← hw3] at S3 ⊢
      clear hw3
      go_wp2
      go_roundg p
      case measure => omega
      case rel => exact ⟨i + 1, p, _, by first | rfl | go_num | (congr 1; omega), by first | rfl | go_num | (congr 1; omega), by omega, Nat.le_refl _, S3, Lib.hid (by rw [HQ.out, ← HO.out, E.out, Nat.add_sub_cancel])⟩
    · have hz : ¬ (i : Int) < (j : Int) := by omega
      have E := Lib.hid (show reverseLoop i j dk = dk by rw [reverseLoop, if_neg hlt])
      go_wp2
      go_end0
      exact ⟨rfl, by rw [← HO.out, E.out]; exact S1.out⟩
end Go.Proofs.YtonlbcibfbbpgaaGreat.StU
namespace Go.Proofs.YtonlbcibfbbpgaaGreat.StU
open Go.RowKit Go.Lib Go.Sort Rw St

set_option maxHeartbeats 8000000 in
set_option maxRecDepth 1000000 in
theorem order2_any (w0 w : World) (blk off n cap a b c t : Nat) (d : Array Int) (S : Cnt .u64 w0 blk off n d c t w) (ha : a < n) (hb : b < n) (_hn : n ≤ 2305843009213693952) (ht : t ≤ 1000) :
    Calls Tryz.prog 115 #[.slice (some ⟨blk, off, none⟩) n cap, .int .i64 a, .int .i64 b, .pointer (some ⟨c, 0, none⟩)] w (Twos .u64 w0 blk off n d c (order2 ltInt d a b t)) := by
  have S1 := Lib.hid S
  clear S
  obtain ⟨x, hx⟩ : ∃ x, x = d[a]! := ⟨_, rfl⟩
  have HX := Lib.hid hx
  clear hx
  obtain ⟨y, hy⟩ : ∃ x, x = d[b]! := ⟨_, rfl⟩
  have HY := Lib.hid hy
  clear hy
  have paz : (a : Int) < (n : Int) := by omega
  have pbz : (b : Int) < (n : Int) := by omega
  have c1 := S1.out.at_.cell (i := a) (by omega)
  rw [← HX.out] at c1
  have c2 := S1.out.at_.cell (i := b) (by omega)
  rw [← HY.out] at c2
  cases hl : ltInt y x with
  | true =>
    have E : Hid (order2 ltInt d a b t = (b, a, t + 1)) := Lib.hid (by unfold order2; rw [← HX.out, ← HY.out, hl]; rfl)
    rw [E.out]
    go_enter Tryz.func115, Tryz.ntmps115
    go_wp2_with fail
    go_big_quiet (first | (go_at_call 64; refine Calls.quiet_of_same (less_any _ _ _)))
    rw [hl]
    clear hl
    have S2 := Lib.hid (S1.out.drewN nq)
    clear S1 c1 c2
    obtain ⟨w2, hw2⟩ : ∃ W, W = w.drewN nq := ⟨_, rfl⟩
    rw [← hw2] at S2 ⊢
    clear hw2 nq
    have cc := S2.out.cell
    have cf := S2.out.free
    have S3 := Lib.hid (S2.out.bump (t + 1))
    clear S2
    go_wp2_with fail
    refine bodyPost_ret (v := .tuple #[.int .i64 b, .int .i64 a]) (by simp [results, Tryz.results115, go_sem]) rfl ?_
    exact ⟨rfl, S3.out⟩
  | false =>
    have E : Hid (order2 ltInt d a b t = (a, b, t)) := Lib.hid (by unfold order2; rw [← HX.out, ← HY.out, hl]; rfl)
    rw [E.out]
    go_enter Tryz.func115, Tryz.ntmps115
    go_wp2_with fail
    go_big_quiet (first | (go_at_call 64; refine Calls.quiet_of_same (less_any _ _ _)))
    rw [hl]
    clear hl
    have S2 := Lib.hid (S1.out.drewN nq)
    clear S1 c1 c2
    obtain ⟨w2, hw2⟩ : ∃ W, W = w.drewN nq := ⟨_, rfl⟩
    rw [← hw2] at S2 ⊢
    clear hw2 nq
    go_wp2_with fail
    refine bodyPost_ret (v := .tuple #[.int .i64 a, .int .i64 b]) (by simp [results, Tryz.results115, go_sem]) rfl ?_
    exact ⟨rfl, S2.out⟩
theorem order2_lt {d : Array Int} {a b t n : Nat} (ha : a < n) (hb : b < n) : (order2 ltInt d a b t).1 < n ∧ (order2 ltInt d a b t).2.1 < n ∧ (order2 ltInt d a b t).2.2 ≤ t + 1 := by
  refine ⟨?_, ?_, order2_count ltInt d a b t⟩ <;> rcases order2_mem ltInt d a b t with ⟨h1, h2⟩ | ⟨h1, h2⟩ <;> omega
set_option maxHeartbeats 8000000 in
set_option maxRecDepth 1000000 in
theorem median_any (w0 w : World) (blk off n cap a b e c t : Nat) (d : Array Int) (S : Cnt .u64 w0 blk off n d c t w) (ha : a < n) (hb : b < n) (he : e < n) (hn : n ≤ 2305843009213693952) (ht : t ≤ 500) :
    Calls Tryz.prog 113 #[.slice (some ⟨blk, off, none⟩) n cap, .int .i64 a, .int .i64 b, .int .i64 e, .pointer (some ⟨c, 0, none⟩)] w (Ones .u64 w0 blk off n d c (median ltInt d a b e t)) := by
  have C1 := order2_any w0 w blk off n cap a b c t d S ha hb hn (by omega)
  have l1 := order2_lt (d := d) (t := t) ha hb
  have E : Hid ((median ltInt d a b e t).1 = (order2 ltInt d (order2 ltInt d a b t).1 (order2 ltInt d (order2 ltInt d a b t).2.1 e (order2 ltInt d a b t).2.2).1 (order2 ltInt d (order2 ltInt d a b t).2.1 e (order2 ltInt d a b t).2.2).2.2).2.1 ∧ (median ltInt d a b e t).2 = (order2 ltInt d (order2 ltInt d a b t).1 (order2 ltInt d (order2 ltInt d a b t).2.1 e (order2 ltInt d a b t).2.2).1 (order2 ltInt d (order2 ltInt d a b t).2.1 e (order2 ltInt d a b t).2.2).2.2).2.2) := Lib.hid ⟨rfl, rfl⟩
  generalize median ltInt d a b e t = M at E ⊢
  generalize order2 ltInt d a b t = r1 at C1 l1 E
  obtain ⟨a1, b1, t1⟩ := r1
  have l2 := order2_lt (d := d) (t := t1) l1.2.1 he
  have C2 : Hid (∀ w, Cnt .u64 w0 blk off n d c t1 w → Calls Tryz.prog 115 #[.slice (some ⟨blk, off, none⟩) n cap, .int .i64 b1, .int .i64 e, .pointer (some ⟨c, 0, none⟩)] w (Twos .u64 w0 blk off n d c (order2 ltInt d b1 e t1))) := Lib.hid (fun w S => order2_any w0 w blk off n cap b1 e c t1 d S l1.2.1 he hn (by have := l1.2.2; simp only at this; omega))
  simp only at l1 l2 E
  generalize order2 ltInt d b1 e t1 = r2 at C2 l2 E
  obtain ⟨b2, e2, t2⟩ := r2
  have C3 : Hid (∀ w, Cnt .u64 w0 blk off n d c t2 w → Calls Tryz.prog 115 #[.slice (some ⟨blk, off, none⟩) n cap, .int .i64 a1, .int .i64 b2, .pointer (some ⟨c, 0, none⟩)] w (Twos .u64 w0 blk off n d c (order2 ltInt d a1 b2 t2))) := Lib.hid (fun w S => order2_any w0 w blk off n cap a1 b2 c t2 d S l1.1 l2.1 hn (by have := l1.2.2; have := l2.2.2; simp only at *; omega))
  simp only at l2 E
  generalize order2 ltInt d a1 b2 t2 = r3 at C3 E
  obtain ⟨a3, b3, t3⟩ := r3
  simp only at E
  have HC1 := Lib.hid C1
  clear S C1 l1 l2
  go_enter Tryz.func113, Tryz.ntmps113
  go_wp2_with fail
  ((with_reducible refine HC1.out.mono ?_); rintro z w1 ⟨rfl, S2⟩)
  have K2 := Lib.hid (C2.out _ S2)
  clear S2 HC1 C2
  go_wp2_with fail
  ((with_reducible refine K2.out.mono ?_); rintro z w2 ⟨rfl, S3⟩)
  have K3 := Lib.hid (C3.out _ S3)
  clear S3 K2 C3
  go_wp2_with fail
  ((with_reducible refine K3.out.mono ?_); rintro z w3 ⟨rfl, S4⟩)
  have T4 := Lib.hid S4
  clear S4 K3
  go_wp2_with fail
  go_ret
  exact ⟨by rw [E.out.1]; rfl, by rw [E.out.2]; exact T4.out⟩
theorem median_lt {d : Array Int} {a b e t n : Nat} (ha : a < n) (hb : b < n) (he : e < n) : (median ltInt d a b e t).1 < n ∧ (median ltInt d a b e t).2 ≤ t + 3 := by
  refine ⟨?_, median_count ltInt d a b e t⟩
  rcases median_mem ltInt d a b e t with h | h | h <;> omega
set_option maxHeartbeats 8000000 in
set_option maxRecDepth 1000000 in
theorem medianAdj_any (w0 w : World) (blk off n cap a c t : Nat) (d : Array Int) (S : Cnt .u64 w0 blk off n d c t w) (h0 : 1 ≤ a) (ha : a + 1 < n) (hn : n ≤ 2305843009213693952) (ht : t ≤ 500) :
    Calls Tryz.prog 112 #[.slice (some ⟨blk, off, none⟩) n cap, .int .i64 a, .pointer (some ⟨c, 0, none⟩)] w (Ones .u64 w0 blk off n d c (medianAdjacent ltInt d a t)) := by
  obtain ⟨p, hp⟩ : ∃ p, p = a - 1 := ⟨_, rfl⟩
  obtain ⟨q, hq⟩ : ∃ q, q = a + 1 := ⟨_, rfl⟩
  have C1 := Lib.hid (median_any w0 w blk off n cap p a q c t d S (by omega) (by omega) (by omega) hn ht)
  have E : Hid (median ltInt d p a q t = medianAdjacent ltInt d a t) := Lib.hid (by rw [hp, hq]; rfl)
  have pz : (a : Int) - 1 = (p : Int) := by omega
  have qz : (a : Int) + 1 = (q : Int) := by omega
  clear S hp hq
  rw [E.out] at C1
  go_enter Tryz.func112, Tryz.ntmps112
  go_wp2_with fail
  ((with_reducible refine C1.out.mono ?_); rintro z w1 ⟨rfl, S2⟩)
  have T2 := Lib.hid S2
  clear S2
  go_wp2_with fail
  go_ret
  exact ⟨rfl, T2.out⟩
end Go.Proofs.YtonlbcibfbbpgaaGreat.StU
namespace Go.Proofs.YtonlbcibfbbpgaaGreat.StU
open Go.RowKit Go.Lib Go.Sort Rw St

/-- a place and a hint -/
def ChP (w0 : World) (blk off n : Nat) (d : Array Int) (r : Nat × Hint) (e : Ending) (w' : World) : Prop := e = .returned (.tuple #[.int .i64 r.1, .int .i64 (hintCode r.2)]) ∧ At .u64 w0 blk off n d w'
set_option maxHeartbeats 8000000 in
set_option maxRecDepth 1000000 in
theorem choose_any (w0 w : World) (blk off n cap a b m : Nat) (hbm : b = a + m) (h12 : 12 < m) (d : Array Int) (S : At .u64 w0 blk off n d w) (hb : b ≤ n) (hn : n ≤ 2305843009213693952) :
    Calls Tryz.prog 102 #[.slice (some ⟨blk, off, none⟩) n cap, .int .i64 a, .int .i64 b] w (ChP w0 blk off n d (choosePivot ltInt d a b)) := by
  have S1 := Lib.hid S
  clear S
  have bz : (b : Int) - (a : Int) = (m : Int) := by omega
  obtain ⟨i0, hi0⟩ : ∃ q, q = a + m / 4 * 1 := ⟨_, rfl⟩
  obtain ⟨j0, hj0⟩ : ∃ q, q = a + m / 4 * 2 := ⟨_, rfl⟩
  obtain ⟨k0, hk0⟩ : ∃ q, q = a + m / 4 * 3 := ⟨_, rfl⟩
  have iz : (a : Int) + (m : Int) / 4 = (i0 : Int) := by omega
  have jz : (a : Int) + (m : Int) / 4 * 2 = (j0 : Int) := by omega
  have kz : (a : Int) + (m : Int) / 4 * 3 = (k0 : Int) := by omega
  have m8 : (8 : Int) ≤ (m : Int) := by omega
  have li : 1 ≤ i0 ∧ i0 + 1 < n := by omega
  have lj : 1 ≤ j0 ∧ j0 + 1 < n := by omega
  have lk : 1 ≤ k0 ∧ k0 + 1 < n := by omega
  have HI := Lib.hid hi0; have HJ := Lib.hid hj0; have HK := Lib.hid hk0; have HB := Lib.hid hbm
  clear hi0 hj0 hk0 hbm
  by_cases h50 : 50 ≤ m
  · have m50 : (50 : Int) ≤ (m : Int) := by omega
    have HR : Hid (median ltInt d (medianAdjacent ltInt d i0 0).1 (medianAdjacent ltInt d j0 (medianAdjacent ltInt d i0 0).2).1 (medianAdjacent ltInt d k0 (medianAdjacent ltInt d j0 (medianAdjacent ltInt d i0 0).2).2).1 (medianAdjacent ltInt d k0 (medianAdjacent ltInt d j0 (medianAdjacent ltInt d i0 0).2).2).2 = rawPivot ltInt d a b) :=
      Lib.hid (by unfold rawPivot; rw [HB.out, Nat.add_sub_cancel_left, if_pos (by omega), if_pos h50, ← HI.out, ← HJ.out, ← HK.out])
    have R : ∀ x t, 1 ≤ x ∧ x + 1 < n → (medianAdjacent ltInt d x t).1 < n ∧ (medianAdjacent ltInt d x t).2 ≤ t + 3 := fun x t h => ⟨by rcases medianAdjacent_mem ltInt d x t with h | h | h <;> omega, medianAdjacent_count ltInt d x t⟩
    have R1 := R i0 0 li
    have C1 := Lib.hid (medianAdj_any w0 (w.alloc (.cells #[.int .i64 0] 3)) blk off n cap i0 w.heap.size 0 d (Cnt.start S1.out _) li.1 li.2 hn (by omega))
    generalize medianAdjacent ltInt d i0 0 = r1 at R1 C1 HR
    obtain ⟨p1, t1⟩ := r1
    simp only at R1 HR
    have R2 := R j0 t1 lj
    have C2 : Hid (∀ w', Cnt .u64 w0 blk off n d w.heap.size t1 w' → Calls Tryz.prog 112 #[.slice (some ⟨blk, off, none⟩) n cap, .int .i64 j0, .pointer (some ⟨w.heap.size, 0, none⟩)] w' (Ones .u64 w0 blk off n d w.heap.size (medianAdjacent ltInt d j0 t1))) := Lib.hid (fun w' S => medianAdj_any w0 w' blk off n cap j0 w.heap.size t1 d S lj.1 lj.2 hn (by omega))
    generalize medianAdjacent ltInt d j0 t1 = r2 at R2 C2 HR
    obtain ⟨p2, t2⟩ := r2
    simp only at R2 HR
    have R3 := R k0 t2 lk
    have C3 : Hid (∀ w', Cnt .u64 w0 blk off n d w.heap.size t2 w' → Calls Tryz.prog 112 #[.slice (some ⟨blk, off, none⟩) n cap, .int .i64 k0, .pointer (some ⟨w.heap.size, 0, none⟩)] w' (Ones .u64 w0 blk off n d w.heap.size (medianAdjacent ltInt d k0 t2))) := Lib.hid (fun w' S => medianAdj_any w0 w' blk off n cap k0 w.heap.size t2 d S lk.1 lk.2 hn (by omega))
    generalize medianAdjacent ltInt d k0 t2 = r3 at R3 C3 HR
    obtain ⟨p3, t3⟩ := r3
    simp only at R3 HR
    have C4 : Hid (∀ w', Cnt .u64 w0 blk off n d w.heap.size t3 w' → Calls Tryz.prog 113 #[.slice (some ⟨blk, off, none⟩) n cap, .int .i64 p1, .int .i64 p2, .int .i64 p3, .pointer (some ⟨w.heap.size, 0, none⟩)] w' (Ones .u64 w0 blk off n d w.heap.size (median ltInt d p1 p2 p3 t3))) := Lib.hid (fun w' S => median_any w0 w' blk off n cap p1 p2 p3 w.heap.size t3 d S R1.1 R2.1 R3.1 hn (by omega))
    generalize median ltInt d p1 p2 p3 t3 = r4 at C4 HR
    obtain ⟨p4, t4⟩ := r4
    clear R R1 R2 R3 S1
    go_enter Tryz.func102, Tryz.ntmps102
    go_wp2_with fail
    ((with_reducible refine C1.out.mono ?_); rintro z w1 ⟨rfl, S2⟩)
    have K2 := Lib.hid (C2.out _ S2)
    clear S2 C1 C2
    go_wp2_with fail
    ((with_reducible refine K2.out.mono ?_); rintro z w2 ⟨rfl, S3⟩)
    have K3 := Lib.hid (C3.out _ S3)
    clear S3 K2 C3
    go_wp2_with fail
    ((with_reducible refine K3.out.mono ?_); rintro z w3 ⟨rfl, S4⟩)
    have K4 := Lib.hid (C4.out _ S4)
    clear S4 K3 C4
    go_wp2_with fail
    ((with_reducible refine K4.out.mono ?_); rintro z w4 ⟨rfl, S5a⟩)
    have S5 := Lib.hid S5a
    have E := HR.out
    clear S5a K4 HR
    have cc := S5.out.cell
    have E5 := Lib.hid E
    clear E
    by_cases h0 : t4 = 0
    · obtain rfl : t4 = 0 := h0
      go_wp2_with fail
      refine bodyPost_ret (v := .tuple #[.int .i64 p4, .int .i64 1]) (by simp [results, Tryz.results102, go_sem]) rfl ?_
      exact ⟨by rw [choosePivot_eq, ← E5.out]; rfl, S5.out.at_⟩
    · by_cases h12 : t4 = 12
      · obtain rfl : t4 = 12 := h12
        go_wp2_with fail
        refine bodyPost_ret (v := .tuple #[.int .i64 p4, .int .i64 2]) (by simp [results, Tryz.results102, go_sem]) rfl ?_
        exact ⟨by rw [choosePivot_eq, ← E5.out]; rfl, S5.out.at_⟩
      · have n0 : ((t4 : Int) == 0) = false := by simp; omega
        have n12 : ((t4 : Int) == 12) = false := by simp; omega
        have HH : Hid (hintCode (hintOf t4) = 0) := Lib.hid (by unfold hintOf; rw [if_neg h0, if_neg h12]; rfl)
        clear h0 h12
        go_wp2_with fail
        refine bodyPost_ret (v := .tuple #[.int .i64 p4, .int .i64 0]) (by simp [results, Tryz.results102, go_sem]) rfl ?_
        exact ⟨by rw [choosePivot_eq, ← E5.out]; simp only [HH.out], S5.out.at_⟩
  · have m50 : ¬ (50 : Int) ≤ (m : Int) := by omega
    have HR : Hid (median ltInt d i0 j0 k0 0 = rawPivot ltInt d a b) :=
      Lib.hid (by unfold rawPivot; rw [HB.out, Nat.add_sub_cancel_left, if_pos (by omega), if_neg h50, ← HI.out, ← HJ.out, ← HK.out])
    have C1 := Lib.hid (median_any w0 (w.alloc (.cells #[.int .i64 0] 3)) blk off n cap i0 j0 k0 w.heap.size 0 d (Cnt.start S1.out _) (by omega) (by omega) (by omega) hn (by omega))
    generalize median ltInt d i0 j0 k0 0 = r4 at C1 HR
    obtain ⟨p4, t4⟩ := r4
    clear S1
    go_enter Tryz.func102, Tryz.ntmps102
    go_wp2_with fail
    ((with_reducible refine C1.out.mono ?_); rintro z w4 ⟨rfl, S5a⟩)
    have S5 := Lib.hid S5a
    have E := HR.out
    clear S5a C1 HR
    have cc := S5.out.cell
    have E5 := Lib.hid E
    clear E
    by_cases h0 : t4 = 0
    · obtain rfl : t4 = 0 := h0
      go_wp2_with fail
      refine bodyPost_ret (v := .tuple #[.int .i64 p4, .int .i64 1]) (by simp [results, Tryz.results102, go_sem]) rfl ?_
      exact ⟨by rw [choosePivot_eq, ← E5.out]; rfl, S5.out.at_⟩
    · by_cases h12 : t4 = 12
      · obtain rfl : t4 = 12 := h12
        go_wp2_with fail
        refine bodyPost_ret (v := .tuple #[.int .i64 p4, .int .i64 2]) (by simp [results, Tryz.results102, go_sem]) rfl ?_
        exact ⟨by rw [choosePivot_eq, ← E5.out]; rfl, S5.out.at_⟩
      · have n0 : ((t4 : Int) == 0) = false := by simp; omega
        have n12 : ((t4 : Int) == 12) = false := by simp; omega
        have HH : Hid (hintCode (hintOf t4) = 0) := Lib.hid (by unfold hintOf; rw [if_neg h0, if_neg h12]; rfl)
        clear h0 h12
        go_wp2_with fail
        refine bodyPost_ret (v := .tuple #[.int .i64 p4, .int .i64 0]) (by simp [results, Tryz.results102, go_sem]) rfl ?_
        exact ⟨by rw [choosePivot_eq, ← E5.out]; simp only [HH.out], S5.out.at_⟩
end Go.Proofs.YtonlbcibfbbpgaaGreat.StU
namespace Go.Proofs.YtonlbcibfbbpgaaGreat.StU
open Go.RowKit Go.Lib Go.Sort Rw St Op

set_option maxHeartbeats 8000000 in
set_option maxRecDepth 1000000 in
theorem break_any (w0 w : World) (blk off n cap a b L : Nat) (hbm : b = a + L) (h12 : 12 < L) (d : Array Int) (S : At .u64 w0 blk off n d w) (hb : b ≤ n) (hn : n ≤ 2305843009213693952) :
    Calls Tryz.prog 101 #[.slice (some ⟨blk, off, none⟩) n cap, .int .i64 a, .int .i64 b] w (Sorts .u64 w0 blk off n (.tuple #[]) (breakPatterns d a b)) := by
  have bz : (b : Int) - (a : Int) = (L : Int) := by omega
  obtain ⟨D, hD⟩ : ∃ D, D = breakPatterns d a b := ⟨_, rfl⟩
  have hD2 := hD
  rw [hbm, breakPatterns_eq d a L (by omega)] at hD2
  obtain ⟨M, hM⟩ : ∃ M : Nat, M = 1 <<< bitsLen L := ⟨_, rfl⟩
  have hM1 : 1 ≤ M := by rw [hM, Nat.one_shiftLeft]; exact Nat.two_pow_pos _
  have hM2 : M ≤ 2 * L := by rw [hM, Nat.one_shiftLeft]; exact two_pow_bitsLen_le (by omega)
  have hNP := Lib.hid (fun w => Tryz.nextPowerOfTwo L (by omega) w)
  rw [← hM] at hNP hD2
  obtain ⟨i0, hi0⟩ : ∃ i, i = a + L / 4 * 2 - 1 := ⟨_, rfl⟩
  rw [← hi0] at hD2
  have iz : (a : Int) + (L : Int) / 4 * 2 - 1 = (i0 : Int) := by omega
  have jz : (a : Int) + (L : Int) / 4 * 2 + 1 = ((i0 + 2 : Nat) : Int) := by omega
  have ib : i0 + 2 < a + L := by omega
  have HD := Lib.hid hD2.symm
  have HB := Lib.hid hbm
  rw [← hD]
  have S0 : Hid (Rnd .u64 w0 blk off n d w.heap.size (UInt64.ofNat L).toNat (w.alloc (.cells #[.int .u64 ((L : Nat) : Int)] 122))) := Lib.hid (by
    have := Rnd.start S L 122
    rw [show (UInt64.ofNat L).toNat = L by simp; omega]
    exact this)
  have L8 : (8 : Int) ≤ (L : Int) := by omega
  have eg : ∃ g, g = w.heap.size := ⟨_, rfl⟩
  have lg := S.le
  clear S hD hD2 hM hi0 hbm
  go_enter Tryz.func101, Tryz.ntmps101
  go_wp2_with fail
  ((with_reducible refine (hNP.out _).mono ?_); rintro z w1 ⟨rfl, rfl⟩)
  clear hNP
  go_wp2_with fail
  go_loopg [9] 3 (fun k vi wr => ∃ (t q : Nat) (r : UInt64) (dk : Array Int), vi = .int .i64 q ∧ Hid (q = i0 + t) ∧ t ≤ 3 ∧ 3 - t ≤ k ∧ Hid (Rnd .u64 w0 blk off n dk w.heap.size r.toNat wr) ∧ Hid (bpRest a L M i0 (3 - t) t (r, dk) = D))
  case atStart => exact ⟨0, i0, _, d, rfl, Lib.hid rfl, by omega, by omega, S0, HD⟩
  case round =>
    clear S0 HD
    obtain ⟨t, q, r, dk, rfl, HQ0, ht, hk, S1, HO⟩ := hrel
    have qb : q = i0 + t := HQ0.out
    by_cases h3 : t < 3
    · have qz : (q : Int) ≤ ((i0 + 2 : Nat) : Int) := by omega
      have qn : (q : Int) < (n : Int) := by have := HB.out; omega
      have ql : q < n := by have := HB.out; omega
      obtain ⟨X, hX⟩ : ∃ X, X = r.toNat := ⟨_, rfl⟩
      have lX : X < 18446744073709551616 := by rw [hX]; exact r.toNat_lt
      rw [← hX] at S1
      have C1 := Tryz.xorshift_Next w.heap.size 0 X lX wr S1.out.cell S1.out.free
      obtain ⟨Y, hY⟩ : ∃ Y, Y = xorNextN X := ⟨_, rfl⟩
      have lY : Y < 18446744073709551616 := by rw [hY]; exact xorNextN_lt X lX
      rw [← hY] at C1
      have eY : Y = (xorNext r).toNat := by rw [hY, hX, xorNext_toNat]
      obtain ⟨O, hO⟩ : ∃ O : Nat, O = Y &&& (M - 1) := ⟨_, rfl⟩
      have lO : O ≤ M - 1 := by rw [hO]; exact Nat.and_le_right
      have eAnd : bits .and .u64 (Y : Int) ((M : Int) - 1) = (O : Int) := by
        rw [show ((M : Int) - 1) = ((M - 1 : Nat) : Int) by omega, bits_and_u64_nat _ _ lY (by omega), hO]
      have S2 := Lib.hid (S1.out.next Y)
      have HC := Lib.hid C1; have HN : Hid (O = (xorNext r).toNat &&& (M - 1)) := Lib.hid (by rw [hO, eY])
      have EY := Lib.hid eY
      clear C1 hX hY eY hO S1 qb
      by_cases hLO : L ≤ O
      · have lz : (L : Int) ≤ (O : Int) := by omega
        obtain ⟨o, ho⟩ : ∃ o, o = O - L := ⟨_, rfl⟩
        have oz : (O : Int) - (L : Int) = (o : Int) := by omega
        obtain ⟨p, hp⟩ : ∃ p, p = a + o := ⟨_, rfl⟩
        have pz : (a : Int) + (o : Int) = (p : Int) := by omega
        have pn : (p : Int) < (n : Int) := by have := HB.out; omega
        have hpl : a + o < n := by have := HB.out; omega
        have HP := Lib.hid hp; have HOo := Lib.hid ho
        clear hp ho
        obtain ⟨x, hx⟩ : ∃ x, x = dk[q]! := ⟨_, rfl⟩
        have HX := Lib.hid hx
        clear hx
        obtain ⟨y, hy⟩ : ∃ x, x = dk[a + o]! := ⟨_, rfl⟩
        have HY := Lib.hid hy
        clear hy
        go_wp2_with fail
        ((with_reducible refine HC.out.mono ?_); rintro z w2 ⟨rfl, hw2⟩)
        rw [← hw2] at S2
        have S4 := S2
        clear hw2 S2 HC
        go_wp2_with fail
        have c1 := S4.out.at_.cell (i := q) (by omega)
        have c2 := S4.out.at_.cell (i := a + o) (by omega)
        have f1 := S4.out.at_.free (i := q) (by omega)
        have f2 := S4.out.at_.free (i := a + o) (by omega)
        obtain ⟨u, c3⟩ := S4.out.at_.second (i := q) (j := a + o) (by omega) (by omega) (.int .u64 y)
        have S3 := S4.out.swap (i := q) (j := a + o) (by omega) (by omega)
        rw [← HX.out] at c1 S3
        rw [← HY.out] at c2 S3
        rw [← HP.out] at c2 f2 c3 S3
        have T3 := Lib.hid S3
        clear S3 S4
        go_wp2_with fail
        go_big_region
        clear c1 c2 c3 f1 f2
        have S3 := Lib.hid T3.out
        clear T3
        obtain ⟨w3, hw3⟩ : ∃ w3, w3 = ((w2.setCell ⟨blk, off + q, none⟩ (.int .u64 y)).setCell ⟨blk, off + p, none⟩ (.int .u64 x)).drew := ⟨_, rfl⟩
        rw [← hw3] at S3 ⊢
        clear hw3
        go_wp2
        go_roundg (3 - (t + 1))
        case measure => omega
        case rel => exact ⟨t + 1, q + 1, xorNext r, _, by first | rfl | go_num | (congr 1; omega), Lib.hid (by have := HQ0.out; omega), by omega, by omega, Lib.hid (by rw [← EY.out]; exact S3.out), Lib.hid (by rw [← HO.out, bp_step a L M i0 t r dk o h3 (by rw [← HN.out, if_pos hLO]; exact HOo.out.symm), ← HQ0.out, HP.out])⟩
      · have lz : ¬ (L : Int) ≤ (O : Int) := by omega
        obtain ⟨o, rfl⟩ : ∃ o, o = O := ⟨_, rfl⟩
        obtain ⟨p, hp⟩ : ∃ p, p = a + o := ⟨_, rfl⟩
        have pz : (a : Int) + (o : Int) = (p : Int) := by omega
        have pn : (p : Int) < (n : Int) := by have := HB.out; omega
        have hpl : a + o < n := by have := HB.out; omega
        have HP := Lib.hid hp
        clear hp
        obtain ⟨x, hx⟩ : ∃ x, x = dk[q]! := ⟨_, rfl⟩
        have HX := Lib.hid hx
        clear hx
        obtain ⟨y, hy⟩ : ∃ x, x = dk[a + o]! := ⟨_, rfl⟩
        have HY := Lib.hid hy
        clear hy
        go_wp2_with fail
        ((with_reducible refine HC.out.mono ?_); rintro z w2 ⟨rfl, hw2⟩)
        rw [← hw2] at S2
        have S4 := S2
        clear hw2 S2 HC
        go_wp2_with fail
        have c1 := S4.out.at_.cell (i := q) (by omega)
        have c2 := S4.out.at_.cell (i := a + o) (by omega)
        have f1 := S4.out.at_.free (i := q) (by omega)
        have f2 := S4.out.at_.free (i := a + o) (by omega)
        obtain ⟨u, c3⟩ := S4.out.at_.second (i := q) (j := a + o) (by omega) (by omega) (.int .u64 y)
        have S3 := S4.out.swap (i := q) (j := a + o) (by omega) (by omega)
        rw [← HX.out] at c1 S3
        rw [← HY.out] at c2 S3
        rw [← HP.out] at c2 f2 c3 S3
        have T3 := Lib.hid S3
        clear S3 S4
        go_wp2_with fail
        go_big_region
        clear c1 c2 c3 f1 f2
        have S3 := Lib.hid T3.out
        clear T3
        obtain ⟨w3, hw3⟩ : ∃ w3, w3 = ((w2.setCell ⟨blk, off + q, none⟩ (.int .u64 y)).setCell ⟨blk, off + p, none⟩ (.int .u64 x)).drew := ⟨_, rfl⟩
        rw [← hw3] at S3 ⊢
        clear hw3
        go_wp2
        go_roundg (3 - (t + 1))
        case measure => omega
        case rel => exact ⟨t + 1, q + 1, xorNext r, _, by first | rfl | go_num | (congr 1; omega), Lib.hid (by have := HQ0.out; omega), by omega, by omega, Lib.hid (by rw [← EY.out]; exact S3.out), Lib.hid (by rw [← HO.out, bp_step a L M i0 t r dk o h3 (by rw [← HN.out, if_neg hLO]), ← HQ0.out, HP.out])⟩
    · obtain rfl : t = 3 := by omega
      have qz : ¬ (q : Int) ≤ ((i0 + 2 : Nat) : Int) := by omega
      clear qb
      go_wp2
      go_end0
      exact ⟨rfl, by rw [← HO.out]; exact S1.out.at_⟩
end Go.Proofs.YtonlbcibfbbpgaaGreat.StU

/- The walk of the library's sort at uint64: the sort -/
import Derived.Test.YtonlbcibfbbpgaaGreatSrtAU
import Derived.Test.YtonlbcibfbbpgaaGreatSrtIU
import Derived.Test.YtonlbcibfbbpgaaGreatSrtJU
import Derived.Test.YtonlbcibfbbpgaaGreatSrtLU
import Derived.Deep.CutRange
namespace Go.Proofs.YtonlbcibfbbpgaaGreat.StU
open Go.RowKit Go.Lib Go.Sort Rw St

theorem rev2_any (w0 w : World) (blk off n cap a b : Nat) (d : Array Int) (S : At .u64 w0 blk off n d w) (h1 : 1 ≤ b) (hb : b ≤ n) (hn : n ≤ 2305843009213693952) :
    Calls Tryz.prog 103 #[.slice (some ⟨blk, off, none⟩) n cap, .int .i64 a, .int .i64 b] w (Sorts .u64 w0 blk off n (.tuple #[]) (reverseRange d a b)) := by
  obtain ⟨c, rfl⟩ : ∃ c, b = c + 1 := ⟨b - 1, by omega⟩
  exact rev_any w0 w blk off n cap a c d S hb hn
/-- a part is sorted -/
def PqP (w0 : World) (blk off n a b : Nat) (d : Array Int) (e : Ending) (w' : World) : Prop := ∃ d', e = .returned (.tuple #[]) ∧ PermIn a b d d' ∧ SortedIn ltInt a b d' ∧ At .u64 w0 blk off n d' w'
set_option maxHeartbeats 64000000 in
set_option maxRecDepth 1000000 in
theorem pdq_any (w0 : World) (blk off n cap : Nat) (hn : n ≤ 2305843009213693952) (M : Nat) : ∀ (a b l : Nat) (d : Array Int) (w : World) (_ : b - a ≤ M) (_ : a ≤ b) (_ : b ≤ n) (_ : l ≤ 1000) (_ : Sort.Below ltInt a b d) (_ : At .u64 w0 blk off n d w),
    Calls Tryz.prog 83 #[.slice (some ⟨blk, off, none⟩) n cap, .int .i64 a, .int .i64 b, .int .i64 l] w (PqP w0 blk off n a b d) := by
  induction M using Nat.strongRecOn with
  | _ M ih =>
    intro a b l d w hM hab hb hl hB S
    have IH := Lib.hid ih
    have S0 := Lib.hid S
    have HB0 := Lib.hid hB
    clear ih S hB
    go_enter Tryz.func83, Tryz.ntmps83
    go_wp2
    go_loopg [1, 2, 3, 8, 9] (b - a) (fun g va vb vl v8 v9 wr => ∃ (a1 b1 l1 : Nat) (wb wp : Bool) (dk : Array Int), va = .int .i64 a1 ∧ vb = .int .i64 b1 ∧ vl = .int .i64 l1 ∧ v8 = .bool wb ∧ v9 = .bool wp ∧ a1 ≤ b1 ∧ b1 ≤ n ∧ l1 ≤ 1000 ∧ b1 - a1 ≤ M ∧ b1 - a1 ≤ g ∧ Hid (At .u64 w0 blk off n dk wr) ∧ Hid (Sort.Below ltInt a1 b1 dk) ∧ Hid (∀ R, PermIn a1 b1 dk R → SortedIn ltInt a1 b1 R → PermIn a b d R ∧ SortedIn ltInt a b R))
    case atStart => exact ⟨a, b, l, true, true, d, rfl, rfl, rfl, rfl, rfl, hab, hb, hl, hM, Nat.le_refl _, S0, HB0, Lib.hid (fun R h1 h2 => ⟨h1, h2⟩)⟩
    case round =>
      clear S0 HB0
      obtain ⟨a1, b1, l1, wb, wp, dk, rfl, rfl, rfl, rfl, rfl, hab1, hb1, hl1, hM1, hg1, S1, kb, HO⟩ := hrel
      obtain ⟨m, hm⟩ : ∃ m, m = b1 - a1 := ⟨_, rfl⟩
      have bz : (b1 : Int) - (a1 : Int) = (m : Int) := by omega
      have kp : Hid (PermIn a1 b1 dk dk) := Lib.hid (permIn_refl _ _ _)
      have HM : Hid (b1 = a1 + m) := Lib.hid (by omega)
      by_cases h12 : m ≤ 12
      · have z12 : (m : Int) ≤ 12 := by omega
        have R := insertionSort_holds (lt := ltInt) swo_ltInt dk a1 b1 hab1 (by rw [(S1.out).sz]; exact hb1)
        have HR := Lib.hid R
        have C := Lib.hid (ins_any w0 wr blk off n cap a1 b1 dk S1.out hab1 hb1 (by omega))
        clear S1 R
        go_wp2_with fail
        ((with_reducible refine C.out.mono ?_); rintro z W ⟨rfl, S2a⟩)
        have S2 := Lib.hid S2a
        clear S2a C
        go_wp2_with fail
        (try simp only [Exit.inBlock, Exit.then])
        refine bodyPost_ret (results_none rfl _ _ _) rfl ?_
        exact ⟨_, rfl, (HO.out _ HR.out.1 HR.out.2).1, (HO.out _ HR.out.1 HR.out.2).2, S2.out⟩
      · have z12 : ¬ (m : Int) ≤ 12 := by omega
        have h13 : 12 < m := by omega
        have hlt : a1 < b1 := by omega
        by_cases h0 : l1 = 0
        · obtain rfl : l1 = 0 := h0
          have R := heapSort_holds (lt := ltInt) swo_ltInt dk a1 b1 hab1 (by rw [(S1.out).sz]; exact hb1)
          have HR := Lib.hid R
          have C := Lib.hid (heap_any w0 wr blk off n cap a1 b1 m HM.out dk S1.out (by omega) (by have := HM.out; omega) hn)
          clear S1 R
          go_wp2_with fail
          ((with_reducible refine C.out.mono ?_); rintro z W ⟨rfl, S2a⟩)
          have S2 := Lib.hid S2a
          clear S2a C
          go_wp2_with fail
          (try simp only [Exit.inBlock, Exit.then])
          refine bodyPost_ret (results_none rfl _ _ _) rfl ?_
          exact ⟨_, rfl, (HO.out _ HR.out.1 HR.out.2).1, (HO.out _ HR.out.1 HR.out.2).2, S2.out⟩
        · have n0 : ((l1 : Int) == 0) = false := by simp; omega
          go_upto_if 35 with fail
          go_cut [3] from 19 to 133 (fun v3 wx => ∃ l2 : Nat, v3 = .int .i64 l2 ∧ l2 ≤ 1000 ∧ ∃ d2 : Array Int, Hid (At .u64 w0 blk off n d2 wx) ∧ Hid (PermIn a1 b1 dk d2) ∧ Hid (Sort.Below ltInt a1 b1 d2))
          case first =>
            cases wb with
            | false =>
              have r2 := breakPatterns_holds dk a1 b1 hab1 (by rw [(S1.out).sz]; exact hb1)
              have kp2 : Hid (PermIn a1 b1 dk (breakPatterns dk a1 b1)) := Lib.hid r2
              have kb2 : Hid (Sort.Below ltInt a1 b1 (breakPatterns dk a1 b1)) := Lib.hid (kb.out.perm (by rw [(S1.out).sz]; exact hb1) r2)
              have C := Lib.hid (break_any w0 wr blk off n cap a1 b1 m HM.out h13 dk S1.out hb1 hn)
              generalize breakPatterns dk a1 b1 = d1 at C kp2 kb2
              clear r2 kp kb S1
              obtain ⟨l2, hl2⟩ : ∃ x, x = l1 - 1 := ⟨_, rfl⟩
              have l2z : (l1 : Int) - 1 = (l2 : Int) := by omega
              have l2b : l2 ≤ 1000 := by omega
              clear hl2 hm
              go_wp2_with fail
              ((with_reducible refine C.out.mono ?_); rintro z W2 ⟨rfl, S2a⟩)
              have S2 := Lib.hid S2a
              clear S2a C
              go_wp2_with fail
              go_meet
              case rel => exact ⟨l2, rfl, l2b, d1, S2, kp2, kb2⟩
            | true =>
              go_wp2_with fail
              go_meet
              case rel => exact ⟨l1, rfl, hl1, dk, S1, kp, kb⟩
          case rest =>
            clear S1 kp kb hm
            obtain ⟨l2, rfl, hl2, d1, S2, kp, kb⟩ := hcut
            have C4 := Lib.hid (choose_any w0 wc blk off n cap a1 b1 m HM.out h13 d1 S2.out hb1 hn)
            have R4 := choosePivot_holds ltInt d1 a1 b1 hlt
            have HSZ : Hid (b1 ≤ d1.size) := Lib.hid (by rw [(S2.out).sz]; exact hb1)
            generalize choosePivot ltInt d1 a1 b1 = r at C4 R4
            obtain ⟨p, h⟩ := r
            obtain ⟨hp1, hp2⟩ := R4
            simp only at hp1 hp2
            obtain ⟨c, hc⟩ : ∃ c : Nat, hintCode h = (c : Int) := by cases h <;> exact ⟨_, rfl⟩
            have K4 : Hid (Calls Tryz.prog 102 #[.slice (some ⟨blk, off, none⟩) n cap, .int .i64 a1, .int .i64 b1] wc (fun e w' => e = .returned (.tuple #[.int .i64 p, .int .i64 (c : Int)]) ∧ At .u64 w0 blk off n d1 w')) := Lib.hid (by rw [← hc]; exact C4.out)
            clear C4 S2 hc
            go_upto_if 50 with (go_at_call 102; (with_reducible refine K4.out.mono ?_); rintro z W4 ⟨rfl, S4a⟩)
            have S4 := Lib.hid S4a
            clear S4a K4
            go_cut [11, 12] from 19 to 133 (fun v11 v12 wx => ∃ q c2 : Nat, v11 = .int .i64 q ∧ v12 = .int .i64 c2 ∧ a1 ≤ q ∧ q < b1 ∧ ∃ d2 : Array Int, Hid (At .u64 w0 blk off n d2 wx) ∧ Hid (PermIn a1 b1 dk d2) ∧ Hid (Sort.Below ltInt a1 b1 d2))
            case first =>
              by_cases h2 : c = 2
              · obtain rfl : c = 2 := h2
                have C5 := Lib.hid (rev2_any w0 W4 blk off n cap a1 b1 d1 S4.out (by omega) hb1 hn)
                have r5 := reverseRange_holds d1 a1 b1 (by omega) HSZ.out
                have kp5 : Hid (PermIn a1 b1 dk (reverseRange d1 a1 b1)) := Lib.hid (permIn_trans _ _ _ _ _ kp.out r5)
                have kb5 : Hid (Sort.Below ltInt a1 b1 (reverseRange d1 a1 b1)) := Lib.hid (kb.out.perm HSZ.out r5)
                generalize reverseRange d1 a1 b1 = d2 at C5 kp5 kb5
                clear r5 kp kb S4
                obtain ⟨b0, hb0⟩ : ∃ x, x = b1 - 1 := ⟨_, rfl⟩
                obtain ⟨pa, hpa⟩ : ∃ x, x = p - a1 := ⟨_, rfl⟩
                obtain ⟨q, hq⟩ : ∃ x, x = b0 - pa := ⟨_, rfl⟩
                have b0z : (b1 : Int) - 1 = (b0 : Int) := by omega
                have paz : (p : Int) - (a1 : Int) = (pa : Int) := by omega
                have qz : (b0 : Int) - (pa : Int) = (q : Int) := by omega
                have hq1 : a1 ≤ q := by omega
                have hq2 : q < b1 := by omega
                clear hb0 hpa hq
                go_wp2_with fail
                ((with_reducible refine C5.out.mono ?_); rintro z W5 ⟨rfl, S5a⟩)
                have S5 := Lib.hid S5a
                clear S5a C5
                go_wp2_with fail
                go_meet
                case rel => exact ⟨q, 1, rfl, rfl, hq1, hq2, d2, S5, kp5, kb5⟩
              · have hz2 : ((c : Int) == 2) = false := by simp; omega
                go_wp2_with fail
                go_meet
                case rel => exact ⟨p, c, rfl, rfl, hp1, hp2, d1, S4, kp, kb⟩
            case rest =>
              clear S4 kp kb HSZ hp1 hp2
              obtain ⟨q, c2, rfl, rfl, hq1, hq2, d2, S5, kp, kb⟩ := hcut
              rename World => W5
              go_upto_region 15 with fail
              go_cut [68] from 19 to 133 (fun v68 wx => ∃ f : Bool, v68 = .bool f ∧ Hid (At .u64 w0 blk off n d2 wx))
              case first =>
                have hh : (c2 : Int) = 1 ∨ ((c2 : Int) == 1) = false := by by_cases h : c2 = 1 <;> simp [h] <;> omega
                cases wb <;> cases wp
                all_goals
                  rcases hh with hh | hh
                  all_goals
                    go_wp2_with fail
                    go_meet
                    exact ⟨_, rfl, S5⟩
              case rest =>
                clear S5
                obtain ⟨f, rfl, S5⟩ := hcut
                rename World => W6
                go_upto_if 68 with fail
                go_cut [] from 19 to 133 (fun wx => ∃ d2 : Array Int, Hid (At .u64 w0 blk off n d2 wx) ∧ Hid (PermIn a1 b1 dk d2) ∧ Hid (Sort.Below ltInt a1 b1 d2))
                case first =>
                  cases f with
                  | false =>
                    go_wp2_with fail
                    go_meet
                    case rel => exact ⟨d2, S5, kp, kb⟩
                  | true =>
                    have C6 := Lib.hid (pins_any w0 _ blk off n cap a1 b1 d2 S5.out hlt hb1 hn)
                    have R6 := partialInsertionSort_holds (lt := ltInt) swo_ltInt d2 a1 b1 hlt (by rw [(S5.out).sz]; exact hb1) kb.out
                    have HSZ : Hid (b1 ≤ d2.size) := Lib.hid (by rw [(S5.out).sz]; exact hb1)
                    generalize partialInsertionSort ltInt d2 a1 b1 = r at C6 R6
                    obtain ⟨d3, fl⟩ := r
                    obtain ⟨r6, r7⟩ := R6
                    have HR7 := Lib.hid r7
                    have kp3 : Hid (PermIn a1 b1 dk d3) := Lib.hid (permIn_trans _ _ _ _ _ kp.out r6)
                    have kb3 : Hid (Sort.Below ltInt a1 b1 d3) := Lib.hid (kb.out.perm HSZ.out r6)
                    clear r6 r7 kp kb S5 HSZ
                    cases fl with
                    | true =>
                      go_wp2_with fail
                      ((with_reducible refine C6.out.mono ?_); rintro z W7 ⟨rfl, S6a⟩)
                      have S6 := Lib.hid S6a
                      clear S6a C6
                      go_wp2_with fail
                      (try simp only [Exit.inBlock, Exit.then])
                      refine bodyPost_ret (results_none rfl _ _ _) rfl ?_
                      exact ⟨d3, rfl, (HO.out d3 kp3.out (HR7.out (by first | rfl | trivial))).1, (HO.out d3 kp3.out (HR7.out (by first | rfl | trivial))).2, S6.out⟩
                    | false =>
                      go_wp2_with fail
                      ((with_reducible refine C6.out.mono ?_); rintro z W7 ⟨rfl, S6a⟩)
                      have S6 := Lib.hid S6a
                      clear S6a C6
                      go_wp2_with fail
                      go_meet
                      case rel => exact ⟨d3, S6, kp3, kb3⟩
                case rest =>
                  clear S5 kp kb
                  obtain ⟨d3, S6, kp, kb⟩ := hcut
                  rename World => WC
                  by_cases ha0 : 0 < a1
                  · have az : decide ((a1 : Int) > 0) = true := decide_eq_true (by omega)
                    have az2 : (0 : Int) < (a1 : Int) := by omega
                    obtain ⟨a0, ha0z⟩ : ∃ x, x = a1 - 1 := ⟨_, rfl⟩
                    have a0z : (a1 : Int) - 1 = (a0 : Int) := by omega
                    have a0n : (a0 : Int) < (n : Int) := by omega
                    have a0m : a0 < n := by omega
                    have qn : (q : Int) < (n : Int) := by omega
                    have HA0 := Lib.hid ha0z
                    clear ha0z
                    obtain ⟨x, hx⟩ : ∃ x, x = d3[a0]! := ⟨_, rfl⟩
                    obtain ⟨y, hy⟩ : ∃ y, y = d3[q]! := ⟨_, rfl⟩
                    have c1 := S6.out.cell (i := a0) a0m
                    have c2 := S6.out.cell (i := q) (by omega)
                    rw [← hx] at c1
                    rw [← hy] at c2
                    have HX := Lib.hid hx; have HY := Lib.hid hy
                    clear hx hy
                    cases hl : ltInt x y with
                    | false =>
                      have HL := Lib.hid hl
                      go_wp2_with fail
                      go_big_quiet (first | (go_at_call 64; refine Calls.quiet_of_same (less_any _ _ _)))
                      have S7 := Lib.hid (S6.out.drewN nq)
                      clear S6 
                      obtain ⟨W7, hw2⟩ : ∃ W, W = WC.drewN nq := ⟨_, rfl⟩
                      rw [← hw2] at S7 ⊢
                      clear hw2 nq
                      clear c1 c2 hl
                      have R8 : ∀ mid d4, partitionEqual ltInt d3 a1 b1 q = (mid, d4) → _ := fun mid d4 h => round_eq swo_ltInt (partitionEqual_holds ltInt) ha0 hq1 hq2 (by rw [(S7.out).sz]; exact hb1) kb.out (by rw [← HA0.out, ← HX.out, ← HY.out]; exact HL.out) h
                      have C8 := Lib.hid (peq_any w0 W7 blk off n cap a1 b1 q d3 S7.out hq1 hq2 hb1 hn)
                      generalize partitionEqual ltInt d3 a1 b1 q = r at C8 R8
                      obtain ⟨mid, d4⟩ := r
                      obtain ⟨m1, m2, r3, r4, r5⟩ := R8 mid d4 rfl
                      have HR4 := Lib.hid r4; have HR5 := Lib.hid r5
                      clear R8 r3 r4 r5 S7 HX HY
                      go_wp2_with fail
                      ((with_reducible refine C8.out.mono ?_); rintro z W8 ⟨rfl, S8a⟩)
                      have S8 := Lib.hid S8a
                      clear S8a C8
                      go_wp2
                      go_roundg (b1 - mid)
                      case measure => omega
                      case rel => exact ⟨mid, b1, l2, _, _, d4, rfl, rfl, by first | rfl | go_num | (congr 1; omega), rfl, rfl, m2, hb1, by omega, by omega, Nat.le_refl _, S8, Lib.hid HR4.out, Lib.hid (fun R h1 h2 => HO.out R (permIn_trans _ _ _ _ _ kp.out (HR5.out R h1 h2).1) (HR5.out R h1 h2).2)⟩
                    | true =>
                      go_wp2_with fail
                      go_big_quiet (first | (go_at_call 64; refine Calls.quiet_of_same (less_any _ _ _)))
                      have S7 := Lib.hid (S6.out.drewN nq)
                      clear S6 
                      obtain ⟨W7, hw2⟩ : ∃ W, W = WC.drewN nq := ⟨_, rfl⟩
                      rw [← hw2] at S7 ⊢
                      clear hw2 nq
                      clear c1 c2 hl HX HY a0z
                      go_wp2_with fail
                      have C9 := Lib.hid (fun w S => part_any w0 w blk off n cap a1 b1 q d3 S hq1 hq2 hb1 hn)
                      have R9 : ∀ mid ap d4, partition ltInt d3 a1 b1 q = (mid, ap, d4) → _ := fun mid ap d4 h => round_part swo_ltInt (partition_holds ltInt) hq1 hq2 (by rw [(S7.out).sz]; exact hb1) kb.out h
                      generalize partition ltInt d3 a1 b1 q = r at C9 R9
                      obtain ⟨mid, ap, d4⟩ := r
                      obtain ⟨m1, m2, r3, r4, r5, r6, r7⟩ := R9 mid ap d4 rfl
                      have HR4 := Lib.hid r4; have HR5 := Lib.hid r5; have HR6 := Lib.hid r6; have HR7 := Lib.hid r7
                      clear R9 r3 r4 r5 r6 r7
                      have K9 := Lib.hid (C9.out _ S7.out)
                      clear C9 S7
                      go_wp2_with fail
                      ((with_reducible refine K9.out.mono ?_); rintro z W9 ⟨rfl, S9a⟩)
                      have S9 := Lib.hid S9a
                      clear S9a K9
                      obtain ⟨lf, hlf⟩ : ∃ x, x = mid - a1 := ⟨_, rfl⟩
                      obtain ⟨rt, hrt⟩ : ∃ x, x = b1 - mid := ⟨_, rfl⟩
                      have lz : (mid : Int) - (a1 : Int) = (lf : Int) := by omega
                      have rz : (b1 : Int) - (mid : Int) = (rt : Int) := by omega
                      have sl : mid - a1 < M := by omega
                      have sr : b1 - (mid + 1) < M := by omega
                      have HLF := Lib.hid hlf; have HRT := Lib.hid hrt
                      clear hlf hrt
                      by_cases hlr : lf < rt
                      · have zlr : (lf : Int) < (rt : Int) := by omega
                        have C10 := Lib.hid (IH.out (mid - a1) sl a1 mid l2 d4 W9 (Nat.le_refl _) m1 (by omega) (by omega) HR4.out S9.out)
                        clear S9
                        go_wp2_with fail
                        ((with_reducible refine C10.out.mono ?_); rintro z W10 ⟨L, rfl, l1, l2, S10a⟩)
                        have P10 := HR6.out L l1 l2
                        have S10 := Lib.hid S10a
                        have HP10 := Lib.hid P10
                        clear S10a C10 P10 l1 l2 HR4 HR5 HR6 HR7
                        go_wp2
                        go_roundg (b1 - (mid + 1))
                        case measure => omega
                        case rel => exact ⟨mid + 1, b1, l2, _, _, L, by first | rfl | go_num | (congr 1; omega), rfl, by first | rfl | go_num | (congr 1; omega), rfl, rfl, by omega, hb1, by omega, by omega, Nat.le_refl _, S10, Lib.hid HP10.out.1, Lib.hid (fun R h1 h2 => HO.out R (permIn_trans _ _ _ _ _ kp.out (HP10.out.2 R h1 h2).1) (HP10.out.2 R h1 h2).2)⟩
                      · have zlr : ¬ (lf : Int) < (rt : Int) := by omega
                        have mz : (mid : Int) + 1 = ((mid + 1 : Nat) : Int) := by omega
                        obtain ⟨mid1, hmid1⟩ : ∃ x, x = mid + 1 := ⟨_, rfl⟩
                        rw [← hmid1] at mz sr
                        have C10 := Lib.hid (IH.out (b1 - mid1) sr mid1 b1 l2 d4 W9 (Nat.le_refl _) (by omega) hb1 (by omega) (by rw [hmid1]; exact HR5.out) S9.out)
                        have HM1 := Lib.hid hmid1
                        clear S9 hmid1
                        go_wp2_with fail
                        ((with_reducible refine C10.out.mono ?_); rintro z W10 ⟨L, rfl, l1, l2, S10a⟩)
                        rw [HM1.out] at l1 l2
                        have P10 := HR7.out L l1 l2
                        have S10 := Lib.hid S10a
                        have HP10 := Lib.hid P10
                        clear S10a C10 P10 l1 l2 HR4 HR5 HR6 HR7 mz
                        go_wp2
                        go_roundg (mid - a1)
                        case measure => omega
                        case rel => exact ⟨a1, mid, l2, _, _, L, rfl, rfl, by first | rfl | go_num | (congr 1; omega), rfl, rfl, m1, by omega, by omega, by omega, Nat.le_refl _, S10, Lib.hid HP10.out.1, Lib.hid (fun R h1 h2 => HO.out R (permIn_trans _ _ _ _ _ kp.out (HP10.out.2 R h1 h2).1) (HP10.out.2 R h1 h2).2)⟩
                  · have az : decide ((a1 : Int) > 0) = false := decide_eq_false (by omega)
                    have az2 : ¬ (0 : Int) < (a1 : Int) := by omega
                    go_wp2_with fail
                    go_big_quiet (first | (go_at_call 64; refine Calls.quiet_of_same (less_any _ _ _)))
                    have S7 := Lib.hid (S6.out.drewN nq)
                    clear S6 
                    obtain ⟨W7, hw2⟩ : ∃ W, W = WC.drewN nq := ⟨_, rfl⟩
                    rw [← hw2] at S7 ⊢
                    clear hw2 nq
                    go_wp2_with fail
                    have C9 := Lib.hid (fun w S => part_any w0 w blk off n cap a1 b1 q d3 S hq1 hq2 hb1 hn)
                    have R9 : ∀ mid ap d4, partition ltInt d3 a1 b1 q = (mid, ap, d4) → _ := fun mid ap d4 h => round_part swo_ltInt (partition_holds ltInt) hq1 hq2 (by rw [(S7.out).sz]; exact hb1) kb.out h
                    generalize partition ltInt d3 a1 b1 q = r at C9 R9
                    obtain ⟨mid, ap, d4⟩ := r
                    obtain ⟨m1, m2, r3, r4, r5, r6, r7⟩ := R9 mid ap d4 rfl
                    have HR4 := Lib.hid r4; have HR5 := Lib.hid r5; have HR6 := Lib.hid r6; have HR7 := Lib.hid r7
                    clear R9 r3 r4 r5 r6 r7
                    have K9 := Lib.hid (C9.out _ S7.out)
                    clear C9 S7
                    go_wp2_with fail
                    ((with_reducible refine K9.out.mono ?_); rintro z W9 ⟨rfl, S9a⟩)
                    have S9 := Lib.hid S9a
                    clear S9a K9
                    obtain ⟨lf, hlf⟩ : ∃ x, x = mid - a1 := ⟨_, rfl⟩
                    obtain ⟨rt, hrt⟩ : ∃ x, x = b1 - mid := ⟨_, rfl⟩
                    have lz : (mid : Int) - (a1 : Int) = (lf : Int) := by omega
                    have rz : (b1 : Int) - (mid : Int) = (rt : Int) := by omega
                    have sl : mid - a1 < M := by omega
                    have sr : b1 - (mid + 1) < M := by omega
                    have HLF := Lib.hid hlf; have HRT := Lib.hid hrt
                    clear hlf hrt
                    by_cases hlr : lf < rt
                    · have zlr : (lf : Int) < (rt : Int) := by omega
                      have C10 := Lib.hid (IH.out (mid - a1) sl a1 mid l2 d4 W9 (Nat.le_refl _) m1 (by omega) (by omega) HR4.out S9.out)
                      clear S9
                      go_wp2_with fail
                      ((with_reducible refine C10.out.mono ?_); rintro z W10 ⟨L, rfl, l1, l2, S10a⟩)
                      have P10 := HR6.out L l1 l2
                      have S10 := Lib.hid S10a
                      have HP10 := Lib.hid P10
                      clear S10a C10 P10 l1 l2 HR4 HR5 HR6 HR7
                      go_wp2
                      go_roundg (b1 - (mid + 1))
                      case measure => omega
                      case rel => exact ⟨mid + 1, b1, l2, _, _, L, by first | rfl | go_num | (congr 1; omega), rfl, by first | rfl | go_num | (congr 1; omega), rfl, rfl, by omega, hb1, by omega, by omega, Nat.le_refl _, S10, Lib.hid HP10.out.1, Lib.hid (fun R h1 h2 => HO.out R (permIn_trans _ _ _ _ _ kp.out (HP10.out.2 R h1 h2).1) (HP10.out.2 R h1 h2).2)⟩
                    · have zlr : ¬ (lf : Int) < (rt : Int) := by omega
                      have mz : (mid : Int) + 1 = ((mid + 1 : Nat) : Int) := by omega
                      obtain ⟨mid1, hmid1⟩ : ∃ x, x = mid + 1 := ⟨_, rfl⟩
                      rw [← hmid1] at mz sr
                      have C10 := Lib.hid (IH.out (b1 - mid1) sr mid1 b1 l2 d4 W9 (Nat.le_refl _) (by omega) hb1 (by omega) (by rw [hmid1]; exact HR5.out) S9.out)
                      have HM1 := Lib.hid hmid1
                      clear S9 hmid1
                      go_wp2_with fail
                      ((with_reducible refine C10.out.mono ?_); rintro z W10 ⟨L, rfl, l1, l2, S10a⟩)
                      rw [HM1.out] at l1 l2
                      have P10 := HR7.out L l1 l2
                      have S10 := Lib.hid S10a
                      have HP10 := Lib.hid P10
                      clear S10a C10 P10 l1 l2 HR4 HR5 HR6 HR7 mz
                      go_wp2
                      go_roundg (mid - a1)
                      case measure => omega
                      case rel => exact ⟨a1, mid, l2, _, _, L, rfl, rfl, by first | rfl | go_num | (congr 1; omega), rfl, rfl, m1, by omega, by omega, by omega, Nat.le_refl _, S10, Lib.hid HP10.out.1, Lib.hid (fun R h1 h2 => HO.out R (permIn_trans _ _ _ _ _ kp.out (HP10.out.2 R h1 h2).1) (HP10.out.2 R h1 h2).2)⟩
end Go.Proofs.YtonlbcibfbbpgaaGreat.StU

/- The law TableCut. -/
import Derived.Test.YtjnehpkkkmicfaaBnN
import Derived.Test.YtjnehpkkkmicfaaBnC
namespace Go.Proofs.Ytjnehpkkkmicfaa.Tb2
open Go.RowKit Go.Lib Rw Ls Od _root_.Go.Proofs.Ytjnehpkkkmicfaa.Nm Pk Bt Cn

set_option maxHeartbeats 8000000 in
set_option maxRecDepth 100000 in
theorem cut_law (T : TblC) (ls : List Int) (n : Int) (p : Option Addr) (c : Nat) (w : World) (hp : Rd w p (zs ls)) (hl : ls.length ≤ 17592186044416) :
    Calls Try.prog 9 #[.slice p ls.length c, .int .i64 n] w fun e w' => e = .returned (.bool true) ∧ Below w.heap.size w w' := by
  have CL := Lib.hid (fun W => lives_any T W)
  have CW0 : ∀ W, Rd W p (zs ls) → Calls Try.prog 26 #[.agg #[.string ⟨#[]⟩, .int .i64 0], .slice p ls.length c] W (WrP W (twR ⟨#[]⟩ 0 ls)) := fun W h => T.write ⟨#[]⟩ 0 ls p c W (by decide) h hl
  have P := Lib.hid hp
  have B : Hid (Below w.heap.size w w) := Lib.hid (Below.refl _ _)
  rcases tw_cases ⟨#[]⟩ 0 ls with ⟨S, N, E, he, hE, hSN⟩ | ⟨h1, h2, h3, h4, he⟩
  · obtain ⟨rfl, rfl⟩ := hSN rfl rfl
    rw [he] at CW0
    have CW := Lib.hid CW0
    have e1 : (E == 0) = false := by rw [beq_eq_false_iff_ne]; exact hE
    have e2 : (E != 0) = true := by rw [bne_iff_ne]; exact hE
    clear CW0 he hE T hl hSN
    go_enter Try.func9, Try.ntmps9
    go_wp2_with fail
    refine (CL.out _).mono ?_
    rintro e w0 ⟨rfl, b⟩
    replace P := Lib.hid (P.out.below b)
    replace B := Lib.hid (B.out.trans (b.mono B.out.size))
    clear b
    go_wp2_with fail
    refine (CW.out _ P.out).mono ?_
    rintro e w1 ⟨rfl, b⟩
    replace P := Lib.hid (P.out.below b)
    replace B := Lib.hid (B.out.trans (b.mono B.out.size))
    clear b
    have BY : Hid (Box (w1.alloc (.cells #[.string ⟨#[]⟩, .int .i64 0] 35)) w1.heap.size ⟨#[]⟩ 0) := Lib.hid (Box.new w1 ⟨#[]⟩ 0)
    replace P := Lib.hid (P.out.alloc (.cells #[.string ⟨#[]⟩, .int .i64 0] 35))
    replace B := Lib.hid (B.out.alloc B.out.size (.cells #[.string ⟨#[]⟩, .int .i64 0] 35))
    have y0 := BY.out.c0; have y1 := BY.out.c1
    go_wp2_with fail
    go_ret
    exact ⟨rfl, B.out⟩
  · have hX : bl (Bt.bytes ⟨#[]⟩) (0 : Int).toNat = [] := by decide +kernel
    rw [hX, List.nil_append] at he
    have hb : (tbl (nats ls)).length ≤ 1048576 := by omega
    have hcut := fun k (hk : k < (tbl (nats ls)).length) => tr_cut h2 h3 hk hb
    have h512 := (rt_of h3).few
    obtain ⟨Y, hY⟩ : ∃ Y, Y = tbl (nats ls) := ⟨_, rfl⟩
    rw [← hY] at he hb hcut
    obtain ⟨m, hm⟩ : ∃ m, m = ls.length := ⟨_, rfl⟩
    rw [← hm] at CW0 hl h512 ⊢
    have hsm := packS_size hb
    have hchk := packS_chk hb
    have hbits := packS_bits Y
    obtain ⟨N, hN⟩ : ∃ N, N = Y.length := ⟨_, rfl⟩
    obtain ⟨S, hS⟩ : ∃ S, S = packS Y := ⟨_, rfl⟩
    have he2 : twR ⟨#[]⟩ 0 ls = (S, (N : Int), 0) := by rw [he, hS, hN]; simp
    rw [he2] at CW0
    have CW := Lib.hid CW0
    rw [← hN] at hb hchk hbits hcut
    rw [← hS] at hsm hchk hbits
    have CU0 := fun W => cut_any S (N : Int) 0 n W (by unfold maxLen; omega)
    have hor : (∃ E2 S3 N3, cutE S (N : Int) 0 n = E2 ∧ E2 ≠ 0 ∧ cutS S (N : Int) 0 n = S3 ∧ cutN S (N : Int) 0 n = N3) ∨ (∃ k : Nat, n = (k : Int) ∧ k ≤ N ∧ cutE S (N : Int) 0 n = 0 ∧ cutS S (N : Int) 0 n = packS (Y.take k) ∧ cutN S (N : Int) 0 n = (k : Int)) := by
      by_cases hc : 0 ≤ n ∧ n ≤ (N : Int)
      · right
        obtain ⟨k, rfl⟩ := Int.eq_ofNat_of_zero_le hc.1
        have hE : cutE S (N : Int) 0 (k : Int) = 0 := by
          unfold cutE
          rw [if_neg (by rw [hchk]; simp), if_neg (by omega), if_neg (by omega)]
        refine ⟨k, rfl, by omega, hE, ?_, ?_⟩
        · unfold cutS
          rw [if_pos hE, Int.toNat_natCast, Int.toNat_natCast, hbits]; simp
        · unfold cutN; rw [if_pos hE]
      · left
        refine ⟨_, _, _, rfl, ?_, rfl, rfl⟩
        unfold cutE
        rw [if_neg (by rw [hchk]; simp)]
        by_cases h0 : n < 0
        · rw [if_pos (by omega)]; decide
        · rw [if_neg (by omega), if_pos (by omega)]; decide
    clear he he2 CW0 hX hS hsm hchk hbits h1 h2 h3 h4
    rcases hor with ⟨E2, S3, N3, hE2, hne, hS3, hN3⟩ | ⟨k, rfl, hkN, hE2, hS3, hN3⟩
    · rw [hE2, hS3, hN3] at CU0
      have CU := Lib.hid CU0
      have e1 : (E2 == 0) = false := by rw [beq_eq_false_iff_ne]; exact hne
      have e2 : (E2 != 0) = true := by rw [bne_iff_ne]; exact hne
      clear CU0 hE2 hne hS3 hN3 T hl hcut hY hm hN
      go_enter Try.func9, Try.ntmps9
      go_wp2_with fail
      refine (CL.out _).mono ?_
      rintro e w0 ⟨rfl, b⟩
      replace P := Lib.hid (P.out.below b)
      replace B := Lib.hid (B.out.trans (b.mono B.out.size))
      clear b
      go_wp2_with fail
      refine (CW.out _ P.out).mono ?_
      rintro e w1 ⟨rfl, b⟩
      replace P := Lib.hid (P.out.below b)
      replace B := Lib.hid (B.out.trans (b.mono B.out.size))
      clear b
      have BY : Hid (Box (w1.alloc (.cells #[.string S, .int .i64 (N : Int)] 35)) w1.heap.size S (N : Int)) := Lib.hid (Box.new w1 S (N : Int))
      replace P := Lib.hid (P.out.alloc (.cells #[.string S, .int .i64 (N : Int)] 35))
      replace B := Lib.hid (B.out.alloc B.out.size (.cells #[.string S, .int .i64 (N : Int)] 35))
      have y0 := BY.out.c0; have y1 := BY.out.c1
      go_wp2_with fail
      clear y0 y1
      refine (CU.out _).mono ?_
      rintro e w2 ⟨rfl, b⟩
      replace P := Lib.hid (P.out.below b)
      replace BY := Lib.hid (BY.out.below b)
      replace B := Lib.hid (B.out.trans (b.mono B.out.size))
      clear b
      have BZ : Hid (Box (w2.alloc (.cells #[.string S3, .int .i64 N3] 35)) w2.heap.size S3 N3) := Lib.hid (Box.new w2 S3 N3)
      replace P := Lib.hid (P.out.alloc (.cells #[.string S3, .int .i64 N3] 35))
      replace BY := Lib.hid (BY.out.alloc (.cells #[.string S3, .int .i64 N3] 35))
      replace B := Lib.hid (B.out.alloc B.out.size (.cells #[.string S3, .int .i64 N3] 35))
      have y0 := BY.out.c0; have y1 := BY.out.c1
      go_wp2_with fail
      go_ret
      exact ⟨rfl, B.out⟩
    · obtain ⟨S3, hS3b⟩ : ∃ S3, S3 = packS (Y.take k) := ⟨_, rfl⟩
      rw [hE2, hS3, hN3, ← hS3b] at CU0
      have CU := Lib.hid CU0
      by_cases hkl : N ≤ k
      · have e1 : decide ((N : Int) ≤ (k : Int)) = true := decide_eq_true (by omega)
        have e2 : decide (N ≤ k) = true := decide_eq_true hkl
        clear CU0 hE2 hS3 hN3 T hl hcut hY hm hN hS3b hkl
        go_enter Try.func9, Try.ntmps9
        go_wp2_with fail
        refine (CL.out _).mono ?_
        rintro e w0 ⟨rfl, b⟩
        replace P := Lib.hid (P.out.below b)
        replace B := Lib.hid (B.out.trans (b.mono B.out.size))
        clear b
        go_wp2_with fail
        refine (CW.out _ P.out).mono ?_
        rintro e w1 ⟨rfl, b⟩
        replace P := Lib.hid (P.out.below b)
        replace B := Lib.hid (B.out.trans (b.mono B.out.size))
        clear b
        have BY : Hid (Box (w1.alloc (.cells #[.string S, .int .i64 (N : Int)] 35)) w1.heap.size S (N : Int)) := Lib.hid (Box.new w1 S (N : Int))
        replace P := Lib.hid (P.out.alloc (.cells #[.string S, .int .i64 (N : Int)] 35))
        replace B := Lib.hid (B.out.alloc B.out.size (.cells #[.string S, .int .i64 (N : Int)] 35))
        have y0 := BY.out.c0; have y1 := BY.out.c1
        go_wp2_with fail
        clear y0 y1
        refine (CU.out _).mono ?_
        rintro e w2 ⟨rfl, b⟩
        replace P := Lib.hid (P.out.below b)
        replace BY := Lib.hid (BY.out.below b)
        replace B := Lib.hid (B.out.trans (b.mono B.out.size))
        clear b
        have BZ : Hid (Box (w2.alloc (.cells #[.string S3, .int .i64 (k : Int)] 35)) w2.heap.size S3 (k : Int)) := Lib.hid (Box.new w2 S3 (k : Int))
        replace P := Lib.hid (P.out.alloc (.cells #[.string S3, .int .i64 (k : Int)] 35))
        replace BY := Lib.hid (BY.out.alloc (.cells #[.string S3, .int .i64 (k : Int)] 35))
        replace B := Lib.hid (B.out.alloc B.out.size (.cells #[.string S3, .int .i64 (k : Int)] 35))
        have y0 := BY.out.c0; have y1 := BY.out.c1
        go_wp2_with fail
        go_ret
        exact ⟨rfl, B.out⟩
      · have e1 : decide ((N : Int) ≤ (k : Int)) = false := decide_eq_false (by omega)
        have e2 : decide (N ≤ k) = false := decide_eq_false hkl
        have hc := hcut k (by omega)
        rw [← hS3b] at hc
        have hsz : S3.size ≤ maxLen := by
          have := packS_size (X := Y.take k) (by rw [List.length_take]; omega)
          rw [hS3b]; unfold maxLen; omega
        have CR : Hid (∀ W, Calls Try.prog 27 #[.agg #[.string S3, .int .i64 (k : Int)], .int .i64 0, .int .i64 (m : Int)] W (RlN W 0 [] 0 5)) := Lib.hid (fun W => rln_of (L := []) (a := 0) (r := 5) (by rw [hm]; exact hc) rfl (T.read S3 (k : Int) 0 (m : Int) W hsz (by omega) (by omega)))
        clear CU0 hE2 hS3 hN3 T hl hcut hY hm hN hS3b hkl hc hsz
        go_enter Try.func9, Try.ntmps9
        go_wp2_with fail
        refine (CL.out _).mono ?_
        rintro e w0 ⟨rfl, b⟩
        replace P := Lib.hid (P.out.below b)
        replace B := Lib.hid (B.out.trans (b.mono B.out.size))
        clear b
        go_wp2_with fail
        refine (CW.out _ P.out).mono ?_
        rintro e w1 ⟨rfl, b⟩
        replace P := Lib.hid (P.out.below b)
        replace B := Lib.hid (B.out.trans (b.mono B.out.size))
        clear b
        have BY : Hid (Box (w1.alloc (.cells #[.string S, .int .i64 (N : Int)] 35)) w1.heap.size S (N : Int)) := Lib.hid (Box.new w1 S (N : Int))
        replace P := Lib.hid (P.out.alloc (.cells #[.string S, .int .i64 (N : Int)] 35))
        replace B := Lib.hid (B.out.alloc B.out.size (.cells #[.string S, .int .i64 (N : Int)] 35))
        have y0 := BY.out.c0; have y1 := BY.out.c1
        go_wp2_with fail
        clear y0 y1
        refine (CU.out _).mono ?_
        rintro e w2 ⟨rfl, b⟩
        replace P := Lib.hid (P.out.below b)
        replace BY := Lib.hid (BY.out.below b)
        replace B := Lib.hid (B.out.trans (b.mono B.out.size))
        clear b
        have BZ : Hid (Box (w2.alloc (.cells #[.string S3, .int .i64 (k : Int)] 35)) w2.heap.size S3 (k : Int)) := Lib.hid (Box.new w2 S3 (k : Int))
        replace P := Lib.hid (P.out.alloc (.cells #[.string S3, .int .i64 (k : Int)] 35))
        replace BY := Lib.hid (BY.out.alloc (.cells #[.string S3, .int .i64 (k : Int)] 35))
        replace B := Lib.hid (B.out.alloc B.out.size (.cells #[.string S3, .int .i64 (k : Int)] 35))
        have y0 := BY.out.c0; have y1 := BY.out.c1; have z0 := BZ.out.c0; have z1 := BZ.out.c1
        go_wp2_with fail
        clear y0 y1 z0 z1
        refine (CR.out _).mono ?_
        rintro e w3 ⟨q2, c2, rfl, hc2, r2, b⟩
        replace P := Lib.hid (P.out.below b)
        replace BY := Lib.hid (BY.out.below b)
        replace BZ := Lib.hid (BZ.out.below b)
        replace B := Lib.hid (B.out.trans (b.mono B.out.size))
        clear b
        clear r2
        go_wp2_with fail
        go_ret
        exact ⟨rfl, B.out⟩
end Go.Proofs.Ytjnehpkkkmicfaa.Tb2

/- The law TableBack. -/
import Derived.Test.YtjnehpkkkmicfaaBnN
import Derived.Test.YtjnehpkkkmicfaaBnC
namespace Go.Proofs.Ytjnehpkkkmicfaa.Tb2
open Go.RowKit Go.Lib Rw Ls Od _root_.Go.Proofs.Ytjnehpkkkmicfaa.Nm Pk Bt Cn

theorem tw_one {l : List Nat} (h0 : l ≠ []) (hok : okC (up l)) (hb : (tbl l).length ≤ 1048576) : twR ⟨#[]⟩ 0 (up l) = (packS (tbl l), ((tbl l).length : Int), 0) := by
  have h1 : chk ⟨#[]⟩ 0 = 0 := by decide +kernel
  have h2 : bl (Bt.bytes ⟨#[]⟩) (0 : Int).toNat = [] := by decide +kernel
  unfold twR
  rw [nats_up, if_pos h1, if_pos ⟨fun h => h0 (by unfold up at h; simpa using h), hok⟩, if_pos (by omega), h2]
  simp
theorem same_up (L : List Int) (n : Nat) (hl : L.length = n) (hb : n ≤ 17592186044416) (p : Option Addr) (c : Nat) (q : Option Addr) (d : Nat) (W : World) (h1 : Rd W p (zs L)) (h2 : Rd W q (zs L)) :
    Calls Try.prog 29 #[.slice p n c, .slice q n d] W fun e w' => e = .returned (.bool true) ∧ Below W.heap.size W w' := by
  subst hl
  have h := samenum_any L L p q c d W h1 h2 (by omega) (by omega)
  refine h.mono fun e w' (h : _ ∧ _) => ⟨by have := h.1; simpa using this, by first | exact h.2 | (rw [h.2]; exact Below.refl _ _) | (obtain ⟨j, h3⟩ := h.2; rw [h3]; exact below_drewN (Below.refl _ _) j)⟩
set_option maxHeartbeats 8000000 in
set_option maxRecDepth 100000 in
theorem back_law (T : TblC) (s : ByteArray) (n : Int) (ls : List Int) (z k : Int) (p : Option Addr) (c : Nat) (w : World) (hs : s.size ≤ maxLen) (hp : Rd w p (zs ls)) (hl : ls.length ≤ 17592186044416) (hz : -9223372036854775808 ≤ z ∧ z ≤ 9223372036854775807) (hk : -9223372036854775808 ≤ k ∧ k ≤ 9223372036854775807) (hn : -9223372036854775808 ≤ n ∧ n ≤ 9223372036854775807) :
    Calls Try.prog 8 #[.agg #[.string s, .int .i64 n], .slice p ls.length c, .int .i64 z, .int .i64 k] w fun e w' => e = .returned (.bool true) ∧ Below w.heap.size w w' := by
  have CL := Lib.hid (fun W => lives_any T W)
  have CW0 : ∀ W, Rd W p (zs ls) → Calls Try.prog 26 #[.agg #[.string s, .int .i64 n], .slice p ls.length c] W (WrP W (twR s n ls)) := fun W h => T.write s n ls p c W hs h hl
  have CR0 : ∀ W, Calls Try.prog 27 #[.agg #[.string s, .int .i64 n], .int .i64 z, .int .i64 k] W (RlP W (trR s n z k)) := fun W => T.read s n z k W hs hz hk
  have BX : Hid (Box (w.alloc (.cells #[.string s, .int .i64 n] 35)) w.heap.size s n) := Lib.hid (Box.new w s n)
  have P := Lib.hid hp
  have c1 := tw_cases s n ls
  have c2 := tr_cases s n z k
  obtain ⟨m, hm⟩ : ∃ m, m = ls.length := ⟨_, rfl⟩
  rw [← hm] at CW0 hl ⊢
  have HM := Lib.hid hm
  have B : Hid (Below w.heap.size w w) := Lib.hid (Below.refl _ _)
  rcases c1 with c1 | c1
  · obtain ⟨S, N, E, he, hE, _⟩ := c1
    rw [he] at CW0
    have CW := Lib.hid CW0
    have e1 : (E == 0) = false := by rw [beq_eq_false_iff_ne]; exact hE
    have e2 : (E != 0) = true := by rw [bne_iff_ne]; exact hE
    clear CW0 he hE
    rcases c2 with c2 | c2
    · obtain ⟨E2, he2, hE2⟩ := c2
      have CR : Hid (∀ W, Calls Try.prog 27 #[.agg #[.string s, .int .i64 n], .int .i64 z, .int .i64 k] W (RlN W 0 [] 0 E2)) := Lib.hid (fun W => rln_of he2 rfl (CR0 W))
      have f1 : (E2 == 0) = false := by rw [beq_eq_false_iff_ne]; exact hE2
      have f2 : (E2 != 0) = true := by rw [bne_iff_ne]; exact hE2
      clear CR0 he2 hE2
      clear T hl hz hk hn hm
      go_enter Try.func8, Try.ntmps8
      go_wp2_with fail
      refine (CL.out _).mono ?_
      rintro e w0 ⟨rfl, b⟩
      replace BX := Lib.hid (BX.out.below b)
      replace P := Lib.hid ((P.out.alloc _).below b)
      replace B := Lib.hid ((B.out.alloc (B.out.size) _).trans (b.mono (B.out.alloc (B.out.size) _).size))
      clear b
      have b0 := BX.out.c0; have b1 := BX.out.c1
      go_wp2_with fail
      clear b0 b1
      refine (CW.out _ P.out).mono ?_
      rintro e w1 ⟨rfl, b⟩
      replace P := Lib.hid (P.out.below b)
      replace BX := Lib.hid (BX.out.below b)
      replace B := Lib.hid (B.out.trans (b.mono B.out.size))
      clear b
      have BY : Hid (Box (w1.alloc (.cells #[.string S, .int .i64 N] 35)) w1.heap.size S N) := Lib.hid (Box.new w1 S N)
      replace P := Lib.hid (P.out.alloc (.cells #[.string S, .int .i64 N] 35))
      replace BX := Lib.hid (BX.out.alloc (.cells #[.string S, .int .i64 N] 35))
      replace B := Lib.hid (B.out.alloc B.out.size (.cells #[.string S, .int .i64 N] 35))
      have b0 := BX.out.c0; have b1 := BX.out.c1; have y0 := BY.out.c0; have y1 := BY.out.c1
      go_wp2_with fail
      clear b0 b1 y0 y1
      refine (CR.out _).mono ?_
      rintro e w2 ⟨q2, c2, rfl, hc2, r2, b⟩
      replace P := Lib.hid (P.out.below b)
      replace BX := Lib.hid (BX.out.below b)
      replace BY := Lib.hid (BY.out.below b)
      replace B := Lib.hid (B.out.trans (b.mono B.out.size))
      have R2 := Lib.hid r2
      clear b r2
      go_wp2_with fail
      go_ret
      exact ⟨rfl, B.out⟩
    · obtain ⟨k1, k2, k3, k4, k5, l, R, hd, ho, hll, h15, he2⟩ := c2
      have hR2 := chk_zero k1
      obtain ⟨a, rfl⟩ := Int.eq_ofNat_of_zero_le k2
      obtain ⟨kn, rfl⟩ := Int.eq_ofNat_of_zero_le (show 0 ≤ k by omega)
      rw [Int.toNat_natCast] at hd hll
      have hlen := congrArg List.length hd
      rw [List.length_drop, bl_length, List.length_append] at hlen
      have htb : (tbl l).length ≤ 1048576 := by have := hR2.2.1; omega
      have hw1 := tw_one (l := l) (fun h => by rw [h] at hll; simp at hll; omega) ho htb
      have hcE : cutE s n (a : Int) ((tbl l).length : Nat) = 0 := by
        unfold cutE
        rw [if_neg (by rw [k1]; simp), if_neg (by omega), if_neg (by omega)]
      have hcS : cutS s n (a : Int) ((tbl l).length : Nat) = packS (tbl l) := by
        unfold cutS
        rw [if_pos hcE, Int.toNat_natCast, Int.toNat_natCast, hd, List.take_left]
      have hcN : cutN s n (a : Int) ((tbl l).length : Nat) = ((tbl l).length : Nat) := by unfold cutN; rw [if_pos hcE]
      obtain ⟨S2, hS2⟩ : ∃ S2, S2 = packS (tbl l) := ⟨_, rfl⟩
      obtain ⟨tl2, htl⟩ : ∃ tl2, tl2 = (tbl l).length := ⟨_, rfl⟩
      rw [← htl] at hw1 hcE hcS hcN he2 htb
      rw [← hS2] at hw1 hcS
      obtain ⟨K, hK⟩ : ∃ K : Nat, K = a + tl2 := ⟨_, rfl⟩
      have hKz : (a : Int) + (tl2 : Int) = (K : Int) := by omega
      rw [hKz] at he2
      have CR : Hid (∀ W, Calls Try.prog 27 #[.agg #[.string s, .int .i64 n], .int .i64 (a : Int), .int .i64 (kn : Int)] W (RlN W kn l (K : Int) 0)) := Lib.hid (fun W => rln_of he2 hll (CR0 W))
      have CY : Hid (∀ q d W, Rd W q (zs (up l)) → Calls Try.prog 26 #[.agg #[.string ⟨#[]⟩, .int .i64 0], .slice q kn d] W (WrP W (S2, (tl2 : Int), 0))) := Lib.hid (fun q d W h => by
        rw [← hw1]
        have := T.write ⟨#[]⟩ 0 (up l) q d W (by decide) h (by rw [up_length]; omega)
        rw [up_length, hll] at this
        exact this)
      have CU := Lib.hid (fun W => cut_any s n (a : Int) (tl2 : Int) W hs)
      rw [hcE, hcS, hcN] at CU
      have CK : Hid (∀ q d W, Rd W q (zs (up l)) → Calls Try.prog 17 #[.slice q kn d] W fun e w' => e = .returned (.int .i64 0) ∧ Below W.heap.size W w') := Lib.hid (fun q d W h => by
        have := pcheckc_any (up l) q d W h (by rw [up_length]; omega)
        unfold chkC at this
        rw [if_pos ho, up_length, hll] at this
        exact this)
      have g1 : (K : Int) - (a : Int) = (tl2 : Int) := by omega
      have g2 : IntKind.i64.wrap (tl2 : Int) = (tl2 : Int) := IntWalk.i64_in _ (by omega)
      have g3 : ((kn : Int) == (kn : Int)) = true := by simp
      clear CR0 he2 hd ho hll h15 hlen hw1 hcE hcS hcN hS2 htl hK hKz k1 k2 k3 k4 k5 hR2 htb
      clear T hl hz hk hn hm
      go_enter Try.func8, Try.ntmps8
      go_wp2_with fail
      refine (CL.out _).mono ?_
      rintro e w0 ⟨rfl, b⟩
      replace BX := Lib.hid (BX.out.below b)
      replace P := Lib.hid ((P.out.alloc _).below b)
      replace B := Lib.hid ((B.out.alloc (B.out.size) _).trans (b.mono (B.out.alloc (B.out.size) _).size))
      clear b
      have b0 := BX.out.c0; have b1 := BX.out.c1
      go_wp2_with fail
      clear b0 b1
      refine (CW.out _ P.out).mono ?_
      rintro e w1 ⟨rfl, b⟩
      replace P := Lib.hid (P.out.below b)
      replace BX := Lib.hid (BX.out.below b)
      replace B := Lib.hid (B.out.trans (b.mono B.out.size))
      clear b
      have BY : Hid (Box (w1.alloc (.cells #[.string S, .int .i64 N] 35)) w1.heap.size S N) := Lib.hid (Box.new w1 S N)
      replace P := Lib.hid (P.out.alloc (.cells #[.string S, .int .i64 N] 35))
      replace BX := Lib.hid (BX.out.alloc (.cells #[.string S, .int .i64 N] 35))
      replace B := Lib.hid (B.out.alloc B.out.size (.cells #[.string S, .int .i64 N] 35))
      have b0 := BX.out.c0; have b1 := BX.out.c1; have y0 := BY.out.c0; have y1 := BY.out.c1
      go_wp2_with fail
      clear b0 b1 y0 y1
      refine (CR.out _).mono ?_
      rintro e w2 ⟨q2, c2, rfl, hc2, r2, b⟩
      replace P := Lib.hid (P.out.below b)
      replace BX := Lib.hid (BX.out.below b)
      replace BY := Lib.hid (BY.out.below b)
      replace B := Lib.hid (B.out.trans (b.mono B.out.size))
      have R2 := Lib.hid r2
      clear b r2
      go_wp2_with fail
      refine (CY.out _ _ _ R2.out).mono ?_
      rintro e w3 ⟨rfl, b⟩
      replace P := Lib.hid (P.out.below b)
      replace BX := Lib.hid (BX.out.below b)
      replace BY := Lib.hid (BY.out.below b)
      replace R2 := Lib.hid (R2.out.below b)
      replace B := Lib.hid (B.out.trans (b.mono B.out.size))
      clear b
      have BV : Hid (Box (w3.alloc (.cells #[.string S2, .int .i64 (tl2 : Int)] 35)) w3.heap.size S2 (tl2 : Int)) := Lib.hid (Box.new w3 S2 (tl2 : Int))
      replace P := Lib.hid (P.out.alloc (.cells #[.string S2, .int .i64 (tl2 : Int)] 35))
      replace BX := Lib.hid (BX.out.alloc (.cells #[.string S2, .int .i64 (tl2 : Int)] 35))
      replace BY := Lib.hid (BY.out.alloc (.cells #[.string S2, .int .i64 (tl2 : Int)] 35))
      replace R2 := Lib.hid (R2.out.alloc (.cells #[.string S2, .int .i64 (tl2 : Int)] 35))
      replace B := Lib.hid (B.out.alloc B.out.size (.cells #[.string S2, .int .i64 (tl2 : Int)] 35))
      have b0 := BX.out.c0; have b1 := BX.out.c1
      go_wp2_with fail
      clear b0 b1
      refine (CU.out _).mono ?_
      rintro e w4 ⟨rfl, b⟩
      replace P := Lib.hid (P.out.below b)
      replace BX := Lib.hid (BX.out.below b)
      replace BY := Lib.hid (BY.out.below b)
      replace R2 := Lib.hid (R2.out.below b)
      replace BV := Lib.hid (BV.out.below b)
      replace B := Lib.hid (B.out.trans (b.mono B.out.size))
      clear b
      have BU : Hid (Box (w4.alloc (.cells #[.string S2, .int .i64 (tl2 : Int)] 35)) w4.heap.size S2 (tl2 : Int)) := Lib.hid (Box.new w4 S2 (tl2 : Int))
      replace P := Lib.hid (P.out.alloc (.cells #[.string S2, .int .i64 (tl2 : Int)] 35))
      replace BX := Lib.hid (BX.out.alloc (.cells #[.string S2, .int .i64 (tl2 : Int)] 35))
      replace BY := Lib.hid (BY.out.alloc (.cells #[.string S2, .int .i64 (tl2 : Int)] 35))
      replace R2 := Lib.hid (R2.out.alloc (.cells #[.string S2, .int .i64 (tl2 : Int)] 35))
      replace BV := Lib.hid (BV.out.alloc (.cells #[.string S2, .int .i64 (tl2 : Int)] 35))
      replace B := Lib.hid (B.out.alloc B.out.size (.cells #[.string S2, .int .i64 (tl2 : Int)] 35))
      go_wp2_with fail
      refine (CK.out _ _ _ R2.out).mono ?_
      rintro e w5 ⟨rfl, b⟩
      replace P := Lib.hid (P.out.below b)
      replace BX := Lib.hid (BX.out.below b)
      replace BY := Lib.hid (BY.out.below b)
      replace R2 := Lib.hid (R2.out.below b)
      replace BV := Lib.hid (BV.out.below b)
      replace BU := Lib.hid (BU.out.below b)
      replace B := Lib.hid (B.out.trans (b.mono B.out.size))
      clear b
      have v0 := BV.out.c0; have v1 := BV.out.c1; have u0 := BU.out.c0; have u1 := BU.out.c1
      go_wp2_with fail
      go_ret
      exact ⟨rfl, B.out⟩
  · obtain ⟨h1, h2, h3, h4, he⟩ := c1
    have hR := chk_zero h1
    have hwr := tr_written h1 h2 h3 h4
    have h512 := (rt_of h3).few
    have hsz : (packS (bl (Bt.bytes s) n.toNat ++ tbl (nats ls))).size ≤ maxLen := by
      have := packS_size (X := bl (Bt.bytes s) n.toNat ++ tbl (nats ls)) (by rw [List.length_append, bl_length]; have := hR.1; omega)
      unfold maxLen; omega
    have hts : tsR ls = (((tbl (nats ls)).length : Int), 0) := by unfold tsR; rw [if_pos ⟨h2, h3⟩]
    have hul : up (nats ls) = ls := up_nats fun z hz => (ok_all h3 z hz).1
    obtain ⟨S, hS⟩ : ∃ S, S = packS (bl (Bt.bytes s) n.toNat ++ tbl (nats ls)) := ⟨_, rfl⟩
    obtain ⟨tn, htn⟩ : ∃ tn, tn = (tbl (nats ls)).length := ⟨_, rfl⟩
    obtain ⟨M, hM⟩ : ∃ M, M = n + (tn : Int) := ⟨_, rfl⟩
    rw [← hS, ← htn, ← hM] at he hwr
    rw [← hS] at hsz
    rw [← htn] at hts h4
    have hM2 : M - n = (tn : Int) := by omega
    have hM3 : IntKind.i64.wrap (tn : Int) = (tn : Int) := IntWalk.i64_in _ (by have := hR.1; omega)
    rw [he] at CW0
    have CW := Lib.hid CW0
    have CX : Hid (∀ W, Calls Try.prog 27 #[.agg #[.string S, .int .i64 M], .int .i64 n, .int .i64 (m : Int)] W (RlN W m (nats ls) M 0)) := Lib.hid (fun W => rln_of (by rw [hm]; exact hwr) (by rw [nats_length, hm]) (T.read S M n (m : Int) W hsz hn (by omega)))
    have CZ : Hid (∀ W, Rd W p (zs ls) → Calls Try.prog 28 #[.slice p m c] W fun e w' => e = .returned (.tuple #[.int .i64 (tn : Int), .int .i64 0]) ∧ Below W.heap.size W w') := Lib.hid (fun W h => by
      have := T.size ls p c W h (by omega)
      rw [hts, ← hm] at this
      exact this)
    have CS := Lib.hid (fun p c q d W h1 h2 => same_up ls m hm.symm (by omega) p c q d W h1 h2)
    have HUL := Lib.hid hul
    have em : (M != M) = false := by simp
    have et : ((tn : Int) != (tn : Int)) = false := by simp
    clear CW0 he hwr hts hul hS htn hsz hM h1 h2 h3 h4 hR
    rcases c2 with c2 | c2
    · obtain ⟨E2, he2, hE2⟩ := c2
      have CR : Hid (∀ W, Calls Try.prog 27 #[.agg #[.string s, .int .i64 n], .int .i64 z, .int .i64 k] W (RlN W 0 [] 0 E2)) := Lib.hid (fun W => rln_of he2 rfl (CR0 W))
      have f1 : (E2 == 0) = false := by rw [beq_eq_false_iff_ne]; exact hE2
      have f2 : (E2 != 0) = true := by rw [bne_iff_ne]; exact hE2
      clear CR0 he2 hE2
      clear T hl hz hk hn hm
      go_enter Try.func8, Try.ntmps8
      go_wp2_with fail
      refine (CL.out _).mono ?_
      rintro e w0 ⟨rfl, b⟩
      replace BX := Lib.hid (BX.out.below b)
      replace P := Lib.hid ((P.out.alloc _).below b)
      replace B := Lib.hid ((B.out.alloc (B.out.size) _).trans (b.mono (B.out.alloc (B.out.size) _).size))
      clear b
      have b0 := BX.out.c0; have b1 := BX.out.c1
      go_wp2_with fail
      clear b0 b1
      refine (CW.out _ P.out).mono ?_
      rintro e w1 ⟨rfl, b⟩
      replace P := Lib.hid (P.out.below b)
      replace BX := Lib.hid (BX.out.below b)
      replace B := Lib.hid (B.out.trans (b.mono B.out.size))
      clear b
      have BY : Hid (Box (w1.alloc (.cells #[.string S, .int .i64 M] 35)) w1.heap.size S M) := Lib.hid (Box.new w1 S M)
      replace P := Lib.hid (P.out.alloc (.cells #[.string S, .int .i64 M] 35))
      replace BX := Lib.hid (BX.out.alloc (.cells #[.string S, .int .i64 M] 35))
      replace B := Lib.hid (B.out.alloc B.out.size (.cells #[.string S, .int .i64 M] 35))
      have b0 := BX.out.c0; have b1 := BX.out.c1; have y0 := BY.out.c0; have y1 := BY.out.c1
      go_wp2_with fail
      clear b0 b1 y0 y1
      refine (CX.out _).mono ?_
      rintro e w2 ⟨q1, c1, rfl, hc1, r1, b⟩
      replace P := Lib.hid (P.out.below b)
      replace BX := Lib.hid (BX.out.below b)
      replace BY := Lib.hid (BY.out.below b)
      replace B := Lib.hid (B.out.trans (b.mono B.out.size))
      clear b
      rw [HUL.out] at r1
      have R1 := Lib.hid r1
      clear r1
      go_wp2_with fail
      refine (CZ.out _ P.out).mono ?_
      rintro e w3 ⟨rfl, b⟩
      replace P := Lib.hid (P.out.below b)
      replace BX := Lib.hid (BX.out.below b)
      replace BY := Lib.hid (BY.out.below b)
      replace R1 := Lib.hid (R1.out.below b)
      replace B := Lib.hid (B.out.trans (b.mono B.out.size))
      clear b
      go_wp2_with fail
      refine (CS.out _ _ _ _ _ R1.out P.out).mono ?_
      rintro e w4 ⟨rfl, b⟩
      replace P := Lib.hid (P.out.below b)
      replace BX := Lib.hid (BX.out.below b)
      replace BY := Lib.hid (BY.out.below b)
      replace R1 := Lib.hid (R1.out.below b)
      replace B := Lib.hid (B.out.trans (b.mono B.out.size))
      clear b
      have b0 := BX.out.c0; have b1 := BX.out.c1; have y0 := BY.out.c0; have y1 := BY.out.c1
      go_wp2_with fail
      clear b0 b1 y0 y1
      refine (CR.out _).mono ?_
      rintro e w5 ⟨q2, c2, rfl, hc2, r2, b⟩
      replace P := Lib.hid (P.out.below b)
      replace BX := Lib.hid (BX.out.below b)
      replace BY := Lib.hid (BY.out.below b)
      replace R1 := Lib.hid (R1.out.below b)
      replace B := Lib.hid (B.out.trans (b.mono B.out.size))
      have R2 := Lib.hid r2
      clear b r2
      go_wp2_with fail
      go_ret
      exact ⟨rfl, B.out⟩
    · obtain ⟨k1, k2, k3, k4, k5, l, R, hd, ho, hll, h15, he2⟩ := c2
      have hR2 := chk_zero k1
      obtain ⟨a, rfl⟩ := Int.eq_ofNat_of_zero_le k2
      obtain ⟨kn, rfl⟩ := Int.eq_ofNat_of_zero_le (show 0 ≤ k by omega)
      rw [Int.toNat_natCast] at hd hll
      have hlen := congrArg List.length hd
      rw [List.length_drop, bl_length, List.length_append] at hlen
      have htb : (tbl l).length ≤ 1048576 := by have := hR2.2.1; omega
      have hw1 := tw_one (l := l) (fun h => by rw [h] at hll; simp at hll; omega) ho htb
      have hcE : cutE s n (a : Int) ((tbl l).length : Nat) = 0 := by
        unfold cutE
        rw [if_neg (by rw [k1]; simp), if_neg (by omega), if_neg (by omega)]
      have hcS : cutS s n (a : Int) ((tbl l).length : Nat) = packS (tbl l) := by
        unfold cutS
        rw [if_pos hcE, Int.toNat_natCast, Int.toNat_natCast, hd, List.take_left]
      have hcN : cutN s n (a : Int) ((tbl l).length : Nat) = ((tbl l).length : Nat) := by unfold cutN; rw [if_pos hcE]
      obtain ⟨S2, hS2⟩ : ∃ S2, S2 = packS (tbl l) := ⟨_, rfl⟩
      obtain ⟨tl2, htl⟩ : ∃ tl2, tl2 = (tbl l).length := ⟨_, rfl⟩
      rw [← htl] at hw1 hcE hcS hcN he2 htb
      rw [← hS2] at hw1 hcS
      obtain ⟨K, hK⟩ : ∃ K : Nat, K = a + tl2 := ⟨_, rfl⟩
      have hKz : (a : Int) + (tl2 : Int) = (K : Int) := by omega
      rw [hKz] at he2
      have CR : Hid (∀ W, Calls Try.prog 27 #[.agg #[.string s, .int .i64 n], .int .i64 (a : Int), .int .i64 (kn : Int)] W (RlN W kn l (K : Int) 0)) := Lib.hid (fun W => rln_of he2 hll (CR0 W))
      have CY : Hid (∀ q d W, Rd W q (zs (up l)) → Calls Try.prog 26 #[.agg #[.string ⟨#[]⟩, .int .i64 0], .slice q kn d] W (WrP W (S2, (tl2 : Int), 0))) := Lib.hid (fun q d W h => by
        rw [← hw1]
        have := T.write ⟨#[]⟩ 0 (up l) q d W (by decide) h (by rw [up_length]; omega)
        rw [up_length, hll] at this
        exact this)
      have CU := Lib.hid (fun W => cut_any s n (a : Int) (tl2 : Int) W hs)
      rw [hcE, hcS, hcN] at CU
      have CK : Hid (∀ q d W, Rd W q (zs (up l)) → Calls Try.prog 17 #[.slice q kn d] W fun e w' => e = .returned (.int .i64 0) ∧ Below W.heap.size W w') := Lib.hid (fun q d W h => by
        have := pcheckc_any (up l) q d W h (by rw [up_length]; omega)
        unfold chkC at this
        rw [if_pos ho, up_length, hll] at this
        exact this)
      have g1 : (K : Int) - (a : Int) = (tl2 : Int) := by omega
      have g2 : IntKind.i64.wrap (tl2 : Int) = (tl2 : Int) := IntWalk.i64_in _ (by omega)
      have g3 : ((kn : Int) == (kn : Int)) = true := by simp
      clear CR0 he2 hd ho hll h15 hlen hw1 hcE hcS hcN hS2 htl hK hKz k1 k2 k3 k4 k5 hR2 htb
      clear T hl hz hk hn hm
      go_enter Try.func8, Try.ntmps8
      go_wp2_with fail
      refine (CL.out _).mono ?_
      rintro e w0 ⟨rfl, b⟩
      replace BX := Lib.hid (BX.out.below b)
      replace P := Lib.hid ((P.out.alloc _).below b)
      replace B := Lib.hid ((B.out.alloc (B.out.size) _).trans (b.mono (B.out.alloc (B.out.size) _).size))
      clear b
      have b0 := BX.out.c0; have b1 := BX.out.c1
      go_wp2_with fail
      clear b0 b1
      refine (CW.out _ P.out).mono ?_
      rintro e w1 ⟨rfl, b⟩
      replace P := Lib.hid (P.out.below b)
      replace BX := Lib.hid (BX.out.below b)
      replace B := Lib.hid (B.out.trans (b.mono B.out.size))
      clear b
      have BY : Hid (Box (w1.alloc (.cells #[.string S, .int .i64 M] 35)) w1.heap.size S M) := Lib.hid (Box.new w1 S M)
      replace P := Lib.hid (P.out.alloc (.cells #[.string S, .int .i64 M] 35))
      replace BX := Lib.hid (BX.out.alloc (.cells #[.string S, .int .i64 M] 35))
      replace B := Lib.hid (B.out.alloc B.out.size (.cells #[.string S, .int .i64 M] 35))
      have b0 := BX.out.c0; have b1 := BX.out.c1; have y0 := BY.out.c0; have y1 := BY.out.c1
      go_wp2_with fail
      clear b0 b1 y0 y1
      refine (CX.out _).mono ?_
      rintro e w2 ⟨q1, c1, rfl, hc1, r1, b⟩
      replace P := Lib.hid (P.out.below b)
      replace BX := Lib.hid (BX.out.below b)
      replace BY := Lib.hid (BY.out.below b)
      replace B := Lib.hid (B.out.trans (b.mono B.out.size))
      clear b
      rw [HUL.out] at r1
      have R1 := Lib.hid r1
      clear r1
      go_wp2_with fail
      refine (CZ.out _ P.out).mono ?_
      rintro e w3 ⟨rfl, b⟩
      replace P := Lib.hid (P.out.below b)
      replace BX := Lib.hid (BX.out.below b)
      replace BY := Lib.hid (BY.out.below b)
      replace R1 := Lib.hid (R1.out.below b)
      replace B := Lib.hid (B.out.trans (b.mono B.out.size))
      clear b
      go_wp2_with fail
      refine (CS.out _ _ _ _ _ R1.out P.out).mono ?_
      rintro e w4 ⟨rfl, b⟩
      replace P := Lib.hid (P.out.below b)
      replace BX := Lib.hid (BX.out.below b)
      replace BY := Lib.hid (BY.out.below b)
      replace R1 := Lib.hid (R1.out.below b)
      replace B := Lib.hid (B.out.trans (b.mono B.out.size))
      clear b
      have b0 := BX.out.c0; have b1 := BX.out.c1; have y0 := BY.out.c0; have y1 := BY.out.c1
      go_wp2_with fail
      clear b0 b1 y0 y1
      refine (CR.out _).mono ?_
      rintro e w5 ⟨q2, c2, rfl, hc2, r2, b⟩
      replace P := Lib.hid (P.out.below b)
      replace BX := Lib.hid (BX.out.below b)
      replace BY := Lib.hid (BY.out.below b)
      replace R1 := Lib.hid (R1.out.below b)
      replace B := Lib.hid (B.out.trans (b.mono B.out.size))
      have R2 := Lib.hid r2
      clear b r2
      go_wp2_with fail
      refine (CY.out _ _ _ R2.out).mono ?_
      rintro e w6 ⟨rfl, b⟩
      replace P := Lib.hid (P.out.below b)
      replace BX := Lib.hid (BX.out.below b)
      replace BY := Lib.hid (BY.out.below b)
      replace R1 := Lib.hid (R1.out.below b)
      replace R2 := Lib.hid (R2.out.below b)
      replace B := Lib.hid (B.out.trans (b.mono B.out.size))
      clear b
      have BV : Hid (Box (w6.alloc (.cells #[.string S2, .int .i64 (tl2 : Int)] 35)) w6.heap.size S2 (tl2 : Int)) := Lib.hid (Box.new w6 S2 (tl2 : Int))
      replace P := Lib.hid (P.out.alloc (.cells #[.string S2, .int .i64 (tl2 : Int)] 35))
      replace BX := Lib.hid (BX.out.alloc (.cells #[.string S2, .int .i64 (tl2 : Int)] 35))
      replace BY := Lib.hid (BY.out.alloc (.cells #[.string S2, .int .i64 (tl2 : Int)] 35))
      replace R1 := Lib.hid (R1.out.alloc (.cells #[.string S2, .int .i64 (tl2 : Int)] 35))
      replace R2 := Lib.hid (R2.out.alloc (.cells #[.string S2, .int .i64 (tl2 : Int)] 35))
      replace B := Lib.hid (B.out.alloc B.out.size (.cells #[.string S2, .int .i64 (tl2 : Int)] 35))
      have b0 := BX.out.c0; have b1 := BX.out.c1
      go_wp2_with fail
      clear b0 b1
      refine (CU.out _).mono ?_
      rintro e w7 ⟨rfl, b⟩
      replace P := Lib.hid (P.out.below b)
      replace BX := Lib.hid (BX.out.below b)
      replace BY := Lib.hid (BY.out.below b)
      replace R1 := Lib.hid (R1.out.below b)
      replace R2 := Lib.hid (R2.out.below b)
      replace BV := Lib.hid (BV.out.below b)
      replace B := Lib.hid (B.out.trans (b.mono B.out.size))
      clear b
      have BU : Hid (Box (w7.alloc (.cells #[.string S2, .int .i64 (tl2 : Int)] 35)) w7.heap.size S2 (tl2 : Int)) := Lib.hid (Box.new w7 S2 (tl2 : Int))
      replace P := Lib.hid (P.out.alloc (.cells #[.string S2, .int .i64 (tl2 : Int)] 35))
      replace BX := Lib.hid (BX.out.alloc (.cells #[.string S2, .int .i64 (tl2 : Int)] 35))
      replace BY := Lib.hid (BY.out.alloc (.cells #[.string S2, .int .i64 (tl2 : Int)] 35))
      replace R1 := Lib.hid (R1.out.alloc (.cells #[.string S2, .int .i64 (tl2 : Int)] 35))
      replace R2 := Lib.hid (R2.out.alloc (.cells #[.string S2, .int .i64 (tl2 : Int)] 35))
      replace BV := Lib.hid (BV.out.alloc (.cells #[.string S2, .int .i64 (tl2 : Int)] 35))
      replace B := Lib.hid (B.out.alloc B.out.size (.cells #[.string S2, .int .i64 (tl2 : Int)] 35))
      go_wp2_with fail
      refine (CK.out _ _ _ R2.out).mono ?_
      rintro e w8 ⟨rfl, b⟩
      replace P := Lib.hid (P.out.below b)
      replace BX := Lib.hid (BX.out.below b)
      replace BY := Lib.hid (BY.out.below b)
      replace R1 := Lib.hid (R1.out.below b)
      replace R2 := Lib.hid (R2.out.below b)
      replace BV := Lib.hid (BV.out.below b)
      replace BU := Lib.hid (BU.out.below b)
      replace B := Lib.hid (B.out.trans (b.mono B.out.size))
      clear b
      have v0 := BV.out.c0; have v1 := BV.out.c1; have u0 := BU.out.c0; have u1 := BU.out.c1
      go_wp2_with fail
      go_ret
      exact ⟨rfl, B.out⟩
end Go.Proofs.Ytjnehpkkkmicfaa.Tb2

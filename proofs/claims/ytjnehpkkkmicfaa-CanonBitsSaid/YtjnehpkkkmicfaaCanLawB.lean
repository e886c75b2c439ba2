/- The law CanonBits. -/
import Derived.Test.YtjnehpkkkmicfaaBnM
namespace Go.Proofs.Ytjnehpkkkmicfaa.Cn
open Go.RowKit Go.Lib Rw Ls Od _root_.Go.Proofs.Ytjnehpkkkmicfaa.Nm Pk Bt

set_option maxHeartbeats 4000000 in
set_option maxRecDepth 100000 in
theorem bits_mid (s : ByteArray) (N z : Int) (n : Nat) (p : Option Addr) (c : Nat) (q : Option Addr) (m d : Nat) (w : World) (h1 : 60 < n) (h2 : n ≤ 512) :
    Calls Try.prog 4 #[.agg #[.string s, .int .i64 N], .int .i64 z, .slice p n c, .slice q m d] w fun e w' => e = .returned (.bool true) ∧ Below w.heap.size w w' := by
  have CL := Lib.hid (fun W => lives_any W)
  have t1 : decide ((60 : Int) < (n : Int)) = true := decide_eq_true (by omega)
  have t2 : decide (60 < n) = true := decide_eq_true h1
  have t3 : decide ((n : Int) ≤ 512) = true := decide_eq_true (by omega)
  have t4 : decide (n ≤ 512) = true := decide_eq_true h2
  clear h1 h2
  have B : Hid (Below w.heap.size w w) := Lib.hid (Below.refl _ _)
  go_enter Try.func4, Try.ntmps4
  go_wp2_with fail
  refine (CL.out _).mono ?_
  rintro e w0 ⟨rfl, b⟩
  replace B := Lib.hid ((B.out.alloc (B.out.size) _).trans (b.mono (B.out.alloc (B.out.size) _).size))
  clear b
  go_wp2_with fail
  go_ret
  exact ⟨rfl, B.out⟩
set_option maxHeartbeats 4000000 in
set_option maxRecDepth 100000 in
theorem bits_law (s : ByteArray) (N z : Int) (ls : List Int) (sy : List Nat) (p q : Option Addr) (c d : Nat) (w : World) (hs : s.size ≤ maxLen) (hp : Rd w p (zs ls)) (hq : Rd w q (nums sy)) (hl : ls.length ≤ 17592186044416) (hm : sy.length ≤ 17592186044416) (hsb : ∀ x ∈ sy, x < 18446744073709551616) :
    Calls Try.prog 4 #[.agg #[.string s, .int .i64 N], .int .i64 z, .slice p ls.length c, .slice q sy.length d] w fun e w' => e = .returned (.bool true) ∧ Below w.heap.size w w' := by
  by_cases hmid : 60 < ls.length ∧ ls.length ≤ 512
  · exact bits_mid s N z _ p c q _ d w hmid.1 hmid.2
  have CL := Lib.hid (fun W => lives_any W)
  have CA0 : ∀ W, Rd W p (zs ls) → Rd W q (nums sy) → Calls Try.prog 19 #[.agg #[.string s, .int .i64 N], .slice p ls.length c, .slice q sy.length d] W (WrP W (wrR s N ls sy)) := fun W h1 h2 => pwrite_any s N ls sy p q c d W hs h1 h2 hl hm hsb
  have CB0 : ∀ W, Rd W p (zs ls) → Rd W q (nums sy) → Calls Try.prog 20 #[.agg #[.string s, .int .i64 N], .slice p ls.length c, .slice q sy.length d] W (WrP W (wrR s N ls sy)) := fun W h1 h2 => rwrite_any s N ls sy p q c d W hs h1 h2 hl hm hsb
  have CC0 : ∀ W, Rd W p (zs ls) → Calls Try.prog 21 #[.agg #[.string s, .int .i64 N], .int .i64 z, .slice p ls.length c] W (RdP W (rdR s N z ls)) := fun W h1 => pread_any s N z ls p c W hs h1 hl
  have CD0 : ∀ W, Rd W p (zs ls) → Calls Try.prog 22 #[.agg #[.string s, .int .i64 N], .int .i64 z, .slice p ls.length c] W (RdP W (rdR s N z ls)) := fun W h1 => rread_any s N z ls p c W hs h1 hl
  generalize wrR s N ls sy = o1 at CA0 CB0
  generalize rdR s N z ls = o2 at CC0 CD0
  obtain ⟨S1, N1, E1⟩ := o1
  obtain ⟨a1, b1, e1⟩ := o2
  obtain ⟨n, hn⟩ : ∃ n, n = ls.length := ⟨_, rfl⟩
  obtain ⟨m, hm2⟩ : ∃ m, m = sy.length := ⟨_, rfl⟩
  rw [← hn] at CA0 CB0 CC0 CD0 hmid hl ⊢
  rw [← hm2] at CA0 CB0 hm ⊢
  have CA := Lib.hid CA0; have CB := Lib.hid CB0; have CC := Lib.hid CC0; have CD := Lib.hid CD0
  have P := Lib.hid hp; have Q := Lib.hid hq
  have BX : Hid (Box (w.alloc (.cells #[.string s, .int .i64 N] 35)) w.heap.size s N) := Lib.hid (Box.new w s N)
  have hor : (decide ((60 : Int) < (n : Int)) = false ∧ decide (60 < n) = false) ∨ (decide ((60 : Int) < (n : Int)) = true ∧ decide (60 < n) = true ∧ decide ((n : Int) ≤ 512) = false ∧ decide (n ≤ 512) = false) := by
    by_cases h : 60 < n
    · exact .inr ⟨decide_eq_true (by omega), decide_eq_true h, decide_eq_false (by omega), decide_eq_false (by omega)⟩
    · exact .inl ⟨decide_eq_false (by omega), decide_eq_false h⟩
  clear CA0 CB0 CC0 CD0 hp hq hl hm hmid hn hm2 hsb
  rcases hor with ⟨t1, t2⟩ | ⟨t1, t2, t3, t4⟩
  all_goals
    have B : Hid (Below w.heap.size w w) := Lib.hid (Below.refl _ _)
    go_enter Try.func4, Try.ntmps4
    go_wp2_with fail
    refine (CA.out _ (P.out.alloc _) (Q.out.alloc _)).mono ?_
    rintro e w0 ⟨rfl, b⟩
    replace P := Lib.hid ((P.out.alloc _).below b)
    replace Q := Lib.hid ((Q.out.alloc _).below b)
    replace B := Lib.hid ((B.out.alloc (B.out.size) _).trans (b.mono (B.out.alloc (B.out.size) _).size))
    replace BX := Lib.hid (BX.out.below b)
    clear b
    have BY : Hid (Box (w0.alloc (.cells #[.string S1, .int .i64 N1] 35)) w0.heap.size S1 N1) := Lib.hid (Box.new w0 S1 N1)
    replace P := Lib.hid (P.out.alloc (.cells #[.string S1, .int .i64 N1] 35))
    replace Q := Lib.hid (Q.out.alloc (.cells #[.string S1, .int .i64 N1] 35))
    replace BX := Lib.hid (BX.out.alloc (.cells #[.string S1, .int .i64 N1] 35))
    replace B := Lib.hid (B.out.alloc B.out.size (.cells #[.string S1, .int .i64 N1] 35))
    have b0 := BX.out.c0; have b1x := BX.out.c1
    go_wp2_with fail
    clear b0 b1x
    refine (CB.out _ P.out Q.out).mono ?_
    rintro e w1 ⟨rfl, b⟩
    replace P := Lib.hid (P.out.below b)
    replace Q := Lib.hid (Q.out.below b)
    replace BX := Lib.hid (BX.out.below b)
    replace BY := Lib.hid (BY.out.below b)
    replace B := Lib.hid (B.out.trans (b.mono B.out.size))
    clear b
    have BZ : Hid (Box (w1.alloc (.cells #[.string S1, .int .i64 N1] 35)) w1.heap.size S1 N1) := Lib.hid (Box.new w1 S1 N1)
    replace P := Lib.hid (P.out.alloc (.cells #[.string S1, .int .i64 N1] 35))
    replace Q := Lib.hid (Q.out.alloc (.cells #[.string S1, .int .i64 N1] 35))
    replace BX := Lib.hid (BX.out.alloc (.cells #[.string S1, .int .i64 N1] 35))
    replace BY := Lib.hid (BY.out.alloc (.cells #[.string S1, .int .i64 N1] 35))
    replace B := Lib.hid (B.out.alloc B.out.size (.cells #[.string S1, .int .i64 N1] 35))
    have b0 := BX.out.c0; have b1x := BX.out.c1
    go_wp2_with fail
    clear b0 b1x
    refine (CC.out _ P.out).mono ?_
    rintro e w2 ⟨rfl, b⟩
    replace P := Lib.hid (P.out.below b)
    replace Q := Lib.hid (Q.out.below b)
    replace BX := Lib.hid (BX.out.below b)
    replace BY := Lib.hid (BY.out.below b)
    replace BZ := Lib.hid (BZ.out.below b)
    replace B := Lib.hid (B.out.trans (b.mono B.out.size))
    clear b
    have b0 := BX.out.c0; have b1x := BX.out.c1
    go_wp2_with fail
    clear b0 b1x
    refine (CD.out _ P.out).mono ?_
    rintro e w3 ⟨rfl, b⟩
    replace P := Lib.hid (P.out.below b)
    replace Q := Lib.hid (Q.out.below b)
    replace BX := Lib.hid (BX.out.below b)
    replace BY := Lib.hid (BY.out.below b)
    replace BZ := Lib.hid (BZ.out.below b)
    replace B := Lib.hid (B.out.trans (b.mono B.out.size))
    clear b
    go_wp2_with fail
    refine (CL.out _).mono ?_
    rintro e w4 ⟨rfl, b⟩
    replace P := Lib.hid (P.out.below b)
    replace Q := Lib.hid (Q.out.below b)
    replace BX := Lib.hid (BX.out.below b)
    replace BY := Lib.hid (BY.out.below b)
    replace BZ := Lib.hid (BZ.out.below b)
    replace B := Lib.hid (B.out.trans (b.mono B.out.size))
    clear b
    have y0 := BY.out.c0; have y1 := BY.out.c1; have z0 := BZ.out.c0; have z1 := BZ.out.c1
    go_wp2_with fail
    go_ret
    exact ⟨rfl, B.out⟩
end Go.Proofs.Ytjnehpkkkmicfaa.Cn

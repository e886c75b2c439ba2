/- TblP TblQ TblR TblW -/
import Derived.Test.YtjnehpkkkmicfaaBnN
import Derived.Test.YtjnehpkkkmicfaaBnM
namespace Go.Proofs.Ytjnehpkkkmicfaa.Tb2
open Go.RowKit Go.Lib Rw Ls Od _root_.Go.Proofs.Ytjnehpkkkmicfaa.Nm Pk Bt Cn Bk

theorem num_ups (d : Nat) : num (ups (d + 1)) = 4 * num (ups d) + 2 := by
  have e : ups (d + 1) = ups d ++ [true, false] := by unfold ups; rw [List.replicate_succ']; simp
  rw [e, num_append]; show num (ups d) * 4 + 2 = _; omega
theorem num_dns (d : Nat) : num (dns (d + 1)) = 4 * num (dns d) + 3 := by
  have e : dns (d + 1) = dns d ++ [true, true] := by unfold dns; rw [List.replicate_succ']; simp
  rw [e, num_append]; show num (dns d) * 4 + 3 = _; omega
theorem num_end (X : List Bool) : num (X ++ [false]) = 2 * num X := by rw [num_snoc]; simp
theorem nbits_num : ∀ X : List Bool, nbits (num X) X.length = X := fun X => by
  have h1 : num (nbits (num X) X.length) = num X := Bt.num_nbits X.length _ (num_lt X)
  have inj : ∀ (n : Nat) (A B : List Bool), A.length = n → B.length = n → num A = num B → A = B := by
    intro n
    induction n with
    | zero => intro A B ha hb _; rw [List.length_eq_zero_iff.1 ha, List.length_eq_zero_iff.1 hb]
    | succ n ih =>
      intro A B ha hb h
      obtain ⟨A', a, rfl⟩ : ∃ A' a, A = A' ++ [a] := ⟨A.dropLast, A.getLast (by intro e; rw [e] at ha; simp at ha), (List.dropLast_concat_getLast _).symm⟩
      obtain ⟨B', b, rfl⟩ : ∃ B' b, B = B' ++ [b] := ⟨B.dropLast, B.getLast (by intro e; rw [e] at hb; simp at hb), (List.dropLast_concat_getLast _).symm⟩
      rw [num_snoc, num_snoc] at h
      have hab : a = b := by cases a <;> cases b <;> simp at h ⊢ <;> omega
      subst hab
      rw [ih A' B' (by simpa using ha) (by simpa using hb) (by omega)]
  exact inj X.length _ _ (nbits_length _ _) rfl h1
/-- how many steps, and which -/
def run (up : Bool) (d : Nat) : List Bool := if up then ups d else dns d
def sv (up : Bool) : Nat := if up then 2 else 3
theorem run_succ (up : Bool) (d : Nat) : num (run up (d + 1)) = 4 * num (run up d) + sv up ∧ (run up (d + 1)).length = (run up d).length + 2 := by
  cases up with
  | true => exact ⟨num_ups d, by show (ups (d + 1)).length = (ups d).length + 2; rw [ups_length, ups_length]; omega⟩
  | false => exact ⟨num_dns d, by show (dns (d + 1)).length = (dns d).length + 2; rw [dns_length, dns_length]; omega⟩
theorem run_len (up : Bool) (d : Nat) : (run up d).length = 2 * d := by cases up <;> simp [run, ups_length, dns_length]
theorem run_lt (up : Bool) {d : Nat} (h : d ≤ 15) : num (run up d) < 1073741824 := by
  have := num_lt (run up d)
  rw [run_len] at this
  exact Nat.lt_of_lt_of_le this (Nat.le_trans (Nat.pow_le_pow_right (n := 2) (by decide) (by omega : 2 * d ≤ 30)) (by decide))
theorem run_zero (up : Bool) : num (run up 0) = 0 := by cases up <;> rfl
theorem stp_run {a b : Nat} : stp a b = run (decide (a ≤ b)) (if a ≤ b then b - a else a - b) ++ [false] := by
  by_cases h : a ≤ b
  · rw [decide_eq_true h, if_pos h, stp_up h]; rfl
  · rw [decide_eq_false h, if_neg h, stp_dn (by omega)]; rfl
theorem built_part : Try.prog.built 91 [(1, .int .i64 1)] = some #[.int .u64 0, .int .i64 1] := by kernel_rfl
theorem zv_part (w : World) : (zeroValue 91).run Try.prog w = .ok (.agg #[.int .u64 0, .int .i64 0]) w := zv_of (by kernel_rfl) w
theorem or_two {x : Nat} (s : Nat) (hs : s = 2 ∨ s = 3) : 4 * x ||| s = 4 * x + s := by
  have e : s < 2 ^ 2 := by omega
  have := Nat.two_pow_add_eq_or_of_lt e x
  rw [show 2 ^ 2 * x = 4 * x by omega] at this
  exact this.symm
set_option maxHeartbeats 4000000 in
set_option maxRecDepth 100000 in
theorem steps_any (a b : Nat) (ha : a ≤ 15) (hb : b ≤ 15) (w : World) :
    Calls Try.prog 76 #[.int .i64 (a : Int), .int .i64 (b : Int)] w fun e w' => e = .returned (.agg #[.int .u64 (num (stp a b) : Nat), .int .i64 ((stp a b).length : Nat)]) ∧ Below w.heap.size w w' := by
  have hst := stp_run (a := a) (b := b)
  obtain ⟨v, hv⟩ : ∃ v, v = num (stp a b) := ⟨_, rfl⟩
  obtain ⟨l, hl⟩ : ∃ l, l = (stp a b).length := ⟨_, rfl⟩
  rw [← hv, ← hl]
  rw [hst, num_end] at hv
  rw [hst, List.length_append] at hl
  clear hst
  obtain ⟨r0, hr0⟩ : ∃ r0, r0 = w.heap.size := ⟨_, rfl⟩
  have HN : Hid (Blk ((w.alloc (.cells #[.int .u64 0, .int .i64 0] 91)).alloc (.cells #[.int .u64 0, .int .i64 1] 91)) r0 91 [.int .u64 0, .int .i64 0]) := Lib.hid (by rw [hr0]; exact (Blk.new w _ _).alloc _)
  have HM : Hid (Blk ((w.alloc (.cells #[.int .u64 0, .int .i64 0] 91)).alloc (.cells #[.int .u64 0, .int .i64 1] 91)) (r0 + 1) 91 [.int .u64 0, .int .i64 1]) := Lib.hid (by
    have e : (w.alloc (.cells #[.int .u64 0, .int .i64 0] 91)).heap.size = r0 + 1 := by rw [hr0]; simp
    rw [← e]; exact Blk.new _ _ _)
  have HB : Hid (Below r0 w ((w.alloc (.cells #[.int .u64 0, .int .i64 0] 91)).alloc (.cells #[.int .u64 0, .int .i64 1] 91))) := Lib.hid (by rw [hr0]; exact ((Below.refl _ w).alloc (Nat.le_refl _) _).alloc (by simp) _)
  have HR0 := Lib.hid hr0
  rcases Nat.lt_trichotomy a b with h | h | h
  · rw [decide_eq_true (by omega : a ≤ b), if_pos (by omega)] at hv hl
    have f1 : decide ((b : Int) < (a : Int)) = false := decide_eq_false (by omega)
    have f2 : decide ((a : Int) < (b : Int)) = true := decide_eq_true (by omega)
    have f3 : decide (b < a) = false := decide_eq_false (by omega)
    have f4 : decide (a < b) = true := decide_eq_true h
    have s1 : IntKind.i64.wrap ((b : Int) - (a : Int)) = ((b - a : Nat) : Int) := by rw [show (b : Int) - (a : Int) = ((b - a : Nat) : Int) by omega]; exact IntWalk.i64_in _ (by omega)
    obtain ⟨d, hd⟩ : ∃ d, d = b - a := ⟨_, rfl⟩
    rw [← hd] at s1 hv hl
    have hd15 : d ≤ 15 := by omega
    clear hd
    have HV := Lib.hid hv; have HL := Lib.hid hl
    clear hv hl
    go_enter Try.func76, Try.ntmps76
    go_wp2_with fail
    rw [← hr0]
    clear hr0
    generalize ((w.alloc (.cells #[.int .u64 0, .int .i64 0] 91)).alloc (.cells #[.int .u64 0, .int .i64 1] 91)) = w1 at HN HM HB ⊢
    have HL0 : Hid ((run true 0).length = 0 ∧ num (run true 0) = 0) := Lib.hid ⟨rfl, rfl⟩
    go_loopw [21] (fun iv wr => ∃ k x y : Nat, k ≤ d ∧ Hid (x = num (run true k) ∧ y = (run true k).length) ∧ iv = .int .i64 k ∧ Hid (Blk wr r0 91 [.int .u64 0, .int .i64 0]) ∧ Hid (Blk wr (r0 + 1) 91 [.int .u64 (x : Nat), .int .i64 (y + 1 : Nat)]) ∧ Hid (Below r0 w wr)) (fun iv _ => d - (RowKit.intOf iv).toNat)
    case atStart => exact ⟨0, 0, 0, Nat.zero_le _, Lib.hid ⟨HL0.out.2.symm, HL0.out.1.symm⟩, rfl, HN, HM, HB⟩
    case round =>
      clear HN HM HB
      obtain ⟨k, x, y, hk, hxy, rfl, hn, hm, hb⟩ := hrel
      obtain ⟨n1, n2⟩ := run_succ true k
      have hlt2 := run_lt true (d := k) (by omega)
      have hlen := run_len true k
      have hy9 : y ≤ 30 := by rw [hxy.out.2]; omega
      rw [← hxy.out.1] at n1 hlt2
      rw [← hxy.out.2] at n2
      have c0 := hm.out.cell (k := 0) rfl
      have c1 := hm.out.cell (k := 1) rfl
      have q0 := hm.out.free 0
      have q1 := hm.out.free 1
      have or1 : bits .or .u64 ((x : Int) * 4) 2 = ((4 * x + 2 : Nat) : Int) := by
        have h1 := or_two (x := x) 2 (by omega)
        have h2 := u64_or_nat (4 * x) 2 (by omega) (by omega)
        rw [h1] at h2
        rw [show (x : Int) * 4 = ((4 * x : Nat) : Int) by omega]
        exact h2
      by_cases hlt : k < d
      · have k1 : (k : Int) < (d : Int) := by omega
        have s2 : IntKind.i64.wrap (((y + 1 : Nat) : Int) + 2) = ((y + 2 + 1 : Nat) : Int) := IntWalk.i64_in _ (by omega)
        have NX : Hid (4 * x + 2 = num (run true (k + 1)) ∧ y + 2 = (run true (k + 1)).length) := Lib.hid ⟨n1.symm, n2.symm⟩
        have S1 := (hm.out.set 0 (.int .u64 ((4 * x + 2 : Nat) : Int))).set 1 (.int .i64 ((y + 2 + 1 : Nat) : Int))
        have H1 := Lib.hid ((hn.out.other (a := ⟨r0 + 1, 0, none⟩) (by simp) (.int .u64 ((4 * x + 2 : Nat) : Int))).other (a := ⟨r0 + 1, 1, none⟩) (by simp) (.int .i64 ((y + 2 + 1 : Nat) : Int)))
        have H2 := Lib.hid S1
        have H3 := Lib.hid (below_put (below_put hb.out (a := ⟨r0 + 1, 0, none⟩) (Nat.le_succ _) (.int .u64 ((4 * x + 2 : Nat) : Int))) (a := ⟨r0 + 1, 1, none⟩) (Nat.le_succ _) (.int .i64 ((y + 2 + 1 : Nat) : Int)))
        clear n1 n2 hlen hxy hn hm hb S1
        go_wp2_with fail
        go_roundw
        case rel => exact ⟨k + 1, 4 * x + 2, y + 2, by omega, NX, by go_num, H1, H2, H3⟩
        case measure => simp [RowKit.intOf]; omega
      · obtain rfl : k = d := by omega
        have k1 : ¬ (k : Int) < (k : Int) := by omega
        have hvx : v = 2 * x := by rw [HV.out, hxy.out.1]
        have hlx : l = y + 1 := by rw [HL.out, hxy.out.2]; rfl
        have wv : (x : Int) * 2 = (v : Int) := by omega
        have S1 := hm.out.set 0 (.int .u64 (v : Int))
        have hn2 := hn.out.other (a := ⟨r0 + 1, 0, none⟩) (by simp) (.int .u64 (v : Int))
        have S2 := (hn2.set 0 (.int .u64 (v : Int))).set 1 (.int .i64 (l : Int))
        have z0 := Lib.hid (Blk.cell S2 (k := 0) rfl); have z1 := Lib.hid (Blk.cell S2 (k := 1) rfl)
        have e0 := hn.out.cell (k := 0) rfl
        have e1 := hn.out.cell (k := 1) rfl
        have e2 := hn.out.free 0
        have e3 := hn.out.free 1
        have HBF := Lib.hid (below_put (below_put (below_put hb.out (a := ⟨r0 + 1, 0, none⟩) (Nat.le_succ _) (.int .u64 (v : Int))) (a := ⟨r0, 0, none⟩) (Nat.le_refl _) (.int .u64 (v : Int))) (a := ⟨r0, 1, none⟩) (Nat.le_refl _) (.int .i64 (l : Int)))
        have HLX : Hid (y + 1 = l) := Lib.hid hlx.symm
        rw [← hlx] at c1
        clear n1 n2 hlen hxy hn hm hb S1 S2 hn2 hvx hlx
        go_wp2_with fail
        refine bodyPost_ret (v := .agg #[.int .u64 (v : Int), .int .i64 (l : Int)]) (by simp [results, Try.results76, go_sem, asAddr, z0.out, z1.out]) rfl ⟨rfl, by rw [← HR0.out]; exact HBF.out⟩
  · subst h
    have e2 : decide (a ≤ a) = true := decide_eq_true (Nat.le_refl _)
    rw [e2, if_pos (Nat.le_refl _), Nat.sub_self] at hv hl
    have hv0 : v = 0 := by rw [hv]; rfl
    have hl0 : l = 1 := by rw [hl]; rfl
    subst hv0; subst hl0
    have f1 : decide ((a : Int) < (a : Int)) = false := decide_eq_false (by omega)
    have f3 : decide (a < a) = false := decide_eq_false (by omega)
    clear hv hl e2 hr0
    go_enter Try.func76, Try.ntmps76
    go_wp2_with fail
    refine bodyPost_ret (v := .agg #[.int .u64 0, .int .i64 1]) (by simp [results, Try.results76, go_sem, asAddr]) rfl ⟨rfl, ?_⟩
    exact ((Below.refl _ w).alloc (Nat.le_refl _) _).alloc (by simp) _
  · rw [decide_eq_false (by omega : ¬ a ≤ b), if_neg (by omega)] at hv hl
    have f1 : decide ((b : Int) < (a : Int)) = true := decide_eq_true (by omega)
    have f3 : decide (b < a) = true := decide_eq_true h
    have s1 : IntKind.i64.wrap ((a : Int) - (b : Int)) = ((a - b : Nat) : Int) := by rw [show (a : Int) - (b : Int) = ((a - b : Nat) : Int) by omega]; exact IntWalk.i64_in _ (by omega)
    obtain ⟨d, hd⟩ : ∃ d, d = a - b := ⟨_, rfl⟩
    rw [← hd] at s1 hv hl
    have hd15 : d ≤ 15 := by omega
    clear hd
    have HV := Lib.hid hv; have HL := Lib.hid hl
    clear hv hl
    go_enter Try.func76, Try.ntmps76
    go_wp2_with fail
    rw [← hr0]
    clear hr0
    generalize ((w.alloc (.cells #[.int .u64 0, .int .i64 0] 91)).alloc (.cells #[.int .u64 0, .int .i64 1] 91)) = w1 at HN HM HB ⊢
    have HL0 : Hid ((run false 0).length = 0 ∧ num (run false 0) = 0) := Lib.hid ⟨rfl, rfl⟩
    go_loopw [21] (fun iv wr => ∃ k x y : Nat, k ≤ d ∧ Hid (x = num (run false k) ∧ y = (run false k).length) ∧ iv = .int .i64 k ∧ Hid (Blk wr r0 91 [.int .u64 0, .int .i64 0]) ∧ Hid (Blk wr (r0 + 1) 91 [.int .u64 (x : Nat), .int .i64 (y + 1 : Nat)]) ∧ Hid (Below r0 w wr)) (fun iv _ => d - (RowKit.intOf iv).toNat)
    case atStart => exact ⟨0, 0, 0, Nat.zero_le _, Lib.hid ⟨HL0.out.2.symm, HL0.out.1.symm⟩, rfl, HN, HM, HB⟩
    case round =>
      clear HN HM HB
      obtain ⟨k, x, y, hk, hxy, rfl, hn, hm, hb⟩ := hrel
      obtain ⟨n1, n2⟩ := run_succ false k
      have hlt2 := run_lt false (d := k) (by omega)
      have hlen := run_len false k
      have hy9 : y ≤ 30 := by rw [hxy.out.2]; omega
      rw [← hxy.out.1] at n1 hlt2
      rw [← hxy.out.2] at n2
      have c0 := hm.out.cell (k := 0) rfl
      have c1 := hm.out.cell (k := 1) rfl
      have q0 := hm.out.free 0
      have q1 := hm.out.free 1
      have or1 : bits .or .u64 ((x : Int) * 4) 3 = ((4 * x + 3 : Nat) : Int) := by
        have h1 := or_two (x := x) 3 (by omega)
        have h2 := u64_or_nat (4 * x) 3 (by omega) (by omega)
        rw [h1] at h2
        rw [show (x : Int) * 4 = ((4 * x : Nat) : Int) by omega]
        exact h2
      by_cases hlt : k < d
      · have k1 : (k : Int) < (d : Int) := by omega
        have s2 : IntKind.i64.wrap (((y + 1 : Nat) : Int) + 2) = ((y + 2 + 1 : Nat) : Int) := IntWalk.i64_in _ (by omega)
        have NX : Hid (4 * x + 3 = num (run false (k + 1)) ∧ y + 2 = (run false (k + 1)).length) := Lib.hid ⟨n1.symm, n2.symm⟩
        have S1 := (hm.out.set 0 (.int .u64 ((4 * x + 3 : Nat) : Int))).set 1 (.int .i64 ((y + 2 + 1 : Nat) : Int))
        have H1 := Lib.hid ((hn.out.other (a := ⟨r0 + 1, 0, none⟩) (by simp) (.int .u64 ((4 * x + 3 : Nat) : Int))).other (a := ⟨r0 + 1, 1, none⟩) (by simp) (.int .i64 ((y + 2 + 1 : Nat) : Int)))
        have H2 := Lib.hid S1
        have H3 := Lib.hid (below_put (below_put hb.out (a := ⟨r0 + 1, 0, none⟩) (Nat.le_succ _) (.int .u64 ((4 * x + 3 : Nat) : Int))) (a := ⟨r0 + 1, 1, none⟩) (Nat.le_succ _) (.int .i64 ((y + 2 + 1 : Nat) : Int)))
        clear n1 n2 hlen hxy hn hm hb S1
        go_wp2_with fail
        go_roundw
        case rel => exact ⟨k + 1, 4 * x + 3, y + 2, by omega, NX, by go_num, H1, H2, H3⟩
        case measure => simp [RowKit.intOf]; omega
      · obtain rfl : k = d := by omega
        have k1 : ¬ (k : Int) < (k : Int) := by omega
        have hvx : v = 2 * x := by rw [HV.out, hxy.out.1]
        have hlx : l = y + 1 := by rw [HL.out, hxy.out.2]; rfl
        have wv : (x : Int) * 2 = (v : Int) := by omega
        have S1 := hm.out.set 0 (.int .u64 (v : Int))
        have hn2 := hn.out.other (a := ⟨r0 + 1, 0, none⟩) (by simp) (.int .u64 (v : Int))
        have S2 := (hn2.set 0 (.int .u64 (v : Int))).set 1 (.int .i64 (l : Int))
        have z0 := Lib.hid (Blk.cell S2 (k := 0) rfl); have z1 := Lib.hid (Blk.cell S2 (k := 1) rfl)
        have e0 := hn.out.cell (k := 0) rfl
        have e1 := hn.out.cell (k := 1) rfl
        have e2 := hn.out.free 0
        have e3 := hn.out.free 1
        have HBF := Lib.hid (below_put (below_put (below_put hb.out (a := ⟨r0 + 1, 0, none⟩) (Nat.le_succ _) (.int .u64 (v : Int))) (a := ⟨r0, 0, none⟩) (Nat.le_refl _) (.int .u64 (v : Int))) (a := ⟨r0, 1, none⟩) (Nat.le_refl _) (.int .i64 (l : Int)))
        have HLX : Hid (y + 1 = l) := Lib.hid hlx.symm
        rw [← hlx] at c1
        clear n1 n2 hlen hxy hn hm hb S1 S2 hn2 hvx hlx
        go_wp2_with fail
        refine bodyPost_ret (v := .agg #[.int .u64 (v : Int), .int .i64 (l : Int)]) (by simp [results, Try.results76, go_sem, asAddr, z0.out, z1.out]) rfl ⟨rfl, by rw [← HR0.out]; exact HBF.out⟩
end Go.Proofs.Ytjnehpkkkmicfaa.Tb2
namespace Go.Proofs.Ytjnehpkkkmicfaa.Tb2
open Go.RowKit Go.Lib Rw Ls Od _root_.Go.Proofs.Ytjnehpkkkmicfaa.Nm Pk Bt Cn Bk

/-- the length ahead of the k-th -/
def ahd (l : List Nat) (k : Nat) : Nat := if k = 0 then l.getD 0 0 else l.getD (k - 1) 0
theorem ahd_zero (l : List Nat) : ahd l 0 = l.getD 0 0 := rfl
theorem ahd_succ (l : List Nat) (k : Nat) : ahd l (k + 1) = l.getD k 0 := by unfold ahd; rw [if_neg (by omega)]; rfl
/-- the first k lengths' blocks of bits, behind the four -/
def bkT (l : List Nat) : Nat → List (List Bool)
  | 0 => [nbits (l.getD 0 0) 4]
  | k + 1 => bkT l k ++ [stp (ahd l k) (l.getD k 0)]
theorem bkT_length (l : List Nat) : ∀ k, (bkT l k).length = k + 1
  | 0 => rfl
  | k + 1 => by rw [bkT, List.length_append, bkT_length l k]; rfl
theorem tl_snoc2 : ∀ (l : List Nat) (a b : Nat), tl a (l ++ [b]) = tl a l ++ stp ((a :: l).getD l.length 0) b
  | [], a, b => by simp [tl]
  | x :: l, a, b => by
    rw [List.cons_append, tl, tl_snoc2 l x b, tl, List.append_assoc]
    rfl
theorem bkT_flat (l : List Nat) : ∀ k, k ≤ l.length → (bkT l k).flatten = nbits (l.getD 0 0) 4 ++ tl (l.getD 0 0) (l.take k)
  | 0, _ => by simp [bkT, tl]
  | k + 1, hk => by
    rw [bkT, List.flatten_append, bkT_flat l k (by omega), List.take_succ_eq_append_getElem hk, tl_snoc2, ← List.append_assoc]
    congr 1
    have e1 : (l.take k).length = k := by rw [List.length_take]; omega
    have e2 : (l.getD 0 0 :: l.take k).getD (l.take k).length 0 = ahd l k := by
      rw [e1]
      cases k with
      | zero => rfl
      | succ k =>
        rw [ahd_succ]
        show (l.take (k + 1)).getD k 0 = l.getD k 0
        rw [List.getD_eq_getElem?_getD, List.getElem?_take_of_lt (Nat.lt_succ_self k), ← List.getD_eq_getElem?_getD]
    rw [e2, ← gd hk]
    simp
theorem bkT_tbl (l : List Nat) : (bkT l l.length).flatten = tbl l := by rw [bkT_flat l _ (Nat.le_refl _), List.take_length]; rfl
/-- blocks of bits as numbers and how many they are, in memory -/
def pv (L : List (List Bool)) : List Value := L.flatMap fun Y => [.int .u64 (num Y : Nat), .int .i64 (Y.length : Nat)]
theorem pv_snoc (L : List (List Bool)) (Y : List Bool) : pv (L ++ [Y]) = pv L ++ [.int .u64 (num Y : Nat), .int .i64 (Y.length : Nat)] := by simp [pv]
theorem pv_length : ∀ L : List (List Bool), (pv L).length = L.length * 2
  | [] => rfl
  | Y :: L => by
    have e : pv (Y :: L) = [.int .u64 (num Y : Nat), .int .i64 (Y.length : Nat)] ++ pv L := rfl
    rw [e, List.length_append, pv_length L]; simp; omega
theorem pv_at : ∀ (L : List (List Bool)) (i : Nat), i < L.length → (pv L)[i * 2]? = some (.int .u64 (num (L.getD i []) : Nat)) ∧ (pv L)[i * 2 + 1]? = some (.int .i64 ((L.getD i []).length : Nat))
  | [], i, h => by simp at h
  | Y :: L, 0, _ => ⟨rfl, rfl⟩
  | Y :: L, i + 1, h => by
    have ih := pv_at L i (by simpa using h)
    have e : pv (Y :: L) = [.int .u64 (num Y : Nat), .int .i64 (Y.length : Nat)] ++ pv L := rfl
    rw [e, List.getElem?_append_right (by simp; omega), List.getElem?_append_right (by simp; omega)]
    have e3 : (i + 1) * 2 - [Value.int .u64 (num Y : Nat), .int .i64 (Y.length : Nat)].length = i * 2 := by simp; omega
    have e4 : (i + 1) * 2 + 1 - [Value.int .u64 (num Y : Nat), .int .i64 (Y.length : Nat)].length = i * 2 + 1 := by simp; omega
    rw [e3, e4]; exact ih
theorem stp_len {a b : Nat} (ha : a ≤ 15) (hb : b ≤ 15) : (stp a b).length ≤ 31 := by
  rw [stp_run, List.length_append, run_len]
  split <;> simp <;> omega
theorem bkT_len (l : List Nat) (h15 : ∀ x ∈ l, x ≤ 15) : ∀ k, k ≤ l.length → ∀ Y ∈ bkT l k, Y.length ≤ 31
  | 0, _, Y, h => by
    have : Y = nbits (l.getD 0 0) 4 := by simpa [bkT] using h
    rw [this, nbits_length]; omega
  | k + 1, hk, Y, h => by
    rw [bkT, List.mem_append] at h
    have g15 : ∀ i, l.getD i 0 ≤ 15 := fun i => by
      rcases Nat.lt_or_ge i l.length with h | h
      · rw [gd h]; exact h15 _ (List.getElem_mem h)
      · rw [List.getD_eq_getElem?_getD, List.getElem?_eq_none h]; exact Nat.zero_le _
    rcases h with h | h
    · exact bkT_len l h15 k (by omega) Y h
    · rw [List.mem_singleton.1 h]
      refine stp_len ?_ (g15 k)
      unfold ahd; split <;> exact g15 _
theorem info_part : (Try.prog.info? 91).map (fun i => (i.zero, i.size, i.bytes)) = some (some (.agg #[.int .u64 0, .int .i64 0]), 2, 16) := by kernel_rfl
theorem num_lit {a : Nat} (h : a ≤ 15) : num (nbits a 4) = a := Tb2.num_nbits h
def PvP (w : World) (L : List (List Bool)) (n : Nat) (e : Ending) (w' : World) : Prop := ∃ (g c : Nat), e = .returned (.slice (some ⟨g, 0, none⟩) n c) ∧ n ≤ c ∧ w.heap.size ≤ g ∧ g < w'.heap.size ∧ Rd w' (some ⟨g, 0, none⟩) (pv L) ∧ Below w.heap.size w w'
set_option maxHeartbeats 4000000 in
set_option maxRecDepth 100000 in
theorem partsT_any (l : List Nat) (p : Option Addr) (c : Nat) (w : World) (hp : Rd w p (zs (up l))) (h0 : 0 < l.length) (h15 : ∀ x ∈ l, x ≤ 15) (hl : l.length ≤ 512) :
    Calls Try.prog 59 #[.slice p l.length c] w (PvP w (bkT l l.length) (l.length + 1)) := by
  obtain ⟨i0, hi0, hz0, hz1, hz2⟩ := info_parts info_part
  have g15 : ∀ i, l.getD i 0 ≤ 15 := fun i => by
    rcases Nat.lt_or_ge i l.length with h | h
    · rw [gd h]; exact h15 _ (List.getElem_mem h)
    · rw [List.getD_eq_getElem?_getD, List.getElem?_eq_none h]; exact Nat.zero_le _
  have a15 : ∀ i, ahd l i ≤ 15 := fun i => by unfold ahd; split <;> exact g15 _
  have HG := Lib.hid g15; have HA := Lib.hid a15
  have HP := Lib.hid hp
  have HST := Lib.hid (fun (W : World) i => steps_any (ahd l i) (l.getD i 0) (a15 i) (g15 i) W)
  have HUL : Hid (∀ i, i < l.length → (up l).getD i 0 = (l.getD i 0 : Int) ∧ i < (up l).length) := Lib.hid (fun i hi => ⟨up_getD _ _ hi, by rw [up_length]; exact hi⟩)
  obtain ⟨m, hm⟩ : ∃ m, m = l.length := ⟨_, rfl⟩
  rw [← hm] at h0 hl HUL ⊢
  obtain ⟨B, hB⟩ : ∃ B, B = w.heap.size := ⟨_, rfl⟩
  obtain ⟨x0, hx0⟩ : ∃ x0, x0 = l.getD 0 0 := ⟨_, rfl⟩
  obtain ⟨b, rfl, cz⟩ := rd_z hp 0 (HUL.out 0 h0).2
  have eb : b.add 0 = b := by cases b; unfold Addr.add; split <;> simp_all
  rw [(HUL.out 0 h0).1, ← hx0, eb] at cz
  clear eb
  have hx15 : x0 ≤ 15 := by rw [hx0]; exact g15 0
  have u1 : IntKind.u64.wrap (x0 : Int) = (x0 : Int) := u64_small (by omega) (by omega)
  have HBK : Hid (pv (bkT l 0) = [.int .u64 (x0 : Int), .int .i64 4]) := Lib.hid (by rw [bkT, ← hx0]; simp [pv, num_lit hx15, nbits_length])
  have own0 : (w.alloc (.cells #[.int .u64 (x0 : Int), .int .i64 4] 91)).ownsRow B 91 2 (.slice (some ⟨B, 0, none⟩) 1 1) 1 (pv (bkT l 0)) := by
    rw [HBK.out, hB]
    exact World.ownsRow_lit (e := 91) (base := w.heap.size) (size := 2) w #[.int .u64 (x0 : Int), .int .i64 4] 1 (by omega) (by decide) rfl
  have HO := Lib.hid own0
  have HB0 : Hid (Below B w (w.alloc (.cells #[.int .u64 (x0 : Int), .int .i64 4] 91))) := Lib.hid (by rw [hB]; exact (Below.refl _ _).alloc (Nat.le_refl _) _)
  have HX0 : Hid (x0 = ahd l 0) := Lib.hid hx0
  have HBB := Lib.hid hB
  have k0 : (0 : Int) < (m : Int) := by omega
  clear hp own0 hm hx0 g15 a15 h15
  go_enter Try.func59, Try.ntmps59
  go_wp2_with fail
  rw [← hB]
  generalize (w.alloc (.cells #[.int .u64 (x0 : Int), .int .i64 4] 91)) = w1 at HO HB0 ⊢
  clear cz hB k0
  go_loopw [3, 4, 16] (fun av lv iv wr => ∃ (k x gl cap : Nat), k ≤ m ∧ Hid (x = ahd l k) ∧ av = .int .i64 x ∧ lv = .slice (some ⟨gl, 0, none⟩) (k + 1) cap ∧ iv = .int .i64 k ∧ Hid (wr.ownsRow B 91 2 (.slice (some ⟨gl, 0, none⟩) (k + 1) cap) (k + 1) (pv (bkT l k))) ∧ Hid (Below B w wr)) (fun _ _ iv _ => m - (RowKit.intOf iv).toNat)
  case atStart => exact ⟨0, x0, B, 1, Nat.zero_le _, HX0, rfl, rfl, rfl, HO, HB0⟩
  case round =>
    clear HO HB0
    obtain ⟨k, x, gl, cap, hk, hx, rfl, rfl, rfl, ho, hb⟩ := hrel
    by_cases hlt : k < m
    · have k0 : (0 : Int) ≤ (k : Int) := by omega
      have k1 : (k : Int) < (m : Int) := by omega
      obtain ⟨b2, e2, cz⟩ := rd_z (HP.out.below (by rw [← HBB.out]; exact hb.out)) k (HUL.out k hlt).2
      cases e2
      rw [(HUL.out k hlt).1] at cz
      have HS := Lib.hid (fun W => HST.out W k)
      have HPV : Hid (pv (bkT l (k + 1)) = pv (bkT l k) ++ [.int .u64 (num (stp (ahd l k) (l.getD k 0)) : Nat), .int .i64 ((stp (ahd l k) (l.getD k 0)).length : Nat)]) := Lib.hid (by rw [bkT, pv_snoc])
      have hxa : ahd l k = x := hx.out.symm
      rw [hxa] at HS HPV
      obtain ⟨y, hy⟩ : ∃ y, y = l.getD k 0 := ⟨_, rfl⟩
      rw [← hy] at HS HPV cz
      have HY : Hid (y = ahd l (k + 1)) := Lib.hid (by rw [ahd_succ, hy])
      obtain ⟨v, hv⟩ : ∃ v, v = num (stp x y) := ⟨_, rfl⟩
      obtain ⟨z, hz⟩ : ∃ z, z = (stp x y).length := ⟨_, rfl⟩
      rw [← hv, ← hz] at HPV
      have HS2 : Hid (∀ W, Calls Try.prog 76 #[.int .i64 (x : Int), .int .i64 (y : Int)] W fun e w' => e = .returned (.agg #[.int .u64 (v : Int), .int .i64 (z : Int)]) ∧ Below W.heap.size W w') := Lib.hid (fun W => by have h := HS.out W; rw [← hv, ← hz] at h; exact h)
      clear HS hxa hx hy hv hz
      go_wp2_with fail
      refine (HS2.out _).mono ?_
      rintro e w2 ⟨rfl, hb2⟩
      have hsz : B ≤ w2.heap.size := by have h1 := hb.out.size; have h2 := hb2.size; rw [HBB.out]; omega
      have HO2 := Lib.hid (own_below ho.out hb2)
      have HB2 := Lib.hid (hb.out.trans (hb2.mono (by have h1 := hb.out.size; rw [HBB.out]; omega)))
      clear hb2 ho hb cz
      go_wp2_with (at_builtin; refine Rw.push rfl _ _ 88 rfl B 91 i0 (.agg #[.int .u64 0, .int .i64 0]) 2 16 Try.underlying88 hi0 hz0 hz1 hz2 rfl (by decide) _ _ _ rfl HO2.out [.int .u64 (v : Int), .int .i64 (z : Int)] rfl rfl rfl (by omega) (by omega) hsz ?_)
      intro g6 cap6 w6 hown6 hgr6 hor6 hlt6 hb6
      rw [← HPV.out] at hown6
      have H1 := Lib.hid hown6
      have H3 := Lib.hid (HB2.out.trans hb6)
      clear hown6 hgr6 hb6 hor6 HO2 HB2 HPV
      go_wp2_with fail
      go_roundw
      case rel => exact ⟨k + 1, y, g6, cap6, by omega, HY, rfl, rfl, by go_num, H1, H3⟩
      case measure => simp [RowKit.intOf]; omega
    · obtain rfl : k = m := by omega
      have k1 : ¬ (k : Int) < (k : Int) := by omega
      have HRD := Lib.hid (Rd.of_own ho.out)
      have hgl := ho.out.lt gl rfl
      have hcap : k + 1 ≤ cap := by
        rcases ho.out.2 with ⟨h, _⟩ | ⟨g', c', cur, e, _, _, h1, _⟩
        · cases h
        · cases e; exact h1
      have HLT : Hid (w.heap.size ≤ gl ∧ gl < wr.heap.size) := Lib.hid ⟨by rw [← HBB.out]; exact hgl.1, hgl.2⟩
      have HBW : Hid (Below w.heap.size w wr) := Lib.hid (by rw [← HBB.out]; exact hb.out)
      clear ho hb hgl hx
      go_wp2_with fail
      go_ret
      exact ⟨gl, cap, rfl, hcap, HLT.out.1, HLT.out.2, HRD.out, HBW.out⟩
end Go.Proofs.Ytjnehpkkkmicfaa.Tb2
namespace Go.Proofs.Ytjnehpkkkmicfaa.Tb2
open Go.RowKit Go.Lib Rw Ls Od _root_.Go.Proofs.Ytjnehpkkkmicfaa.Nm Pk Bt Cn Bk

theorem pcheckt_any (ls : List Int) (p : Option Addr) (c : Nat) (w : World) (hp : Rd w p (zs ls)) (hl : ls.length ≤ 17592186044416) :
    Calls Try.prog 58 #[.slice p ls.length c] w fun e w' => e = .returned (.int .i64 (if ls ≠ [] ∧ okC ls then 0 else 7)) ∧ Below w.heap.size w w' := by
  by_cases h0 : ls.length = 0
  · have F : Hid ((if ls ≠ [] ∧ okC ls then (0 : Int) else 7) = 7) := Lib.hid (by rw [if_neg (fun h => h.1 (List.length_eq_zero_iff.1 h0))])
    rw [h0, F.out]
    clear hp hl h0
    go_enter Try.func58, Try.ntmps58
    go_wp2_with fail
    go_ret
    exact ⟨rfl, Below.refl _ _⟩
  · have F : Hid ((if ls ≠ [] ∧ okC ls then (0 : Int) else 7) = chkC ls) := Lib.hid (by
      have hne : ls ≠ [] := fun h => h0 (by rw [h]; rfl)
      unfold chkC
      by_cases h : okC ls
      · rw [if_pos ⟨hne, h⟩, if_pos h]
      · rw [if_neg (fun x => h x.2), if_neg h])
    have H := Lib.hid (pcheckc_any ls p c w hp hl)
    rw [F.out]
    obtain ⟨m, hm⟩ : ∃ m, m = ls.length := ⟨_, rfl⟩
    rw [← hm] at H h0 ⊢
    have e1 : ((m : Int) == 0) = false := by rw [beq_eq_false_iff_ne]; omega
    have e2 : (m == 0) = false := by rw [beq_eq_false_iff_ne]; exact h0
    clear hp hl hm h0
    go_enter Try.func58, Try.ntmps58
    go_wp2_with fail
    refine H.out.mono ?_
    rintro e w1 ⟨rfl, hb⟩
    have HB := Lib.hid hb
    clear hb
    go_wp2_with fail
    go_ret
    exact ⟨rfl, HB.out⟩
/-- the bits of the first k blocks -/
def sumB (L : List (List Bool)) (k : Nat) : Nat := (L.take k).flatten.length
theorem sumB_succ {L : List (List Bool)} {k : Nat} (h : k < L.length) : sumB L (k + 1) = sumB L k + (L.getD k []).length := by
  unfold sumB
  rw [List.take_succ_eq_append_getElem h, List.flatten_append, List.length_append, List.getD_eq_getElem?_getD, List.getElem?_eq_getElem h]; simp
theorem sumB_end (L : List (List Bool)) : sumB L L.length = L.flatten.length := by unfold sumB; rw [List.take_length]
theorem flat_le : ∀ (L : List (List Bool)), (∀ Y ∈ L, Y.length ≤ 31) → L.flatten.length ≤ 31 * L.length
  | [], _ => Nat.le_refl _
  | Y :: L, h => by
    rw [List.flatten_cons, List.length_append]
    have h1 := h Y (List.mem_cons_self ..)
    have h2 := flat_le L fun Z hz => h Z (List.mem_cons_of_mem _ hz)
    simp only [List.length_cons]; omega
theorem sumB_le {L : List (List Bool)} (h : ∀ Y ∈ L, Y.length ≤ 31) (k : Nat) : sumB L k ≤ 31 * k := by
  unfold sumB
  refine Nat.le_trans (flat_le _ fun Y hY => h Y (List.mem_of_mem_take hY)) ?_
  rw [List.length_take]; exact Nat.mul_le_mul_left _ (Nat.min_le_left _ _)
theorem add_litR (g k : Nat) : ((⟨g, 0, none⟩ : Addr).add k) = ⟨g, k, none⟩ := by simp [Addr.add] <;> omega
theorem pv_cells {W : World} {g : Nat} {L : List (List Bool)} (h : Rd W (some ⟨g, 0, none⟩) (pv L)) {i : Nat} (hi : i < L.length) : W.cell? ⟨g, i * 2, none⟩ = some (.int .u64 (num (L.getD i []) : Nat)) ∧ W.cell? ⟨g, i * 2 + 1, none⟩ = some (.int .i64 ((L.getD i []).length : Nat)) := by
  obtain ⟨a, b⟩ := pv_at L i hi
  have hl := pv_length L
  have c1 := h.at (i := i * 2) (by omega)
  have c2 := h.at (i := i * 2 + 1) (by omega)
  rw [List.getD_eq_getElem?_getD, a, add_litR] at c1
  rw [List.getD_eq_getElem?_getD, b, add_litR] at c2
  exact ⟨c1, c2⟩
set_option maxHeartbeats 4000000 in
set_option maxRecDepth 100000 in
theorem psize_any (ls : List Int) (p : Option Addr) (c : Nat) (w : World) (hp : Rd w p (zs ls)) (hl : ls.length ≤ 17592186044416) :
    Calls Try.prog 28 #[.slice p ls.length c] w fun e w' => e = .returned (.tuple #[.int .i64 (tsR ls).1, .int .i64 (tsR ls).2]) ∧ Below w.heap.size w w' := by
  have HC := Lib.hid (pcheckt_any ls p c w hp hl)
  by_cases hok : ls ≠ [] ∧ okC ls
  case neg =>
    have F : Hid (tsR ls = (0, 7)) := Lib.hid (by unfold tsR; rw [if_neg hok])
    rw [if_neg hok] at HC
    obtain ⟨m, hm⟩ : ∃ m, m = ls.length := ⟨_, rfl⟩
    rw [← hm] at HC ⊢
    rw [F.out]
    clear hp hl hok hm
    go_enter Try.func28, Try.ntmps28
    go_wp2_with fail
    refine HC.out.mono ?_
    rintro e w1 ⟨rfl, hb⟩
    have HB := Lib.hid hb
    clear hb
    go_wp2_with fail
    refine bodyPost_ret (v := .tuple #[.int .i64 0, .int .i64 7]) (by simp [results, Try.results28, go_sem]) rfl ?_
    exact ⟨rfl, HB.out⟩
  rw [if_pos hok] at HC
  have h15 := nats_15 hok.2
  have hun : up (nats ls) = ls := up_nats fun z hz => (ok_all hok.2 z hz).1
  have hnl : (nats ls).length = ls.length := nats_length ls
  have h0 : 0 < (nats ls).length := by rw [hnl]; exact List.length_pos_iff.2 hok.1
  have h512 : (nats ls).length ≤ 512 := by rw [hnl]; exact (rt_of hok.2).few
  obtain ⟨L, hL⟩ : ∃ L, L = bkT (nats ls) (nats ls).length := ⟨_, rfl⟩
  have hLl : L.length = ls.length + 1 := by rw [hL, bkT_length, hnl]
  have hL31 : ∀ Y ∈ L, Y.length ≤ 31 := by rw [hL]; exact bkT_len _ h15 _ (Nat.le_refl _)
  have hLt : L.flatten.length = (tbl (nats ls)).length := by rw [hL, bkT_tbl]
  have F : Hid (tsR ls = (((sumB L L.length : Nat) : Int), 0)) := Lib.hid (by unfold tsR; rw [if_pos hok, sumB_end, hLt])
  have HPt : Hid (∀ W, Below w.heap.size w W → Calls Try.prog 59 #[.slice p ls.length c] W (PvP W L (ls.length + 1))) := Lib.hid (fun W hb => by
    have h := partsT_any (nats ls) p c W (by rw [hun]; exact hp.below hb) h0 h15 h512
    rw [← hL, hnl] at h; exact h)
  have HSS : Hid (∀ k, k < L.length → sumB L (k + 1) = sumB L k + (L.getD k []).length) := Lib.hid (fun k hk => sumB_succ hk)
  have HSL : Hid (∀ k, sumB L k ≤ 31 * k) := Lib.hid (sumB_le hL31)
  have HLl := Lib.hid hLl
  obtain ⟨m, hm⟩ : ∃ m, m = ls.length := ⟨_, rfl⟩
  have hm512 : m ≤ 512 := by omega
  rw [← hm] at HC HPt HLl ⊢
  rw [F.out, HLl.out]
  clear hp hl hok h15 hun hnl h0 h512 hL hLl hL31 hLt hm
  go_enter Try.func28, Try.ntmps28
  go_wp2_with fail
  refine HC.out.mono ?_
  rintro e w1 ⟨rfl, hb⟩
  have HB := Lib.hid hb
  clear hb
  go_wp2_with fail
  refine (HPt.out _ HB.out).mono ?_
  rintro e w2 ⟨g, cg, rfl, hcg, hg1, hg2, hrd, hb⟩
  have HB2 := Lib.hid (HB.out.trans (hb.mono HB.out.size))
  have HRD := Lib.hid hrd
  have HH0 : Hid (Below w2.heap.size w2 w2) := Lib.hid (Below.refl _ _)
  clear hb hrd
  go_wp2_with fail
  go_loopw [5, 16] (fun sv iv wr => ∃ k : Nat, k ≤ m + 1 ∧ sv = .int .i64 (sumB L k : Nat) ∧ iv = .int .i64 k ∧ Hid (Below w2.heap.size w2 wr)) (fun _ iv _ => m + 1 - (RowKit.intOf iv).toNat)
  case atStart => exact ⟨0, by omega, rfl, rfl, HH0⟩
  case round =>
    clear HH0
    obtain ⟨k, hk, rfl, rfl, hb⟩ := hrel
    by_cases hlt : k < m + 1
    · have k0 : (0 : Int) ≤ (k : Int) := by omega
      have k1 : (k : Int) < (m : Int) + 1 := by omega
      obtain ⟨c1, c2⟩ := pv_cells (HRD.out.below hb.out) (i := k) (by rw [HLl.out]; exact hlt)
      have hs := HSS.out k (by rw [HLl.out]; exact hlt)
      have hsl := HSL.out (k + 1)
      obtain ⟨v, hv⟩ : ∃ v, v = num (L.getD k []) := ⟨_, rfl⟩
      obtain ⟨z, hz⟩ : ∃ z, z = (L.getD k []).length := ⟨_, rfl⟩
      obtain ⟨t, ht⟩ : ∃ t, t = sumB L k := ⟨_, rfl⟩
      rw [← hv] at c1
      rw [← hz] at c2 hs
      rw [← ht] at hs ⊢
      have s1 : IntKind.i64.wrap ((t : Int) + (z : Int)) = ((t + z : Nat) : Int) := IntWalk.i64_in _ (by omega)
      have HS : Hid (t + z = sumB L (k + 1)) := Lib.hid hs.symm
      have H1 : Hid (Below w2.heap.size w2 (wr.alloc (.cells #[.int .u64 (v : Int), .int .i64 (z : Int)] 91))) := Lib.hid (hb.out.alloc hb.out.size _)
      clear hs hsl hv hz ht hb
      go_wp2_with fail
      go_roundw
      case rel => exact ⟨k + 1, by omega, by rw [← HS.out]; first | rfl | go_num, by go_num, H1⟩
      case measure => simp [RowKit.intOf]; omega
    · obtain rfl : k = m + 1 := by omega
      have k1 : ¬ (((m + 1 : Nat) : Int) < (m : Int) + 1) := by omega
      have HBW := Lib.hid (HB2.out.trans (hb.out.mono HB2.out.size))
      clear hb
      go_wp2_with fail
      refine bodyPost_ret (v := .tuple #[.int .i64 (sumB L (m + 1) : Nat), .int .i64 0]) (by simp [results, Try.results28, go_sem]) rfl ?_
      exact ⟨rfl, HBW.out⟩
end Go.Proofs.Ytjnehpkkkmicfaa.Tb2
namespace Go.Proofs.Ytjnehpkkkmicfaa.Tb2
open Go.RowKit Go.Lib Rw Ls Od _root_.Go.Proofs.Ytjnehpkkkmicfaa.Nm Pk Bt Cn Bk

theorem put_wide {Y : List Bool} (h : Y.length ≤ 31) : putE ⟨#[]⟩ 0 (num Y) (Y.length : Int) = 0 ∧ Bt.putS ⟨#[]⟩ 0 (num Y) (Y.length : Int) = packS Y ∧ putN ⟨#[]⟩ 0 (num Y) (Y.length : Int) = (Y.length : Int) := by
  have e : putE ⟨#[]⟩ 0 (num Y) (Y.length : Int) = 0 := by
    unfold putE
    rw [if_neg (by rw [chk_empty]; simp), if_neg, if_neg (by omega)]
    rintro (h | h | h)
    · omega
    · omega
    · rw [Int.toNat_natCast, Nat.div_eq_of_lt (num_lt Y)] at h; exact h rfl
  refine ⟨e, ?_, ?_⟩
  · unfold Bt.putS; rw [if_pos e, Int.toNat_natCast, nbits_num]; simp [bl]
  · unfold putN; rw [if_pos e, Int.zero_add]
noncomputable def ptY (Y : List Bool) : ByteArray × Int := (packS Y, (Y.length : Int))
noncomputable def twV (L : List (List Bool)) (k : Nat) : List Value := mv ((L.take k).map ptY)
theorem twV_succ {L : List (List Bool)} {k : Nat} (h : k < L.length) : twV L (k + 1) = twV L k ++ [.string (packS (L.getD k [])), .int .i64 ((L.getD k []).length : Nat)] := by
  unfold twV
  have e : L.getD k [] = L[k] := by rw [List.getD_eq_getElem?_getD, List.getElem?_eq_getElem h]; rfl
  rw [List.take_succ_eq_append_getElem h, List.map_append, e]
  exact mv_snoc _ _
theorem packS_small {Y : List Bool} (h : Y.length ≤ 31) : (packS Y).size ≤ maxLen := by
  have hp := (pack_packs Y).1
  have : (packS Y).size = (pack Y).length := by simp [packS, ByteArray.size]
  unfold maxLen; omega
theorem catF_full : ∀ (M : Many) (t : Int), (∀ m ∈ M, chk m.1 m.2 = 0 ∧ 0 ≤ m.2) → t ≤ 1048576 → catF t M = if t + sumN M ≤ 1048576 then 0 else 8
  | [], t, _, ht => by
    have e : sumN ([] : Many) = 0 := rfl
    rw [e, if_pos (by omega)]; rfl
  | m :: M, t, h, ht => by
    have e : catF t (m :: M) = if chk m.1 m.2 ≠ 0 then 2 else if 1048576 < t + m.2 then 8 else catF (t + m.2) M := rfl
    have e2 : sumN (m :: M) = m.2 + sumN M := rfl
    have hp : ∀ L : Many, (∀ m ∈ L, chk m.1 m.2 = 0 ∧ 0 ≤ m.2) → 0 ≤ sumN L := by
      intro L
      induction L with
      | nil => intro _; exact Int.le_refl _
      | cons a L ih =>
        intro h
        have e3 : sumN (a :: L) = a.2 + sumN L := rfl
        have := ih fun x hx => h x (List.mem_cons_of_mem _ hx)
        have := (h a (List.mem_cons_self ..)).2
        omega
    have h1 := h m (List.mem_cons_self ..)
    have h2 := hp M fun x hx => h x (List.mem_cons_of_mem _ hx)
    rw [e, e2, if_neg (by simp [h1.1])]
    by_cases hc : 1048576 < t + m.2
    · rw [if_pos hc, if_neg (by omega)]
    · rw [if_neg hc, catF_full M _ (fun x hx => h x (List.mem_cons_of_mem _ hx)) (by omega), Int.add_assoc]
theorem cat_ptY : ∀ L : List (List Bool), catX (L.map ptY) = L.flatten ∧ sumN (L.map ptY) = (L.flatten.length : Int)
  | [] => ⟨rfl, rfl⟩
  | Y :: L => by
    obtain ⟨a, b⟩ := cat_ptY L
    have e3 : sumN ((Y :: L).map ptY) = (Y.length : Int) + sumN (L.map ptY) := rfl
    refine ⟨?_, ?_⟩
    · rw [List.map_cons, catX_cons, a]
      show bl (Bt.bytes (packS Y)) (Y.length : Int).toNat ++ _ = _
      rw [Int.toNat_natCast, bits_pack]; rfl
    · rw [e3, b, List.flatten_cons, List.length_append]; omega
theorem tw_cat {s : ByteArray} {n : Int} {ls : List Int} {L : List (List Bool)} (hc : chk s n = 0) (hok : ls ≠ [] ∧ okC ls) (hL : L.flatten = tbl (nats ls)) (h31 : ∀ Y ∈ L, Y.length ≤ 31) : catS s n (L.map ptY) = (twR s n ls).1 ∧ catN s n (L.map ptY) = (twR s n ls).2.1 ∧ catE s n (L.map ptY) = (twR s n ls).2.2 := by
  have hR := chk_zero hc
  obtain ⟨a, b⟩ := cat_ptY L
  rw [hL] at a b
  have hF := catF_full (L.map ptY) n (fun m hm => by
    obtain ⟨Y, hY, e⟩ := List.mem_map.1 hm
    rw [← e]
    exact ⟨chk_pack (by have := h31 Y hY; omega), by show (0 : Int) ≤ (Y.length : Int); omega⟩) hR.2.1
  rw [b] at hF
  by_cases hb : n + ((tbl (nats ls)).length : Int) ≤ 1048576
  · rw [if_pos hb] at hF
    have hw : twR s n ls = (packS (bl (Bt.bytes s) n.toNat ++ tbl (nats ls)), n + (tbl (nats ls)).length, 0) := by unfold twR; rw [if_pos hc, if_pos hok, if_pos hb]
    rw [hw]
    refine ⟨?_, ?_, ?_⟩
    · unfold catS; rw [if_neg (by omega), if_pos hF, a]
    · unfold catN; rw [if_neg (by omega), if_pos hF, b]
    · unfold catE; rw [if_neg (by omega), hF]
  · rw [if_neg hb] at hF
    have hw : twR s n ls = (s, n, 8) := by unfold twR; rw [if_pos hc, if_pos hok, if_neg hb]
    rw [hw]
    refine ⟨?_, ?_, ?_⟩
    · unfold catS; rw [if_neg (by omega), if_neg (by rw [hF]; decide)]
    · unfold catN; rw [if_neg (by omega), if_neg (by rw [hF]; decide)]
    · unfold catE; rw [if_neg (by omega), hF]
set_option maxHeartbeats 8000000 in
set_option maxRecDepth 100000 in
theorem pwrite22_any (s : ByteArray) (n : Int) (ls : List Int) (p : Option Addr) (c : Nat) (w : World) (hs : s.size ≤ maxLen) (hp : Rd w p (zs ls)) (hl : ls.length ≤ 17592186044416) :
    Calls Try.prog 26 #[.agg #[.string s, .int .i64 n], .slice p ls.length c] w (WrP w (twR s n ls)) := by
  obtain ⟨i0, hi0, hz0, hz1, hz2⟩ := info_parts info_bit
  have hbx : Below w.heap.size w ((w.alloc (.cells #[.string s, .int .i64 n] 35)).alloc (.cells #[.string ⟨#[]⟩, .int .i64 0] 35)) := ((Below.refl _ _).alloc (Nat.le_refl _) _).alloc (by simp) _
  have HB := Lib.hid hbx
  have HC := Lib.hid (fun W => check_any s n W hs)
  have HK := Lib.hid (fun W (hb : Below w.heap.size w W) => pcheckt_any ls p c W (hp.below hb) hl)
  obtain ⟨m, hm⟩ : ∃ m, m = ls.length := ⟨_, rfl⟩
  rcases chk_cases s n with hc | hc
  case inr =>
    have F : Hid (twR s n ls = (⟨#[]⟩, 0, 2)) := Lib.hid (by unfold twR; rw [if_neg (by omega)])
    rw [hc] at HC
    rw [← hm] at HK ⊢
    clear hc hm hp hl hbx
    go_enter Try.func26, Try.ntmps26
    go_wp2_with fail
    refine (HC.out _).mono ?_
    rintro e w1 ⟨rfl, b1⟩
    have x0 := (box_end b1).1; have x1 := (box_end b1).2
    have c0 := x0.c0; have c1 := x0.c1
    have q0 := x1.c0; have q1 := x1.c1; have p0 := x1.f0; have p1 := x1.f1
    have x2 := x1.set ⟨#[]⟩ 0
    have b2 := HB.out.trans (b1.mono (by simp; omega))
    have b3 := Lib.hid ((b2.setCell (p := ⟨w.heap.size + 1, 0, none⟩) (Nat.le_succ _) (.string ⟨#[]⟩)).setCell (p := ⟨w.heap.size + 1, 1, none⟩) (Nat.le_succ _) (.int .i64 0))
    have z0 := Lib.hid x2.c0; have z1 := Lib.hid x2.c1
    clear b1 b2 x0 x1 x2
    go_wp2_with fail
    refine bodyPost_ret (v := .tuple #[.agg #[.string ⟨#[]⟩, .int .i64 0], .int .i64 2]) (by simp [results, Try.results26, go_sem, z0.out, z1.out]) rfl ?_
    exact wrp_mk F.out b3.out
  have HC0 := Lib.hid hc
  have hR := chk_zero hc
  rw [hc] at HC
  by_cases hok : ls ≠ [] ∧ okC ls
  case neg =>
    have F : Hid (twR s n ls = (⟨#[]⟩, 0, 7)) := Lib.hid (by unfold twR; rw [if_pos HC0.out, if_neg hok])
    rw [if_neg hok] at HK
    rw [← hm] at HK ⊢
    clear hc hm hp hl hbx hok hR
    go_enter Try.func26, Try.ntmps26
    go_wp2_with fail
    refine (HC.out _).mono ?_
    rintro e w1 ⟨rfl, b1⟩
    have X1 := Lib.hid (box_end b1).2
    have b2 := HB.out.trans (b1.mono (by simp; omega))
    have B2 := Lib.hid b2
    clear b1 b2
    go_wp2_with fail
    refine (HK.out _ B2.out).mono ?_
    rintro e w2 ⟨rfl, b3⟩
    have x1 := X1.out.below b3
    have q0 := x1.c0; have q1 := x1.c1; have p0 := x1.f0; have p1 := x1.f1
    have x2 := x1.set ⟨#[]⟩ 0
    have b4 := B2.out.trans (b3.mono B2.out.size)
    have b5 := Lib.hid ((b4.setCell (p := ⟨w.heap.size + 1, 0, none⟩) (Nat.le_succ _) (.string ⟨#[]⟩)).setCell (p := ⟨w.heap.size + 1, 1, none⟩) (Nat.le_succ _) (.int .i64 0))
    have z0 := Lib.hid x2.c0; have z1 := Lib.hid x2.c1
    clear b3 b4 x1 x2
    go_wp2_with fail
    refine bodyPost_ret (v := .tuple #[.agg #[.string ⟨#[]⟩, .int .i64 0], .int .i64 7]) (by simp [results, Try.results26, go_sem, z0.out, z1.out]) rfl ?_
    exact wrp_mk F.out b5.out
  rw [if_pos hok] at HK
  have h15 := nats_15 hok.2
  have hun : up (nats ls) = ls := up_nats fun z hz => (ok_all hok.2 z hz).1
  have hnl : (nats ls).length = ls.length := nats_length ls
  have h0 : 0 < (nats ls).length := by rw [hnl]; exact List.length_pos_iff.2 hok.1
  have h512 : (nats ls).length ≤ 512 := by rw [hnl]; exact (rt_of hok.2).few
  obtain ⟨L, hL⟩ : ∃ L, L = bkT (nats ls) (nats ls).length := ⟨_, rfl⟩
  have hLl : L.length = ls.length + 1 := by rw [hL, bkT_length, hnl]
  have hL31 : ∀ Y ∈ L, Y.length ≤ 31 := by rw [hL]; exact bkT_len _ h15 _ (Nat.le_refl _)
  have hLt : L.flatten = tbl (nats ls) := by rw [hL, bkT_tbl]
  obtain ⟨k1, k2, k3⟩ := tw_cat hc hok hLt hL31
  have HPt : Hid (∀ W, Below w.heap.size w W → Calls Try.prog 59 #[.slice p ls.length c] W (PvP W L (ls.length + 1))) := Lib.hid (fun W hb => by
    have h := partsT_any (nats ls) p c W (by rw [hun]; exact hp.below hb) h0 h15 h512
    rw [← hL, hnl] at h; exact h)
  have hg31 : ∀ i, i < L.length → (L.getD i []).length ≤ 31 := fun i hi => by
    rw [List.getD_eq_getElem?_getD, List.getElem?_eq_getElem hi]; exact hL31 _ (List.getElem_mem hi)
  have HPut : Hid (∀ W i, i < L.length → Calls Try.prog 60 #[.agg #[.string ⟨#[]⟩, .int .i64 0], .int .u64 (num (L.getD i []) : Nat), .int .i64 ((L.getD i []).length : Nat)] W fun e w' => e = .returned (.tuple #[.agg #[.string (packS (L.getD i [])), .int .i64 ((L.getD i []).length : Nat)], .int .i64 0]) ∧ Below W.heap.size W w') := Lib.hid (fun W i hi => by
    have h31 := hg31 i hi
    obtain ⟨a, b, d⟩ := put_wide h31
    have h64 : num (L.getD i []) < 18446744073709551616 := Nat.lt_of_lt_of_le (num_lt _) (Nat.le_trans (Nat.pow_le_pow_right (n := 2) (by decide) h31) (by decide))
    have h := put_top ⟨#[]⟩ 0 (num (L.getD i [])) ((L.getD i []).length : Int) W (by unfold maxLen; show 0 ≤ _; omega) h64
    rw [a, b, d] at h
    exact h)
  have HTV : Hid (∀ k, k < L.length → twV L (k + 1) = twV L k ++ [.string (packS (L.getD k [])), .int .i64 ((L.getD k []).length : Nat)]) := Lib.hid (fun k hk => twV_succ hk)
  have HEND : Hid (∀ W (A : Nat), Rd W (some ⟨A, 0, none⟩) (twV L L.length) → ManyAt W (some ⟨A, 0, none⟩) (L.map ptY)) := Lib.hid (fun W A h => by
    unfold twV at h
    rw [List.take_length] at h
    refine many_of h fun i hi => ?_
    rw [List.length_map] at hi
    have e : Bt.Many.at (L.map ptY) i = ptY (L.getD i []) := by simp [Bt.Many.at, List.getD_eq_getElem?_getD, hi]
    rw [e]; exact packS_small (hg31 i hi))
  have hMl : (L.map ptY).length ≤ maxLen := by rw [List.length_map, hLl]; unfold maxLen; omega
  have HCa : Hid (∀ W A cap, ManyAt W A (L.map ptY) → Calls Try.prog 43 #[.agg #[.string s, .int .i64 n], .slice A (L.map ptY).length cap] W fun e w' => e = .returned (.tuple #[.agg #[.string (twR s n ls).1, .int .i64 (twR s n ls).2.1], .int .i64 (twR s n ls).2.2]) ∧ Below W.heap.size W w') := Lib.hid (fun W A cap h => by
    have h := cat_any s n A cap (L.map ptY) W hs h hMl
    rw [k1, k2, k3] at h
    exact h)
  rw [List.length_map] at HCa
  obtain ⟨o, ho⟩ : ∃ o, o = twR s n ls := ⟨_, rfl⟩
  have F : Hid (twR s n ls = o) := Lib.hid ho.symm
  rw [← ho] at HCa
  obtain ⟨R, RN, E⟩ := o
  have HLl : Hid (L.length = m + 1) := Lib.hid (by rw [hLl, hm])
  have hm512 : m ≤ 512 := by omega
  rw [← hm] at HK HPt ⊢
  rw [HLl.out] at HCa
  clear hc hm hp hl hbx hok hR k1 k2 k3 ho hMl h15 hun hnl h0 h512 hL hLl hL31 hLt hg31 hs
  go_enter Try.func26, Try.ntmps26
  go_wp2_with fail
  refine (HC.out _).mono ?_
  rintro e w1 ⟨rfl, b1⟩
  have X0 := Lib.hid (box_end b1).1; have X1 := Lib.hid (box_end b1).2
  have B2 := Lib.hid (HB.out.trans (b1.mono (by simp; omega)))
  clear b1
  go_wp2_with fail
  refine (HK.out _ B2.out).mono ?_
  rintro e w2 ⟨rfl, b3⟩
  have Y0 := Lib.hid (X0.out.below b3); have Y1 := Lib.hid (X1.out.below b3)
  have B3 := Lib.hid (B2.out.trans (b3.mono B2.out.size))
  have hzw : w.heap.size + 2 ≤ w2.heap.size := by have h := Y1.out.lt; omega
  have own0 : (w2.alloc (.cells #[] 35)).ownsRow w2.heap.size 35 2 (.slice (some ⟨w2.heap.size, 0, none⟩) 0 0) 0 (twV L 0) :=
    World.ownsRow_lit (e := 35) (base := w2.heap.size) (size := 2) w2 #[] 0 (by omega) (by decide) rfl
  have HO0 := Lib.hid own0
  have B4 := Lib.hid (B3.out.alloc B3.out.size (.cells #[] 35))
  have HBB0 : Hid (Below w2.heap.size w2 (w2.alloc (.cells #[] 35))) := Lib.hid ((Below.refl _ _).alloc (Nat.le_refl _) _)
  clear b3 X0 X1 B2 own0
  go_wp2_with fail
  refine (HPt.out _ B4.out).mono ?_
  rintro e w3 ⟨gp, cg, rfl, hcg, hgp1, hgp2, hrd, b5⟩
  have hsa : w2.heap.size < (w2.alloc (.cells #[] 35)).heap.size := by simp
  have HO3 := Lib.hid (own_below HO0.out b5)
  have HRD := Lib.hid hrd
  have HBB3 := Lib.hid (HBB0.out.trans (b5.mono (by omega)))
  obtain ⟨g1, hg1⟩ : ∃ g1, g1 = w2.heap.size := ⟨_, rfl⟩
  have HG1 := Lib.hid hg1
  rw [← hg1] at HO3 HBB3 hzw hsa ⊢
  have hgp : g1 < gp := by omega
  clear b5 hrd HO0 HBB0 hg1 B4 hsa
  go_wp2_with fail
  go_loopw [8, 29] (fun lv iv wr => ∃ (k gl cap : Nat), k ≤ m + 1 ∧ lv = .slice (some ⟨gl, 0, none⟩) k cap ∧ iv = .int .i64 k ∧ Hid (wr.ownsRow g1 35 2 (.slice (some ⟨gl, 0, none⟩) k cap) k (twV L k)) ∧ gl ≠ gp ∧ gp < wr.heap.size ∧ Hid (Rd wr (some ⟨gp, 0, none⟩) (pv L)) ∧ Hid (Below g1 w2 wr)) (fun _ iv _ => m + 1 - (RowKit.intOf iv).toNat)
  case atStart => exact ⟨0, g1, 0, by omega, rfl, rfl, HO3, by omega, hgp2, HRD, HBB3⟩
  case round =>
    clear HO3 HRD HBB3
    obtain ⟨k, gl, cap, hk, rfl, rfl, ho, hne, hqw, hrd, hb⟩ := hrel
    by_cases hlt : k < m + 1
    · have k0 : (0 : Int) ≤ (k : Int) := by omega
      have k1 : (k : Int) < (m : Int) + 1 := by omega
      have hkl : k < L.length := by rw [HLl.out]; exact hlt
      obtain ⟨c1, c2⟩ := pv_cells hrd.out hkl
      have HPu := Lib.hid (fun W => HPut.out W k hkl)
      have HS := Lib.hid (HTV.out k hkl)
      obtain ⟨S, hS⟩ : ∃ S, S = packS (L.getD k []) := ⟨_, rfl⟩
      obtain ⟨z, hz⟩ : ∃ z, z = (L.getD k []).length := ⟨_, rfl⟩
      obtain ⟨v, hv⟩ : ∃ v, v = num (L.getD k []) := ⟨_, rfl⟩
      rw [← hS, ← hz, ← hv] at HPu
      rw [← hS, ← hz] at HS
      rw [← hv] at c1
      rw [← hz] at c2
      have hgw : g1 ≤ wr.heap.size := by have := hb.out.size; rw [HG1.out]; exact this
      have ba : Below wr.heap.size wr (wr.alloc (.cells #[.int .u64 (v : Int), .int .i64 (z : Int)] 91)) := (Below.refl _ _).alloc (Nat.le_refl _) _
      have HOa := Lib.hid (own_below ho.out ba)
      have HRa := Lib.hid (hrd.out.below ba)
      have HBa := Lib.hid (hb.out.trans (ba.mono hgw))
      have hqa : gp < (wr.alloc (.cells #[.int .u64 (v : Int), .int .i64 (z : Int)] 91)).heap.size := by simp; omega
      clear hS hz hv ba
      go_wp2_with fail
      refine (HPu.out _).mono ?_
      rintro e w4 ⟨rfl, hb4⟩
      have hs4 := hb4.size
      have HO4 := Lib.hid (own_below HOa.out hb4)
      have HR4 := Lib.hid (HRa.out.below hb4)
      have hg4 : g1 ≤ w4.heap.size := by have h1 := HBa.out.size; rw [HG1.out]; omega
      have HB4 := Lib.hid (HBa.out.trans (hb4.mono (by have h1 := HBa.out.size; rw [HG1.out]; exact h1)))
      have hq4 : gp < w4.heap.size := by omega
      clear hb4 hs4 HOa HRa HBa hqa ho hrd hb c1 c2 HPu
      have b5 : Below w4.heap.size w4 ((w4.alloc (.cells #[.string S, .int .i64 (z : Int)] 35)).alloc (.cells #[.string S, .int .i64 (z : Int)] 35)) := ((Below.refl _ w4).alloc (Nat.le_refl _) _).alloc (by simp) _
      have HO5 := Lib.hid (own_below HO4.out b5)
      have HR5 : Hid (Rd ((w4.alloc (.cells #[.string S, .int .i64 (z : Int)] 35)).alloc (.cells #[.string S, .int .i64 (z : Int)] 35)) (some ⟨w4.heap.size + 1, 0, none⟩) [.string S, .int .i64 (z : Int)]) := Lib.hid (by
        have h := Rd.new (w4.alloc (.cells #[.string S, .int .i64 (z : Int)] 35)) #[.string S, .int .i64 (z : Int)] 35
        have e : (w4.alloc (.cells #[.string S, .int .i64 (z : Int)] 35)).heap.size = w4.heap.size + 1 := by simp
        rw [e] at h; exact h)
      have HON : Hid (∀ u ∈ [Value.string S, .int .i64 (z : Int)], u.oneCell' = true) := Lib.hid (fun u hu => by
        rcases List.mem_cons.1 hu with rfl | hu
        · rfl
        · rw [List.mem_singleton.1 hu]; rfl)
      have HQ5 := Lib.hid (HR4.out.below b5)
      have HB5 := Lib.hid (HB4.out.trans (b5.mono hg4))
      have HS5 : Hid (((w4.alloc (.cells #[.string S, .int .i64 (z : Int)] 35)).alloc (.cells #[.string S, .int .i64 (z : Int)] 35)).heap.size = w4.heap.size + 2) := Lib.hid (by simp)
      clear b5 HO4 HR4 HB4
      go_wp2_with (at_builtin; refine wpList_app rfl _ _ 69 rfl g1 35 i0 (.agg #[.string ⟨#[]⟩, .int .i64 0]) 2 24 Try.underlying69 hi0 hz0 hz1 hz2 rfl (by decide) _ k _ rfl _ 1 1 [.string S, .int .i64 (z : Int)] rfl rfl HON.out (by unfold maxLen; omega) (by omega) HO5.out HR5.out (by rw [HS5.out]; omega) ?_)
      intro v6 w6 hown6 hgr6 hb6 hor6
      obtain ⟨g6, cap6, rfl⟩ := ownsRow_succ hown6
      rw [← HS.out] at hown6
      have H1 := Lib.hid hown6
      have hne6 : g6 ≠ gp := by
        rcases hor6 with h | h
        · have h2 : g6 = gl := Option.some.inj h
          omega
        · have h2 : g6 = _ := Option.some.inj h
          omega
      have H2 := Lib.hid (rd_grown HQ5.out hgr6 (fun r e => by have h2 : gl = r := Option.some.inj e; omega))
      have H3 := Lib.hid (HB5.out.trans hb6)
      have hq6 : gp < w6.heap.size := by
        have := hgr6.size
        rw [HS5.out] at this
        omega
      clear hown6 hgr6 hb6 hor6 HO5 HR5 HQ5 HB5 HS5 HON HS
      go_wp2_with fail
      go_roundw
      case rel => exact ⟨k + 1, g6, cap6, by omega, rfl, by go_num, H1, hne6, hq6, H2, H3⟩
      case measure => simp [RowKit.intOf]; omega
    · obtain rfl : k = m + 1 := by omega
      have k1 : ¬ (((m + 1 : Nat) : Int) < (m : Int) + 1) := by omega
      have HM : Hid (ManyAt wr (some ⟨gl, 0, none⟩) (L.map ptY)) := Lib.hid (HEND.out wr gl (by rw [HLl.out]; exact Rd.of_own ho.out))
      have hbw : Below w2.heap.size w2 wr := by rw [← HG1.out]; exact hb.out
      have Z0 := Lib.hid (Y0.out.below hbw); have Z1 := Lib.hid (Y1.out.below hbw)
      have BW := Lib.hid (B3.out.trans (hbw.mono B3.out.size))
      have d0 := Z0.out.c0; have d1 := Z0.out.c1
      clear ho hrd hb hbw
      go_wp2_with fail
      refine (HCa.out _ _ _ HM.out).mono ?_
      rintro e w5 ⟨rfl, b5⟩
      have y1 := Z1.out.below b5
      have b6 := (BW.out.trans (b5.mono BW.out.size))
      have HBF := Lib.hid ((b6.setCell (p := ⟨w.heap.size + 1, 0, none⟩) (Nat.le_succ _) (.string R)).setCell (p := ⟨w.heap.size + 1, 1, none⟩) (Nat.le_succ _) (.int .i64 RN))
      have hz := y1.set R RN
      have z0 := Lib.hid hz.c0; have z1 := Lib.hid hz.c1
      have u3 := y1.c0; have u4 := y1.c1; have u5 := y1.f0; have u6 := y1.f1
      clear b5 b6 hz y1 d0 d1 Z0 Z1 HM
      go_wp2_with fail
      refine bodyPost_ret (v := .tuple #[.agg #[.string R, .int .i64 RN], .int .i64 E]) (by simp [results, Try.results26, go_sem, z0.out, z1.out]) rfl ?_
      exact wrp_mk F.out HBF.out
end Go.Proofs.Ytjnehpkkkmicfaa.Tb2

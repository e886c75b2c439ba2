/- The law CanonApart. -/
import Derived.Test.YtjnehpkkkmicfaaBnM
import Derived.BigQuiet
namespace Go.Proofs.Ytjnehpkkkmicfaa.Cn
open Go.RowKit Go.Lib Rw Ls Od _root_.Go.Proofs.Ytjnehpkkkmicfaa.Nm Pk Bt

set_option maxHeartbeats 8000000 in
set_option maxRecDepth 100000 in
theorem apart_law (ls : List Int) (p : Option Addr) (c : Nat) (w : World) (hp : Rd w p (zs ls)) (hl : ls.length ≤ 17592186044416) :
    Calls Try.prog 6 #[.slice p ls.length c] w fun e w' => e = .returned (.bool true) ∧ Below w.heap.size w w' := by
  have CL := Lib.hid (fun W => lives_any W)
  have P := Lib.hid hp
  by_cases hok : okC ls
  case neg =>
    have CA : Hid (∀ W, Rd W p (zs ls) → Calls Try.prog 12 #[.slice p ls.length c] W (NUn W 0 [] 7)) := Lib.hid (fun W h => nun_of (L := []) (r := 7) (by unfold codesR; rw [if_neg hok]) rfl (pcodes_any ls p c W h hl))
    clear hok hp hl
    have B : Hid (Below w.heap.size w w) := Lib.hid (Below.refl _ _)
    go_enter Try.func6, Try.ntmps6
    go_wp2_with fail
    refine (CL.out _).mono ?_
    rintro e w0 ⟨rfl, b⟩
    replace P := Lib.hid (P.out.below b)
    replace B := Lib.hid (B.out.trans (b.mono B.out.size))
    clear b
    go_wp2_with fail
    refine (CA.out _ P.out).mono ?_
    rintro e w1 ⟨q1, c1, rfl, hc1, r1, b⟩
    replace B := Lib.hid (B.out.trans (b.mono B.out.size))
    clear b r1
    go_wp2_with fail
    go_ret
    exact ⟨rfl, B.out⟩
  have hrt := rt_of hok
  have RT := Lib.hid hrt
  obtain ⟨m, hm⟩ : ∃ m, m = ls.length := ⟨_, rfl⟩
  have CA : Hid (∀ W, Rd W p (zs ls) → Calls Try.prog 12 #[.slice p m c] W (NUn W m (codes ls) 0)) := Lib.hid (fun W h => by rw [hm]; exact nun_of (by unfold codesR; rw [if_pos hok]) (codes_length ls) (pcodes_any ls p c W h hl))
  rw [← hm] at hl ⊢
  have HM := Lib.hid hm
  have hm512 : m ≤ 512 := by rw [hm]; exact hrt.few
  have CLN : Hid ((codes ls).length = m) := Lib.hid (by rw [codes_length, hm])
  clear hok hp hm hrt hl
  have B : Hid (Below w.heap.size w w) := Lib.hid (Below.refl _ _)
  go_enter Try.func6, Try.ntmps6
  go_wp2_with fail
  refine (CL.out _).mono ?_
  rintro e w0 ⟨rfl, b⟩
  replace P := Lib.hid (P.out.below b)
  replace B := Lib.hid (B.out.trans (b.mono B.out.size))
  clear b
  go_wp2_with fail
  refine (CA.out _ P.out).mono ?_
  rintro e w1 ⟨q1, c1, rfl, hc1, r1, b⟩
  replace P := Lib.hid (P.out.below b)
  replace B := Lib.hid (B.out.trans (b.mono B.out.size))
  have R1 := Lib.hid r1
  clear b r1 CL CA
  go_wp2_with fail
  go_loopw [30] (fun iv wr => ∃ i : Nat, i ≤ m ∧ iv = .int .i64 i ∧ Hid (Rd wr p (zs ls)) ∧ Hid (Rd wr q1 (nums (codes ls))) ∧ Hid (Below w.heap.size w wr)) (fun iv _ => m - (RowKit.intOf iv).toNat)
  case atStart => exact ⟨0, by omega, rfl, P, R1, B⟩
  case round =>
    clear P R1 B
    obtain ⟨i, hi, rfl, P, R1, B⟩ := hrel
    by_cases hlt : i < m
    · have hil : i < ls.length := by rw [← HM.out]; exact hlt
      obtain ⟨a1, e1, cz⟩ := rd_z P.out i hil
      obtain ⟨a2, e2, cc⟩ := rd_num R1.out i (by rw [CLN.out]; exact hlt)
      subst e1; subst e2
      have k0 : (0 : Int) ≤ (i : Int) := by omega
      have k1 : (i : Int) < (m : Int) := by omega
      have hn15 := RT.out.all i hil
      obtain ⟨n, hn⟩ : ∃ n, n = ls.getD i 0 := ⟨_, rfl⟩
      obtain ⟨x, hx⟩ : ∃ x, x = (codes ls).getD i 0 := ⟨_, rfl⟩
      rw [← hn] at cz hn15
      rw [← hx] at cc
      have HN := Lib.hid hn; have HX := Lib.hid hx
      have CC := Lib.hid cc
      clear hn hx cc
      go_wp2_with fail
      go_loopw [37] (fun kv wr => ∃ k : Nat, k ≤ m ∧ kv = .int .i64 k ∧ Hid (Rd wr (some a1) (zs ls)) ∧ Hid (Rd wr (some a2) (nums (codes ls))) ∧ Hid (Below w.heap.size w wr)) (fun kv _ => m - (RowKit.intOf kv).toNat)
      case atStart => exact ⟨0, by omega, rfl, P, R1, B⟩
      case round =>
        clear P R1 B cz CC
        obtain ⟨k, hk, rfl, P, R1, B⟩ := hrel
        by_cases hlk : k < m
        · have hkl : k < ls.length := by rw [← HM.out]; exact hlk
          obtain ⟨a1', e1, dz⟩ := rd_z P.out k hkl
          obtain ⟨a2', e2, dc⟩ := rd_num R1.out k (by rw [CLN.out]; exact hlk)
          obtain ⟨a2'', e3, cc⟩ := rd_num R1.out i (by rw [CLN.out]; exact hlt)
          cases e1; cases e2; cases e3
          have k2 : (0 : Int) ≤ (k : Int) := by omega
          have k3 : (k : Int) < (m : Int) := by omega
          have hy15 := RT.out.all k hkl
          obtain ⟨y, hy⟩ : ∃ y, y = ls.getD k 0 := ⟨_, rfl⟩
          obtain ⟨z, hz⟩ : ∃ z, z = (codes ls).getD k 0 := ⟨_, rfl⟩
          rw [← hy] at dz hy15
          rw [← hz] at dc
          rw [← HX.out] at cc
          by_cases g1 : i = k
          · have t1 : ((i : Int) == (k : Int)) = true := by rw [beq_iff_eq]; omega
            have t2 : (i == k) = true := by rw [beq_iff_eq]; exact g1
            clear g1 hy hz
            go_wp2_with fail
            go_roundw
            case rel => exact ⟨k + 1, by omega, by go_num, P, R1, B⟩
            case measure => simp [RowKit.intOf]; omega
          have t1 : ((i : Int) == (k : Int)) = false := by rw [beq_eq_false_iff_ne]; omega
          have t2 : (i == k) = false := by rw [beq_eq_false_iff_ne]; exact g1
          by_cases g2 : n = 0
          · have t3 : (n == 0) = true := by rw [beq_iff_eq]; exact g2
            clear g1 g2 hy hz
            go_wp2_with fail
            go_roundw
            case rel => exact ⟨k + 1, by omega, by go_num, P, R1, B⟩
            case measure => simp [RowKit.intOf]; omega
          have t3 : (n == 0) = false := by rw [beq_eq_false_iff_ne]; exact g2
          by_cases g3 : y < n
          · have t4 : decide (y < n) = true := decide_eq_true g3
            clear g1 g2 g3 hy hz
            go_wp2_with fail
            go_roundw
            case rel => exact ⟨k + 1, by omega, by go_num, P, R1, B⟩
            case measure => simp [RowKit.intOf]; omega
          have t4 : decide (y < n) = false := decide_eq_false g3
          have hli : ((ln ls i : Nat) : Int) = n := by unfold ln; rw [← HN.out]; omega
          have hlk2 : ((ln ls k : Nat) : Int) = y := by unfold ln; rw [← hy]; omega
          have hxc : x = code ls i := by rw [HX.out, codes_at hil (by omega)]
          have hzc : z = code ls k := by rw [hz, codes_at hkl (by omega)]
          obtain ⟨t, ht⟩ : ∃ t, t = ln ls k - ln ls i := ⟨_, rfl⟩
          obtain ⟨v, hv⟩ : ∃ v, v = z / 2 ^ t := ⟨_, rfl⟩
          have hne := code_ne hil hkl g1 (by omega) (by omega) (RT.out.ln15 hkl)
          rw [← ht, ← hzc, ← hxc, ← hv] at hne
          have v1 : y - n = (t : Int) := by omega
          have w1 : IntKind.i64.wrap (t : Int) = (t : Int) := IntWalk.i64_in _ (by omega)
          have w2 : IntKind.u64.wrap (t : Int) = (t : Int) := IntWalk.u64_in _ (by omega)
          have hvz : ((z : Int) / 2 ^ t) = (v : Int) := by rw [hv]; simp
          have t5 : ((v : Int) == (x : Int)) = false := by rw [beq_eq_false_iff_ne]; omega
          have t6 : (v == x) = false := by rw [beq_eq_false_iff_ne]; exact hne
          by_cases g4 : n < y
          · have t7 : decide (n < y) = true := decide_eq_true g4
            have hb := code_behind hil (RT.out.ln15 hkl) (show bef ls k i from ⟨by omega, .inl (by omega)⟩)
            rw [← ht, ← hzc, ← hxc, ← hv] at hb
            have t8 : decide ((v : Int) < (x : Int)) = false := decide_eq_false (by omega)
            have t9 : decide (v < x) = false := decide_eq_false (by omega)
            have t10 : (y == n) = false := by rw [beq_eq_false_iff_ne]; omega
            clear g1 g2 g3 g4 hy hz hxc hzc ht hv hne hb hli hlk2
            go_wp2_with fail
            go_quiet (fail)
            go_wp2_with fail
            go_roundw
            case rel => exact ⟨k + 1, by omega, by go_num, Lib.hid (P.out.drewN _), Lib.hid (R1.out.drewN _), Lib.hid (below_drewN B.out _)⟩
            case measure => simp [RowKit.intOf]; omega
          · have t7 : decide (n < y) = false := decide_eq_false g4
            have t10 : (y == n) = true := by rw [beq_iff_eq]; omega
            have t0 : t = 0 := by omega
            have hv0 : v = z := by rw [hv, t0, Nat.pow_zero, Nat.div_one]
            by_cases g5 : i < k
            · have hb := code_behind hil (RT.out.ln15 hkl) (show bef ls k i from ⟨by omega, .inr ⟨by omega, g5⟩⟩)
              rw [← ht, ← hzc, ← hxc, t0, Nat.pow_zero, Nat.div_one] at hb
              have t8 : decide ((i : Int) < (k : Int)) = true := decide_eq_true (by omega)
              have t9 : decide (i < k) = true := decide_eq_true g5
              have t11 : decide ((x : Int) < (z : Int)) = true := decide_eq_true (by omega)
              have t12 : decide (x < z) = true := decide_eq_true (by omega)
              clear g1 g2 g3 g4 g5 hy hz hxc hzc ht hv hne hb hli hlk2 t0 hv0
              go_wp2_with fail
              go_quiet (fail)
              go_wp2_with fail
              go_roundw
              case rel => exact ⟨k + 1, by omega, by go_num, Lib.hid (P.out.drewN _), Lib.hid (R1.out.drewN _), Lib.hid (below_drewN B.out _)⟩
              case measure => simp [RowKit.intOf]; omega
            · have hb := code_behind hkl (RT.out.ln15 hil) (show bef ls i k from ⟨by omega, .inr ⟨by omega, by omega⟩⟩)
              rw [show ln ls i - ln ls k = 0 by omega, ← hzc, ← hxc, Nat.pow_zero, Nat.div_one] at hb
              have t8 : decide ((i : Int) < (k : Int)) = false := decide_eq_false (by omega)
              have t9 : decide (i < k) = false := decide_eq_false g5
              have t11 : decide ((x : Int) < (z : Int)) = false := decide_eq_false (by omega)
              have t12 : decide (x < z) = false := decide_eq_false (by omega)
              clear g1 g2 g3 g4 g5 hy hz hxc hzc ht hv hne hb hli hlk2 t0 hv0
              go_wp2_with fail
              go_quiet (fail)
              go_wp2_with fail
              go_roundw
              case rel => exact ⟨k + 1, by omega, by go_num, Lib.hid (P.out.drewN _), Lib.hid (R1.out.drewN _), Lib.hid (below_drewN B.out _)⟩
              case measure => simp [RowKit.intOf]; omega
        · obtain rfl : k = m := by omega
          have k2 : ¬ (k : Int) < (k : Int) := by omega
          go_wp2_with fail
          go_roundw
          case rel => exact ⟨i + 1, by omega, by go_num, P, R1, B⟩
          case measure => simp [RowKit.intOf]; omega
    · obtain rfl : i = m := by omega
      have k2 : ¬ (i : Int) < (i : Int) := by omega
      go_wp2_with fail
      go_ret
      exact ⟨rfl, B.out⟩
end Go.Proofs.Ytjnehpkkkmicfaa.Cn

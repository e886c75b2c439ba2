/- PsA PsB PsC PsD PsE PsF -/
import Derived.Test.YtjnehpkkkmicfaaBnI
import Derived.Test.YtjnehpkkkmicfaaPsM
import Derived.Test.YtjnehpkkkmicfaaBnH
import Derived.Test.YtjnehpkkkmicfaaBnD
import Derived.Deep.RegionLaw
import Derived.Deep.AppendLies
import Derived.RangeFuncBox
namespace Go.Proofs.Ytjnehpkkkmicfaa.Ps
open Go.RowKit Go.Lib Rw Ls Od Pk _root_.Go.Proofs.Ytjnehpkkkmicfaa.Nm

set_option maxHeartbeats 4000000 in
set_option maxRecDepth 100000 in
theorem pweights_any (ws : List Nat) (p : Option Addr) (c : Nat) (w : World) (hp : Rd w p (nums ws)) (hl : ws.length ≤ 17592186044416) :
    Calls Try.prog 53 #[.slice p ws.length c] w fun e w' => e = .returned (.bool (okW ws)) ∧ w' = w := by
  have P := Lib.hid hp
  obtain ⟨n, hn⟩ : ∃ n, n = ws.length := ⟨_, rfl⟩
  have HN := Lib.hid hn
  rw [← hn] at hl ⊢
  clear hp hn
  by_cases hbig : 512 < n
  · have F : Hid (okW ws = false) := Lib.hid (by unfold okW; rw [← HN.out, decide_eq_false (by omega)]; rfl)
    have b1 : decide ((512 : Int) < (n : Int)) = true := decide_eq_true (by omega)
    have b2 : decide (512 < n) = true := decide_eq_true hbig
    clear hbig
    go_enter Try.func53, Try.ntmps53
    go_wp2_with fail
    go_ret
    exact ⟨by rw [F.out]; rfl, rfl⟩
  have b1 : decide ((512 : Int) < (n : Int)) = false := decide_eq_false (by omega)
  have b2 : decide (512 < n) = false := decide_eq_false hbig
  have HB := Lib.hid hbig
  clear hbig
  go_enter Try.func53, Try.ntmps53
  go_wp2_with fail
  go_loopw [10] (fun i wr => ∃ k : Nat, k ≤ n ∧ i = .int .i64 k ∧ Hid (∀ j, j < k → ws.getD j 0 ≤ 1099511627776) ∧ wr = w) (fun i _ => n - (intOf i).toNat)
  case atStart => exact ⟨0, Nat.zero_le _, rfl, Lib.hid (fun j hj => by omega), rfl⟩
  case round =>
    obtain ⟨k, hk, rfl, HA, hw⟩ := hrel
    have HW := Lib.hid hw
    have P2 : Hid (Rd wr p (nums ws)) := Lib.hid (by rw [hw]; exact P.out)
    clear hw
    by_cases hlt : k < n
    · obtain ⟨a, rfl, cy⟩ := rd_num P2.out k (by rw [← HN.out]; exact hlt)
      obtain ⟨y, hy⟩ : ∃ y, y = ws.getD k 0 := ⟨_, rfl⟩
      rw [← hy] at cy
      have HY := Lib.hid hy
      have k0 : (0 : Int) ≤ (k : Int) := by omega
      have k1 : (k : Int) < (n : Int) := by omega
      clear hy
      by_cases hyb : y ≤ 1099511627776
      · have HB2 : Hid (∀ j, j < k + 1 → ws.getD j 0 ≤ 1099511627776) := Lib.hid (fun j hj => by
          rcases Nat.lt_or_ge j k with h | h
          · exact HA.out j h
          · rw [show j = k by omega, ← HY.out]; exact hyb)
        have d1 : decide ((1099511627776 : Int) < (y : Int)) = false := decide_eq_false (by omega)
        have d2 : decide (1099511627776 < y) = false := decide_eq_false (by omega)
        clear hyb
        go_wp2_with fail
        go_roundw
        case rel => exact ⟨k + 1, by omega, by go_num, HB2, HW.out⟩
        case measure => simp [intOf]; omega
      · have F : Hid (okW ws = false) := Lib.hid (by
          cases e : okW ws with
          | false => rfl
          | true => have := okW_at e k; rw [← HY.out] at this; omega)
        have d1 : decide ((1099511627776 : Int) < (y : Int)) = true := decide_eq_true (by omega)
        have d2 : decide (1099511627776 < y) = true := decide_eq_true (by omega)
        clear hyb
        go_wp2_with fail
        go_ret
        exact ⟨by rw [F.out]; rfl, HW.out⟩
    · obtain rfl : k = n := by omega
      have F : Hid (okW ws = true) := Lib.hid (by
        unfold okW
        rw [← HN.out, decide_eq_true (by have := HB.out; omega), Bool.true_and, List.all_eq_true]
        intro x hx
        obtain ⟨j, hj, e⟩ := List.getElem_of_mem hx
        have := HA.out j (by rw [HN.out]; exact hj)
        rw [gd hj] at this
        rw [← e]; exact decide_eq_true this)
      have k1 : ¬ (k : Int) < (k : Int) := by omega
      go_wp2_with fail
      go_ret
      exact ⟨by rw [F.out]; rfl, HW.out⟩
def okLim (lim : Int) : Bool := decide (1 ≤ lim) && decide (lim ≤ 15)
theorem plimit_any (lim : Int) (w : World) : Calls Try.prog 54 #[.int .i64 lim] w fun e w' => e = .returned (.bool (okLim lim)) ∧ w' = w := by
  by_cases h1 : 1 ≤ lim
  · have t1 : decide (1 ≤ lim) = true := decide_eq_true h1
    by_cases h2 : lim ≤ 15
    · have t2 : decide (lim ≤ 15) = true := decide_eq_true h2
      have F : Hid (okLim lim = true) := Lib.hid (by unfold okLim; rw [t1, t2]; rfl)
      go_enter Try.func54, Try.ntmps54
      go_wp2_with fail
      go_ret
      exact ⟨by rw [F.out]; rfl, rfl⟩
    · have t2 : decide (lim ≤ 15) = false := decide_eq_false h2
      have F : Hid (okLim lim = false) := Lib.hid (by unfold okLim; rw [t1, t2]; rfl)
      go_enter Try.func54, Try.ntmps54
      go_wp2_with fail
      go_ret
      exact ⟨by rw [F.out]; rfl, rfl⟩
  · have t1 : decide (1 ≤ lim) = false := decide_eq_false h1
    have F : Hid (okLim lim = false) := Lib.hid (by unfold okLim; rw [t1]; rfl)
    go_enter Try.func54, Try.ntmps54
    go_wp2_with fail
    go_ret
    exact ⟨by rw [F.out]; rfl, rfl⟩
set_option maxHeartbeats 4000000 in
set_option maxRecDepth 100000 in
theorem pcostw_any (ws : List Nat) (ls : List Int) (p q : Option Addr) (c d : Nat) (w : World) (hp : Rd w p (nums ws)) (hq : Rd w q (zs ls)) (hl : ws.length ≤ 17592186044416) (hm : ls.length ≤ 17592186044416) :
    Calls Try.prog 31 #[.slice p ws.length c, .slice q ls.length d] w fun e w' => e = .returned (.tuple #[.int .u64 ((costR ws ls).1 : Nat), .int .i64 (costR ws ls).2]) ∧ w' = w := by
  have P := Lib.hid hp; have Q := Lib.hid hq
  have CR := Lib.hid (fun W (h : Rd W p (nums ws)) => pweights_any ws p c W h hl)
  obtain ⟨n, hn⟩ : ∃ n, n = ws.length := ⟨_, rfl⟩
  obtain ⟨m, hm2⟩ : ∃ m, m = ls.length := ⟨_, rfl⟩
  have HN := Lib.hid hn; have HM := Lib.hid hm2
  rw [← hn] at hl CR ⊢
  rw [← hm2] at hm ⊢
  clear hp hq hn hm2
  cases ho : okW ws with
  | false =>
    have F : Hid (costR ws ls = (0, 1)) := Lib.hid (by unfold costR; rw [ho]; rfl)
    have C2 := Lib.hid (CR.out w P.out)
    rw [ho] at C2
    clear ho CR
    go_enter Try.func31, Try.ntmps31
    go_wp2_with fail
    refine C2.out.mono ?_
    rintro e w1 ⟨rfl, rfl⟩
    go_wp2_with fail
    refine bodyPost_ret (v := .tuple #[.int .u64 0, .int .i64 1]) (by simp [results, Try.results31, go_sem]) rfl ?_
    exact ⟨by rw [F.out]; rfl, rfl⟩
  | true =>
    have C2 := Lib.hid (CR.out w P.out)
    rw [ho] at C2
    have HOK := Lib.hid ho
    have HL5 : Hid (n ≤ 512) := Lib.hid (by rw [HN.out]; exact okW_len ho)
    clear ho CR
    by_cases hnm : n = m
    case neg =>
      have F : Hid (costR ws ls = (0, 5)) := Lib.hid (by unfold costR; rw [if_pos HOK.out, if_neg (by rw [← HN.out, ← HM.out]; exact hnm)])
      have d1 : ((n : Int) == (m : Int)) = false := by rw [beq_eq_false_iff_ne]; omega
      have d2 : (n == m) = false := by rw [beq_eq_false_iff_ne]; exact hnm
      have d3 : ((m : Int) == (n : Int)) = false := by rw [beq_eq_false_iff_ne]; omega
      have d4 : (m == n) = false := by rw [beq_eq_false_iff_ne]; exact fun h => hnm h.symm
      clear hnm
      go_enter Try.func31, Try.ntmps31
      go_wp2_with fail
      refine C2.out.mono ?_
      rintro e w1 ⟨rfl, rfl⟩
      go_wp2_with fail
      refine bodyPost_ret (v := .tuple #[.int .u64 0, .int .i64 5]) (by simp [results, Try.results31, go_sem]) rfl ?_
      exact ⟨by rw [F.out]; rfl, rfl⟩
    case pos =>
    subst hnm
    have d1 : ((n : Int) == (n : Int)) = true := by rw [beq_iff_eq]
    go_enter Try.func31, Try.ntmps31
    go_wp2_with fail
    refine C2.out.mono ?_
    rintro e w1 ⟨rfl, hw1⟩
    have HW1 := Lib.hid hw1
    clear hw1
    go_wp2_with fail
    go_loopw [6, 19] (fun v i wr => ∃ (k x : Nat), k ≤ n ∧ i = .int .i64 k ∧ v = .int .u64 x ∧ Hid (x = costT ws ls k) ∧ Hid (∀ j, j < k → good (ws.getD j 0) (ls.getD j 0) = true) ∧ Hid (wr = w)) (fun _ i _ => n - (intOf i).toNat)
    case atStart => exact ⟨0, 0, Nat.zero_le _, rfl, rfl, Lib.hid rfl, Lib.hid (fun j hj => by omega), HW1⟩
    case round =>
      obtain ⟨k, x, hk, rfl, rfl, HX, HG, HW⟩ := hrel
      have P2 : Hid (Rd wr p (nums ws)) := Lib.hid (by rw [HW.out]; exact P.out)
      have Q2 : Hid (Rd wr q (zs ls)) := Lib.hid (by rw [HW.out]; exact Q.out)
      have hxb : x ≤ k * 16492674416640 := by rw [HX.out]; exact costT_le HOK.out k HG.out
      by_cases hlt : k < n
      · obtain ⟨a, rfl, cy⟩ := rd_num P2.out k (by rw [← HN.out]; exact hlt)
        obtain ⟨b, rfl, cz⟩ := rd_z Q2.out k (by rw [← HM.out]; exact hlt)
        have HS := Lib.hid (costT_succ ws ls k)
        have hyb := okW_at HOK.out k
        obtain ⟨y, hy⟩ : ∃ y, y = ws.getD k 0 := ⟨_, rfl⟩
        obtain ⟨z, hz⟩ : ∃ z, z = ls.getD k 0 := ⟨_, rfl⟩
        have HYZ : Hid (ws.getD k 0 = y ∧ ls.getD k 0 = z) := Lib.hid ⟨hy.symm, hz.symm⟩
        rw [← hy] at cy HS hyb
        rw [← hz] at cz HS
        have k0 : (0 : Int) ≤ (k : Int) := by omega
        have k1 : (k : Int) < (n : Int) := by omega
        have hl5 := HL5.out
        clear hy hz
        cases hg : good y z with
        | false =>
          have F : Hid (costR ws ls = (0, 7)) := Lib.hid (by
            unfold costR
            rw [if_pos HOK.out, if_pos (by rw [← HN.out, ← HM.out]), if_neg]
            intro h
            rw [List.all_eq_true] at h
            have := h k (List.mem_range.2 (by rw [← HN.out]; exact hlt))
            rw [HYZ.out.1, HYZ.out.2, hg] at this; cases this)
          have hor : z < 0 ∨ (¬ z < 0 ∧ 15 < z) ∨ (¬ z < 0 ∧ ¬ 15 < z ∧ z = 0 ∧ 0 < y) := by
            rcases Int.lt_or_le z 0 with h | h
            · exact .inl h
            · rcases Int.lt_or_le 15 z with h2 | h2
              · exact .inr (.inl ⟨by omega, h2⟩)
              · refine .inr (.inr ⟨by omega, by omega, ?_⟩)
                exact Classical.not_not.1 fun h3 => by rw [good_iff.2 ⟨h, h2, h3⟩] at hg; cases hg
          clear hg HS hxb hyb
          rcases hor with h | ⟨h, h2⟩ | ⟨h, h2, h3, h4⟩
          · have e1 : decide (z < 0) = true := decide_eq_true h
            clear h
            go_wp2_with fail
            refine bodyPost_ret (v := .tuple #[.int .u64 0, .int .i64 7]) (by simp [results, Try.results31, go_sem]) rfl ?_
            exact ⟨by rw [F.out]; rfl, HW.out⟩
          · have e1 : decide (z < 0) = false := decide_eq_false h
            have e2 : decide (15 < z) = true := decide_eq_true h2
            clear h h2
            go_wp2_with fail
            refine bodyPost_ret (v := .tuple #[.int .u64 0, .int .i64 7]) (by simp [results, Try.results31, go_sem]) rfl ?_
            exact ⟨by rw [F.out]; rfl, HW.out⟩
          · subst h3
            have e4 : decide ((0 : Int) < (y : Int)) = true := decide_eq_true (by omega)
            have e5 : decide (0 < y) = true := decide_eq_true h4
            clear h h2 h4
            go_wp2_with fail
            refine bodyPost_ret (v := .tuple #[.int .u64 0, .int .i64 7]) (by simp [results, Try.results31, go_sem]) rfl ?_
            exact ⟨by rw [F.out]; rfl, HW.out⟩
        | true =>
          have HG2 : Hid (∀ j, j < k + 1 → good (ws.getD j 0) (ls.getD j 0) = true) := Lib.hid (fun j hj => by
            rcases Nat.lt_or_ge j k with h | h
            · exact HG.out j h
            · rw [show j = k by omega, HYZ.out.1, HYZ.out.2]; exact hg)
          obtain ⟨g1, g2, g3⟩ := good_iff.1 hg
          obtain ⟨u, rfl⟩ := Int.eq_ofNat_of_zero_le g1
          obtain ⟨v2, hv2⟩ : ∃ v2, v2 = y * u := ⟨_, rfl⟩
          have hv3 : v2 ≤ 1099511627776 * 15 := by rw [hv2]; exact Nat.mul_le_mul hyb (by omega)
          obtain ⟨x2, hx2⟩ : ∃ x2, x2 = x + v2 := ⟨_, rfl⟩
          have HX2 : Hid (x2 = costT ws ls (k + 1)) := Lib.hid (by rw [HS.out, hx2, hv2, HX.out]; rfl)
          have w1 : IntKind.u64.wrap ((u : Int)) = (u : Int) := IntWalk.u64_in _ (by omega)
          have w2 : (y : Int) * (u : Int) = (v2 : Int) := by rw [hv2]; exact (Int.natCast_mul y u).symm
          have w3 : IntKind.u64.wrap ((v2 : Int)) = (v2 : Int) := IntWalk.u64_in _ (by omega)
          have w4 : (x : Int) + (v2 : Int) = (x2 : Int) := by omega
          have w5 : IntKind.u64.wrap ((x2 : Int)) = (x2 : Int) := IntWalk.u64_in _ (by omega)
          have e1 : decide ((u : Int) < 0) = false := decide_eq_false (by omega)
          have e2 : decide ((15 : Int) < (u : Int)) = false := decide_eq_false (by omega)
          have e6 : decide (15 < u) = false := decide_eq_false (by omega)
          have hor : u ≠ 0 ∨ (u = 0 ∧ y = 0) := by omega
          clear hg g1 g2 g3 hv2 hx2 HS hyb
          rcases hor with h | ⟨rfl, rfl⟩
          · have e3 : ((u : Int) == 0) = false := by rw [beq_eq_false_iff_ne]; omega
            have e7 : (u == 0) = false := by rw [beq_eq_false_iff_ne]; exact h
            clear h
            go_wp2_with fail
            go_roundw
            case rel => exact ⟨k + 1, x2, by omega, by go_num, rfl, HX2, HG2, HW⟩
            case measure => simp [intOf]; omega
          · obtain rfl : v2 = 0 := by simpa using w2.symm
            obtain rfl : x2 = x := by omega
            clear w4
            go_wp2_with fail
            go_roundw
            case rel => exact ⟨k + 1, x2, by omega, by go_num, by first | rfl | go_num, HX2, HG2, HW⟩
            case measure => simp [intOf]; omega
      · obtain rfl : k = n := by omega
        have k1 : ¬ (k : Int) < (k : Int) := by omega
        have F : Hid (costR ws ls = (x, 0)) := Lib.hid (by
          unfold costR
          rw [if_pos HOK.out, if_pos (by rw [← HN.out, ← HM.out]), if_pos, ← HN.out, HX.out]
          rw [List.all_eq_true]
          intro j hj
          exact HG.out j (by rw [HN.out]; exact List.mem_range.1 hj))
        go_wp2_with fail
        refine bodyPost_ret (v := .tuple #[.int .u64 (x : Nat), .int .i64 0]) (by simp [results, Try.results31, go_sem]) rfl ?_
        exact ⟨by rw [F.out], HW.out⟩
set_option maxHeartbeats 4000000 in
set_option maxRecDepth 100000 in
theorem proomw_any (ls : List Int) (lim : Int) (q : Option Addr) (d : Nat) (w : World) (hq : Rd w q (zs ls)) (hm : ls.length ≤ 17592186044416) (hlim : -9223372036854775808 ≤ lim ∧ lim ≤ 9223372036854775807) :
    Calls Try.prog 37 #[.slice q ls.length d, .int .i64 lim] w fun e w' => e = .returned (.tuple #[.int .i64 (roomR ls lim).1, .int .i64 (roomR ls lim).2]) ∧ w' = w := by
  have Q := Lib.hid hq
  obtain ⟨m, hm2⟩ : ∃ m, m = ls.length := ⟨_, rfl⟩
  have HM := Lib.hid hm2
  rw [← hm2] at hm ⊢
  clear hq hm2
  cases ho : okR ls lim with
  | false =>
    have F : Hid (roomR ls lim = (0, 1)) := Lib.hid (by unfold roomR; rw [ho]; rfl)
    have hor : lim < 1 ∨ (¬ lim < 1 ∧ 15 < lim) ∨ (¬ lim < 1 ∧ ¬ 15 < lim ∧ 512 < m) := by
      unfold okR at ho
      simp only [Bool.and_eq_false_iff, decide_eq_false_iff_not, ← HM.out] at ho
      omega
    clear ho
    rcases hor with h | ⟨h, h2⟩ | ⟨h, h2, h3⟩
    · have e1 : decide (lim < 1) = true := decide_eq_true h
      have hcl : okLim lim = false := by unfold okLim; rw [decide_eq_false (by omega)]; rfl
      have CL := Lib.hid (plimit_any lim w)
      rw [hcl] at CL
      clear hcl
      clear h
      go_enter Try.func37, Try.ntmps37
      go_wp2_with fail
      refine CL.out.mono ?_
      rintro e w1 ⟨rfl, rfl⟩
      go_wp2_with fail
      refine bodyPost_ret (v := .tuple #[.int .i64 0, .int .i64 1]) (by simp [results, Try.results37, go_sem]) rfl ?_
      exact ⟨by rw [F.out], rfl⟩
    · have e1 : decide (lim < 1) = false := decide_eq_false h
      have e2 : decide (15 < lim) = true := decide_eq_true h2
      have hcl : okLim lim = false := by unfold okLim; rw [decide_eq_false (show ¬ lim ≤ 15 by omega), Bool.and_false]
      have CL := Lib.hid (plimit_any lim w)
      rw [hcl] at CL
      clear hcl
      clear h h2
      go_enter Try.func37, Try.ntmps37
      go_wp2_with fail
      refine CL.out.mono ?_
      rintro e w1 ⟨rfl, rfl⟩
      go_wp2_with fail
      refine bodyPost_ret (v := .tuple #[.int .i64 0, .int .i64 1]) (by simp [results, Try.results37, go_sem]) rfl ?_
      exact ⟨by rw [F.out], rfl⟩
    · have e1 : decide (lim < 1) = false := decide_eq_false h
      have e2 : decide (15 < lim) = false := decide_eq_false h2
      have e3 : decide ((512 : Int) < (m : Int)) = true := decide_eq_true (by omega)
      have e4 : decide (512 < m) = true := decide_eq_true h3
      have hcl : okLim lim = true := by unfold okLim; rw [decide_eq_true (by omega), decide_eq_true (by omega)]; rfl
      have CL := Lib.hid (plimit_any lim w)
      rw [hcl] at CL
      clear hcl
      clear h h2 h3
      go_enter Try.func37, Try.ntmps37
      go_wp2_with fail
      refine CL.out.mono ?_
      rintro e w1 ⟨rfl, rfl⟩
      go_wp2_with fail
      refine bodyPost_ret (v := .tuple #[.int .i64 0, .int .i64 1]) (by simp [results, Try.results37, go_sem]) rfl ?_
      exact ⟨by rw [F.out], rfl⟩
  | true =>
    have HOK := Lib.hid ho
    obtain ⟨g1, g2, g3⟩ : 1 ≤ lim ∧ lim ≤ 15 ∧ m ≤ 512 := by
      unfold okR at ho
      simp only [Bool.and_eq_true, decide_eq_true_eq, ← HM.out] at ho
      omega
    obtain ⟨lm, rfl⟩ := Int.eq_ofNat_of_zero_le (show 0 ≤ lim by omega)
    have hl1 : 1 ≤ lm ∧ lm ≤ 15 := by omega
    obtain ⟨x0, hx0⟩ : ∃ x0 : Nat, x0 = 2 ^ lm := ⟨_, rfl⟩
    have sh0 := shl_i64 lm hl1.2
    rw [← hx0] at sh0
    have hx0b : x0 ≤ 32768 := by rw [hx0]; exact Nat.pow_le_pow_right (n := 2) (by omega) hl1.2
    have HX0 := Lib.hid hx0
    have e1 : decide ((lm : Int) < 1) = false := decide_eq_false (by omega)
    have e2 : decide ((15 : Int) < (lm : Int)) = false := decide_eq_false (by omega)
    have e3 : decide ((512 : Int) < (m : Int)) = false := decide_eq_false (by omega)
    have e4 : decide (512 < m) = false := decide_eq_false (by omega)
    have e5 : decide (15 < lm) = false := decide_eq_false (by omega)
    have e6 : decide (lm < 1) = false := decide_eq_false (by omega)
    have w0 : IntKind.u64.wrap ((lm : Int)) = (lm : Int) := IntWalk.u64_in _ (by omega)
    have hcl : okLim (lm : Int) = true := by unfold okLim; rw [decide_eq_true (by omega), decide_eq_true (by omega)]; rfl
    have CL := Lib.hid (plimit_any (lm : Int) w)
    rw [hcl] at CL
    clear hcl
    clear ho g1 g2 hx0
    go_enter Try.func37, Try.ntmps37
    go_wp2_with fail
    refine CL.out.mono ?_
    rintro e w1 ⟨rfl, hw1⟩
    have HW1 := Lib.hid hw1
    clear hw1
    go_wp2_with fail
    have HSH := Lib.hid sh0
    clear sh0
    go_loopw [6, 21] (fun v i wr => ∃ (k y : Nat), k ≤ m ∧ i = .int .i64 k ∧ v = .int .i64 ((x0 : Int) - (y : Int)) ∧ Hid (y = tookT ls lm k) ∧ Hid (∀ j, j < k → 0 ≤ ls.getD j 0 ∧ ls.getD j 0 ≤ (lm : Int)) ∧ wr = w) (fun _ i _ => m - (intOf i).toNat)
    case atStart => exact ⟨0, 0, Nat.zero_le _, rfl, by rw [show ((0 : Nat) : Int) = 0 from rfl, Int.sub_zero]; exact congrArg _ (by first | rfl | exact HSH.out), Lib.hid rfl, Lib.hid (fun j hj => by omega), HW1.out⟩
    case round =>
      obtain ⟨k, y, hk, rfl, rfl, HY, HG, hw⟩ := hrel
      have HW := Lib.hid hw
      have Q2 : Hid (Rd wr q (zs ls)) := Lib.hid (by rw [hw]; exact Q.out)
      have hyb : y ≤ k * 32768 := by rw [HY.out]; exact tookT_le ls lm hl1.2 k
      clear hw
      by_cases hlt : k < m
      · obtain ⟨b, rfl, cz⟩ := rd_z Q2.out k (by rw [← HM.out]; exact hlt)
        have HS := Lib.hid (tookT_succ ls lm k)
        obtain ⟨z, hz⟩ : ∃ z, z = ls.getD k 0 := ⟨_, rfl⟩
        have HZ := Lib.hid hz
        rw [← hz] at cz HS
        have k0 : (0 : Int) ≤ (k : Int) := by omega
        have k1 : (k : Int) < (m : Int) := by omega
        clear hz
        by_cases hg : 0 ≤ z ∧ z ≤ (lm : Int)
        · have HG2 : Hid (∀ j, j < k + 1 → 0 ≤ ls.getD j 0 ∧ ls.getD j 0 ≤ (lm : Int)) := Lib.hid (fun j hj => by
            rcases Nat.lt_or_ge j k with h | h
            · exact HG.out j h
            · rw [show j = k by omega, ← HZ.out]; exact hg)
          obtain ⟨u, rfl⟩ := Int.eq_ofNat_of_zero_le hg.1
          have f1 : decide ((u : Int) < 0) = false := decide_eq_false (by omega)
          have f2 : decide ((lm : Int) < (u : Int)) = false := decide_eq_false (by omega)
          have f3 : decide (lm < u) = false := decide_eq_false (by omega)
          have hul : u ≤ lm := by omega
          clear hg
          by_cases hu : 0 < u
          · have f4 : decide ((0 : Int) < (u : Int)) = true := decide_eq_true (by omega)
            have f5 : decide (0 < u) = true := decide_eq_true hu
            obtain ⟨t, ht⟩ : ∃ t, t = lm - u := ⟨_, rfl⟩
            have v1 : (lm : Int) - (u : Int) = (t : Int) := by omega
            have v2 : IntKind.i64.wrap ((t : Int)) = (t : Int) := IntWalk.i64_in _ (by omega)
            have v3 : IntKind.u64.wrap ((t : Int)) = (t : Int) := IntWalk.u64_in _ (by omega)
            have ht15 : t ≤ 15 := by omega
            obtain ⟨x1, hx1⟩ : ∃ x1 : Nat, x1 = 2 ^ t := ⟨_, rfl⟩
            have hx1b : x1 ≤ 32768 := by rw [hx1]; exact Nat.pow_le_pow_right (n := 2) (by decide) ht15
            have HX1 := Lib.hid hx1
            clear hx1
            obtain ⟨y2, hy2⟩ : ∃ y2, y2 = y + x1 := ⟨_, rfl⟩
            have v4 : (x0 : Int) - (y : Int) - (x1 : Int) = (x0 : Int) - (y2 : Int) := by omega
            have v5 : IntKind.i64.wrap ((x0 : Int) - (y2 : Int)) = (x0 : Int) - (y2 : Int) := IntWalk.i64_in _ (by omega)
            have HY2 : Hid (y2 = tookT ls lm (k + 1)) := Lib.hid (by rw [HS.out, if_pos (by omega), ← HY.out, hy2, HX1.out, ht]; rfl)
            have sh1 := shl_i64 t ht15
            rw [← HX1.out] at sh1
            clear hu ht hy2 HS
            go_wp2_with fail
            go_roundw
            case rel => exact ⟨k + 1, y2, by omega, by go_num, rfl, HY2, HG2, HW.out⟩
            case measure => simp [intOf]; omega
          · have f4 : decide ((0 : Int) < (u : Int)) = false := decide_eq_false (by omega)
            have f5 : decide (0 < u) = false := decide_eq_false hu
            have HY2 : Hid (y = tookT ls lm (k + 1)) := Lib.hid (by rw [HS.out, if_neg (by omega), ← HY.out, Nat.add_zero])
            clear hu HS
            go_wp2_with fail
            go_roundw
            case rel => exact ⟨k + 1, y, by omega, by go_num, rfl, HY2, HG2, HW.out⟩
            case measure => simp [intOf]; omega
        · have F : Hid (roomR ls (lm : Int) = (0, 7)) := Lib.hid (by
            unfold roomR
            rw [if_pos HOK.out, if_neg]
            intro h
            rw [List.all_eq_true] at h
            have h2 : k < ls.length := by rw [← HM.out]; exact hlt
            have := h (ls[k]) (List.getElem_mem h2)
            simp only [Bool.and_eq_true, decide_eq_true_eq] at this
            apply hg
            rw [HZ.out, List.getD_eq_getElem?_getD, List.getElem?_eq_getElem h2]
            exact this)
          have hor : z < 0 ∨ (¬ z < 0 ∧ (lm : Int) < z) := by omega
          clear hg HS
          rcases hor with h | ⟨h, h2⟩
          · have f1 : decide (z < 0) = true := decide_eq_true h
            clear h
            go_wp2_with fail
            refine bodyPost_ret (v := .tuple #[.int .i64 0, .int .i64 7]) (by simp [results, Try.results37, go_sem]) rfl ?_
            exact ⟨by rw [F.out], HW.out⟩
          · have f1 : decide (z < 0) = false := decide_eq_false h
            have f2 : decide ((lm : Int) < z) = true := decide_eq_true h2
            clear h h2
            go_wp2_with fail
            refine bodyPost_ret (v := .tuple #[.int .i64 0, .int .i64 7]) (by simp [results, Try.results37, go_sem]) rfl ?_
            exact ⟨by rw [F.out], HW.out⟩
      · obtain rfl : k = m := by omega
        have k1 : ¬ (k : Int) < (k : Int) := by omega
        have F : Hid (roomR ls (lm : Int) = ((x0 : Int) - (y : Int), 0)) := Lib.hid (by
          unfold roomR
          rw [if_pos HOK.out, if_pos, Int.toNat_natCast, HX0.out, HY.out, ← HM.out]
          rw [List.all_eq_true]
          intro x hx
          obtain ⟨j, hj, e⟩ := List.getElem_of_mem hx
          have := HG.out j (by rw [HM.out]; exact hj)
          rw [List.getD_eq_getElem?_getD, List.getElem?_eq_getElem hj] at this
          rw [← e]
          simp only [Bool.and_eq_true, decide_eq_true_eq]
          exact this)
        go_wp2_with fail
        refine bodyPost_ret (v := .tuple #[.int .i64 ((x0 : Int) - (y : Int)), .int .i64 0]) (by simp [results, Try.results37, go_sem]) rfl ?_
        exact ⟨by rw [F.out], HW.out⟩
end Go.Proofs.Ytjnehpkkkmicfaa.Ps
namespace Go.Proofs.Ytjnehpkkkmicfaa.Ps
open Go.RowKit Go.Lib Rw Ls Od Pk St _root_.Go.Proofs.Ytjnehpkkkmicfaa.Nm
open Go.Sort (Holds ahead putRow size_putRow mapBlock grow PermIn)

theorem isnan_any (a : Nat) (w : World) : Calls Try.prog 92 #[.int .u64 a] w fun e w' => e = .returned (.bool false) ∧ w' = w := by
  have t : ((a : Int) == (a : Int)) = true := by simp
  go_enter Try.func92, Try.ntmps92
  go_wp2_with fail
  go_ret
  exact ⟨rfl, rfl⟩
def cmpV (a b : Nat) : Int := if a < b then -1 else if b < a then 1 else 0
theorem pcmp_any (a b : Nat) (w : World) : Calls Try.prog 84 #[.int .u64 a, .int .u64 b] w fun e w' => e = .returned (.int .i64 (cmpV a b)) ∧ w' = w := by
  have CN := Lib.hid isnan_any
  by_cases h1 : a < b
  · have F : Hid (cmpV a b = -1) := Lib.hid (if_pos h1)
    have t1 : decide ((a : Int) < (b : Int)) = true := decide_eq_true (by omega)
    have t2 : decide (a < b) = true := decide_eq_true h1
    clear h1
    go_enter Try.func84, Try.ntmps84
    go_wp2_with (go_at_call 92; refine (CN.out _ _).mono ?_; rintro e w1 ⟨rfl, rfl⟩)
    go_ret
    exact ⟨by rw [F.out]; rfl, rfl⟩
  · have t1 : decide ((a : Int) < (b : Int)) = false := decide_eq_false (by omega)
    have t2 : decide (a < b) = false := decide_eq_false h1
    by_cases h2 : b < a
    · have F : Hid (cmpV a b = 1) := Lib.hid (by unfold cmpV; rw [if_neg h1, if_pos h2])
      have t3 : decide ((b : Int) < (a : Int)) = true := decide_eq_true (by omega)
      have t4 : decide (b < a) = true := decide_eq_true h2
      clear h1 h2
      go_enter Try.func84, Try.ntmps84
      go_wp2_with (go_at_call 92; refine (CN.out _ _).mono ?_; rintro e w1 ⟨rfl, rfl⟩)
      go_ret
      exact ⟨by rw [F.out]; rfl, rfl⟩
    · have F : Hid (cmpV a b = 0) := Lib.hid (by unfold cmpV; rw [if_neg h1, if_neg h2])
      have t3 : decide ((b : Int) < (a : Int)) = false := decide_eq_false (by omega)
      have t4 : decide (b < a) = false := decide_eq_false h2
      clear h1 h2
      go_enter Try.func84, Try.ntmps84
      go_wp2_with (go_at_call 92; refine (CN.out _ _).mono ?_; rintro e w1 ⟨rfl, rfl⟩)
      go_ret
      exact ⟨by rw [F.out]; rfl, rfl⟩
/-- a symbol's weight -/
theorem leafw_any (ws : List Nat) (p : Option Addr) (c Bx i n : Nat) (W : World) (hn : n = ws.length) (hi : i < n) (hc : W.cell? ⟨Bx, 0, none⟩ = some (.slice p n c)) (hr : Rd W p (nums ws)) :
    Calls Try.prog 73 #[.int .i64 i, .pointer (some ⟨Bx, 0, none⟩)] W fun e w' => e = .returned (.int .u64 (wf ws i : Nat)) ∧ w' = W := by
  obtain ⟨a, rfl, cy⟩ := rd_num hr i (by rw [← hn]; exact hi)
  have F : Hid (wf ws i = ws.getD i 0) := Lib.hid rfl
  obtain ⟨y, hy⟩ : ∃ y, y = ws.getD i 0 := ⟨_, rfl⟩
  rw [← hy] at cy F
  have k0 : (0 : Int) ≤ (i : Int) := by omega
  have k1 : (i : Int) < (n : Int) := by omega
  clear hn hi hr hy
  go_enter Try.func73, Try.ntmps73
  go_wp2_with fail
  go_ret
  exact ⟨by rw [F.out]; rfl, rfl⟩
theorem cell_gr {w : World} {a : Addr} {v : Value} (hl : a.block < w.heap.size) (h : w.cell? a = some v) (n : Nat) (os : Array Obj) : (grow (w.drewN n) os).cell? a = some v := by
  rw [Go.Sort.cell?_grow _ _ _ (by exact hl)]; exact h
theorem below_gr (w : World) (n : Nat) (os : Array Obj) : RowKit.Below w.heap.size w (grow (w.drewN n) os) :=
  ⟨rfl, rfl, rfl, by rw [Go.Sort.size_grow]; exact Nat.le_add_right _ _, fun k hk => by rw [Go.Sort.heap_grow_old _ _ (by exact hk)]; rfl⟩
theorem lays_of {w w' : World} (h : w' = w) : ∃ q os', w' = grow (w.drewN q) os' := ⟨0, #[], by rw [h, Go.Sort.grow_empty]; rfl⟩
/-- two symbols by their weights -/
theorem risec_any (ws : List Nat) (p : Option Addr) (c Bx Bf x y n : Nat) (W : World) (hn : n = ws.length) (hx : x < n) (hy : y < n) (hfl : Bf < W.heap.size) (hcl : Bx < W.heap.size) (hf : W.cell? ⟨Bf, 0, none⟩ = some (.func (.func 73) #[] #[.pointer (some ⟨Bx, 0, none⟩)])) (hc : W.cell? ⟨Bx, 0, none⟩ = some (.slice p n c)) (hr : Rd W p (nums ws)) :
    Calls Try.prog 83 #[.int .i64 x, .int .i64 y, .pointer (some ⟨Bf, 0, none⟩)] W fun e w' => e = .returned (.int .i64 (cmpV (wf ws x) (wf ws y))) ∧ ∃ q os', w' = grow (W.drewN q) os' := by
  have mixed : Try.prog.follows Departure.mixedOrders = true := by kernel_rfl
  have C1 : Hid (∀ n os, Calls Try.prog 73 #[.int .i64 x, .pointer (some ⟨Bx, 0, none⟩)] (grow (W.drewN n) os) fun e w' => e = .returned (.int .u64 (wf ws x : Nat)) ∧ ∃ q os', w' = grow ((grow (W.drewN n) os).drewN q) os') := Lib.hid (fun z os => (leafw_any ws p c Bx x n _ hn hx (cell_gr (a := ⟨Bx, 0, none⟩) hcl hc z os) (hr.below (below_gr W z os))).mono fun e w' ⟨h1, h2⟩ => ⟨h1, lays_of h2⟩)
  have C2 : Hid (∀ n os, Calls Try.prog 73 #[.int .i64 y, .pointer (some ⟨Bx, 0, none⟩)] (grow (W.drewN n) os) fun e w' => e = .returned (.int .u64 (wf ws y : Nat)) ∧ ∃ q os', w' = grow ((grow (W.drewN n) os).drewN q) os') := Lib.hid (fun z os => (leafw_any ws p c Bx y n _ hn hy (cell_gr (a := ⟨Bx, 0, none⟩) hcl hc z os) (hr.below (below_gr W z os))).mono fun e w' ⟨h1, h2⟩ => ⟨h1, lays_of h2⟩)
  have C3 : Hid (∀ n os, Calls Try.prog 84 #[.int .u64 (wf ws x : Nat), .int .u64 (wf ws y : Nat)] (grow (W.drewN n) os) fun e w' => e = .returned (.int .i64 (cmpV (wf ws x) (wf ws y))) ∧ ∃ q os', w' = grow ((grow (W.drewN n) os).drewN q) os') := Lib.hid (fun z os => (pcmp_any _ _ _).mono fun e w' ⟨h1, h2⟩ => ⟨h1, lays_of h2⟩)
  have l0 := fun n os => cell_gr (a := ⟨Bf, 0, none⟩) hfl hf n os
  generalize wf ws x = u at C1 C3 ⊢
  generalize wf ws y = v at C2 C3 ⊢
  generalize cmpV u v = r at C3 ⊢
  clear hn hx hy hr hc hcl hfl
  go_enter Try.func83, Try.ntmps83
  go_wp2_with fail
  go_quiet_grown (first | (with_reducible refine Calls.grown_of (C1.out _ _)) | (with_reducible refine Calls.grown_of (C2.out _ _)) | (with_reducible refine Calls.grown_of (C3.out _ _)))
  go_wp2_with fail
  go_ret
  exact ⟨rfl, _, _, rfl⟩
/-! ### worlds of the sort -/
section
variable {enc : Nat → Value} {w0 : World} {g m : Nat} {d : Array Nat} {os : Array Obj}
theorem sw_size : w0.heap.size ≤ (sortWorld enc w0 g 0 m d os).heap.size := by
  unfold sortWorld; rw [Go.Sort.size_grow, size_putRow]; exact Nat.le_add_right _ _
theorem sw_cell {a : Addr} {v : Value} (hne : a.block ≠ g) (hlt : a.block < w0.heap.size) (h : w0.cell? a = some v) : (sortWorld enc w0 g 0 m d os).cell? a = some v := by
  unfold sortWorld
  rw [Go.Sort.cell?_grow _ _ _ (by rw [size_putRow]; exact hlt), Go.Sort.cell?_putRow_other enc _ g 0 _ _ (.inl hne)]
  exact h
theorem sw_rd {p : Option Addr} {xs : List Value} (h : Rd w0 p xs) (hne : ∀ a, p = some a → a.block ≠ g) : Rd (sortWorld enc w0 g 0 m d os) p xs := fun i hi => by
  obtain ⟨a, e, hl, hc⟩ := h i hi
  exact ⟨a, e, Nat.lt_of_lt_of_le hl sw_size, sw_cell (by rw [add_block]; exact hne a e) (by rw [add_block]; exact hl) hc⟩
theorem sw_below {W : World} {B : Nat} (h : SW enc w0 g 0 d W) (hB : B ≤ g) (hb : B ≤ w0.heap.size) : RowKit.Below B w0 W := by
  obtain ⟨n, os, rfl⟩ := h
  refine ⟨rfl, rfl, rfl, sw_size, fun k hk => ?_⟩
  have hs : k < (putRow enc (Go.Sort.ahead w0 n) g 0 d).heap.size := by rw [size_putRow]; exact Nat.lt_of_lt_of_le hk hb
  unfold sortWorld
  rw [Go.Sort.heap_grow_old _ _ hs]
  simp only [putRow, mapBlock, Array.getElem?_modify]
  rw [if_neg (by omega)]
  rfl
end
theorem sw_below' {α : Type} [Inhabited α] {enc : α → Value} {w0 : World} {g : Nat} {d : Array α} {W : World} {B : Nat} (h : ∃ n os, W = sortWorld enc w0 g 0 n d os) (hB : B ≤ g) (hb : B ≤ w0.heap.size) : RowKit.Below B w0 W := by
  obtain ⟨n, os, rfl⟩ := h
  refine ⟨rfl, rfl, rfl, by unfold sortWorld; rw [Go.Sort.size_grow, size_putRow]; exact Nat.le_add_right _ _, fun k hk => ?_⟩
  have hs : k < (putRow enc (Go.Sort.ahead w0 n) g 0 d).heap.size := by rw [size_putRow]; exact Nat.lt_of_lt_of_le hk hb
  unfold sortWorld
  rw [Go.Sort.heap_grow_old _ _ hs]
  simp only [putRow, mapBlock, Array.getElem?_modify]
  rw [if_neg (by omega)]
  rfl
theorem holds_own {enc : Nat → Value} {w : World} {B g cap n : Nat} {e : TypeId} {L : List Nat} {xs : List Value} (h : w.ownsRow B e 1 (.slice (some ⟨g, 0, none⟩) n cap) n xs) (hx : xs = L.map enc) : Holds enc w g 0 L.toArray := fun j hj => by
  have hj2 : j < L.length := by simpa using hj
  have hl : n = L.length := by have := h.1; rw [hx] at this; simpa using this.symm
  rw [Nat.zero_add]
  refine ⟨?_, h.frozenAt j⟩
  rw [h.cellAt j (by omega), hx]
  have e : L.toArray[j]! = L[j] := by simp [hj2]
  rw [e]
  simp [hj2]
theorem srt_mod {ws : List Nat} {n : Nat} {d d' : Array Nat} {L : List Nat} (hd : d = L.toArray) (hL : ∀ x ∈ L, x < n) (hp : PermIn 0 L.length d d') (hs : Srt (fun x => wf ws (x % n)) d' 0 L.length) : Srt (wf ws) d' 0 L.length := fun i j h1 h2 h3 => by
  have key : ∀ t, t < L.length → d'[t]! < n := fun t ht => by
    obtain ⟨u, _, hu, e⟩ := perm_at hp (by rw [hd]; simp) (Nat.zero_le t) ht
    rw [e, hd, getElem!_pos L.toArray u (by simpa using hu)]
    exact hL _ (by simp)
  have := hs i j h1 h2 h3
  have e1 := Nat.mod_eq_of_lt (key i (by omega))
  have e2 := Nat.mod_eq_of_lt (key j h3)
  unfold R at this ⊢
  simp only [e1, e2] at this
  exact this
set_option maxHeartbeats 4000000 in
theorem rise_any (ws : List Nat) (p : Option Addr) (c Bx n B g cap sz : Nat) (w : World) (hn : n = ws.length) (hl : n ≤ 1000000) (hsz : sz = (sy ws).length) (hB : B ≤ w.heap.size)
    (ho : w.ownsRow B 3 1 (.slice (some ⟨g, 0, none⟩) sz cap) sz (zs (up (sy ws)))) (hg : g < w.heap.size) (hgB : B ≤ g) (hbx : Bx < w.heap.size) (hbg : Bx ≠ g) (hc : w.cell? ⟨Bx, 0, none⟩ = some (.slice p n c)) (hr : Rd w p (nums ws)) (hpg : 0 < n → ∀ a, p = some a → a.block ≠ g) :
    Calls Try.prog 72 #[.slice (some ⟨g, 0, none⟩) sz cap, .func (.func 73) #[] #[.pointer (some ⟨Bx, 0, none⟩)]] w fun e w' => e = .returned (.tuple #[]) ∧ RowKit.Below B w w' ∧ Rd w' (some ⟨g, 0, none⟩) (zs (up (lv ws))) := by
  obtain ⟨Bf, hBf⟩ : ∃ Bf, Bf = w.heap.size := ⟨_, rfl⟩
  obtain ⟨w1, hw1⟩ : ∃ w1, w1 = w.alloc (.cells #[.func (.func 73) #[] #[.pointer (some ⟨Bx, 0, none⟩)]] 115) := ⟨_, rfl⟩
  have hal : RowKit.Below w.heap.size w w1 := by rw [hw1]; exact (RowKit.Below.refl _ w).alloc (Nat.le_refl _) _
  have hs1 : w1.heap.size = Bf + 1 := by rw [hw1, hBf]; simp
  have hlt : ∀ x ∈ sy ws, x < n := fun x hx => by rw [hn]; exact (sy_lt hx).1
  have hsy : (sy ws).length ≤ n := by rw [hn]; exact sy_len ws
  have ho1 := own_below ho hal
  have hH : Holds (fun x : Nat => Value.int .i64 ((x % n : Nat) : Int)) w1 g 0 (sy ws).toArray := holds_own ho1 (by
    unfold zs up
    rw [List.map_map]
    apply List.map_congr_left
    intro x hx
    simp [Nat.mod_eq_of_lt (hlt x hx)])
  have hR : Row1 (fun x : Nat => Value.int .i64 ((x % n : Nat) : Int)) w1 g 0 (sy ws).toArray := ⟨fun _ => rfl, hH, by omega⟩
  have hcmp : 0 < sz → CmpLays1 Try.prog 83 #[.pointer (some ⟨Bf, 0, none⟩)] (fun x : Nat => Value.int .i64 ((x % n : Nat) : Int)) (cmpK fun x => wf ws (x % n)) g 0 (sy ws).toArray.size w1 := by
    intro h0 m os dk hdk x y
    have hn0 : 0 < n := by omega
    have hz := sw_size (enc := fun x : Nat => Value.int .i64 ((x % n : Nat) : Int)) (w0 := w1) (g := g) (m := m) (d := dk) (os := os)
    refine (risec_any ws p c Bx Bf (x % n) (y % n) n _ hn (Nat.mod_lt _ hn0) (Nat.mod_lt _ hn0) (by omega) (by omega) ?_ ?_ ?_).mono ?_
    · refine sw_cell (by show Bf ≠ g; omega) (by show Bf < _; omega) ?_
      rw [hw1, hBf]; simp
    · refine sw_cell (by exact hbg) (by show Bx < _; omega) ?_
      rw [hal.cell (p := ⟨Bx, 0, none⟩) hbx]; exact hc
    · exact sw_rd (hr.below hal) (hpg hn0)
    · rintro e w' ⟨h1, q, os', h2⟩
      exact ⟨h1, q, os', h2⟩
  have hC := sort_I (fun x : Nat => Value.int .i64 ((x % n : Nat) : Int)) (fun x => wf ws (x % n)) 83 #[.pointer (some ⟨Bf, 0, none⟩)] g 0 cap sz (sy ws).toArray w1
    (enters_of Try.func83 (by kernel_rfl) rfl) hcmp hR (by rw [hsz]; simp) (by omega) (sy ws).toArray w1 (by rw [hsz]; simp) (by rw [hsz]; exact asc_of (sy_lt' ws)) (SW.start hH)
  have C := Lib.hid hC
  have FIN : Hid (∀ e w', MgI (fun x : Nat => Value.int .i64 ((x % n : Nat) : Int)) (fun x => wf ws (x % n)) w1 g 0 (sy ws).toArray 0 sz e w' → e = .returned (.tuple #[]) ∧ RowKit.Below B w w' ∧ Rd w' (some ⟨g, 0, none⟩) (zs (up (lv ws)))) := Lib.hid (by
    rintro e w' ⟨rfl, d', h1, h2, h3⟩
    rw [hsz] at h1 h2
    have h4 := lv_sorted h1 (srt_mod rfl hlt h1 h2)
    have hb := sw_below (B := B) h3 hgB (by omega)
    refine ⟨rfl, (hal.mono hB).trans hb, fun i hi => ?_⟩
    have hds : d'.size = (sy ws).length := by have := h1.1; simpa using this
    have hil : i < (lv ws).length := by simpa [zs, up] using hi
    have hi2 : i < d'.size := by rw [hds, ← lv_len]; exact hil
    have hh := (h3.holds (by omega) hH (by rw [hds]; simp)) i hi2
    refine ⟨_, rfl, h3.lt (by omega), ?_⟩
    rw [Addr.add_lit, hh.1]
    have e1 : d'[i]! = (lv ws)[i] := by
      rw [getElem!_pos d' i hi2]
      simp [← h4]
    have e2 : (lv ws)[i] < n := hlt _ ((lv_perm ws).mem_iff.1 (List.getElem_mem hil))
    rw [e1]
    show some (Value.int .i64 (((lv ws)[i] % n : Nat) : Int)) = _
    rw [Nat.mod_eq_of_lt e2]
    simp [zs, up, hil])
  clear hC hcmp hR hH ho ho1 hr hc hal hlt hsy hpg
  rw [hw1] at C
  clear hn hsz hB hg hgB hbx hbg hl hs1
  subst hBf
  go_enter Try.func72, Try.ntmps72
  go_wp2_with fail
  refine C.out.mono ?_
  rintro e w2 hm
  obtain ⟨rfl, h2, h3⟩ := FIN.out _ _ (by rw [hw1]; exact hm)
  have H2 := Lib.hid h2; have H3 := Lib.hid h3
  clear h2 h3 hm
  go_wp2_with fail
  go_end0
  exact ⟨rfl, H2.out, H3.out⟩
end Go.Proofs.Ytjnehpkkkmicfaa.Ps
namespace Go.Proofs.Ytjnehpkkkmicfaa.Ps
open Go.RowKit Go.Lib Rw Ls Od Pk St _root_.Go.Proofs.Ytjnehpkkkmicfaa.Nm

/-- the leaves, new -/
def LeP (w : World) (ws : List Nat) (sz : Nat) (e : Ending) (w' : World) : Prop := ∃ (g cap : Nat), e = .returned (.slice (some ⟨g, 0, none⟩) sz cap) ∧ w.heap.size < g ∧ g < w'.heap.size ∧ Rd w' (some ⟨g, 0, none⟩) (zs (up (lv ws))) ∧ Below w.heap.size w w'
set_option maxHeartbeats 4000000 in
set_option maxRecDepth 100000 in
theorem leaves_any (ws : List Nat) (p : Option Addr) (c n sz : Nat) (w : World) (hn : n = ws.length) (hl : n ≤ 1000000) (hsz : sz = (sy ws).length) (hp : Rd w p (nums ws)) :
    Calls Try.prog 55 #[.slice p n c] w (LeP w ws sz) := by
  obtain ⟨i0, hi0, hz0, hz1, hz2⟩ := info_parts info_int
  obtain ⟨B, hB⟩ : ∃ B, B = w.heap.size := ⟨_, rfl⟩
  obtain ⟨w1, hw1⟩ : ∃ w1, w1 = w.alloc (.cells #[.slice p n c] 25) := ⟨_, rfl⟩
  obtain ⟨w2, hw2⟩ : ∃ w2, w2 = w1.alloc (.cells #[] 3) := ⟨_, rfl⟩
  have hb1 : Below w.heap.size w w1 := by rw [hw1]; exact (Below.refl _ w).alloc (Nat.le_refl _) _
  have hs1 : w1.heap.size = B + 1 := by rw [hw1, hB]; simp
  have hb2 : Below w1.heap.size w1 w2 := by rw [hw2]; exact (Below.refl _ w1).alloc (Nat.le_refl _) _
  have hs2 : w2.heap.size = B + 2 := by rw [hw2]; simp [hs1]
  have own0 : w2.ownsRow (B + 1) 3 1 (.slice (some ⟨B + 1, 0, none⟩) 0 0) 0 [] := by
    have := World.ownsRow_lit (e := 3) (base := B + 1) (size := 1) w1 #[] 0 (by omega) (by decide) rfl
    rw [← hw2, hs1] at this
    exact this
  have hcell : w1.cell? ⟨B, 0, none⟩ = some (.slice p n c) := by rw [hw1, hB]; simp
  have hbw : Below B w w2 := by rw [hB]; exact hb1.trans (hb2.mono (by rw [hs1]; omega))
  have HB2 : Hid (Below B w w2) := Lib.hid hbw
  have P : Hid (∀ W, Below (B + 1) w2 W → Rd W p (nums ws) ∧ W.cell? ⟨B, 0, none⟩ = some (.slice p n c)) := Lib.hid (fun W hb => ⟨hp.below (by rw [← hB]; exact hbw.trans (hb.mono (by omega))),
    by rw [hb.cell (p := ⟨B, 0, none⟩) (by show B < B + 1; omega), hb2.cell (p := ⟨B, 0, none⟩) (by show B < _; omega)]; exact hcell⟩)
  have HPL : Hid (0 < n → ∀ a, p = some a → a.block < B) := Lib.hid (fun h0 a e => by
    obtain ⟨a', e', hlt, _⟩ := hp 0 (by rw [nums_length, ← hn]; exact h0)
    rw [e] at e'; cases e'; rw [hB]; exact hlt)
  have CR : Hid (∀ (g cap : Nat) (W : World), W.ownsRow (B + 1) 3 1 (.slice (some ⟨g, 0, none⟩) sz cap) sz (zs (up (sy ws))) → g < W.heap.size → B + 1 ≤ g → Below (B + 1) w2 W → Calls Try.prog 72 #[.slice (some ⟨g, 0, none⟩) sz cap, .func (.func 73) #[] #[.pointer (some ⟨B, 0, none⟩)]] W fun e w' => e = .returned (.tuple #[]) ∧ Below (B + 1) W w' ∧ Rd w' (some ⟨g, 0, none⟩) (zs (up (lv ws)))) :=
    Lib.hid (fun g cap W h1 h2 h3 h4 => rise_any ws p c B n (B + 1) g cap sz W hn hl hsz (by have := h4.size; omega) h1 h2 h3 (by have := h4.size; omega) (by omega) (P.out W h4).2 (P.out W h4).1 (fun h0 a e => by have := HPL.out h0 a e; omega))
  have HN := Lib.hid hn; have HSZ := Lib.hid hsz; have HO0 := Lib.hid own0; have HBW := Lib.hid hB; have HS2 := Lib.hid hs2
  have HSY : Hid ((sy ws).length ≤ n) := Lib.hid (by rw [hn]; exact sy_len ws)
  rw [hw1] at hw2
  have W2 := Lib.hid hw2
  have e2 : (w.alloc (.cells #[.slice p n c] 25)).heap.size = B + 1 := by rw [hB]; simp
  clear hw1 hb1 hs1 hb2 hs2 own0 hcell hbw hp hn hsz hB
  go_enter Try.func55, Try.ntmps55
  go_wp2_with fail
  try rw [← hw2]
  try rw [← HBW.out]
  clear hw2 e2
  go_loopw [3, 9] (fun v i wr => ∃ (k g cap : Nat) (out : List Nat), k ≤ n ∧ i = .int .i64 k ∧ v = .slice (some ⟨g, 0, none⟩) out.length cap ∧ g < wr.heap.size ∧ B + 1 ≤ g ∧ Hid (out = (List.range k).filter fun i => decide (0 < ws.getD i 0)) ∧ out.length ≤ k ∧ Hid (wr.ownsRow (B + 1) 3 1 v out.length (zs (up out))) ∧ Hid (Below (B + 1) w2 wr)) (fun _ i _ => n - (intOf i).toNat)
  case atStart => exact ⟨0, B + 1, 0, [], Nat.zero_le _, rfl, rfl, by rw [HS2.out]; omega, Nat.le_refl _, Lib.hid rfl, Nat.le_refl _, Lib.hid (by show w2.ownsRow (B + 1) 3 1 _ 0 []; exact HO0.out), Lib.hid (Below.refl _ _)⟩
  case round =>
    obtain ⟨k, g, cap, out, hk, rfl, rfl, hgl, hgB, HE, hol, HO, HB⟩ := hrel
    have hwz : B + 1 ≤ wr.heap.size := by omega
    obtain ⟨hr2, hbx2⟩ := P.out _ HB.out
    have P2 := Lib.hid hr2
    clear hr2
    have HSU := Lib.hid (sy_succ ws k)
    by_cases hlt : k < n
    · obtain ⟨a, rfl, cy⟩ := rd_num P2.out k (by rw [← HN.out]; exact hlt)
      obtain ⟨y, hy⟩ : ∃ y, y = ws.getD k 0 := ⟨_, rfl⟩
      rw [← hy] at cy HSU
      rw [← HE.out] at HSU
      have k0 : (0 : Int) ≤ (k : Int) := by omega
      have k1 : (k : Int) < (n : Int) := by omega
      clear hy
      by_cases hyb : 0 < y
      · have d1 : decide ((0 : Int) < (y : Int)) = true := decide_eq_true (by omega)
        have d2 : decide (0 < y) = true := decide_eq_true hyb
        have HE2 : Hid (out ++ [k] = (List.range (k + 1)).filter fun i => decide (0 < ws.getD i 0)) := Lib.hid (by rw [HSU.out, if_pos hyb])
        have HNL : Hid (zs (up (out ++ [k])) = zs (up out) ++ [.int .i64 (k : Nat)] ∧ (out ++ [k]).length = out.length + 1) := Lib.hid ⟨by simp [zs, up], by simp⟩
        clear hyb
        go_wp2_with (at_builtin; refine Rw.push rfl _ _ 22 rfl (B + 1) 3 i0 (.int .i64 0) 1 8 Try.underlying22 hi0 hz0 hz1 hz2 rfl (by decide) _ _ _ rfl HO.out [.int .i64 (k : Nat)] rfl rfl rfl (by omega) (by omega) hwz ?_)
        intro g4 cap4 w4 hown4 _ hor4 hl4 hb4
        have hgB4 : B + 1 ≤ g4 := by
          rcases hor4 with h | h
          · have : g = g4 := by simpa [Value.ownBlock] using h
            omega
          · omega
        have HO4 : Hid (w4.ownsRow (B + 1) 3 1 (.slice (some ⟨g4, 0, none⟩) (out.length + 1) cap4) (out ++ [k]).length (zs (up (out ++ [k])))) := Lib.hid (by rw [HNL.out.1, HNL.out.2]; exact hown4)
        have HB4 := Lib.hid (HB.out.trans hb4)
        have HL4 : Hid ((out ++ [k]).length ≤ k + 1) := Lib.hid (by rw [HNL.out.2]; omega)
        clear hown4 hb4 hor4
        go_wp2_with fail
        go_roundw
        case rel => exact ⟨k + 1, g4, cap4, out ++ [k], by omega, by go_num, by rw [HNL.out.2], hl4, hgB4, HE2, HL4.out, HO4, HB4⟩
        case measure => simp [intOf]; omega
      · have d1 : decide ((0 : Int) < (y : Int)) = false := decide_eq_false (by omega)
        have d2 : decide (0 < y) = false := decide_eq_false hyb
        have HE2 : Hid (out = (List.range (k + 1)).filter fun i => decide (0 < ws.getD i 0)) := Lib.hid (by rw [HSU.out, if_neg hyb, List.append_nil])
        clear hyb
        go_wp2_with fail
        go_roundw
        case rel => exact ⟨k + 1, g, cap, out, by omega, by go_num, rfl, hgl, hgB, HE2, by omega, HO, HB⟩
        case measure => simp [intOf]; omega
    · obtain rfl : k = n := by omega
      have HF : Hid (sy ws = out) := Lib.hid (by rw [HE.out, sy, ← HN.out])
      have hsl : sz = out.length := by rw [HSZ.out, HF.out]
      have k1 : ¬ (k : Int) < (k : Int) := by omega
      have C := CR.out g cap wr (by rw [HF.out, hsl]; exact HO.out) hgl hgB HB.out
      rw [hsl] at C
      have C1 := Lib.hid C
      have HSL := Lib.hid hsl
      clear C hsl
      go_wp2_with fail
      refine C1.out.mono ?_
      rintro e w3 ⟨rfl, h1, h2⟩
      have F : Hid (LeP w ws sz (.returned (.slice (some ⟨g, 0, none⟩) out.length cap)) w3) := Lib.hid (by
        have hb := HB2.out.trans ((HB.out.trans h1).mono (Nat.le_succ B))
        have := h1.size
        exact ⟨g, cap, by rw [HSL.out], by rw [← HBW.out]; omega, by omega, h2, by rw [← HBW.out]; exact hb⟩)
      clear h1 h2 C1
      go_wp2_with fail
      go_ret
      exact F.out
end Go.Proofs.Ytjnehpkkkmicfaa.Ps
namespace Go.Proofs.Ytjnehpkkkmicfaa.Ps
open Go.RowKit Go.Lib Rw Ls Od Pk St _root_.Go.Proofs.Ytjnehpkkkmicfaa.Nm
open Go.Sort (HoldsK putRowK size_putRowK grow PermIn flatK get_flatK size_flatK)

/-- a package's cells -/
def pv (W : Nat → Nat) (t : Tr) : List Value := [.int .u64 ((t.wt W : Nat) : Int), .bool (leaf t)]
def pcs (W : Nat → Nat) (T : List Tr) : List Value := T.flatMap (pv W)
theorem pv_length (W : Nat → Nat) (t : Tr) : (pv W t).length = 2 := rfl
theorem pv_one (W : Nat → Nat) (t : Tr) : ∀ v ∈ pv W t, v.oneCell' = true := by intro v hv; simp [pv] at hv; rcases hv with rfl | rfl <;> rfl
theorem pcs_length (W : Nat → Nat) : ∀ T : List Tr, (pcs W T).length = 2 * T.length
  | [] => rfl
  | t :: T => by
    have := pcs_length W T
    unfold pcs at *
    rw [List.flatMap_cons, List.length_append, this]; simp [pv]; omega
theorem pcs_app (W : Nat → Nat) (A B : List Tr) : pcs W (A ++ B) = pcs W A ++ pcs W B := by simp [pcs]
theorem pcs_at (W : Nat → Nat) : ∀ (T : List Tr) (i k : Nat) (h : i < T.length), k < 2 → (pcs W T)[i * 2 + k]? = (pv W T[i])[k]?
  | [], i, k, h, _ => by simp at h
  | t :: T, 0, k, h, hk => by
    unfold pcs
    rw [List.flatMap_cons, List.getElem?_append_left (by simp [pv]; omega)]
    simp
  | t :: T, i + 1, k, h, hk => by
    have := pcs_at W T i k (by simpa using h) hk
    unfold pcs at *
    rw [List.flatMap_cons, List.getElem?_append_right (by simp [pv]; omega)]
    rw [show (i + 1) * 2 + k - (pv W t).length = i * 2 + k by simp [pv]; omega, this]
    simp
/-- weights of packages are numbers -/
theorem weight_any (x : Nat) (b : Bool) (W : World) : Calls Try.prog 88 #[.agg #[.int .u64 x, .bool b]] W fun e w' => e = .returned (.int .u64 x) ∧ ∃ q os', w' = grow (W.drewN q) os' := by
  go_enter Try.func88, Try.ntmps88
  go_wp2_with fail
  go_ret
  exact ⟨rfl, 0, #[_], by rw [Go.Sort.alloc_eq_grow]; rfl⟩
theorem risep_any (x y : Nat) (b c : Bool) (Bf : Nat) (W : World) (hfl : Bf < W.heap.size) (hf : W.cell? ⟨Bf, 0, none⟩ = some (.func (.func 88) #[] #[])) :
    Calls Try.prog 94 #[.agg #[.int .u64 x, .bool b], .agg #[.int .u64 y, .bool c], .pointer (some ⟨Bf, 0, none⟩)] W fun e w' => e = .returned (.int .i64 (cmpV x y)) ∧ ∃ q os', w' = grow (W.drewN q) os' := by
  have mixed : Try.prog.follows Departure.mixedOrders = true := by kernel_rfl
  obtain ⟨w1, hw1⟩ : ∃ w1, w1 = W.alloc (.cells #[.int .u64 x, .bool b] 121) := ⟨_, rfl⟩
  obtain ⟨w2, hw2⟩ : ∃ w2, w2 = w1.alloc (.cells #[.int .u64 y, .bool c] 121) := ⟨_, rfl⟩
  have s1 : w1.heap.size = W.heap.size + 1 := by rw [hw1]; simp
  have s2 : w2.heap.size = W.heap.size + 1 + 1 := by rw [hw2]; simp [s1]
  have a1 : Below W.heap.size W w1 := by rw [hw1]; exact (Below.refl _ _).alloc (Nat.le_refl _) _
  have a2 : Below w1.heap.size w1 w2 := by rw [hw2]; exact (Below.refl _ _).alloc (Nat.le_refl _) _
  have f2 : w2.cell? ⟨Bf, 0, none⟩ = some (.func (.func 88) #[] #[]) := by rw [a2.cell (p := ⟨Bf, 0, none⟩) (by show Bf < _; omega), a1.cell (p := ⟨Bf, 0, none⟩) hfl]; exact hf
  have x0 : w2.cell? ⟨W.heap.size, 0, none⟩ = some (.int .u64 x) := by rw [a2.cell (p := ⟨W.heap.size, 0, none⟩) (by show W.heap.size < _; omega), hw1]; simp
  have x1 : w2.cell? ⟨W.heap.size, 1, none⟩ = some (.bool b) := by rw [a2.cell (p := ⟨W.heap.size, 1, none⟩) (by show W.heap.size < _; omega), hw1]; simp
  have y0 : w2.cell? ⟨W.heap.size + 1, 0, none⟩ = some (.int .u64 y) := by rw [hw2, ← s1]; simp
  have y1 : w2.cell? ⟨W.heap.size + 1, 1, none⟩ = some (.bool c) := by rw [hw2, ← s1]; simp
  have l0 := fun n os => cell_gr (a := ⟨Bf, 0, none⟩) (by show Bf < w2.heap.size; omega) f2 n os
  have l1 := fun n os => cell_gr (a := ⟨W.heap.size, 0, none⟩) (by show W.heap.size < w2.heap.size; omega) x0 n os
  have l2 := fun n os => cell_gr (a := ⟨W.heap.size, 1, none⟩) (by show W.heap.size < w2.heap.size; omega) x1 n os
  have l3 := fun n os => cell_gr (a := ⟨W.heap.size + 1, 0, none⟩) (by show W.heap.size + 1 < w2.heap.size; omega) y0 n os
  have l4 := fun n os => cell_gr (a := ⟨W.heap.size + 1, 1, none⟩) (by show W.heap.size + 1 < w2.heap.size; omega) y1 n os
  have C1 : Hid (∀ n os, Calls Try.prog 88 #[.agg #[.int .u64 x, .bool b]] (grow (w2.drewN n) os) fun e w' => e = .returned (.int .u64 x) ∧ ∃ q os', w' = grow ((grow (w2.drewN n) os).drewN q) os') := Lib.hid (fun z os => weight_any x b _)
  have C2 : Hid (∀ n os, Calls Try.prog 88 #[.agg #[.int .u64 y, .bool c]] (grow (w2.drewN n) os) fun e w' => e = .returned (.int .u64 y) ∧ ∃ q os', w' = grow ((grow (w2.drewN n) os).drewN q) os') := Lib.hid (fun z os => weight_any y c _)
  have C3 : Hid (∀ n os, Calls Try.prog 84 #[.int .u64 x, .int .u64 y] (grow (w2.drewN n) os) fun e w' => e = .returned (.int .i64 (cmpV x y)) ∧ ∃ q os', w' = grow ((grow (w2.drewN n) os).drewN q) os') := Lib.hid (fun z os => (pcmp_any _ _ _).mono fun e w' ⟨h1, h2⟩ => ⟨h1, lays_of h2⟩)
  have HW : Hid (w2 = grow (W.drewN 0) #[.cells #[.int .u64 x, .bool b] 121, .cells #[.int .u64 y, .bool c] 121]) := Lib.hid (by rw [hw2, hw1, Go.Sort.alloc_eq_grow, Go.Sort.alloc_eq_grow, Go.Sort.grow_grow]; rfl)
  rw [hw1] at hw2
  generalize cmpV x y = r at C3 ⊢
  clear f2 x0 x1 y0 y1 a1 a2 s2 s1 hw1 hf hfl
  go_enter Try.func94, Try.ntmps94
  go_wp2_with fail
  rw [← hw2]
  clear hw2
  go_quiet_grown (first | (with_reducible refine Calls.grown_of (C1.out _ _)) | (with_reducible refine Calls.grown_of (C2.out _ _)) | (with_reducible refine Calls.grown_of (C3.out _ _)))
  go_wp2_with fail
  go_ret
  exact ⟨rfl, nq, _ ++ osq, by rw [HW.out]; show grow (grow ((W.drewN 0).drewN nq) _) osq = _; rw [Go.Sort.grow_grow]; rfl⟩
section
variable {enc : Nat → List Value} {w0 : World} {g m : Nat} {d : Array Nat} {os : Array Obj}
theorem swk_size : w0.heap.size ≤ (sortWorldK enc 2 w0 g 0 m d os).heap.size := by
  unfold sortWorldK; rw [Go.Sort.size_grow]; unfold putRowK; rw [size_putRow]; exact Nat.le_add_right _ _
theorem swk_cell {a : Addr} {v : Value} (hne : a.block ≠ g) (hlt : a.block < w0.heap.size) (h : w0.cell? a = some v) : (sortWorldK enc 2 w0 g 0 m d os).cell? a = some v := by
  unfold sortWorldK
  rw [Go.Sort.cell?_grow _ _ _ (by unfold putRowK; rw [size_putRow]; exact hlt)]
  unfold putRowK
  rw [Go.Sort.cell?_putRow_other id _ g 0 _ _ (.inl hne)]
  exact h
theorem swk_below {W : World} {B : Nat} (h : SWK enc 2 w0 g 0 d W) (hB : B ≤ g) (hb : B ≤ w0.heap.size) : RowKit.Below B w0 W := sw_below' (enc := id) (d := flatK enc 2 d) h hB hb
end
theorem flat_at (W : Nat → Nat) (T : List Tr) (t : Nat) (ht : t < T.length * 2) (enc : Nat → List Value) (d : Array Nat) (hd : d.size = T.length) (he : ∀ i, i < T.length → enc d[i]! = pv W (at' T i)) : (flatK enc 2 d)[t]! = (pcs W T).getD t (.bool false) := by
  rw [get_flatK _ _ _ _ (by rw [hd]; exact ht)]
  have h1 : t / 2 < T.length := by omega
  have h2 := pcs_at W T (t / 2) (t % 2) h1 (by omega)
  rw [show t / 2 * 2 + t % 2 = t by omega] at h2
  rw [List.getD_eq_getElem?_getD, h2, he _ h1]
  have h3 : at' T (t / 2) = T[t / 2] := by simp [at', h1]
  rw [h3]
  have h4 : t % 2 < (pv W T[t / 2]).length := by show t % 2 < 2; omega
  simp [h4]
theorem holdsK_own {W : Nat → Nat} {T : List Tr} {w : World} {B g cap n : Nat} {e : TypeId} (h : w.ownsRow B e 2 (.slice (some ⟨g, 0, none⟩) n cap) n (pcs W T)) (enc : Nat → List Value) (d : Array Nat) (hd : d.size = T.length) (he : ∀ i, i < T.length → enc d[i]! = pv W (at' T i)) : HoldsK enc 2 w g 0 d := fun j hj => by
  rw [size_flatK, hd] at hj
  have hl : n * 2 = T.length * 2 := by have := h.1; rw [pcs_length] at this; omega
  rw [Nat.zero_add, flat_at W T j hj enc d hd he]
  refine ⟨?_, h.frozenAt j⟩
  rw [h.cellAt j (by omega), List.getD_eq_getElem?_getD, List.getElem?_eq_getElem (by rw [pcs_length]; omega)]
  rfl
/-- packages that lie in a row -/
def PkAt (w : World) (B : Nat) (W : Nat → Nat) (g n cap : Nat) (T : List Tr) : Prop := w.ownsRow B 121 2 (.slice (some ⟨g, 0, none⟩) n cap) n (pcs W T)
set_option maxHeartbeats 4000000 in
theorem risek_any (V : Nat → Nat) (X Y : List Tr) (B g cap sz : Nat) (w : World) (hl : sz ≤ 1000000) (hsz : sz = (X ++ Y).length) (h0 : 0 < sz) (hB : B ≤ w.heap.size) (hX : Up (Tr.wt V) X) (hY : Up (Tr.wt V) Y)
    (ho : PkAt w B V g sz cap (X ++ Y)) (hg : g < w.heap.size) (hgB : B ≤ g) :
    Calls Try.prog 87 #[.slice (some ⟨g, 0, none⟩) sz cap, .func (.func 88) #[] #[]] w fun e w' => e = .returned (.tuple #[]) ∧ RowKit.Below B w w' ∧ Rd w' (some ⟨g, 0, none⟩) (pcs V (mrg (Tr.wt V) X Y)) := by
  obtain ⟨Bf, hBf⟩ : ∃ Bf, Bf = w.heap.size := ⟨_, rfl⟩
  obtain ⟨w1, hw1⟩ : ∃ w1, w1 = w.alloc (.cells #[.func (.func 88) #[] #[]] 140) := ⟨_, rfl⟩
  have hal : RowKit.Below w.heap.size w w1 := by rw [hw1]; exact (RowKit.Below.refl _ w).alloc (Nat.le_refl _) _
  have hs1 : w1.heap.size = Bf + 1 := by rw [hw1, hBf]; simp
  obtain ⟨Z, hZ⟩ : ∃ Z, Z = X ++ Y := ⟨_, rfl⟩
  have hZl : Z.length = sz := by rw [hZ, hsz]
  have ho1 := own_below ho hal
  have hrs : (Array.range sz).size = Z.length := by rw [hZl]; simp
  have hH : HoldsK (fun i : Nat => pv V (at' Z (i % sz))) 2 w1 g 0 (Array.range sz) := holdsK_own (T := Z) (by rw [hZ]; exact ho1) _ _ hrs (fun i hi => by
    have hi2 : i < sz := by omega
    have : (Array.range sz)[i]! = i := by rw [getElem!_pos _ _ (by simpa using hi2)]; simp
    rw [this, Nat.mod_eq_of_lt hi2])
  have hR : RowK (fun i : Nat => pv V (at' Z (i % sz))) 2 w1 g 0 (Array.range sz) := ⟨fun _ => rfl, fun i => pv_one V _, hH, by omega⟩
  have hcmp : 0 < sz → CmpLays Try.prog 94 #[.pointer (some ⟨Bf, 0, none⟩)] (fun i : Nat => pv V (at' Z (i % sz))) 2 (cmpK fun i => wkey V Z (i % sz)) g 0 (Array.range sz).size w1 := by
    intro _ m os dk hdk x y
    have hz := swk_size (enc := fun i : Nat => pv V (at' Z (i % sz))) (w0 := w1) (g := g) (m := m) (d := dk) (os := os)
    refine (risep_any _ _ _ _ Bf _ (by omega) ?_).mono ?_
    · refine swk_cell (by show Bf ≠ g; omega) (by show Bf < _; omega) ?_
      rw [hw1, hBf]; simp
    · rintro e w' ⟨h1, q, os', h2⟩
      exact ⟨h1, q, os', h2⟩
  have hasc : St.Asc (Array.range sz) 0 sz := by
    have := asc_of (range_lt sz)
    simpa using this
  have hC := sort_P 2 Try.isAgg121 Try.sizeOf121 (fun i : Nat => pv V (at' Z (i % sz))) (fun i => wkey V Z (i % sz)) 94 #[.pointer (some ⟨Bf, 0, none⟩)] g 0 cap sz (Array.range sz) w1
    (enters_of Try.func94 (by kernel_rfl) rfl) hcmp hR (by simp) (by omega) (Array.range sz) w1 (by simp) hasc (SWK.start hH)
  have C := Lib.hid hC
  have FIN : Hid (∀ e w', MgP 2 (fun i : Nat => pv V (at' Z (i % sz))) (fun i => wkey V Z (i % sz)) w1 g 0 (Array.range sz) 0 sz e w' → e = .returned (.tuple #[]) ∧ RowKit.Below B w w' ∧ Rd w' (some ⟨g, 0, none⟩) (pcs V (mrg (Tr.wt V) X Y))) := Lib.hid (by
    rintro e w' ⟨rfl, d', h1, h2, h3⟩
    have hlt : ∀ t, t < sz → d'[t]! < sz := fun t ht => by
      obtain ⟨u, _, hu, e⟩ := perm_at h1 (by simp) (Nat.zero_le t) ht
      rw [e, getElem!_pos (Array.range sz) u (by simpa using hu)]
      simpa using hu
    have h2' : Srt (wkey V (X ++ Y)) d' 0 sz := fun i j g1 g2 g3 => by
      have := h2 i j g1 g2 g3
      unfold St.R at this ⊢
      simp only [Nat.mod_eq_of_lt (hlt i (by omega)), Nat.mod_eq_of_lt (hlt j g3)] at this
      rw [← hZ]; exact this
    have h4 := level_sorted hX hY hsz h1 h2'
    have hb := swk_below (B := B) h3 hgB (by omega)
    have hds : d'.size = sz := by have := h1.1; simpa using this
    have hml : (mrg (Tr.wt V) X Y).length = sz := by rw [← h4]; simp [hds]
    refine ⟨rfl, (hal.mono hB).trans hb, fun i hi => ?_⟩
    rw [pcs_length, hml] at hi
    have hh := (h3.holds (by omega) hH (by rw [hds]; simp)) i (by rw [size_flatK, hds]; omega)
    refine ⟨_, rfl, h3.lt (by omega), ?_⟩
    rw [Addr.add_lit, hh.1, flat_at V (mrg (Tr.wt V) X Y) i (by rw [hml]; omega) _ d' (by rw [hds, hml]) (fun j hj => by
      rw [hml] at hj
      have e1 : at' (mrg (Tr.wt V) X Y) j = at' Z d'[j]! := by
        rw [← h4, ← hZ]
        have hj2 : j < d'.size := by omega
        unfold at'
        rw [List.getD_eq_getElem?_getD, List.getElem?_map, getElem!_pos d' j hj2]
        simp [hj2]
      rw [e1]
      show pv V (at' Z (d'[j]! % sz)) = _
      rw [Nat.mod_eq_of_lt (hlt j hj)])]
    rfl)
  clear hC hcmp hR hH ho ho1 hal hrs hasc hX hY
  rw [hw1] at C
  clear hsz hB hg hgB hl hs1 hZl
  subst hBf
  go_enter Try.func87, Try.ntmps87
  go_wp2_with fail
  refine C.out.mono ?_
  rintro e w2 hm
  obtain ⟨rfl, h2, h3⟩ := FIN.out _ _ (by rw [hw1]; exact hm)
  have H2 := Lib.hid h2; have H3 := Lib.hid h3
  clear h2 h3 hm
  go_wp2_with fail
  go_end0
  exact ⟨rfl, H2.out, H3.out⟩
end Go.Proofs.Ytjnehpkkkmicfaa.Ps
namespace Go.Proofs.Ytjnehpkkkmicfaa.Ps
open Go.RowKit Go.Lib Rw Ls Od Pk St _root_.Go.Proofs.Ytjnehpkkkmicfaa.Nm
open Go.Sort (grow)

open Go.Op in
/-- append one element to a row of one's own, at a step of a region that draws its order; where the row lies then -/
theorem step_own2 {P : Program} {ops : Array Oper} {o : Oper} {a : Act} {K : Act → World → Prop} {Q : Exit → Act → World → Prop} {E : Prop} (W : World) (hgd : o.guard = none) (s x : Operand) (t : TypeId)
    (ho : o.op = .call { callee := .builtin .append, args := #[s, x], argTypes := #[t, t] })
    (base : Nat) (e : TypeId) (i : TypeInfo) (z : Value) (size bytes : Nat) (ht : P.underlying t = some (.slice e)) (hi : P.info? e = some i) (hz : i.zero = some z)
    (hsize : i.size = size) (hby : i.bytes = bytes) (hzs : z.cells.size = size) (hsz : 0 < size)
    (v : Value) (n : Nat) (xs : List Value) (hs : a.eval s = v) (hown : W.ownsRow base e size v n xs)
    (news : List Value) (hx : a.eval x = .slice (some ⟨W.heap.size, 0, none⟩) 1 1) (hl : news.length = size) (h1c : news.all (fun u => u.oneCell') = true)
    (hn : n ≤ 1000000000) (hb2 : bytes ≤ 1000) (hbase : base ≤ W.heap.size)
    (hK : ∀ g cap w', w'.ownsRow base e size (.slice (some ⟨g, 0, none⟩) (n + 1) cap) (n + 1) (xs ++ news) → (W.alloc (.cells news.toArray e)).grownBy w' v.ownBlock → (v.ownBlock = some g ∨ g = W.heap.size + 1) → K (a.put o.dst (.slice (some ⟨g, 0, none⟩) (n + 1) cap)) w') :
    if Region.wanted o (yielded ops a.tmps) = true then Oper.wp P o a (W.alloc (.cells news.toArray e)) K Q else E := by
  have hown2 := Rw.own_below hown ((RowKit.Below.refl _ W).alloc (Nat.le_refl _) (.cells news.toArray e))
  refine step_append_lies _ hgd s x t ho base e i z size bytes ht hi hz hsize hby hzs hsz v n xs hs hown2 ⟨W.heap.size, 0, none⟩ 1 1 news hx (by omega) ?_ (fun u hu => List.all_eq_true.1 h1c u hu) (by decide) (by unfold maxLen; omega) ?_ (by simp; omega) (W.heap.size + 1) (by simp) ?_
  · intro j u hj
    exact World.news_of_block (cs := news.toArray) (heap_alloc_new W _) j u (by simpa using hj)
  · have : (n + 1) * bytes ≤ (1000000000 + 1) * 1000 := Nat.mul_le_mul (by omega) hb2
    omega
  · intro g cap w' h1 h2 h3 _
    exact hK g cap w' h1 h2 h3
theorem info_pk : (Try.prog.info? 121).map (fun i => (i.zero, i.size, i.bytes)) = some (some (.agg #[.int .u64 0, .bool false]), 2, 16) := by kernel_rfl
theorem pcs_one (V : Nat → Nat) (T : List Tr) : ∀ u ∈ pcs V T, u.oneCell' = true := by
  intro u hu
  unfold pcs at hu
  obtain ⟨t, _, h⟩ := List.mem_flatMap.1 hu
  exact pv_one V t u h
/-- packages, new -/
def PkP (w : World) (V : Nat → Nat) (n : Nat) (T : List Tr) (e : Ending) (w' : World) : Prop := ∃ (g cap : Nat), e = .returned (.slice (some ⟨g, 0, none⟩) n cap) ∧ PkAt w' w.heap.size V g n cap T ∧ w.heap.size ≤ g ∧ g < w'.heap.size ∧ Below w.heap.size w w'
set_option maxHeartbeats 4000000 in
theorem clonep_any (V : Nat → Nat) (T : List Tr) (ga n c : Nat) (w : World) (hn : n = T.length) (h0 : 0 < n) (hl : n ≤ 1000000) (hp : Rd w (some ⟨ga, 0, none⟩) (pcs V T)) :
    Calls Try.prog 86 #[.slice (some ⟨ga, 0, none⟩) n c] w (PkP w V n T) := by
  have hnil : ∀ W, (binOp .eql 119 (.slice (some ⟨ga, 0, none⟩) n c) (.slice none 0 0)).run Try.prog W = .ok (.bool false) W := fun W => run_eql_slice_nil W 119 121 (some ⟨ga, 0, none⟩) n c Try.underlying119
  obtain ⟨i0, hi0, hz0, hz1, hz2⟩ := info_parts info_pk
  have own0 : (w.alloc (.cells #[] 121)).ownsRow w.heap.size 121 2 (.slice (some ⟨w.heap.size, 0, none⟩) 0 0) 0 [] :=
    World.ownsRow_lit (e := 121) (base := w.heap.size) (size := 2) w #[] 0 (by omega) (by decide) rfl
  have HO := Lib.hid own0
  have HR := Lib.hid (hp.alloc (.cells #[] 121))
  have HL : Hid ((pcs V T).length = n * 2) := Lib.hid (by rw [pcs_length, hn]; omega)
  have H1 := Lib.hid (pcs_one V T)
  have HB : Hid (Below w.heap.size w (w.alloc (.cells #[] 121))) := Lib.hid ((Below.refl _ _).alloc (Nat.le_refl _) _)
  clear own0 hp hn
  go_enter Try.func86, Try.ntmps86
  go_wp2_with (at_builtin; refine wpList_app rfl _ _ 119 rfl w.heap.size 121 i0 (.agg #[.int .u64 0, .bool false]) 2 16 Try.underlying119 hi0 hz0 hz1 hz2 rfl (by decide) (.slice (some ⟨w.heap.size, 0, none⟩) 0 0) 0 [] rfl (some ⟨ga, 0, none⟩) n c (pcs V T) rfl HL.out H1.out (by unfold maxLen; omega) (by omega) HO.out HR.out (by simp) ?_)
  intro v' w' hown _ hb _
  try rw [List.nil_append] at hown
  try rw [Nat.zero_add] at hown
  obtain ⟨n', rfl⟩ : ∃ m, n = m + 1 := ⟨n - 1, by omega⟩
  obtain ⟨g, cap, rfl⟩ := ownsRow_succ hown
  have F : Hid (PkP w V (n' + 1) T (.returned (.slice (some ⟨g, 0, none⟩) (n' + 1) cap)) w') := Lib.hid ⟨g, cap, rfl, hown, (hown.lt g rfl).1, (hown.lt g rfl).2, HB.out.trans hb⟩
  clear hown hb
  go_wp2_with fail
  go_ret
  exact F.out
theorem own_grows {w w1 : World} {B g n cap : Nat} {o : Obj} (h1 : B ≤ g) (hg : (w.drew.alloc o).grownBy w1 (Value.ownBlock (.slice (some ⟨g, 0, none⟩) n cap))) (hB : B ≤ w.heap.size) : Below B w w1 :=
  (((Below.refl B w).drew).alloc (by exact hB) _).grown hg (by simp; omega) (fun j e => by simp [Value.ownBlock] at e; omega)
theorem take_succ_prs {T : List Tr} {k : Nat} (h : 2 * k + 1 < T.length) : (prs T).take (k + 1) = (prs T).take k ++ [.nd (T[2 * k]'(by omega)) T[2 * k + 1]] := by
  obtain ⟨h2, e⟩ := prs_at T k h
  rw [List.take_succ_eq_append_getElem h2, e]
theorem pk_cell {V : Nat → Nat} {T : List Tr} {w : World} {g : Nat} (h : Rd w (some ⟨g, 0, none⟩) (pcs V T)) {i : Nat} (hi : i < T.length) : w.cell? ⟨g, i * 2, none⟩ = some (.int .u64 ((T[i].wt V : Nat) : Int)) ∧ w.cell? ⟨g, i * 2 + 1, none⟩ = some (.bool (leaf T[i])) := by
  have e1 := pcs_at V T i 0 hi (by omega)
  have e2 := pcs_at V T i 1 hi (by omega)
  have h1 := h.at (i := i * 2) (by rw [pcs_length]; omega)
  have h2 := h.at (i := i * 2 + 1) (by rw [pcs_length]; omega)
  rw [List.getD_eq_getElem?_getD, Addr.add_lit, Nat.zero_add] at h1 h2
  rw [show (pcs V T)[i * 2]? = (pcs V T)[i * 2 + 0]? from rfl, e1] at h1
  rw [e2] at h2
  exact ⟨h1, h2⟩
set_option maxHeartbeats 8000000 in
set_option maxRecDepth 100000 in
theorem level_any (V : Nat → Nat) (A T : List Tr) (ga gt n m c d : Nat) (w : World) (hn : n = A.length) (hm : m = T.length) (h0 : 0 < n) (hl : n ≤ 1000) (hl2 : m ≤ 2000) (hA : Up (Tr.wt V) A) (hT : Up (Tr.wt V) T) (hw : ∀ t ∈ T, t.wt V ≤ 4000000000000000000)
    (hp : Rd w (some ⟨ga, 0, none⟩) (pcs V A)) (hq : Rd w (some ⟨gt, 0, none⟩) (pcs V T)) :
    Calls Try.prog 75 #[.slice (some ⟨ga, 0, none⟩) n c, .slice (some ⟨gt, 0, none⟩) m d] w fun e w' => ∃ (g cap : Nat), e = .returned (.slice (some ⟨g, 0, none⟩) (n + m / 2) cap) ∧ w.heap.size ≤ g ∧ g < w'.heap.size ∧ n + m / 2 ≤ cap ∧ Rd w' (some ⟨g, 0, none⟩) (pcs V (mrg (Tr.wt V) A (prs T))) ∧ Below w.heap.size w w' := by
  obtain ⟨i0, hi0, hz0, hz1, hz2⟩ := info_parts info_pk
  have CC := Lib.hid (clonep_any V A ga n c w hn h0 (by omega) hp)
  have HN := Lib.hid hn; have HM := Lib.hid hm; have HW := Lib.hid hw; have HA := Lib.hid hA; have HT := Lib.hid hT
  have HQ : Hid (∀ W, Below w.heap.size w W → Rd W (some ⟨gt, 0, none⟩) (pcs V T)) := Lib.hid (fun W hb => hq.below hb)
  obtain ⟨B, hB⟩ : ∃ B, B = w.heap.size := ⟨_, rfl⟩
  have HBW := Lib.hid hB
  rw [← hB] at HQ
  have CR : Hid (∀ (g cap sz : Nat) (W : World), sz = n + m / 2 → PkAt W B V g sz cap (A ++ prs T) → g < W.heap.size → B ≤ g → B ≤ W.heap.size → Calls Try.prog 87 #[.slice (some ⟨g, 0, none⟩) sz cap, .func (.func 88) #[] #[]] W fun e w' => e = .returned (.tuple #[]) ∧ Below B W w' ∧ Rd w' (some ⟨g, 0, none⟩) (pcs V (mrg (Tr.wt V) A (prs T)))) :=
    Lib.hid (fun g cap sz W h1 h2 h3 h4 h5 => risek_any V A (prs T) B g cap sz W (by omega) (by rw [h1, List.length_append, prs_length, hn, hm]) (by omega) h5 hA (prs_up hT) h2 h3 h4)
  clear hp hq hn hm hw hA hT hB
  go_enter Try.func75, Try.ntmps75
  go_wp2_with fail
  refine CC.out.mono ?_
  rintro e w1 ⟨g0, cap0, rfl, ho, hg0, hgl, hb⟩
  rw [← HBW.out] at ho hg0 hb
  have HO0 := Lib.hid ho; have HB0 := Lib.hid hb
  clear ho hb CC
  go_wp2_with fail
  go_loopw [5, 6] (fun v i wr => ∃ (k g cap : Nat), i = .int .i64 ((2 * k + 1 : Nat) : Int) ∧ v = .slice (some ⟨g, 0, none⟩) (n + k) cap ∧ 2 * k ≤ m ∧ B ≤ g ∧ g < wr.heap.size ∧ Hid (PkAt wr B V g (n + k) cap (A ++ (prs T).take k)) ∧ Hid (Below B w wr)) (fun _ i _ => m + 2 - (intOf i).toNat)
  case atStart => exact ⟨0, g0, cap0, rfl, rfl, by omega, hg0, hgl, Lib.hid (by rw [List.take_zero, List.append_nil]; exact HO0.out), HB0⟩
  case round =>
    clear hg0 hgl
    obtain ⟨k, g, cap, rfl, rfl, hk, hgB, hgl, HO, HB⟩ := hrel
    have hwz : B ≤ wr.heap.size := by omega
    have HR := Lib.hid (HQ.out wr (by exact HB.out))
    by_cases hlt : 2 * k + 1 < m
    · obtain ⟨i1, hi1⟩ : ∃ x, x = 2 * k + 1 := ⟨_, rfl⟩
      obtain ⟨i2, hi2⟩ : ∃ x, x = 2 * k := ⟨_, rfl⟩
      have hT1 : i1 < T.length := by rw [← HM.out]; omega
      have hT2 : i2 < T.length := by rw [← HM.out]; omega
      have c1 := (pk_cell HR.out hT1).1
      have c2 := (pk_cell HR.out hT2).1
      have hw1 := HW.out T[i1] (List.getElem_mem _)
      have hw2 := HW.out T[i2] (List.getElem_mem _)
      have HNX : Hid (pcs V (A ++ (prs T).take (k + 1)) = pcs V (A ++ (prs T).take k) ++ [.int .u64 ((T[i2].wt V + T[i1].wt V : Nat) : Int), .bool false]) := Lib.hid (by
        subst hi1 hi2
        rw [take_succ_prs (by rw [← HM.out]; exact hlt), ← List.append_assoc, pcs_app]
        rfl)
      obtain ⟨x1, hx1⟩ : ∃ x, x = T[i1].wt V := ⟨_, rfl⟩
      obtain ⟨x2, hx2⟩ : ∃ x, x = T[i2].wt V := ⟨_, rfl⟩
      rw [← hx1] at c1 hw1 HNX
      rw [← hx2] at c2 hw2 HNX
      obtain ⟨x3, hx3⟩ : ∃ x, x = x2 + x1 := ⟨_, rfl⟩
      rw [← hx3] at HNX
      have e1 : (x2 : Int) + (x1 : Int) = (x3 : Int) := by omega
      have e2 : IntKind.u64.wrap ((x3 : Int)) = (x3 : Int) := IntWalk.u64_in _ (by omega)
      rw [← hi1]
      have z1 : (i1 : Int) - 1 = (i2 : Int) := by omega
      have z2 : IntKind.i64.wrap ((i2 : Int)) = (i2 : Int) := IntWalk.i64_in _ (by omega)
      have z3 : (0 : Int) ≤ (i1 : Int) := by omega
      have z4 : (i1 : Int) < (m : Int) := by omega
      have z5 : (0 : Int) ≤ (i2 : Int) := by omega
      have z6 : (i2 : Int) < (m : Int) := by omega
      have HI1 := Lib.hid hi1
      obtain ⟨i3, hi3⟩ : ∃ x, x = 2 * (k + 1) + 1 := ⟨_, rfl⟩
      have z7 : (i1 : Int) + 2 = (i3 : Int) := by omega
      have z8 : IntKind.i64.wrap ((i3 : Int)) = (i3 : Int) := IntWalk.i64_in _ (by omega)
      have HI3 := Lib.hid hi3
      have hk2 : 2 * (k + 1) ≤ m := by omega
      have hmes : m + 2 - i3 < m + 2 - i1 := by omega
      obtain ⟨nk, hnk⟩ : ∃ x, x = n + k := ⟨_, rfl⟩
      rw [← hnk] at HO ⊢
      have HNK := Lib.hid hnk
      have hnkb : nk ≤ 1000000 := by omega
      clear hi1 hi2 hx1 hx2 hx3 hT1 hT2 hw1 hw2 hi3 hnk hlt
      go_wp2_with fail
      go_region_law (first
        | (refine step_own2 wr.drew (by rfl) _ _ 119 (by rfl) B 121 i0 (.agg #[.int .u64 0, .bool false]) 2 16 Try.underlying119 hi0 hz0 hz1 hz2 (by rfl) (by decide) (.slice (some ⟨g, 0, none⟩) nk cap) nk _ (by rfl) HO.out [.int .u64 (x3 : Nat), .bool false] (by rfl) (by rfl) (by rfl) (by omega) (by omega) (by show B ≤ wr.heap.size; omega) ?_
           intro g1 cap1 w1 hown hgr hor
           have HB1 : Hid (Below B w w1) := Lib.hid (HB.out.trans (own_grows hgB hgr hwz))
           have hg1 : B ≤ g1 := by
             rcases hor with h | h
             · have : g = g1 := by simpa [Value.ownBlock] using h
               omega
             · have : g1 = wr.heap.size + 1 := h
               omega
           have hgl1 := (hown.lt g1 rfl).2
           have HO1 : Hid (PkAt w1 B V g1 (nk + 1) cap1 (A ++ (prs T).take (k + 1))) := Lib.hid (by unfold PkAt; rw [HNX.out]; exact hown)
           clear hown hgr hor))
      all_goals go_wp2_with fail
      all_goals go_roundw
      all_goals (first
        | (show m + 2 - _ < m + 2 - _; simp [intOf]; omega)
        | exact ⟨k + 1, g1, cap1, by rw [← HI3.out], by rw [HNK.out]; rfl, hk2, hg1, hgl1, by rw [HNK.out] at HO1; exact HO1, HB1⟩)
    · have hkm : k = m / 2 := by omega
      have hall : (prs T).take k = prs T := List.take_of_length_le (by rw [prs_length, ← HM.out]; omega)
      have z1 : ¬ ((2 * k + 1 : Nat) : Int) < (m : Int) := by omega
      have z2 : decide ((((2 * k + 1 : Nat) : Int)) < (m : Int)) = false := decide_eq_false z1
      have C1 := Lib.hid (CR.out g cap (n + k) wr (by omega) (by have := HO.out; rw [hall] at this; exact this) hgl hgB hwz)
      have hcap : n + k ≤ cap := by
        rcases HO.out.2 with ⟨h, _⟩ | ⟨g2, cap2, cur, h, _, _, hc2, _⟩
        · cases h
        · simp only [Value.slice.injEq] at h; rw [h.2.2]; exact hc2
      have HKM := Lib.hid hkm
      obtain ⟨nk, hnk⟩ : ∃ x, x = n + k := ⟨_, rfl⟩
      rw [← hnk] at C1 hcap ⊢
      have HNK := Lib.hid hnk
      obtain ⟨i1, hi1⟩ : ∃ x, x = 2 * k + 1 := ⟨_, rfl⟩
      rw [← hi1] at z1 z2 ⊢
      clear hkm hall hnk hlt hi1
      go_wp2_with fail
      refine C1.out.mono ?_
      rintro e w3 ⟨rfl, h1, h2⟩
      have H1 := Lib.hid h1; have H2 := Lib.hid h2
      clear h1 h2 C1
      go_wp2_with fail
      go_ret
      refine ⟨g, cap, by rw [← HKM.out, HNK.out]; rfl, by rw [← HBW.out]; exact hgB, Nat.lt_of_lt_of_le hgl H1.out.size, by rw [← HKM.out, ← HNK.out]; exact hcap, H2.out, by rw [← HBW.out]; exact HB.out.trans H1.out⟩
end Go.Proofs.Ytjnehpkkkmicfaa.Ps
namespace Go.Proofs.Ytjnehpkkkmicfaa.Ps
open Go.RowKit Go.Lib Rw Ls Od Pk St _root_.Go.Proofs.Ytjnehpkkkmicfaa.Nm
open Go.Sort (grow)

theorem info_row : (Try.prog.info? 119).map (fun i => (i.zero, i.size, i.bytes)) = some (some (.slice none 0 0), 1, 24) := by kernel_rfl
/-- where levels lie, from the first one on -/
def ovs (V : Nat → Nat) (L : List Nat) (gs : List (Nat × Nat)) : List Value := (List.range gs.length).map fun j => .slice (some ⟨(gs.getD j (0, 0)).1, 0, none⟩) (lev V L j).length (gs.getD j (0, 0)).2
theorem ovs_length (V : Nat → Nat) (L : List Nat) (gs : List (Nat × Nat)) : (ovs V L gs).length = gs.length := by simp [ovs]
theorem ovs_at (V : Nat → Nat) (L : List Nat) (gs : List (Nat × Nat)) {j : Nat} (h : j < gs.length) : (ovs V L gs).getD j (.bool false) = .slice (some ⟨(gs.getD j (0, 0)).1, 0, none⟩) (lev V L j).length (gs.getD j (0, 0)).2 := by simp [ovs, h]
theorem ovs_snoc (V : Nat → Nat) (L : List Nat) (gs : List (Nat × Nat)) (x : Nat × Nat) : ovs V L (gs ++ [x]) = ovs V L gs ++ [.slice (some ⟨x.1, 0, none⟩) (lev V L gs.length).length x.2] := by
  unfold ovs
  rw [List.length_append, List.length_singleton, List.range_succ, List.map_append]
  congr 1
  · apply List.map_congr_left
    intro j hj
    have := List.mem_range.1 hj
    simp [List.getElem?_append_left this]
  · simp
def LvsAt (w : World) (V : Nat → Nat) (L : List Nat) (gs : List (Nat × Nat)) : Prop := ∀ j, j < gs.length → Rd w (some ⟨(gs.getD j (0, 0)).1, 0, none⟩) (pcs V (lev V L j)) ∧ (lev V L j).length ≤ (gs.getD j (0, 0)).2
theorem LvsAt.below {w w' : World} {V : Nat → Nat} {L : List Nat} {gs : List (Nat × Nat)} (h : LvsAt w V L gs) (hb : Below w.heap.size w w') : LvsAt w' V L gs := fun j hj => ⟨(h j hj).1.below hb, (h j hj).2⟩
theorem LvsAt.snoc {w : World} {V : Nat → Nat} {L : List Nat} {gs : List (Nat × Nat)} {g cap : Nat} (h : LvsAt w V L gs) (hr : Rd w (some ⟨g, 0, none⟩) (pcs V (lev V L gs.length))) (hc : (lev V L gs.length).length ≤ cap) : LvsAt w V L (gs ++ [(g, cap)]) := fun j hj => by
  rw [List.length_append, List.length_singleton] at hj
  by_cases e : j < gs.length
  · have : (gs ++ [(g, cap)]).getD j (0, 0) = gs.getD j (0, 0) := by simp [List.getElem?_append_left e]
    rw [this]; exact h j e
  · obtain rfl : j = gs.length := by omega
    have : (gs ++ [(g, cap)]).getD gs.length (0, 0) = (g, cap) := by simp
    rw [this]; exact ⟨hr, hc⟩
/-- levels, new -/
def LsP (w : World) (V : Nat → Nat) (L : List Nat) (lm : Nat) (e : Ending) (w' : World) : Prop := ∃ (ga cap : Nat) (gs : List (Nat × Nat)), e = .returned (.slice (some ⟨ga, 0, none⟩) lm cap) ∧ gs.length = lm ∧ Rd w' (some ⟨ga, 0, none⟩) (ovs V L gs) ∧ LvsAt w' V L gs ∧ w.heap.size ≤ ga ∧ Below w.heap.size w w'
theorem wt_ok {ws : List Nat} (ho : okW ws = true) {j : Nat} (hj : j ≤ 15) : ∀ t ∈ lev (wf ws) (lv ws) j, t.wt (wf ws) ≤ 4000000000000000000 := fun t ht => by
  have h1 := lev_sz j t ht
  have h2 := wt_sz (W := wf ws) (m := 1099511627776) (fun i => okW_at ho i) t
  have h3 : 2 ^ j ≤ 2 ^ 15 := Nat.pow_le_pow_right (by omega) hj
  have h4 : t.sz * 1099511627776 ≤ 2 ^ 15 * 1099511627776 := Nat.mul_le_mul_right _ (Nat.le_trans h1 h3)
  have h5 : 2 ^ 15 * 1099511627776 ≤ 4000000000000000000 := by decide
  omega
theorem leaf_row (V : Nat → Nat) (L : List Nat) (k : Nat) (hk : k < L.length) : pcs V ((L.take (k + 1)).map Tr.lf) = pcs V ((L.take k).map Tr.lf) ++ [.int .u64 (V L[k] : Nat), .bool true] := by
  rw [List.take_succ_eq_append_getElem hk, List.map_append, pcs_app]; rfl
theorem LvsAt.grown {w w' : World} {V : Nat → Nat} {L : List Nat} {gs : List (Nat × Nat)} {gb n c : Nat} (h : LvsAt w V L gs) (hg : w.grownBy w' (Value.ownBlock (.slice (some ⟨gb, 0, none⟩) n c))) (hne : ∀ j, j < gs.length → (gs.getD j (0, 0)).1 ≠ gb) : LvsAt w' V L gs := fun j hj =>
  ⟨rd_grown (h j hj).1 hg (fun k e => by simp [Value.ownBlock] at e; subst e; exact hne j hj), (h j hj).2⟩
theorem LvsAt.lt {w : World} {V : Nat → Nat} {L : List Nat} {gs : List (Nat × Nat)} (h : LvsAt w V L gs) (hL : 0 < L.length) {j : Nat} (hj : j < gs.length) : (gs.getD j (0, 0)).1 < w.heap.size := by
  have hl : 0 < (lev V L j).length := by
    cases j with
    | zero => show 0 < (L.map Tr.lf).length; rw [List.length_map]; exact hL
    | succ j => rw [lev_length]; omega
  obtain ⟨a, e, hb, _⟩ := (h j hj).1 0 (by rw [pcs_length]; omega)
  cases e; exact hb
set_option maxHeartbeats 8000000 in
set_option maxRecDepth 100000 in
theorem levels_any (ws : List Nat) (p : Option Addr) (c n gs0 sz cs lm : Nat) (w : World) (hn : n = ws.length) (ho : okW ws = true) (hsz : sz = (lv ws).length) (h2 : 2 ≤ sz) (hlm : 1 ≤ lm) (hlm2 : lm ≤ 15) (hp : Rd w p (nums ws)) (hs : Rd w (some ⟨gs0, 0, none⟩) (zs (up (lv ws)))) :
    Calls Try.prog 57 #[.slice p n c, .slice (some ⟨gs0, 0, none⟩) sz cs, .int .i64 (lm : Int)] w (LsP w (wf ws) (lv ws) lm) := by
  obtain ⟨i0, hi0, hz0, hz1, hz2⟩ := info_parts info_pk
  obtain ⟨i1, hi1, hy0, hy1, hy2⟩ := info_parts info_row
  have hl5 := okW_len ho
  have hsz5 : sz ≤ 512 := by have := lv_len ws; have := sy_len ws; omega
  have HOK := Lib.hid ho; have HN := Lib.hid hn; have HSZ := Lib.hid hsz
  obtain ⟨B, hB⟩ : ∃ B, B = w.heap.size := ⟨_, rfl⟩
  have HBW := Lib.hid hB
  have P : Hid (∀ W, Below B w W → Rd W p (nums ws) ∧ Rd W (some ⟨gs0, 0, none⟩) (zs (up (lv ws)))) := Lib.hid (fun W hb => ⟨hp.below (by rw [← hB]; exact hb), hs.below (by rw [← hB]; exact hb)⟩)
  obtain ⟨w1, hw1⟩ : ∃ w1, w1 = w.alloc (.cells #[] 121) := ⟨_, rfl⟩
  have own0 : w1.ownsRow B 121 2 (.slice (some ⟨B, 0, none⟩) 0 0) 0 [] := by
    have := World.ownsRow_lit (e := 121) (base := B) (size := 2) w #[] 0 (by omega) (by decide) rfl
    rw [← hw1, ← hB] at this
    exact this
  have hs1 : w1.heap.size = B + 1 := by rw [hw1, hB]; simp
  have HO0 := Lib.hid own0; have HS1 := Lib.hid hs1
  have HB1 : Hid (Below B w w1) := Lib.hid (by rw [hw1, hB]; exact (Below.refl _ _).alloc (Nat.le_refl _) _)
  clear hp hs hn hsz ho own0 hs1 hl5
  go_enter Try.func57, Try.ntmps57
  go_wp2_with fail
  rw [← hw1, ← hB]
  clear hw1 hB
  go_loopw [7, 14] (fun v i wr => ∃ (k g cap : Nat), k ≤ sz ∧ i = .int .i64 k ∧ v = .slice (some ⟨g, 0, none⟩) k cap ∧ B ≤ g ∧ g < wr.heap.size ∧ Hid (PkAt wr B (wf ws) g k cap (((lv ws).take k).map Tr.lf)) ∧ Hid (Below B w wr)) (fun _ i _ => sz - (intOf i).toNat)
  case atStart => exact ⟨0, B, 0, Nat.zero_le _, rfl, rfl, Nat.le_refl _, by rw [HS1.out]; omega, HO0, HB1⟩
  case round =>
    obtain ⟨k, g, cap, hk, rfl, rfl, hgB, hgl, HO, HB⟩ := hrel
    have hwz : B ≤ wr.heap.size := by omega
    have hPP := P.out wr HB.out
    have HP1 := Lib.hid hPP.1; have HP2 := Lib.hid hPP.2
    clear hPP
    by_cases hlt : k < sz
    · have hkl : k < (lv ws).length := by rw [← HSZ.out]; exact hlt
      have cs1 := HP2.out.at (i := k) (by simp [zs, up]; exact hkl)
      rw [Addr.add_lit, Nat.zero_add] at cs1
      have hsl : (lv ws)[k] < ws.length := (lv_mem.1 (List.getElem_mem hkl)).1
      obtain ⟨s, hs⟩ : ∃ s, s = (lv ws)[k] := ⟨_, rfl⟩
      have cs2 : wr.cell? ⟨gs0, k, none⟩ = some (.int .i64 (s : Nat)) := by rw [cs1, hs]; simp [zs, up, hkl]
      rw [← hs] at hsl
      obtain ⟨a, rfl, cy⟩ := rd_num HP1.out s hsl
      have HLR : Hid (pcs (wf ws) (((lv ws).take (k + 1)).map Tr.lf) = pcs (wf ws) (((lv ws).take k).map Tr.lf) ++ [.int .u64 ((ws.getD s 0 : Nat) : Int), .bool true]) := Lib.hid (by rw [leaf_row _ _ k hkl, ← hs]; rfl)
      obtain ⟨y, hy⟩ : ∃ y, y = ws.getD s 0 := ⟨_, rfl⟩
      rw [← hy] at cy HLR
      have k0 : (0 : Int) ≤ (k : Int) := by omega
      have k1 : (k : Int) < (sz : Int) := by omega
      have k2 : (0 : Int) ≤ (s : Int) := by omega
      have k3 : (s : Int) < (n : Int) := by rw [HN.out]; omega
      obtain ⟨xs, hxs⟩ : ∃ xs, xs = pcs (wf ws) (((lv ws).take k).map Tr.lf) := ⟨_, rfl⟩
      rw [← hxs] at HLR
      have HOx : Hid (wr.ownsRow B 121 2 (.slice (some ⟨g, 0, none⟩) k cap) k xs) := Lib.hid (by rw [hxs]; exact HO.out)
      clear cs1 hsl hs hy hkl hxs
      go_wp2_with (at_builtin; refine Rw.push rfl _ _ 119 rfl B 121 i0 (.agg #[.int .u64 0, .bool false]) 2 16 Try.underlying119 hi0 hz0 hz1 hz2 rfl (by decide) (.slice (some ⟨g, 0, none⟩) k cap) k xs rfl HOx.out [.int .u64 (y : Nat), .bool true] rfl rfl rfl (by omega) (by omega) hwz ?_)
      intro g4 cap4 w4 hown4 _ hor4 hl4 hb4
      have hgB4 : B ≤ g4 := by
        rcases hor4 with h | h
        · have : g = g4 := by simpa [Value.ownBlock] using h
          omega
        · omega
      have HO4 : Hid (PkAt w4 B (wf ws) g4 (k + 1) cap4 (((lv ws).take (k + 1)).map Tr.lf)) := Lib.hid (by unfold PkAt; rw [HLR.out]; exact hown4)
      have HB4 := Lib.hid (HB.out.trans hb4)
      clear hown4 hb4 hor4
      go_wp2_with fail
      go_roundw
      case rel => exact ⟨k + 1, g4, cap4, by omega, by go_num, rfl, hgB4, hl4, HO4, HB4⟩
      case measure => simp [intOf]; omega
    · obtain rfl : k = sz := by omega
      have k1 : ¬ (k : Int) < (k : Int) := by omega
      have hall : ((lv ws).take k).map Tr.lf = lev (wf ws) (lv ws) 0 := by rw [HSZ.out, List.take_length]; rfl
      have hlen : (lev (wf ws) (lv ws) 0).length = k := by rw [← hall, List.length_map, List.length_take, ← HSZ.out, Nat.min_self]
      obtain ⟨_, _, e0, hcap, hRF, _⟩ := own_rdN HO.out
      cases e0
      rw [hall] at hRF
      have HLEN := Lib.hid hlen
      obtain ⟨w5, hw5⟩ : ∃ w5, w5 = wr.alloc (.cells #[.slice (some ⟨g, 0, none⟩) k cap] 119) := ⟨_, rfl⟩
      have own5 : w5.ownsRow B 119 1 (.slice (some ⟨wr.heap.size, 0, none⟩) 1 1) 1 (ovs (wf ws) (lv ws) [(g, cap)]) := by
        have := World.ownsRow_lit (e := 119) (base := B) (size := 1) wr #[.slice (some ⟨g, 0, none⟩) k cap] 1 hwz (by decide) rfl
        rw [← hw5] at this
        have e : ovs (wf ws) (lv ws) [(g, cap)] = [.slice (some ⟨g, 0, none⟩) k cap] := by simp [ovs, hlen]
        rw [e]
        exact this
      have hb5 : Below wr.heap.size wr w5 := by rw [hw5]; exact (Below.refl _ _).alloc (Nat.le_refl _) _
      have HO5 := Lib.hid own5
      have HB5 : Hid (Below B w w5) := Lib.hid (HB.out.trans (hb5.mono hwz))
      have HLV : Hid (LvsAt w5 (wf ws) (lv ws) [(g, cap)]) := Lib.hid (fun j hj => by
        obtain rfl : j = 0 := by simpa using hj
        exact ⟨hRF.below hb5, by rw [hlen]; exact hcap⟩)
      have hs5 : w5.heap.size = wr.heap.size + 1 := by rw [hw5]; simp
      obtain ⟨ga, hga⟩ : ∃ ga, ga = wr.heap.size := ⟨_, rfl⟩
      rw [← hga] at HO5 hs5 hwz
      have HGA := Lib.hid hga
      have HNE0 : Hid (∀ j, j < [(g, cap)].length → ([(g, cap)].getD j (0, 0)).1 ≠ ga) := Lib.hid (fun j hj => by
        obtain rfl : j = 0 := by simpa using hj
        show g ≠ ga
        omega)
      have CL : Hid (∀ (j gt ct : Nat) (W : World), j ≤ 14 → Rd W (some ⟨g, 0, none⟩) (pcs (wf ws) (lev (wf ws) (lv ws) 0)) → Rd W (some ⟨gt, 0, none⟩) (pcs (wf ws) (lev (wf ws) (lv ws) j)) →
          Calls Try.prog 75 #[.slice (some ⟨g, 0, none⟩) k cap, .slice (some ⟨gt, 0, none⟩) (lev (wf ws) (lv ws) j).length ct] W fun e w' => ∃ (g cap : Nat), e = .returned (.slice (some ⟨g, 0, none⟩) (lev (wf ws) (lv ws) (j + 1)).length cap) ∧ W.heap.size ≤ g ∧ g < w'.heap.size ∧ (lev (wf ws) (lv ws) (j + 1)).length ≤ cap ∧ Rd w' (some ⟨g, 0, none⟩) (pcs (wf ws) (lev (wf ws) (lv ws) (j + 1))) ∧ Below W.heap.size W w') :=
        Lib.hid (fun j gt ct W h1 h2' h3 => by
          have hl := lev_length (wf ws) (lv ws) j
          rw [← HSZ.out] at hl
          have hle := lev_le (wf ws) (lv ws) j
          rw [← HSZ.out] at hle
          have := level_any (wf ws) (lev (wf ws) (lv ws) 0) (lev (wf ws) (lv ws) j) g gt k _ cap ct W HLEN.out.symm rfl (by omega) (by omega) (by omega) (lev_up (lv_up ws) 0) (lev_up (lv_up ws) j) (wt_ok HOK.out (by omega)) h2' h3
          rw [← hl] at this
          exact this)
      clear hall hlen hRF own5 hb5 hgl hk hlt HO hga HO0 HB1 HS1
      go_wp2_with fail
      rw [← hw5, ← HGA.out]
      clear hw5
      go_loopw [10] (fun v wr2 => ∃ (gb cb : Nat) (gs : List (Nat × Nat)), v = .slice (some ⟨gb, 0, none⟩) gs.length cb ∧ 1 ≤ gs.length ∧ gs.length ≤ lm ∧ Hid (gs.getD 0 (0, 0) = (g, cap)) ∧ B ≤ gb ∧ gb < wr2.heap.size ∧ Hid (∀ j, j < gs.length → (gs.getD j (0, 0)).1 ≠ gb) ∧ Hid (wr2.ownsRow B 119 1 v gs.length (ovs (wf ws) (lv ws) gs)) ∧ Hid (LvsAt wr2 (wf ws) (lv ws) gs) ∧ Hid (Below B w wr2)) (fun v _ => match v with | .slice _ n _ => lm - n | _ => 0)
      case atStart => exact ⟨ga, 1, [(g, cap)], rfl, Nat.le_refl _, hlm, Lib.hid rfl, hwz, by omega, HNE0, HO5, HLV, HB5⟩
      case round =>
        clear HO5 HLV HB5 hs5
        obtain ⟨gb, cb, gs, rfl, hg1, hg2, HG0, hgbB, hgbl, HNE, HOW, HLV, HB⟩ := hrel
        obtain ⟨q, hq⟩ : ∃ q, q = gs.length := ⟨_, rfl⟩
        rw [← hq] at hg1 hg2 HOW ⊢
        have HQ := Lib.hid hq
        have hwz2 : B ≤ wr.heap.size := by omega
        by_cases hlt : q < lm
        · obtain ⟨r, hr⟩ : ∃ r, q = r + 1 := ⟨q - 1, by omega⟩
          have hrl : r < gs.length := by omega
          have hcr := HOW.out.cellAt r (by omega)
          have hov := ovs_at (wf ws) (lv ws) gs hrl
          rw [show (ovs (wf ws) (lv ws) gs)[r]? = some ((ovs (wf ws) (lv ws) gs).getD r (.bool false)) from by
            rw [List.getD_eq_getElem?_getD, List.getElem?_eq_getElem (by rw [ovs_length]; exact hrl)]; rfl, hov] at hcr
          have hLr := (HLV.out r hrl).1
          have hL0 := (HLV.out 0 (by omega)).1
          rw [HG0.out] at hL0
          obtain ⟨gt, hgt⟩ : ∃ x, x = (gs.getD r (0, 0)).1 := ⟨_, rfl⟩
          obtain ⟨ct, hct⟩ : ∃ x, x = (gs.getD r (0, 0)).2 := ⟨_, rfl⟩
          rw [← hgt, ← hct] at hcr
          rw [← hgt] at hLr
          have C := CL.out r gt ct wr (by omega) hL0 hLr
          rw [← hr] at C
          have C1 := Lib.hid C
          have HNX : Hid (∀ g7 c7, ovs (wf ws) (lv ws) (gs ++ [(g7, c7)]) = ovs (wf ws) (lv ws) gs ++ [.slice (some ⟨g7, 0, none⟩) (lev (wf ws) (lv ws) q).length c7] ∧ (gs ++ [(g7, c7)]).length = q + 1) := Lib.hid (fun g7 c7 => ⟨by rw [ovs_snoc, HQ.out], by simp [HQ.out]⟩)
          have hLpos : 0 < (lv ws).length := by rw [← HSZ.out]; omega
          have HLP := Lib.hid hLpos
          obtain ⟨ln, hln⟩ : ∃ x, x = (lev (wf ws) (lv ws) r).length := ⟨_, rfl⟩
          obtain ⟨lq, hlq⟩ : ∃ x, x = (lev (wf ws) (lv ws) q).length := ⟨_, rfl⟩
          rw [← hln] at hcr
          rw [← hln, ← hlq] at C1
          rw [← hlq] at HNX
          have HLQ := Lib.hid hlq
          have hlz : (q : Int) < (lm : Int) := by omega
          have z1 : (q : Int) - 1 = (r : Int) := by omega
          have z2 : IntKind.i64.wrap ((r : Int)) = (r : Int) := IntWalk.i64_in _ (by omega)
          have z3 : (0 : Int) ≤ (r : Int) := by omega
          have z4 : (r : Int) < (q : Int) := by omega
          clear hq hr hrl hov hLr hL0 hgt hct C hln hlq hLpos hlt
          go_wp2_with fail
          refine C1.out.mono ?_
          rintro e w6 ⟨g7, c7, rfl, h1, h2', h3, h4, h5⟩
          have HO6 := Lib.hid (own_below HOW.out h5)
          have HLV6 := Lib.hid (HLV.out.below h5)
          have HB6 : Hid (Below B w w6) := Lib.hid (HB.out.trans (h5.mono hwz2))
          have hwz6 : B ≤ w6.heap.size := Nat.le_trans hwz2 h5.size
          have H7 := Lib.hid (And.intro h1 (And.intro h2' h3)); have HR7 := Lib.hid h4
          have hgb6 : gb < w6.heap.size := Nat.lt_of_lt_of_le hgbl h5.size
          clear h1 h2' h3 h4 h5 C1
          go_wp2_with (at_builtin; refine Rw.push rfl _ _ 86 rfl B 119 i1 (.slice none 0 0) 1 24 Try.underlying86 hi1 hy0 hy1 hy2 rfl (by decide) (.slice (some ⟨gb, 0, none⟩) q cb) q _ rfl HO6.out [.slice (some ⟨g7, 0, none⟩) lq c7] rfl rfl rfl (by omega) (by omega) hwz6 ?_)
          intro g8 c8 w8 hown8 hgr8 hor8 hl8 hb8
          have HO8 : Hid (w8.ownsRow B 119 1 (.slice (some ⟨g8, 0, none⟩) (q + 1) c8) (q + 1) (ovs (wf ws) (lv ws) (gs ++ [(g7, c7)]))) := Lib.hid (by rw [(HNX.out g7 c7).1]; exact hown8)
          have hgb8 : B ≤ g8 := by
            rcases hor8 with h | h
            · have : gb = g8 := by simpa [Value.ownBlock] using h
              omega
            · omega
          have HB8 : Hid (Below B w w8) := Lib.hid (HB6.out.trans hb8)
          have hne7 : g7 ≠ gb := by have := H7.out.1; omega
          have HLV8 : Hid (LvsAt w8 (wf ws) (lv ws) (gs ++ [(g7, c7)])) := Lib.hid ((HLV6.out.snoc (by rw [← HQ.out]; exact HR7.out) (by rw [← HQ.out, ← HLQ.out]; exact H7.out.2.2)).grown hgr8 (fun j hj => by
            rw [List.length_append, List.length_singleton] at hj
            by_cases e : j < gs.length
            · have : (gs ++ [(g7, c7)]).getD j (0, 0) = gs.getD j (0, 0) := by simp [List.getElem?_append_left e]
              rw [this]; exact HNE.out j e
            · obtain rfl : j = gs.length := by omega
              have : (gs ++ [(g7, c7)]).getD gs.length (0, 0) = (g7, c7) := by simp
              rw [this]; exact hne7))
          have HNE8 : Hid (∀ j, j < (gs ++ [(g7, c7)]).length → ((gs ++ [(g7, c7)]).getD j (0, 0)).1 ≠ g8) := Lib.hid (fun j hj => by
            have hlt6 : ((gs ++ [(g7, c7)]).getD j (0, 0)).1 < w6.heap.size ∧ ((gs ++ [(g7, c7)]).getD j (0, 0)).1 ≠ gb := by
              rw [List.length_append, List.length_singleton] at hj
              by_cases e : j < gs.length
              · have : (gs ++ [(g7, c7)]).getD j (0, 0) = gs.getD j (0, 0) := by simp [List.getElem?_append_left e]
                rw [this]; exact ⟨HLV6.out.lt HLP.out e, HNE.out j e⟩
              · obtain rfl : j = gs.length := by omega
                have : (gs ++ [(g7, c7)]).getD gs.length (0, 0) = (g7, c7) := by simp
                rw [this]; exact ⟨H7.out.2.1, hne7⟩
            rcases hor8 with h | h
            · have : gb = g8 := by simpa [Value.ownBlock] using h
              rw [← this]; exact hlt6.2
            · omega)
          have HG8 : Hid ((gs ++ [(g7, c7)]).getD 0 (0, 0) = (g, cap)) := Lib.hid (by
            rw [← HG0.out]
            have : 0 < gs.length := by rw [← HQ.out]; omega
            rw [List.getD_eq_getElem?_getD, List.getD_eq_getElem?_getD, List.getElem?_append_left this])
          clear hown8 hgr8 hor8 hb8 hne7
          go_wp2_with fail
          go_roundw
          case rel => exact ⟨g8, c8, gs ++ [(g7, c7)], by rw [(HNX.out g7 c7).2], by rw [(HNX.out g7 c7).2]; omega, by rw [(HNX.out g7 c7).2]; omega, HG8, hgb8, hl8, HNE8, by rw [(HNX.out g7 c7).2]; exact HO8, HLV8, HB8⟩
          case measure => show lm - (q + 1) < lm - q; omega
        · obtain rfl : q = lm := by omega
          have hz : ¬ (q : Int) < (q : Int) := by omega
          obtain ⟨_, _, e0, _, hRO, _⟩ := own_rdN HOW.out
          cases e0
          have F : Hid (LsP w (wf ws) (lv ws) q (.returned (.slice (some ⟨gb, 0, none⟩) q cb)) wr) := Lib.hid ⟨gb, cb, gs, rfl, HQ.out.symm, hRO, HLV.out, by rw [← HBW.out]; exact hgbB, by rw [← HBW.out]; exact HB.out⟩
          clear hRO hq
          go_wp2_with fail
          go_ret
          exact F.out
end Go.Proofs.Ytjnehpkkkmicfaa.Ps

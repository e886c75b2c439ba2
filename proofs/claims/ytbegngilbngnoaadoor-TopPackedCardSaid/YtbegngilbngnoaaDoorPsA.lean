/- The walks of package pack's areWeights, isLimit, Cost, Room. -/
import Derived.Test.YtbegngilbngnoaaDoorPkB
import Derived.Test.YtbegngilbngnoaaDoorPsM
namespace Go.Proofs.YtbegngilbngnoaaDoor.Ps
open Go.RowKit Go.Lib Rw Ls Od Pk _root_.Go.Proofs.YtbegngilbngnoaaDoor.Nm

set_option maxHeartbeats 4000000 in
set_option maxRecDepth 100000 in
theorem pweights_any (ws : List Nat) (p : Option Addr) (c : Nat) (w : World) (hp : Rd w p (nums ws)) (hl : ws.length ≤ 17592186044416) :
    Calls Tryd.prog 31 #[.slice p ws.length c] w fun e w' => e = .returned (.bool (okW ws)) ∧ w' = w := by
  have P := Lib.hid hp
  obtain ⟨n, hn⟩ : ∃ n, n = ws.length := ⟨_, rfl⟩
  have HN := Lib.hid hn
  rw [← hn] at hl ⊢
  clear hp hn
  by_cases hbig : 512 < n
  · have F : Hid (okW ws = false) := Lib.hid (by unfold okW; rw [← HN.out, decide_eq_false (by omega)]; rfl)
    have b1 : decide ((512 : Int) < (n : Int)) = true := decide_eq_true (by omega)
    have b2 : decide (512 < n) = true := decide_eq_true hbig
    clear hbig
    go_enter Tryd.func31, Tryd.ntmps31
    go_wp2_with fail
    go_ret
    exact ⟨by rw [F.out]; rfl, rfl⟩
  have b1 : decide ((512 : Int) < (n : Int)) = false := decide_eq_false (by omega)
  have b2 : decide (512 < n) = false := decide_eq_false hbig
  have HB := Lib.hid hbig
  clear hbig
  go_enter Tryd.func31, Tryd.ntmps31
  go_wp2_with fail
  go_loopw [10] (fun i wr => ∃ k : Nat, k ≤ n ∧ i = .int .i64 k ∧ Hid (∀ j, j < k → ws.getD j 0 ≤ 1099511627776) ∧ wr = w) (fun i _ => n - (intOf i).toNat)
  case atStart => exact ⟨0, Nat.zero_le _, rfl, Lib.hid (fun j hj => by omega), rfl⟩
  case round =>
    obtain ⟨k, hk, rfl, HA, hw⟩ := hrel
    have HW := Lib.hid hw
    have P2 : Hid (Rd wr p (nums ws)) := Lib.hid (by rw [hw]; exact P.out)
    clear hw
    by_cases hlt : k < n
    · obtain ⟨a, rfl, cy⟩ := rd_num P2.out k (by rw [← HN.out]; exact hlt)
      obtain ⟨y, hy⟩ : ∃ y, y = ws.getD k 0 := ⟨_, rfl⟩
      rw [← hy] at cy
      have HY := Lib.hid hy
      have k0 : (0 : Int) ≤ (k : Int) := by omega
      have k1 : (k : Int) < (n : Int) := by omega
      clear hy
      by_cases hyb : y ≤ 1099511627776
      · have HB2 : Hid (∀ j, j < k + 1 → ws.getD j 0 ≤ 1099511627776) := Lib.hid (fun j hj => by
          rcases Nat.lt_or_ge j k with h | h
          · exact HA.out j h
          · rw [show j = k by omega, ← HY.out]; exact hyb)
        have d1 : decide ((1099511627776 : Int) < (y : Int)) = false := decide_eq_false (by omega)
        have d2 : decide (1099511627776 < y) = false := decide_eq_false (by omega)
        clear hyb
        go_wp2_with fail
        go_roundw
        case rel => exact ⟨k + 1, by omega, by go_num, HB2, HW.out⟩
        case measure => simp [intOf]; omega
      · have F : Hid (okW ws = false) := Lib.hid (by
          cases e : okW ws with
          | false => rfl
          | true => have := okW_at e k; rw [← HY.out] at this; omega)
        have d1 : decide ((1099511627776 : Int) < (y : Int)) = true := decide_eq_true (by omega)
        have d2 : decide (1099511627776 < y) = true := decide_eq_true (by omega)
        clear hyb
        go_wp2_with fail
        go_ret
        exact ⟨by rw [F.out]; rfl, HW.out⟩
    · obtain rfl : k = n := by omega
      have F : Hid (okW ws = true) := Lib.hid (by
        unfold okW
        rw [← HN.out, decide_eq_true (by have := HB.out; omega), Bool.true_and, List.all_eq_true]
        intro x hx
        obtain ⟨j, hj, e⟩ := List.getElem_of_mem hx
        have := HA.out j (by rw [HN.out]; exact hj)
        rw [gd hj] at this
        rw [← e]; exact decide_eq_true this)
      have k1 : ¬ (k : Int) < (k : Int) := by omega
      go_wp2_with fail
      go_ret
      exact ⟨by rw [F.out]; rfl, HW.out⟩
def okLim (lim : Int) : Bool := decide (1 ≤ lim) && decide (lim ≤ 15)
theorem plimit_any (lim : Int) (w : World) : Calls Tryd.prog 32 #[.int .i64 lim] w fun e w' => e = .returned (.bool (okLim lim)) ∧ w' = w := by
  by_cases h1 : 1 ≤ lim
  · have t1 : decide (1 ≤ lim) = true := decide_eq_true h1
    by_cases h2 : lim ≤ 15
    · have t2 : decide (lim ≤ 15) = true := decide_eq_true h2
      have F : Hid (okLim lim = true) := Lib.hid (by unfold okLim; rw [t1, t2]; rfl)
      go_enter Tryd.func32, Tryd.ntmps32
      go_wp2_with fail
      go_ret
      exact ⟨by rw [F.out]; rfl, rfl⟩
    · have t2 : decide (lim ≤ 15) = false := decide_eq_false h2
      have F : Hid (okLim lim = false) := Lib.hid (by unfold okLim; rw [t1, t2]; rfl)
      go_enter Tryd.func32, Tryd.ntmps32
      go_wp2_with fail
      go_ret
      exact ⟨by rw [F.out]; rfl, rfl⟩
  · have t1 : decide (1 ≤ lim) = false := decide_eq_false h1
    have F : Hid (okLim lim = false) := Lib.hid (by unfold okLim; rw [t1]; rfl)
    go_enter Tryd.func32, Tryd.ntmps32
    go_wp2_with fail
    go_ret
    exact ⟨by rw [F.out]; rfl, rfl⟩
set_option maxHeartbeats 4000000 in
set_option maxRecDepth 100000 in
theorem pcostw_any (ws : List Nat) (ls : List Int) (p q : Option Addr) (c d : Nat) (w : World) (hp : Rd w p (nums ws)) (hq : Rd w q (zs ls)) (hl : ws.length ≤ 17592186044416) (hm : ls.length ≤ 17592186044416) :
    Calls Tryd.prog 20 #[.slice p ws.length c, .slice q ls.length d] w fun e w' => e = .returned (.tuple #[.int .u64 ((costR ws ls).1 : Nat), .int .i64 (costR ws ls).2]) ∧ w' = w := by
  have P := Lib.hid hp; have Q := Lib.hid hq
  have CR := Lib.hid (fun W (h : Rd W p (nums ws)) => pweights_any ws p c W h hl)
  obtain ⟨n, hn⟩ : ∃ n, n = ws.length := ⟨_, rfl⟩
  obtain ⟨m, hm2⟩ : ∃ m, m = ls.length := ⟨_, rfl⟩
  have HN := Lib.hid hn; have HM := Lib.hid hm2
  rw [← hn] at hl CR ⊢
  rw [← hm2] at hm ⊢
  clear hp hq hn hm2
  cases ho : okW ws with
  | false =>
    have F : Hid (costR ws ls = (0, 1)) := Lib.hid (by unfold costR; rw [ho]; rfl)
    have C2 := Lib.hid (CR.out w P.out)
    rw [ho] at C2
    clear ho CR
    go_enter Tryd.func20, Tryd.ntmps20
    go_wp2_with fail
    refine C2.out.mono ?_
    rintro e w1 ⟨rfl, rfl⟩
    go_wp2_with fail
    refine bodyPost_ret (v := .tuple #[.int .u64 0, .int .i64 1]) (by simp [results, Tryd.results20, go_sem]) rfl ?_
    exact ⟨by rw [F.out]; rfl, rfl⟩
  | true =>
    have C2 := Lib.hid (CR.out w P.out)
    rw [ho] at C2
    have HOK := Lib.hid ho
    have HL5 : Hid (n ≤ 512) := Lib.hid (by rw [HN.out]; exact okW_len ho)
    clear ho CR
    by_cases hnm : n = m
    case neg =>
      have F : Hid (costR ws ls = (0, 5)) := Lib.hid (by unfold costR; rw [if_pos HOK.out, if_neg (by rw [← HN.out, ← HM.out]; exact hnm)])
      have d1 : ((n : Int) == (m : Int)) = false := by rw [beq_eq_false_iff_ne]; omega
      have d2 : (n == m) = false := by rw [beq_eq_false_iff_ne]; exact hnm
      have d3 : ((m : Int) == (n : Int)) = false := by rw [beq_eq_false_iff_ne]; omega
      have d4 : (m == n) = false := by rw [beq_eq_false_iff_ne]; exact fun h => hnm h.symm
      clear hnm
      go_enter Tryd.func20, Tryd.ntmps20
      go_wp2_with fail
      refine C2.out.mono ?_
      rintro e w1 ⟨rfl, rfl⟩
      go_wp2_with fail
      refine bodyPost_ret (v := .tuple #[.int .u64 0, .int .i64 5]) (by simp [results, Tryd.results20, go_sem]) rfl ?_
      exact ⟨by rw [F.out]; rfl, rfl⟩
    case pos =>
    subst hnm
    have d1 : ((n : Int) == (n : Int)) = true := by rw [beq_iff_eq]
    go_enter Tryd.func20, Tryd.ntmps20
    go_wp2_with fail
    refine C2.out.mono ?_
    rintro e w1 ⟨rfl, hw1⟩
    have HW1 := Lib.hid hw1
    clear hw1
    go_wp2_with fail
    go_loopw [6, 19] (fun v i wr => ∃ (k x : Nat), k ≤ n ∧ i = .int .i64 k ∧ v = .int .u64 x ∧ Hid (x = costT ws ls k) ∧ Hid (∀ j, j < k → good (ws.getD j 0) (ls.getD j 0) = true) ∧ Hid (wr = w)) (fun _ i _ => n - (intOf i).toNat)
    case atStart => exact ⟨0, 0, Nat.zero_le _, rfl, rfl, Lib.hid rfl, Lib.hid (fun j hj => by omega), HW1⟩
    case round =>
      obtain ⟨k, x, hk, rfl, rfl, HX, HG, HW⟩ := hrel
      have P2 : Hid (Rd wr p (nums ws)) := Lib.hid (by rw [HW.out]; exact P.out)
      have Q2 : Hid (Rd wr q (zs ls)) := Lib.hid (by rw [HW.out]; exact Q.out)
      have hxb : x ≤ k * 16492674416640 := by rw [HX.out]; exact costT_le HOK.out k HG.out
      by_cases hlt : k < n
      · obtain ⟨a, rfl, cy⟩ := rd_num P2.out k (by rw [← HN.out]; exact hlt)
        obtain ⟨b, rfl, cz⟩ := rd_z Q2.out k (by rw [← HM.out]; exact hlt)
        have HS := Lib.hid (costT_succ ws ls k)
        have hyb := okW_at HOK.out k
        obtain ⟨y, hy⟩ : ∃ y, y = ws.getD k 0 := ⟨_, rfl⟩
        obtain ⟨z, hz⟩ : ∃ z, z = ls.getD k 0 := ⟨_, rfl⟩
        have HYZ : Hid (ws.getD k 0 = y ∧ ls.getD k 0 = z) := Lib.hid ⟨hy.symm, hz.symm⟩
        rw [← hy] at cy HS hyb
        rw [← hz] at cz HS
        have k0 : (0 : Int) ≤ (k : Int) := by omega
        have k1 : (k : Int) < (n : Int) := by omega
        have hl5 := HL5.out
        clear hy hz
        cases hg : good y z with
        | false =>
          have F : Hid (costR ws ls = (0, 7)) := Lib.hid (by
            unfold costR
            rw [if_pos HOK.out, if_pos (by rw [← HN.out, ← HM.out]), if_neg]
            intro h
            rw [List.all_eq_true] at h
            have := h k (List.mem_range.2 (by rw [← HN.out]; exact hlt))
            rw [HYZ.out.1, HYZ.out.2, hg] at this; cases this)
          have hor : z < 0 ∨ (¬ z < 0 ∧ 15 < z) ∨ (¬ z < 0 ∧ ¬ 15 < z ∧ z = 0 ∧ 0 < y) := by
            rcases Int.lt_or_le z 0 with h | h
            · exact .inl h
            · rcases Int.lt_or_le 15 z with h2 | h2
              · exact .inr (.inl ⟨by omega, h2⟩)
              · refine .inr (.inr ⟨by omega, by omega, ?_⟩)
                exact Classical.not_not.1 fun h3 => by rw [good_iff.2 ⟨h, h2, h3⟩] at hg; cases hg
          clear hg HS hxb hyb
          rcases hor with h | ⟨h, h2⟩ | ⟨h, h2, h3, h4⟩
          · have e1 : decide (z < 0) = true := decide_eq_true h
            clear h
            go_wp2_with fail
            refine bodyPost_ret (v := .tuple #[.int .u64 0, .int .i64 7]) (by simp [results, Tryd.results20, go_sem]) rfl ?_
            exact ⟨by rw [F.out]; rfl, HW.out⟩
          · have e1 : decide (z < 0) = false := decide_eq_false h
            have e2 : decide (15 < z) = true := decide_eq_true h2
            clear h h2
            go_wp2_with fail
            refine bodyPost_ret (v := .tuple #[.int .u64 0, .int .i64 7]) (by simp [results, Tryd.results20, go_sem]) rfl ?_
            exact ⟨by rw [F.out]; rfl, HW.out⟩
          · subst h3
            have e4 : decide ((0 : Int) < (y : Int)) = true := decide_eq_true (by omega)
            have e5 : decide (0 < y) = true := decide_eq_true h4
            clear h h2 h4
            go_wp2_with fail
            refine bodyPost_ret (v := .tuple #[.int .u64 0, .int .i64 7]) (by simp [results, Tryd.results20, go_sem]) rfl ?_
            exact ⟨by rw [F.out]; rfl, HW.out⟩
        | true =>
          have HG2 : Hid (∀ j, j < k + 1 → good (ws.getD j 0) (ls.getD j 0) = true) := Lib.hid (fun j hj => by
            rcases Nat.lt_or_ge j k with h | h
            · exact HG.out j h
            · rw [show j = k by omega, HYZ.out.1, HYZ.out.2]; exact hg)
          obtain ⟨g1, g2, g3⟩ := good_iff.1 hg
          obtain ⟨u, rfl⟩ := Int.eq_ofNat_of_zero_le g1
          obtain ⟨v2, hv2⟩ : ∃ v2, v2 = y * u := ⟨_, rfl⟩
          have hv3 : v2 ≤ 1099511627776 * 15 := by rw [hv2]; exact Nat.mul_le_mul hyb (by omega)
          obtain ⟨x2, hx2⟩ : ∃ x2, x2 = x + v2 := ⟨_, rfl⟩
          have HX2 : Hid (x2 = costT ws ls (k + 1)) := Lib.hid (by rw [HS.out, hx2, hv2, HX.out]; rfl)
          have w1 : IntKind.u64.wrap ((u : Int)) = (u : Int) := IntWalk.u64_in _ (by omega)
          have w2 : (y : Int) * (u : Int) = (v2 : Int) := by rw [hv2]; exact (Int.natCast_mul y u).symm
          have w3 : IntKind.u64.wrap ((v2 : Int)) = (v2 : Int) := IntWalk.u64_in _ (by omega)
          have w4 : (x : Int) + (v2 : Int) = (x2 : Int) := by omega
          have w5 : IntKind.u64.wrap ((x2 : Int)) = (x2 : Int) := IntWalk.u64_in _ (by omega)
          have e1 : decide ((u : Int) < 0) = false := decide_eq_false (by omega)
          have e2 : decide ((15 : Int) < (u : Int)) = false := decide_eq_false (by omega)
          have e6 : decide (15 < u) = false := decide_eq_false (by omega)
          have hor : u ≠ 0 ∨ (u = 0 ∧ y = 0) := by omega
          clear hg g1 g2 g3 hv2 hx2 HS hyb
          rcases hor with h | ⟨rfl, rfl⟩
          · have e3 : ((u : Int) == 0) = false := by rw [beq_eq_false_iff_ne]; omega
            have e7 : (u == 0) = false := by rw [beq_eq_false_iff_ne]; exact h
            clear h
            go_wp2_with fail
            go_roundw
            case rel => exact ⟨k + 1, x2, by omega, by go_num, rfl, HX2, HG2, HW⟩
            case measure => simp [intOf]; omega
          · obtain rfl : v2 = 0 := by simpa using w2.symm
            obtain rfl : x2 = x := by omega
            clear w4
            go_wp2_with fail
            go_roundw
            case rel => exact ⟨k + 1, x2, by omega, by go_num, by first | rfl | go_num, HX2, HG2, HW⟩
            case measure => simp [intOf]; omega
      · obtain rfl : k = n := by omega
        have k1 : ¬ (k : Int) < (k : Int) := by omega
        have F : Hid (costR ws ls = (x, 0)) := Lib.hid (by
          unfold costR
          rw [if_pos HOK.out, if_pos (by rw [← HN.out, ← HM.out]), if_pos, ← HN.out, HX.out]
          rw [List.all_eq_true]
          intro j hj
          exact HG.out j (by rw [HN.out]; exact List.mem_range.1 hj))
        go_wp2_with fail
        refine bodyPost_ret (v := .tuple #[.int .u64 (x : Nat), .int .i64 0]) (by simp [results, Tryd.results20, go_sem]) rfl ?_
        exact ⟨by rw [F.out], HW.out⟩
end Go.Proofs.YtbegngilbngnoaaDoor.Ps

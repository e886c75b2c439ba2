/- The walk of order.Right. -/
import Derived.Test.YtonlbcibfbbpgaaOrdPInv
import Derived.Test.YtonlbcibfbbpgaaOrdPLess
import Derived.Test.YtonlbcibfbbpgaaOrdNum
namespace Go.Proofs.Ytonlbcibfbbpgaa.Od
open Go.RowKit Go.Lib Rw Ls _root_.Go.Proofs.Ytonlbcibfbbpgaa.Nm

theorem all_to {l M P : List Nat} {k : Nat} (h : ∀ i, 0 < i → i < k → plB l M (P.getD (i - 1) 0) (P.getD i 0) = true) (hk : plB l M (P.getD (k - 1) 0) (P.getD k 0) = true) :
    ∀ i, 0 < i → i < k + 1 → plB l M (P.getD (i - 1) 0) (P.getD i 0) = true := fun i h0 hi => by
  by_cases e : i = k
  · subst e; exact hk
  · exact h i h0 (by omega)
set_option maxHeartbeats 8000000 in
set_option maxRecDepth 100000 in
theorem pright_any (l : List Nat) (E : List Int) (p q : Option Addr) (c d : Nat) (w : World) (hp : Rd w p (nums l)) (hq : Rd w q (zs E)) (_hlc : l.length ≤ c) (hl : l.length ≤ 17592186044416) (hE : E.length ≤ 17592186044416) :
    Calls Try.prog 34 #[.slice p l.length c, .slice q E.length d] w fun e w' => e = .returned (.bool (right l E)) ∧ Below w.heap.size w w' := by
  have HP := Lib.hid hp; have HQ := Lib.hid hq
  have HC := Lib.hid (pinverse_any E q d w hq hE)
  obtain ⟨n, hn⟩ : ∃ n, n = l.length := ⟨_, rfl⟩
  obtain ⟨m, hm⟩ : ∃ m, m = E.length := ⟨_, rfl⟩
  rw [← hm] at HC
  rw [← hn, ← hm]
  rw [← hn] at hl
  rw [← hm] at hE
  have HN := Lib.hid hn; have HM := Lib.hid hm
  clear hp hq hn hm
  cases hi : inv E with
  | none =>
    have F : Hid (false = right l E) := Lib.hid (by unfold right; rw [hi]; rfl)
    obtain ⟨e1, e2⟩ := inv_no hi
    rw [e1, e2] at HC
    clear e1 e2 hi
    go_enter Try.func34, Try.ntmps34
    go_wp2_with fail
    refine HC.out.mono ?_
    rintro e w1 ⟨q', c', rfl, hc', hr', hn', _, hb'⟩
    have B1 := Lib.hid hb'
    clear hc' hr' hn' hb'
    go_wp2_with fail
    go_ret
    exact ⟨ret_bool F.out, B1.out⟩
  | some M =>
    obtain ⟨P, rfl, hperm⟩ := perm_of_inv hi
    obtain ⟨e1, e2⟩ := inv_yes hi
    rw [e1, e2] at HC
    have hPm : P.length = m := by rw [HM.out, up_length]
    obtain ⟨M', hM', hMl, hMi⟩ := inv_perm hperm
    have hMM : M' = M := by rw [hM'] at hi; exact Option.some.inj hi
    subst hMM
    have hlM : M'.length = m := by omega
    by_cases hnm : n = m
    · have hrt : right l (up P) = chain l P P.length := by
        unfold right
        rw [hi, up_length, nat_up]
        have : P.length = l.length := by rw [hPm, ← hnm, HN.out]
        simp [this]
      have hiff := all_pl_iff (l := l) hperm (by rw [← HN.out, hnm, hPm]) (by rw [hlM, hPm]) hMi
      rw [hPm] at hiff hrt
      have HI := Lib.hid hiff; have HRT := Lib.hid hrt; have HPm := Lib.hid hPm; have HPe := Lib.hid hperm
      have HlM := Lib.hid hlM
      subst hnm
      clear e1 e2 hi hM' hMl hMi hiff hrt hPm hperm hlM
      have ea := isless_enters
      go_enter Try.func34, Try.ntmps34
      go_wp2_with fail
      refine HC.out.mono ?_
      rintro e w1 ⟨q', c', rfl, hc', hr', hn', _, hb'⟩
      have B1 := Lib.hid hb'
      have C2 := Lib.hid (less_any n c c' p q' l M' w1 (HP.out.below hb') hr' HN.out.symm HlM.out)
      rw [HlM.out]
      clear hc' hr' hn' hb' HC
      go_wp2_with fail
      ((with_reducible refine C2.out.mono ?_); rintro e w2 ⟨rfl, hC, hb2⟩)
      have HCL := Lib.hid hC
      have B2 : Hid (Below w.heap.size w w2) := Lib.hid (B1.out.trans (hb2.mono B1.out.size))
      have HQ2 : Hid (Rd w2 q (zs (up P))) := Lib.hid (HQ.out.below B2.out)
      clear hC hb2 C2 B1
      go_wp2_with fail
      go_loopw [8] (fun i wr => ∃ (k z : Nat), 1 ≤ k ∧ i = .int .i64 k ∧ wr = w2.drewN z ∧ (k ≤ n ∨ k = 1) ∧ Hid (∀ i, 0 < i → i < k → plB l M' (P.getD (i - 1) 0) (P.getD i 0) = true)) (fun i _ => n - (intOf i).toNat)
      case atStart => exact ⟨1, 0, Nat.le_refl _, rfl, rfl, .inr rfl, Lib.hid (fun i h0 h1 => absurd h1 (by omega))⟩
      case round =>
        obtain ⟨k, z, hk1, rfl, hz, hkn, HA⟩ := hrel
        by_cases hlt : k < n
        · have kz : (k : Int) < (n : Int) := by omega
          obtain ⟨j, hj⟩ : ∃ j, j = k - 1 := ⟨_, rfl⟩
          have jz : (k : Int) - 1 = (j : Int) := by omega
          have jn : (j : Int) < (n : Int) := by omega
          have hpn : ∀ i, i < n → P.getD i 0 < n := fun i hi => by
            have hi2 : i < P.length := by rw [HPm.out]; exact hi
            rw [gd hi2]
            have := List.mem_range.1 (HPe.out.mem_iff.1 (List.getElem_mem hi2))
            rw [HPm.out] at this; exact this
          obtain ⟨x, hx⟩ : ∃ x, x = P.getD j 0 := ⟨_, rfl⟩
          obtain ⟨y, hy⟩ : ∃ y, y = P.getD k 0 := ⟨_, rfl⟩
          have hxn : x < n := by rw [hx]; exact hpn j (by omega)
          have hyn : y < n := by rw [hy]; exact hpn k hlt
          have HQ3 : Rd wr q (zs (up P)) := by rw [hz]; exact HQ2.out.drewN z
          obtain ⟨A, rfl, c1⟩ := rd_z HQ3 j (by rw [up_length, HPm.out]; omega)
          obtain ⟨A2, e2, c2⟩ := rd_z HQ3 k (by rw [up_length, HPm.out]; exact hlt)
          cases e2
          have d1 : (up P).getD j 0 = (x : Int) := by
            have : j < P.length := by rw [HPm.out]; omega
            rw [hx]; simp [up, List.getD_eq_getElem?_getD, this]
          have d2 : (up P).getD k 0 = (y : Int) := by
            have : k < P.length := by rw [HPm.out]; exact hlt
            rw [hy]; simp [up, List.getD_eq_getElem?_getD, this]
          rw [d1] at c1
          rw [d2] at c2
          have C3 := Lib.hid (fun z2 => (isless_any x y w1.heap.size (w1.heap.size + 1) (w1.heap.size + 2) n c c' p q' l M' (wr.drewN z2) (by rw [hz]; exact HCL.out.below ⟨rfl, rfl, rfl, Nat.le_refl _, fun _ _ => rfl⟩) hl hxn hyn))
          have HX := Lib.hid hx; have HY := Lib.hid hy; have HJ := Lib.hid hj; have HZ := Lib.hid hz
          clear hx hy hj hz hpn HQ3 d1 d2
          cases hb : plB l M' x y with
          | true =>
            rw [hb] at C3
            have H2 : Hid (∀ i, 0 < i → i < k + 1 → plB l M' (P.getD (i - 1) 0) (P.getD i 0) = true) := Lib.hid (all_to HA.out (by rw [← HJ.out, ← HX.out, ← HY.out]; exact hb))
            clear hb
            go_wp2_with fail
            go_big_quiet ((go_at_fn 61; exact Calls.quiet_of (C3.out _)))
            go_wp2_with fail
            go_roundw
            case rel => exact ⟨k + 1, z + nq, by omega, by first | rfl | go_num, by rw [HZ.out, World.drewN_drewN], .inl (by omega), H2⟩
            case measure => simp [intOf]; omega
          | false =>
            rw [hb] at C3
            have F : Hid (false = right l (up P)) := Lib.hid (by
              rw [HRT.out]
              cases hch : chain l P n with
              | false => rfl
              | true =>
                have := HI.out.2 hch k (by omega) hlt
                rw [← HJ.out, ← HX.out, ← HY.out, hb] at this; cases this)
            clear hb
            go_wp2_with fail
            go_big_quiet ((go_at_fn 61; exact Calls.quiet_of (C3.out _)))
            go_wp2_with fail
            go_ret
            exact ⟨ret_bool F.out, by rw [HZ.out]; exact below_drewN (below_drewN B2.out _) _⟩
        · have kz : ¬ (k : Int) < (n : Int) := by omega
          have F : Hid (true = right l (up P)) := Lib.hid (by
            rw [HRT.out]
            exact (HI.out.1 (fun i h0 hi => HA.out i h0 (by omega))).symm)
          have HZ := Lib.hid hz
          clear hz
          go_wp2_with fail
          go_ret
          exact ⟨ret_bool F.out, by rw [HZ.out]; exact below_drewN B2.out _⟩
    · have F : Hid (false = right l (up P)) := Lib.hid (by
        unfold right
        rw [up_length]
        have : ¬ P.length = l.length := by rw [hPm, ← HN.out]; exact fun h => hnm h.symm
        simp [this])
      have nz : ((n : Int) != (m : Int)) = true := by simp; omega
      have nz2 : ((n : Int) == (m : Int)) = false := by simp; omega
      clear e1 e2 hi hM' hMl hMi hPm hperm hlM
      go_enter Try.func34, Try.ntmps34
      go_wp2_with fail
      refine HC.out.mono ?_
      rintro e w1 ⟨q', c', rfl, hc', hr', hn', _, hb'⟩
      have B1 := Lib.hid hb'
      clear hc' hr' hn' hb'
      go_wp2_with fail
      go_ret
      exact ⟨ret_bool F.out, B1.out⟩
end Go.Proofs.Ytonlbcibfbbpgaa.Od

/- The walks of package skew's Check, of thirds, and of the numbers at a place. -/
import Derived.Test.YtonlbcibfbbpgaaSkB
import Derived.Test.YtonlbcibfbbpgaaOrdPEnds
namespace Go.Proofs.Ytonlbcibfbbpgaa.Sk
open Go.RowKit Go.Lib Rw Ls Od _root_.Go.Proofs.Ytonlbcibfbbpgaa.Nm

theorem isout_any (u : Nat) (w : World) : Calls Try.prog 30 #[.int .u64 u] w fun e w' => e = .returned (.bool (decide (u < 1 ∨ 1099511627776 ≤ u))) ∧ w' = w := by
  by_cases h1 : u < 1
  · have d1 : decide ((u : Int) < 1) = true := decide_eq_true (by omega)
    have F : Hid (true = decide (u < 1 ∨ 1099511627776 ≤ u)) := Lib.hid (decide_eq_true (.inl h1)).symm
    rw [← F.out]
    clear h1
    go_enter Try.func30, Try.ntmps30
    go_wp2_with fail
    go_ret
    exact ⟨rfl, rfl⟩
  · have d1 : decide ((u : Int) < 1) = false := decide_eq_false (by omega)
    by_cases h2 : 1099511627776 ≤ u
    · have F : Hid (true = decide (u < 1 ∨ 1099511627776 ≤ u)) := Lib.hid (decide_eq_true (.inr h2)).symm
      have d2 : decide ((1099511627776 : Int) ≤ (u : Int)) = true := decide_eq_true (by omega)
      have d3 : decide (1099511627776 ≤ u) = true := decide_eq_true h2
      rw [← F.out]
      clear h1 h2
      go_enter Try.func30, Try.ntmps30
      go_wp2_with fail
      go_ret
      exact ⟨rfl, rfl⟩
    · have F : Hid (false = decide (u < 1 ∨ 1099511627776 ≤ u)) := Lib.hid (decide_eq_false (by omega)).symm
      have d2 : decide ((1099511627776 : Int) ≤ (u : Int)) = false := decide_eq_false (by omega)
      have d3 : decide (1099511627776 ≤ u) = false := decide_eq_false h2
      rw [← F.out]
      clear h1 h2
      go_enter Try.func30, Try.ntmps30
      go_wp2_with fail
      go_ret
      exact ⟨rfl, rfl⟩
/-- is one of them out -/
def outL (l : List Nat) : Bool := l.any fun u => decide (u < 1 ∨ 1099511627776 ≤ u)
theorem outL_no {l : List Nat} (h : ∀ j, j < l.length → decide (l.getD j 0 < 1 ∨ 1099511627776 ≤ l.getD j 0) = false) : outL l = false := by
  unfold outL
  rw [List.any_eq_false]
  intro x hx
  obtain ⟨j, hj, rfl⟩ := List.mem_iff_getElem.1 hx
  have := h j hj
  rw [gd hj] at this
  simpa using this
theorem outL_yes {l : List Nat} {j : Nat} (hj : j < l.length) (h : decide (l.getD j 0 < 1 ∨ 1099511627776 ≤ l.getD j 0) = true) : outL l = true := by
  unfold outL
  rw [List.any_eq_true]
  rw [gd hj] at h
  exact ⟨_, List.getElem_mem hj, h⟩
theorem chk_out (l : List Nat) (h : l.length ≤ 4096) : chkS l = if outL l = true then 1 else 0 := by
  by_cases e : outL l = true
  · rw [if_pos e]
    unfold outL at e
    rw [List.any_eq_true] at e
    obtain ⟨x, hx, hd⟩ := e
    obtain ⟨j, hj, rfl⟩ := List.mem_iff_getElem.1 hx
    have := of_decide_eq_true hd
    exact chk_bad hj (by rw [gd hj]; exact this)
  · rw [if_neg e]
    refine chk_ok h (fun j hj => ?_)
    have h1 : outL l = false := by simpa using e
    unfold outL at h1
    rw [List.any_eq_false] at h1
    have := h1 _ (List.getElem_mem hj)
    rw [gd hj]
    simp at this
    omega
set_option maxHeartbeats 2000000 in
set_option maxRecDepth 100000 in
theorem contains_any (l : List Nat) (p : Option Addr) (n c : Nat) (w : World) (hn : n = l.length) (hp : Rd w p (nums l)) (hl : n ≤ 17592186044416) :
    Calls Try.prog 31 #[.slice p n c, .func (.func 30) #[] #[]] w fun e w' => e = .returned (.bool (outL l)) ∧ w' = w := by
  have HP := Lib.hid hp
  have HN := Lib.hid hn
  have HC := Lib.hid (fun u w => isout_any u w)
  obtain ⟨b, hb⟩ : ∃ b, b = outL l := ⟨_, rfl⟩
  rw [← hb]
  have HB := Lib.hid hb
  clear hp hn hb
  have CI : Calls Try.prog 47 #[.slice p n c, .func (.func 30) #[] #[]] w fun e w' => (∃ i : Int, e = .returned (.int .i64 i) ∧ decide (0 ≤ i) = b) ∧ w' = w := by
    rw [HB.out]
    go_enter Try.func47, Try.ntmps47
    go_wp2_with fail
    go_loop [8] (fun i => ∃ k : Nat, k ≤ n ∧ i = .int .i64 k ∧ ∀ j, j < k → decide (l.getD j 0 < 1 ∨ 1099511627776 ≤ l.getD j 0) = false) (fun i => n - (intOf i).toNat)
    case atStart => exact ⟨0, by omega, rfl, fun j hj => by omega⟩
    case round =>
      obtain ⟨k, hk, rfl, hlo⟩ := hrel
      have HLO := Lib.hid hlo
      clear hlo
      by_cases hlt : k < n
      · obtain ⟨a, rfl, ca⟩ := rd_num HP.out k (by rw [← HN.out]; exact hlt)
        obtain ⟨u, hu⟩ : ∃ u, u = l.getD k 0 := ⟨_, rfl⟩
        rw [← hu] at ca
        have HU := Lib.hid hu
        clear hu
        have k0 : (0 : Int) ≤ (k : Int) := by omega
        have k1 : (k : Int) < (n : Int) := by omega
        obtain ⟨b, hb⟩ : ∃ b, b = decide (u < 1 ∨ 1099511627776 ≤ u) := ⟨_, rfl⟩
        have CB : Hid (Calls Try.prog 30 #[.int .u64 u] w fun e w' => e = .returned (.bool b) ∧ w' = w) := Lib.hid (by rw [hb]; exact HC.out u w)
        cases b with
        | true =>
          have F : Hid (decide (0 ≤ (k : Int)) = outL l) := Lib.hid (by rw [outL_yes (l := l) (j := k) (by rw [← HN.out]; exact hlt) (by rw [← HU.out]; exact hb.symm)]; exact decide_eq_true k0)
          clear hb
          go_wp2_with fail
          refine CB.out.mono ?_
          rintro e w' ⟨rfl, rfl⟩
          go_wp2_with fail
          go_ret
          exact ⟨⟨_, rfl, F.out⟩, rfl⟩
        | false =>
          have HL2 : Hid (∀ j, j < k + 1 → decide (l.getD j 0 < 1 ∨ 1099511627776 ≤ l.getD j 0) = false) := Lib.hid (fun j hj => by
            by_cases e : j = k
            · rw [e, ← HU.out]; exact hb.symm
            · exact HLO.out j (by omega))
          clear hb
          go_wp2_with fail
          refine CB.out.mono ?_
          rintro e w' ⟨rfl, rfl⟩
          go_wp2_with fail
          go_round
          case rel => exact ⟨k + 1, by omega, by go_num, HL2.out⟩
          case measure => simp [intOf]; omega
      · obtain rfl : k = n := by omega
        have F : Hid (decide ((0 : Int) ≤ -1) = outL l) := Lib.hid (by rw [outL_no (l := l) (fun j hj => HLO.out j (by rw [HN.out]; exact hj))]; rfl)
        go_wp2_with fail
        go_ret
        exact ⟨⟨_, rfl, F.out⟩, rfl⟩
  have CIH := Lib.hid CI
  clear CI
  go_enter Try.func31, Try.ntmps31
  go_wp2_with fail
  refine CIH.out.mono ?_
  rintro e w' ⟨⟨i, rfl, hi⟩, rfl⟩
  go_wp2_with fail
  go_ret
  exact ⟨rfl, rfl⟩
theorem pchecks_any (l : List Nat) (p : Option Addr) (c : Nat) (w : World) (hp : Rd w p (nums l)) (hl : l.length ≤ 17592186044416) :
    Calls Try.prog 16 #[.slice p l.length c] w fun e w' => e = .returned (.int .i64 (chkS l)) ∧ w = w' := by
  obtain ⟨n, hn⟩ : ∃ n, n = l.length := ⟨_, rfl⟩
  have HC := Lib.hid (contains_any l p n c w hn hp (by rw [hn]; exact hl))
  have F1 := Lib.hid (fun h => chk_out l h)
  have F2 := Lib.hid (fun h => chk_long (l := l) h)
  rw [← hn] at F1 F2 hl ⊢
  clear hp hn
  by_cases hbig : 4096 < n
  · rw [F2.out hbig]
    have t1 : (4096 : Int) < (n : Int) := by omega
    clear hbig
    go_enter Try.func16, Try.ntmps16
    go_wp2_with fail
    go_ret
    exact ⟨rfl, rfl⟩
  rw [F1.out (by omega)]
  have t1 : ¬ (4096 : Int) < (n : Int) := by omega
  clear hbig
  generalize outL l = b at HC ⊢
  go_enter Try.func16, Try.ntmps16
  go_wp2_with fail
  refine HC.out.mono ?_
  rintro e w' ⟨rfl, rfl⟩
  cases b
  · go_wp2_with fail
    go_ret
    exact ⟨rfl, rfl⟩
  · go_wp2_with fail
    go_ret
    exact ⟨rfl, rfl⟩
theorem ones_any (n : Nat) (w : World) (h : n ≤ 17592186044416) : Calls Try.prog 55 #[.int .i64 n] w fun e w' => e = .returned (.int .i64 (c1 n : Nat)) ∧ w' = w := by
  have e1 : ((n : Int) + 2).tdiv 3 = ((c1 n : Nat) : Int) := by
    have : c1 n = (n + 2) / 3 := by unfold c1 top; split <;> omega
    rw [this, Int.tdiv_eq_ediv_of_nonneg (by omega)]; omega
  have w1 : IntKind.i64.wrap ((n : Int) + 2) = (n : Int) + 2 := IntWalk.i64_in _ (by omega)
  have hc : c1 n ≤ n + 1 := by unfold c1 top; split <;> omega
  have w2 : IntKind.i64.wrap ((c1 n : Nat) : Int) = ((c1 n : Nat) : Int) := IntWalk.i64_in _ (by omega)
  generalize c1 n = o at e1 hc w2 ⊢
  go_enter Try.func55, Try.ntmps55
  go_wp2_with fail
  go_ret
  exact ⟨rfl, rfl⟩
theorem many_any (n : Nat) (w : World) (h : n ≤ 17592186044416) : Calls Try.prog 38 #[.int .i64 n] w fun e w' => e = .returned (.int .i64 (mm n : Nat)) ∧ w' = w := by
  have HC := Lib.hid (ones_any n w h)
  have e1 : ((c1 n : Nat) : Int) + (n : Int) / 3 = ((mm n : Nat) : Int) := by unfold mm c1 top; split <;> omega
  have hm : mm n ≤ n + 1 := by unfold mm top; split <;> omega
  have w2 : IntKind.i64.wrap ((mm n : Nat) : Int) = ((mm n : Nat) : Int) := IntWalk.i64_in _ (by omega)
  have w3 : IntKind.i64.wrap ((n : Int) / 3) = (n : Int) / 3 := IntWalk.i64_in _ (by omega)
  generalize c1 n = o at e1 HC ⊢
  generalize mm n = m at e1 hm w2 ⊢
  go_enter Try.func38, Try.ntmps38
  go_wp2_with fail
  refine HC.out.mono ?_
  rintro e w' ⟨rfl, rfl⟩
  go_wp2_with fail
  go_ret
  exact ⟨rfl, rfl⟩
theorem place_any (n x : Nat) (w : World) (h : n ≤ 17592186044416) (hx : x ≤ 17592186044416) : Calls Try.prog 39 #[.int .i64 x, .int .i64 n] w fun e w' => e = .returned (.int .i64 (pl n x : Nat)) ∧ w' = w := by
  have HC := Lib.hid (fun w => ones_any n w h)
  have hc : c1 n ≤ n + 1 := by unfold c1 top; split <;> omega
  unfold pl
  generalize c1 n = o at HC hc ⊢
  by_cases hlt : x < o
  · rw [if_pos hlt]
    have t1 : (x : Int) < (o : Int) := by omega
    have w1 : IntKind.i64.wrap (3 * (x : Int)) = 3 * (x : Int) := IntWalk.i64_in _ (by omega)
    have w2 : IntKind.i64.wrap (3 * (x : Int) + 1) = ((3 * x + 1 : Nat) : Int) := by rw [IntWalk.i64_in _ (by omega)]; omega
    clear hlt
    generalize 3 * x + 1 = y at w2 ⊢
    go_enter Try.func39, Try.ntmps39
    go_wp2_with fail
    refine (HC.out _).mono ?_
    rintro e w' ⟨rfl, rfl⟩
    go_wp2_with fail
    go_ret
    exact ⟨rfl, rfl⟩
  · rw [if_neg hlt]
    have t1 : ¬ (x : Int) < (o : Int) := by omega
    have w1 : IntKind.i64.wrap ((x : Int) - (o : Int)) = (x : Int) - (o : Int) := IntWalk.i64_in _ (by omega)
    have w2 : IntKind.i64.wrap (3 * ((x : Int) - (o : Int))) = 3 * ((x : Int) - (o : Int)) := IntWalk.i64_in _ (by omega)
    have w3 : IntKind.i64.wrap (3 * ((x : Int) - (o : Int)) + 2) = ((3 * (x - o) + 2 : Nat) : Int) := by rw [IntWalk.i64_in _ (by omega)]; omega
    clear hlt
    generalize 3 * (x - o) + 2 = y at w3 ⊢
    go_enter Try.func39, Try.ntmps39
    go_wp2_with fail
    refine (HC.out _).mono ?_
    rintro e w' ⟨rfl, rfl⟩
    go_wp2_with fail
    refine (HC.out _).mono ?_
    rintro e w' ⟨rfl, rfl⟩
    go_wp2_with fail
    go_ret
    exact ⟨rfl, rfl⟩
/-- the number at a place, or nothing behind the end -/
theorem at_any (l : List Nat) (p : Option Addr) (n c i : Nat) (w : World) (hn : n = l.length) (hp : Rd w p (nums l)) : Calls Try.prog 40 #[.slice p n c, .int .i64 i] w fun e w' => e = .returned (.int .u64 (l.getD i 0 : Nat)) ∧ w' = w := by
  by_cases hlt : i < n
  · obtain ⟨a, rfl, ca⟩ := rd_num hp i (by rw [← hn]; exact hlt)
    have k0 : (0 : Int) ≤ (i : Int) := by omega
    have k1 : (i : Int) < (n : Int) := by omega
    generalize l.getD i 0 = u at ca ⊢
    clear hp hn hlt
    go_enter Try.func40, Try.ntmps40
    go_wp2_with fail
    go_ret
    exact ⟨rfl, rfl⟩
  · have k1 : ¬ (i : Int) < (n : Int) := by omega
    have e : l.getD i 0 = 0 := by rw [List.getD_eq_getElem?_getD, List.getElem?_eq_none (by omega)]; rfl
    rw [e]
    clear hp hn hlt e
    go_enter Try.func40, Try.ntmps40
    go_wp2_with fail
    go_ret
    exact ⟨rfl, rfl⟩
end Go.Proofs.Ytonlbcibfbbpgaa.Sk

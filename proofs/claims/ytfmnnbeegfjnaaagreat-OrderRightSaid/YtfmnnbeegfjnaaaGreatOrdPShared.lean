/- The walk of order's iterator shared. -/
import Derived.Test.YtfmnnbeegfjnaaaGreatOrdPComM
import Derived.Test.YtfmnnbeegfjnaaaGreatOrdS
import Derived.Test.YtfmnnbeegfjnaaaGreatKpC
namespace Go.Proofs.YtfmnnbeegfjnaaaGreat.Od
open Go.RowKit Go.Lib Rw Ls _root_.Go.Proofs.YtfmnnbeegfjnaaaGreat.Nm
attribute [local go_sem] Oper.semAt_some wide_fn

theorem lcp_swap : ∀ (x y : List Nat), lcp x y = lcp y x
  | [], y => by rw [lcp_nil_left, lcp_nil_right]
  | a :: x, [] => by rw [lcp_nil_left, lcp_nil_right]
  | a :: x, b :: y => by
    rw [lcp_same_head, lcp_same_head, lcp_swap x y]
    by_cases e : a = b
    · rw [if_pos e, if_pos e.symm]
    · rw [if_neg e, if_neg (fun h => e h.symm)]
/-- what Inverse answers for a list's ends -/
theorem inverse_ends (l M : List Nat) (n d : Nat) (q : Option Addr) (w : World) (hn : n = l.length) (hl : n ≤ 17592186044416) (hr : Rd w q (zs (up (ends l)))) (hM : invL (up (ends l)) = M ∧ invE (up (ends l)) = 0) (hMn : M.length = n) :
    Calls Tryz.prog 12 #[.slice q n d] w fun e w' => ∃ (r : Option Addr) (c : Nat), e = .returned (.tuple #[.slice r n c, .int .i64 0]) ∧ Rd w' r (zs (up M)) ∧ NewAt w.heap.size r ∧ Below w.heap.size w w' := by
  have e1 : (up (ends l)).length = n := by rw [up_length, ends_length, hn]
  have := pinverse_any (up (ends l)) q d w hr (by rw [e1]; exact hl)
  rw [e1, hM.1, hM.2] at this
  refine this.mono ?_
  rintro e w' ⟨r, c, rfl, _, h2, h3, _, h5⟩
  exact ⟨r, c, by rw [hMn], h2, h3, h5⟩
set_option maxRecDepth 100000 in
set_option maxHeartbeats 4000000 in
theorem shared1_in (lp Be Bl g n c d : Nat) (l M : List Nat) (p q : Option Addr) (hn : n = l.length) (hl : n ≤ 17592186044416) (hM : invL (up (ends l)) = M ∧ invE (up (ends l)) = 0) (hMn : M.length = n)
    (hinv : ∀ j, j < l.length → M.getD ((ends l).getD j 0) 0 = j) (J Jx : List Nat → World → Prop) (W : World) (hJ : AbidesFrom W.heap.size J)
    (hY : ∀ pre x W, J pre W → pre.length < n → YieldAt Fence.wide (3 - 1) Tryz.prog lp #[.int .i64 (M.getD x 0 : Nat), .int .i64 (ahd l M x : Nat)] W fun e W' =>
      (e = .returned (.bool true) ∧ J (pre ++ [x]) W' ∧ KpC g W W') ∨ (e = .returned (.bool false) ∧ Jx (pre ++ [x]) W'))
    (hp : 0 < n → ∀ a, p = some a → a.block ≠ g) (hq : 0 < n → ∀ a, q = some a → a.block ≠ g) (hBe : Be ≠ g) (hBl : Bl ≠ g) (hg : g < W.heap.size)
    (h1 : W.cell? ⟨Be, 0, none⟩ = some (.slice q n d)) (h2 : W.cell? ⟨Bl, 0, none⟩ = some (.slice p n c)) (hrp : Rd W p (nums l)) (hrq : Rd W q (zs (up (ends l)))) (h0 : J [] W) :
    CallsIn Fence.wide 3 Tryz.prog 55 #[.func (.yield lp) #[] #[], .pointer (some ⟨Be, 0, none⟩), .pointer (some ⟨Bl, 0, none⟩)] W fun e W' => (∃ v, e = .returned v) ∧
      ((∃ ys, ys = List.range n ∧ J ys W') ∨ (∃ pre, pre <+: List.range n ∧ Jx pre W')) := by
  have HI := Lib.hid (inverse_ends l M n d q W hn hl hrq hM hMn)
  have HN := Lib.hid hn; have HMn := Lib.hid hMn; have HV := Lib.hid hinv; have HJ := Lib.hid hJ; have HG := Lib.hid hg; have H0 := Lib.hid h0; have HY := Lib.hid hY
  have HP := Lib.hid hp; have HQ := Lib.hid hq; have RP := Lib.hid hrp; have RQ := Lib.hid hrq; have C1 := Lib.hid h1; have C2 := Lib.hid h2; have E1 := Lib.hid hBe; have E2 := Lib.hid hBl
  clear hn hMn hinv hJ hg h0 hY hp hq hrp hrq h2 hM hBe hBl
  refine callsIn_of_wp Tryz.func55 rfl trivial ?_ rfl
  simp only [Tryz.ntmps55, List.size_toArray, List.length_cons, List.length_nil, Nat.reduceAdd, Nat.reduceSub, Array.replicate_succ, Array.replicate_zero, List.push_toArray, List.append_toArray, List.nil_append, List.cons_append]
  gi_wp2_with fail
  refine (callsIn_wide.2 HI.out).mono ?_
  rintro e w1 ⟨r, c1, rfl, hr1, hn1, hb1⟩
  have HJ1 : Hid (J [] w1) := Lib.hid (HJ.out _ _ _ none H0.out (below_grownBy hb1) (fun r e => by cases e))
  have K1 : Hid (KpC g w1 w1) := Lib.hid (KpC.refl g w1)
  have RR := Lib.hid hr1; have RN : Hid (∀ a, r = some a → a.block ≠ g) := Lib.hid (fun a e => by have := hn1 a e; have := HG.out; omega)
  have RP1 := Lib.hid (RP.out.below hb1); have RQ1 := Lib.hid (RQ.out.below hb1)
  have D1 : Hid (w1.cell? ⟨Be, 0, none⟩ = some (.slice q n d)) := Lib.hid ((hb1.cell (p := ⟨Be, 0, none⟩) (cell_lt C1.out)).trans C1.out)
  have D2 : Hid (w1.cell? ⟨Bl, 0, none⟩ = some (.slice p n c)) := Lib.hid ((hb1.cell (p := ⟨Bl, 0, none⟩) (cell_lt C2.out)).trans C2.out)
  have S1 : Hid (W.heap.size ≤ w1.heap.size) := Lib.hid hb1.size
  clear hr1 hn1 hb1 h1 H0 HI
  gi_wp2
  gi_loopw [6, 16] (fun v6 i wr => ∃ k v : Nat, k ≤ n ∧ i = .int .i64 k ∧ v6 = .int .i64 v ∧ Hid (v = if k = 0 then 0 else ahd l M (k - 1)) ∧ Hid (J (List.range k) wr) ∧ Hid (KpC g w1 wr)) (fun _ i _ => n - (intOf i).toNat)
  case atStart => exact ⟨0, 0, by omega, rfl, rfl, Lib.hid rfl, HJ1, K1⟩
  case round =>
    clear HJ1 K1
    obtain ⟨k, v, hk, rfl, rfl, HVk, HJk, HK⟩ := hrel
    by_cases hlt : k < n
    · have k1 : (k : Int) < (n : Int) := by omega
      have k0 : (0 : Int) ≤ (k : Int) := by omega
      have hkl : k < l.length := by rw [← HN.out]; exact hlt
      obtain ⟨hrow, hend⟩ := ends_row (l := l) (M := M) HV.out hkl
      obtain ⟨a, hra, cx⟩ := rd_z (rd_kpC RR.out HK.out RN.out) k (by rw [up_length, HMn.out]; exact hlt)
      subst hra
      rw [up_getD _ _ (by rw [HMn.out]; exact hlt)] at cx
      obtain ⟨x, hx⟩ : ∃ x, x = M.getD k 0 := ⟨_, rfl⟩
      rw [← hx] at cx hrow
      have hvl : v ≤ n := by
        have := HVk.out
        split at this
        · omega
        · unfold ahd at this
          split at this
          · omega
          · have h2 := (lcp_le (l.drop ((ends l).getD (M.getD (k - 1) 0 - 1) 0)) (l.drop (k - 1))).2
            rw [List.length_drop, ← HN.out] at h2
            omega
      have vw : IntKind.i64.wrap ((v : Int) - 1) = (v : Int) - 1 := IntWalk.i64_in _ (by omega)
      obtain ⟨u, hu⟩ : ∃ u, u = v - 1 := ⟨_, rfl⟩
      have um : max 0 ((v : Int) - 1) = (u : Int) := by omega
      have ht : List.range (k + 1) = List.range k ++ [k] := List.range_succ
      have HX := Lib.hid hx; have HU := Lib.hid hu; have HT := Lib.hid ht; have HROW := Lib.hid hrow
      have HJ2 : Hid (∀ z, J (List.range k) (wr.drewN z)) := Lib.hid (fun z => HJ.out _ _ _ none HJk.out ⟨rfl, rfl, rfl, Nat.le_refl _, fun _ _ _ => rfl⟩ (fun r e => by cases e))
      clear hx hu ht hrow hend
      by_cases h0 : x = 0
      · have t0 : ((x : Int) == 0) = true := by simp [h0]
        have EX : Hid (ahd l M k = 0) := Lib.hid (by unfold ahd; rw [if_pos (by rw [← HX.out]; exact h0)])
        obtain ⟨fn, tmps, assign, body, hy, hY2⟩ := HY.out (List.range k) k wr HJk.out (by rw [List.length_range]; exact hlt)
        have z0 : ((0 : Nat) : Int) = 0 := rfl
        rw [← HX.out, EX.out, z0] at hy
        clear h0
        gi_wp2
        refine hY2.mono ?_
        rintro e w3 (⟨rfl, hJ3, hk3⟩ | ⟨rfl, hJx3⟩)
        · gi_wp2
          go_roundw
          case rel => exact ⟨k + 1, 0, by omega, by go_num, by first | rfl | go_num, Lib.hid (by rw [if_neg (by omega), Nat.add_sub_cancel]; exact EX.out.symm), Lib.hid (by rw [HT.out]; exact hJ3), Lib.hid (HK.out.trans hk3)⟩
          case measure => simp [intOf]; omega
        · gi_wp2
          refine bodyPost_ret (results_none rfl _ _ _) rfl ?_
          exact ⟨⟨_, rfl⟩, .inr ⟨_, by rw [← HT.out]; exact range_pre (by omega), hJx3⟩⟩
      · have t0 : ((x : Int) == 0) = false := by simp; omega
        obtain ⟨y, hy⟩ : ∃ y, y = x - 1 := ⟨_, rfl⟩
        have xy : (x : Int) - 1 = (y : Int) := by omega
        have yn : y < n := by have := HROW.out; have := HN.out; omega
        have yw : IntKind.i64.wrap (y : Int) = (y : Int) := IntWalk.i64_in _ (by omega)
        have y0 : (0 : Int) ≤ (y : Int) := by omega
        have y1 : (y : Int) < (n : Int) := by omega
        have hyl : y < l.length := by rw [← HN.out]; exact yn
        obtain ⟨aq, haq, cy⟩ := rd_z (rd_kpC RQ1.out HK.out (HQ.out (by omega))) y (by rw [up_length, ends_length]; exact hyl)
        rw [up_getD _ _ (by rw [ends_length]; exact hyl)] at cy
        subst haq
        have hbl := ends_lt (l := l) hyl
        obtain ⟨b, hb⟩ : ∃ b, b = (ends l).getD y 0 := ⟨_, rfl⟩
        rw [← hb] at cy hbl
        obtain ⟨t, ht⟩ : ∃ t, t = ahd l M k := ⟨_, rfl⟩
        have ht2 : t = lcp (l.drop k) (l.drop b) := by
          rw [ht, hb, hy, HX.out]
          unfold ahd
          rw [if_neg (by rw [← HX.out]; exact h0), lcp_swap]
        have hut : u ≤ t := by
          rw [HU.out, HVk.out, ht]
          by_cases e : k = 0
          · rw [if_pos e]; exact Nat.zero_le _
          · rw [if_neg e]
            have := ahd_next (l := l) (M := M) HV.out (p := k - 1) (by omega) (by rw [Nat.sub_add_cancel (by omega), ← HX.out]; exact h0)
            rwa [Nat.sub_add_cancel (by omega)] at this
        have d1 := HK.out.2 ⟨Be, 0, none⟩ E1.out _ D1.out
        have d2 := HK.out.2 ⟨Bl, 0, none⟩ E2.out _ D2.out
        have CA : Hid (∀ z, Calls Tryz.prog 56 #[.slice p n c, .int .i64 k, .int .i64 b, .int .i64 u] (wr.drewN z) fun e w' => e = .returned (.int .i64 t) ∧ ∃ m, w' = (wr.drewN z).drewN m) := Lib.hid (fun z => by
          have h1 := lcp_le (l.drop k) (l.drop b)
          rw [← ht2, List.length_drop, List.length_drop, ← HN.out] at h1
          exact alike_any l n c k b u t p (wr.drewN z) ((rd_kpC RP1.out HK.out (HP.out (by omega))).drewN z) HN.out hl hlt (by rw [HN.out]; exact hbl) (by rw [ht2]; exact lcp_cut u _ _ (by rw [← ht2]; exact hut)) (by omega) (by have := HN.out; omega))
        have HTT := Lib.hid ht
        clear ht ht2 hut hb hbl hy h0 hyl
        gi_wp2_with fail
        gi_big_quiet_th (refine CallsIn.quiet_of (callsIn_wide.2 (CA.out _)))
        obtain ⟨fn, tmps, assign, body, hy, hY2⟩ := HY.out (List.range k) k (wr.drewN nq) (HJ2.out nq) (by rw [List.length_range]; exact hlt)
        rw [← HX.out, ← HTT.out] at hy
        gi_wp2
        refine hY2.mono ?_
        rintro e w3 (⟨rfl, hJ3, hk3⟩ | ⟨rfl, hJx3⟩)
        · gi_wp2
          go_roundw
          case rel => exact ⟨k + 1, t, by omega, by go_num, by first | rfl | go_num, Lib.hid (by rw [if_neg (by omega), Nat.add_sub_cancel]; exact HTT.out), Lib.hid (by rw [HT.out]; exact hJ3), Lib.hid ((HK.out.trans (KpC.drew g wr nq)).trans hk3)⟩
          case measure => simp [intOf]; omega
        · gi_wp2
          refine bodyPost_ret (results_none rfl _ _ _) rfl ?_
          exact ⟨⟨_, rfl⟩, .inr ⟨_, by rw [← HT.out]; exact range_pre (by omega), hJx3⟩⟩
    · obtain rfl : k = n := by omega
      have k1 : ¬ (k : Int) < (k : Int) := by omega
      gi_wp2
      go_end0
      first | exact ⟨⟨_, rfl⟩, .inl HJk.out⟩ | exact ⟨⟨_, rfl⟩, .inl ⟨_, rfl, HJk.out⟩⟩
/-- shared's value, as a contract for loops -/
theorem shared_stops (Be Bl g n c d : Nat) (l M : List Nat) (p q : Option Addr) (w : World) (hn : n = l.length) (hl : n ≤ 17592186044416) (hM : invL (up (ends l)) = M ∧ invE (up (ends l)) = 0) (hMn : M.length = n)
    (hinv : ∀ j, j < l.length → M.getD ((ends l).getD j 0) 0 = j)
    (hp : 0 < n → ∀ a, p = some a → a.block ≠ g) (hq : 0 < n → ∀ a, q = some a → a.block ≠ g) (hBe : Be ≠ g) (hBl : Bl ≠ g) (hg : g < w.heap.size)
    (h1 : w.cell? ⟨Be, 0, none⟩ = some (.slice q n d)) (h2 : w.cell? ⟨Bl, 0, none⟩ = some (.slice p n c)) (hrp : Rd w p (nums l)) (hrq : Rd w q (zs (up (ends l)))) :
    SeqStopsK Fence.wide 3 Tryz.prog 55 #[.pointer (some ⟨Be, 0, none⟩), .pointer (some ⟨Bl, 0, none⟩)] (fun x : Nat => #[Value.int .i64 (M.getD x 0 : Nat), .int .i64 (ahd l M x : Nat)]) (KpC g) (fun ys => ys = List.range n) (fun pre => pre <+: List.range n) n w :=
  fun lp J Jx W hW hJ _ hY h0 => shared1_in lp Be Bl g n c d l M p q hn hl hM hMn hinv J Jx W hJ hY hp hq hBe hBl (Nat.lt_of_lt_of_le hg hW.size)
    ((hW.cell (p := ⟨Be, 0, none⟩) (cell_lt h1)).trans h1) ((hW.cell (p := ⟨Bl, 0, none⟩) (cell_lt h2)).trans h2) (hrp.below hW) (hrq.below hW) h0
theorem shared_enters : ∀ args w, (callFunc 55 args).run Tryz.prog w = .ok (.enter 55 args) w := enters_of Tryz.func55 (by kernel_rfl) rfl
theorem shared_any (p q : Option Addr) (n c m d : Nat) (w : World) :
    Calls Tryz.prog 33 #[.slice p n c, .slice q m d] w fun e w' => e = .returned (.func (.func 55) #[] #[.pointer (some ⟨w.heap.size + 1, 0, none⟩), .pointer (some ⟨w.heap.size, 0, none⟩)]) ∧
      w' = (w.alloc (.cells #[.slice p n c] 22)).alloc (.cells #[.slice q m d] 23) := by
  go_enter Tryz.func33, Tryz.ntmps33
  go_wp2
  go_ret
  exact ⟨rfl, rfl⟩
end Go.Proofs.YtfmnnbeegfjnaaaGreat.Od

/- The document's Check. -/
import Derived.Test.YtejmbbhbimgheaaDkRefM
namespace Go.Proofs.Ytejmbbhbimgheaa.Dk
open Go.RowKit Go.Op

theorem quietS {P : Program} {f : FuncId} {args : Array Value} {w : World} {n : Nat} {v : Value}
    (h : ∀ W, Calls P f args W fun e w' => e = .returned v ∧ W = w') : Calls P f args (w.drewN n) fun e w'' => e = .returned v ∧ ∃ m, w'' = w.drewN m :=
  (h _).mono fun _ _ ⟨he, hm⟩ => ⟨he, n, hm.symm⟩
theorem nil_size {s : ByteArray} (h : s.toList = []) : s.size = 0 := by
  have e : s.toList.length = s.size := by rw [toList_data, ← Lib.size_eq]
  rw [h] at e
  exact e.symm
theorem ExtAt.take {w : World} {p : Option Addr} {E : List Ext} (h : ExtAt w p E) (n : Nat) : ExtAt w p (E.take n) := fun i hi => by
  rw [List.length_take] at hi
  have e : (E.take n).getD i default = E.getD i default := by simp [List.getD_eq_getElem?_getD, show i < n by omega]
  rw [e]
  exact h i (by omega)
set_option maxHeartbeats 16000000 in
set_option maxRecDepth 100000 in
theorem rCheck_any (D : Dsk) (v : DVal) (w : World) (h : VarAt w D v) (hcE : v.nE ≤ v.cE) :
    Calls Try.prog 19 #[.agg #[.int .i64 D.size, .slice v.pE v.nE v.cE, .slice v.pW v.nW v.cW, .int .i64 D.fuse, .bool D.down]] w fun e w' => e = .returned (.int .i64 (ckE D)) ∧ Below w.heap.size w w' := by
  obtain ⟨u0, hu0⟩ : ∃ u, u = (w.alloc (.cells #[.int .i64 D.size, .slice v.pE v.nE v.cE, .slice v.pW v.nW v.cW, .int .i64 D.fuse, .bool D.down] 25)) := ⟨_, rfl⟩
  have t0 : Below w.heap.size w u0 := by rw [hu0]; exact (Below.refl _ _).alloc (Nat.le_refl _) _
  have X0 : Hid (Boxed u0 w.heap.size [.int .i64 D.size, .slice v.pE v.nE v.cE, .slice v.pW v.nW v.cW, .int .i64 D.fuse, .bool D.down]) := Lib.hid (by rw [hu0]; exact Boxed.new w #[.int .i64 D.size, .slice v.pE v.nE v.cE, .slice v.pW v.nW v.cW, .int .i64 D.fuse, .bool D.down] 25)
  have HE := Lib.hid (h.E.below t0); have HW := Lib.hid (h.W.below t0); have HN := Lib.hid h.hE; have HNW := Lib.hid h.hW; have BB := Lib.hid t0; have HU := Lib.hid hu0
  have l1 := h.l1; have l2 := h.l2
  obtain ⟨pE, nE, cE, pW, nW, cW⟩ := v
  simp only at HE HW HN HNW X0 HU hcE l1 l2 ⊢
  by_cases b1 : D.size < 0
  case pos =>
    have F : Hid ((2 : Int) = ckE D) := Lib.hid (ck_badN (by omega))
    have a1 : decide (D.size < 0) = true := decide_eq_true b1
    clear hu0 t0 h b1
    go_enter Try.func19, Try.ntmps19
    go_wp2_with fail
    rw [← HU.out]
    go_ret
    exact ⟨ret_int F.out, BB.out⟩
  have a1 : decide (D.size < 0) = false := decide_eq_false b1
  by_cases b2 : 16384 < D.size
  case pos =>
    have F : Hid ((2 : Int) = ckE D) := Lib.hid (ck_badN (by omega))
    have a2 : decide (16384 < D.size) = true := decide_eq_true b2
    clear hu0 t0 h b1 b2
    go_enter Try.func19, Try.ntmps19
    go_wp2_with fail
    rw [← HU.out]
    go_ret
    exact ⟨ret_int F.out, BB.out⟩
  have a2 : decide (16384 < D.size) = false := decide_eq_false b2
  by_cases b3 : 16384 < nE
  case pos =>
    have F : Hid ((2 : Int) = ckE D) := Lib.hid (ck_badN (by have := HN.out; omega))
    have a3 : decide ((16384 : Int) < (nE : Int)) = true := decide_eq_true (by omega)
    clear hu0 t0 h b1 b2 b3
    go_enter Try.func19, Try.ntmps19
    go_wp2_with fail
    rw [← HU.out]
    go_ret
    exact ⟨ret_int F.out, BB.out⟩
  have a3 : decide ((16384 : Int) < (nE : Int)) = false := decide_eq_false (by omega)
  by_cases b4 : 16384 < nW
  case pos =>
    have F : Hid ((2 : Int) = ckE D) := Lib.hid (ck_badN (by have := HNW.out; omega))
    have a4 : decide ((16384 : Int) < (nW : Int)) = true := decide_eq_true (by omega)
    clear hu0 t0 h b1 b2 b3 b4
    go_enter Try.func19, Try.ntmps19
    go_wp2_with fail
    rw [← HU.out]
    go_ret
    exact ⟨ret_int F.out, BB.out⟩
  have a4 : decide ((16384 : Int) < (nW : Int)) = false := decide_eq_false (by omega)
  by_cases b5 : D.fuse < -1
  case pos =>
    have F : Hid ((2 : Int) = ckE D) := Lib.hid (ck_badN (by omega))
    have a5 : decide (D.fuse < -1) = true := decide_eq_true b5
    clear hu0 t0 h b1 b2 b3 b4 b5
    go_enter Try.func19, Try.ntmps19
    go_wp2_with fail
    rw [← HU.out]
    go_ret
    exact ⟨ret_int F.out, BB.out⟩
  have a5 : decide (D.fuse < -1) = false := decide_eq_false b5
  have LM : Hid (0 ≤ D.size ∧ D.size ≤ 16384 ∧ D.E.length ≤ 16384 ∧ D.W.length ≤ 16384 ∧ -1 ≤ D.fuse) := Lib.hid (by have := HN.out; have := HNW.out; omega)
  have hE : nE ≤ 16384 := by omega
  have hWl : nW ≤ 16384 := by omega
  clear hu0 t0 h b1 b2 b3 b4 b5
  obtain ⟨z, E, L, fz, dn⟩ := D
  simp only at HE HW HN HNW X0 HU LM a1 a2 a5 ⊢
  go_enter Try.func19, Try.ntmps19
  go_wp2_with fail
  rw [← HU.out]
  clear a1 a2 a3 a4 a5 HU
  go_loopw [3, 4, 36] (fun _ _ i wr => ∃ k : Nat, k ≤ nE ∧ i = .int .i64 k ∧ exR ⟨#[]⟩ z (E.take k) = true ∧ Below u0.heap.size u0 wr) (fun _ _ i _ => nE - (intOf i).toNat)
  case atStart => exact ⟨0, by omega, rfl, rfl, Below.refl _ _⟩
  case round =>
    obtain ⟨k, hk, rfl, hx, hb⟩ := hrel
    have x1 := X0.out.below hb
    by_cases hlt : k < nE
    · have hkE : k < E.length := by rw [← HN.out]; exact hlt
      obtain ⟨g, o, rfl, hg, d0, d1, s1, s2⟩ := (HE.out.below hb) k hkE
      have hst := ex_step (z := z) (E := E) LM.out.1 hkE
      have HBD : Hid ((¬ exR ⟨#[]⟩ z (E.take (k + 1)) = true) → (2 : Int) = ckE ⟨z, E, L, fz, dn⟩) := Lib.hid (fun hh => ck_bad hh)
      obtain ⟨x, hxx⟩ : ∃ x, x = (E.getD k default).1 := ⟨_, rfl⟩
      obtain ⟨y, hy⟩ : ∃ y, y = (E.getD k default).2 := ⟨_, rfl⟩
      rw [← hxx] at d0 s1 hst; rw [← hy] at d1 s2 hst
      have m0 : (0 : Int) ≤ (k : Int) := by omega
      have m1 : (k : Int) < (nE : Int) := by omega
      obtain ⟨W2, hW2⟩ : ∃ W2, W2 = wr.alloc (.cells #[.string x, .string y] 58) := ⟨_, rfl⟩
      have HW2 := Lib.hid hW2
      have HNM := Lib.hid (fun W => rNamed_any x W s1)
      have t2 : Below wr.heap.size wr W2 := by rw [hW2]; exact (Below.refl _ _).alloc (Nat.le_refl _) _
      have ob : Boxed W2 wr.heap.size [.string x, .string y] := by rw [hW2]; exact Boxed.new wr #[.string x, .string y] 58
      have x2 := x1.below t2
      have B2 : Hid (Below u0.heap.size u0 W2) := Lib.hid (hb.trans (t2.mono hb.size))
      have v0 : W2.cell? ⟨wr.heap.size, 0, none⟩ = some (.string x) := ob.cell 0 (by simp)
      have v1 : W2.cell? ⟨wr.heap.size, 1, none⟩ = some (.string y) := ob.cell 1 (by simp)
      have v2 : W2.cell? ⟨w.heap.size, 1, none⟩ = some (.slice (some ⟨g, o, none⟩) nE cE) := x2.cell 1 (by simp)
      have v3 : W2.cell? ⟨w.heap.size, 0, none⟩ = some (.int .i64 z) := x2.cell 0 (by simp)
      have HXX := Lib.hid x2
      have HX2 := Lib.hid ob
      have HS := Lib.hid hst
      have HP : Hid (exR ⟨#[]⟩ z (E.take k) = true) := Lib.hid hx
      by_cases hnm : named x = true
      case neg =>
        have F : Hid ((2 : Int) = ckE ⟨z, E, L, fz, dn⟩) := Lib.hid (HBD.out (fun hh => hnm (HS.out.1 hh).2.1))
        have HC : Hid (∀ W, Calls Try.prog 33 #[.string x] W fun e w' => e = .returned (.bool false) ∧ W = w') := Lib.hid (fun W => by have := HNM.out W; rw [Bool.eq_false_iff.2 hnm] at this; exact this)
        clear hst hxx hy ob x2 x1 t2 hb hW2 hx hnm
        go_wp2_with fail
        rw [← HW2.out]
        clear d0 d1
        go_quiet ((go_at_call 33; exact quietS HC.out))
        go_wp2_with fail
        go_ret
        exact ⟨ret_int F.out, below_drewN (BB.out.trans (B2.out.mono BB.out.size)) _⟩
      have HC : Hid (∀ W, Calls Try.prog 33 #[.string x] W fun e w' => e = .returned (.bool true) ∧ W = w') := Lib.hid (fun W => by have := HNM.out W; rw [hnm] at this; exact this)
      have HNT := Lib.hid hnm
      obtain ⟨q, hq⟩ : ∃ q, q = y.size := ⟨_, rfl⟩
      obtain ⟨r, hr⟩ : ∃ r, r = y.size % 64 := ⟨_, rfl⟩
      have r1 : (y.size : Int) % 64 = (r : Int) := by rw [hr]; simp
      have r2 : (y.size : Int).tmod 64 = (r : Int) := by rw [Int.tmod_eq_emod_of_nonneg (by omega), hr]; simp
      have HQ := Lib.hid hq; have HRr := Lib.hid hr; have HYY := Lib.hid hy
      by_cases hord : k = 0 ∨ nlt (E.getD (k - 1) default).1 x = true
      case neg =>
        have F : Hid ((2 : Int) = ckE ⟨z, E, L, fz, dn⟩) := Lib.hid (HBD.out (fun hh => hord (HS.out.1 hh).2.2.1))
        have hk0 : ¬ k = 0 := fun e => hord (.inl e)
        have hbl : nlt (E.getD (k - 1) default).1 x = false := Bool.eq_false_iff.2 (fun e => hord (.inr e))
        obtain ⟨g', o', hge, _, e0, _, _, _⟩ := ((HE.out.below hb).below t2) (k - 1) (by omega)
        cases hge
        obtain ⟨pv, hpv⟩ : ∃ x, x = (E.getD (k - 1) default).1 := ⟨_, rfl⟩
        rw [← hpv] at e0 hbl
        obtain ⟨j, hj⟩ : ∃ j, j = k - 1 := ⟨_, rfl⟩
        rw [← hj] at e0
        have g0 : decide (0 < k) = true := decide_eq_true (by omega)
        have hs1 : IntKind.i64.wrap ((k : Int) - 1) = (j : Int) := by rw [show (k : Int) - 1 = (j : Int) by omega]; exact IntWalk.i64_in _ (by omega)
        have hs2 : IntKind.i64.wrap ((k : Int) + -1) = (j : Int) := by rw [show (k : Int) + -1 = (j : Int) by omega]; exact IntWalk.i64_in _ (by omega)
        have n0 : (0 : Int) ≤ (j : Int) := by omega
        have n1 : (j : Int) < (nE : Int) := by omega
        have tl : (bytesLess x.toList pv.toList || x.toList == pv.toList) = true := by rw [leq_nlt, hbl]; rfl
        have tl2 : (bytesLess x.toList pv.toList || pv.toList == x.toList) = true := by rw [← tl, Bool.beq_comm]
        have tl3 : bytesLess pv.toList x.toList = false := hbl
        clear hst hxx hy ob x2 x1 t2 hb hW2 hx hnm hord hbl hpv hj hk0 hq hr
        go_wp2_with fail
        rw [← HW2.out]
        clear d0 d1
        go_quiet ((go_at_call 33; exact quietS HC.out))
        go_wp2_with fail
        go_ret
        exact ⟨ret_int F.out, below_drewN (BB.out.trans (B2.out.mono BB.out.size)) _⟩
      have HOR := Lib.hid hord
      have hor : (decide (0 < k) = false) ∨ ∃ (j : Nat) (pv : ByteArray), decide (0 < k) = true ∧ IntKind.i64.wrap ((k : Int) - 1) = (j : Int) ∧ IntKind.i64.wrap ((k : Int) + -1) = (j : Int) ∧ (0 : Int) ≤ (j : Int) ∧ (j : Int) < (nE : Int) ∧ W2.cell? ⟨g, o + j * 2, none⟩ = some (.string pv) ∧ (bytesLess x.toList pv.toList || x.toList == pv.toList) = false ∧ (bytesLess x.toList pv.toList || pv.toList == x.toList) = false ∧ bytesLess pv.toList x.toList = true := by
        by_cases hk0 : k = 0
        · exact .inl (decide_eq_false (by omega))
        · have hbl := hord.resolve_left hk0
          obtain ⟨g', o', hge, _, e0, _, _, _⟩ := ((HE.out.below hb).below t2) (k - 1) (by omega)
          cases hge
          have tl : (bytesLess x.toList (E.getD (k - 1) default).1.toList || x.toList == (E.getD (k - 1) default).1.toList) = false := by rw [leq_nlt, hbl]; rfl
          exact .inr ⟨k - 1, (E.getD (k - 1) default).1, decide_eq_true (by omega), by rw [show (k : Int) - 1 = ((k - 1 : Nat) : Int) by omega]; exact IntWalk.i64_in _ (by omega), by rw [show (k : Int) + -1 = ((k - 1 : Nat) : Int) by omega]; exact IntWalk.i64_in _ (by omega), by omega, by omega, e0, tl, by rw [← tl, Bool.beq_comm], hbl⟩
      clear hst hxx hy ob x2 x1 t2 hb hW2 hx hnm hord hq hr
      rcases hor with g0 | ⟨j, pv, g0, hs1, hs2, n0, n1, e0, tl, tl2, tl3⟩
      all_goals
        by_cases hz0 : q = 0
        case pos =>
          have F : Hid ((2 : Int) = ckE ⟨z, E, L, fz, dn⟩) := Lib.hid (HBD.out (fun hh => (HS.out.1 hh).2.2.2.1.1 (by rw [← HQ.out]; exact hz0)))
          have ty : y.toList = [] := by
            have e : y.toList.length = y.size := by rw [toList_data, ← Lib.size_eq]
            exact List.eq_nil_of_length_eq_zero (by rw [e, ← HQ.out]; exact hz0)
          clear hz0 r1 r2
          go_wp2_with fail
          rw [← HW2.out]
          clear d0 d1
          go_quiet ((go_at_call 33; exact quietS HC.out))
          go_wp2_with fail
          go_ret
          exact ⟨ret_int F.out, below_drewN (BB.out.trans (B2.out.mono BB.out.size)) _⟩
        have ty : ¬ (y.toList = []) := fun e => hz0 (by rw [HQ.out]; exact nil_size e)
        have ty2 : y.toList.isEmpty = false := by rw [List.isEmpty_eq_false_iff]; exact ty
        by_cases hr0 : r = 0
        case neg =>
          have F : Hid ((2 : Int) = ckE ⟨z, E, L, fz, dn⟩) := Lib.hid (HBD.out (fun hh => hr0 (by rw [HRr.out]; exact (HS.out.1 hh).2.2.2.1.2)))
          have t5 : ((r : Int) != 0) = true := by rw [bne_iff_ne]; omega
          clear hz0 hr0
          go_wp2_with fail
          rw [← HW2.out]
          clear d0 d1
          go_quiet ((go_at_call 33; exact quietS HC.out))
          go_wp2_with fail
          go_ret
          exact ⟨ret_int F.out, below_drewN (BB.out.trans (B2.out.mono BB.out.size)) _⟩
        have t5 : ((r : Int) != 0) = false := by rw [bne_eq_false_iff_eq]; omega
        have HZ0 := Lib.hid hz0
        have HR0 : Hid (r = 0) := Lib.hid hr0
        clear hz0 hr0
        go_wp2_with fail
        rw [← HW2.out]
        clear d0 d1
        go_quiet ((go_at_call 33; exact quietS HC.out))
        go_wp2_with fail
        obtain ⟨sm, hsm⟩ : ∃ sm, sm = sumN (E.take (k + 1)) := ⟨_, rfl⟩
        have hsl : sm ≤ 4611686018427387904 := by
          have h1 := exR_sum LM.out.1 HP.out
          have e : E.take (k + 1) = E.take k ++ [E.getD k default] := by
            rw [List.take_succ_eq_append_getElem hkE]
            simp [List.getD_eq_getElem?_getD, List.getElem?_eq_getElem hkE]
          have h2 : many (E.getD k default).2 ≤ y.size := by rw [HYY.out]; exact Nat.div_le_self _ _
          have h3 := LM.out.2.1
          rw [hsm, e, sumN_app]
          simp only [sumN]
          omega
        have HUS : Hid (∀ W, Below u0.heap.size u0 W → Calls Try.prog 35 #[.slice (some ⟨g, o, none⟩) (k + 1) cE] W fun e w' => e = .returned (.int .i64 (sm : Int)) ∧ Below W.heap.size W w') := Lib.hid (fun W hW => by
          rw [hsm] at hsl ⊢
          exact rUsed_any (E.take (k + 1)) _ (k + 1) cE W (by rw [List.length_take]; omega) ((HE.out.below hW).take _) (by omega) hsl)
        obtain ⟨BBp, hBBp⟩ : ∃ BBp : World → Prop, BBp = fun W => Below W2.heap.size W2 W := ⟨_, rfl⟩
        have hK : ∀ W, BBp W → BBp W ∧ W.cell? ⟨w.heap.size, 1, none⟩ = some (.slice (some ⟨g, o, none⟩) nE cE) ∧ W.cell? ⟨w.heap.size, 0, none⟩ = some (.int .i64 z) := fun W hh => by
          refine ⟨hh, ?_⟩
          rw [hBBp] at hh
          have := HXX.out.below hh
          exact ⟨this.cell 1 (by simp), this.cell 0 (by simp)⟩
        have hL : ∀ W W' : World, BBp W → Below W.heap.size W W' → BBp W' := by
          intro W W' hh hb
          rw [hBBp] at hh ⊢
          exact hh.trans (hb.mono hh.size)
        have hD : ∀ W, BBp W → BBp W.drew := fun W hh => hL W _ hh (Below.drew (Below.refl _ W))
        have hEx : ∀ W, BBp W → Below u0.heap.size u0 W := fun W hh => by rw [hBBp] at hh; exact B2.out.trans (hh.mono B2.out.size)
        have h0 : BBp (W2.drewN nq) := by rw [hBBp]; exact below_drewN (Below.refl _ _) _
        have HK := Lib.hid hK; have HL := Lib.hid hL; have HDd := Lib.hid hD; have HEx := Lib.hid hEx; have H0 := Lib.hid h0
        have w1 : IntKind.i64.wrap ((k : Int) + 1) = (k : Int) + 1 := IntWalk.i64_in _ (by omega)
        have w2 : (k : Int) + 1 ≤ (cE : Int) := by omega
        have w3 : (0 : Int) ≤ (k : Int) + 1 := by omega
        have HSM := Lib.hid hsm
        clear hBBp hK hL hD hEx h0 hsm hsl v0 v1 v2 v3
        obtain ⟨V, hV⟩ : ∃ V, V = W2.drewN nq := ⟨_, rfl⟩
        rw [← hV] at H0 ⊢
        clear hV
        by_cases hfit : (sm : Int) ≤ z
        case neg =>
          have F : Hid ((2 : Int) = ckE ⟨z, E, L, fz, dn⟩) := Lib.hid (HBD.out (fun hh => hfit (by rw [HSM.out]; exact (HS.out.1 hh).2.2.2.2)))
          have t6 : decide (z < (sm : Int)) = true := decide_eq_true (by omega)
          clear hfit
          go_region_held3 (fun W => BBp W ∧ W.cell? ⟨w.heap.size, 1, none⟩ = some (.slice (some ⟨g, o, none⟩) nE cE) ∧ W.cell? ⟨w.heap.size, 0, none⟩ = some (.int .i64 z)) ((refine HK.out _ ?_; repeat (first | exact H0.out | assumption | apply HDd.out))) ((go_at_call 35; ((with_reducible refine (HUS.out _ (HEx.out _ (by repeat (first | exact H0.out | assumption | apply HDd.out)))).mono ?_)); rintro e w' ⟨rfl, hb⟩; have hw := HL.out _ _ (by repeat (first | exact H0.out | assumption | apply HDd.out)) hb; clear hb))
          have HB3 := Lib.hid (HEx.out _ hw)
          clear hw
          go_wp2_with fail
          go_ret
          exact ⟨ret_int F.out, BB.out.trans (HB3.out.mono BB.out.size)⟩
        have t6 : decide (z < (sm : Int)) = false := decide_eq_false (by omega)
        have HNX : Hid (exR ⟨#[]⟩ z (E.take (k + 1)) = true) := Lib.hid (HS.out.2 ⟨HP.out, HNT.out, HOR.out, ⟨by rw [← HQ.out]; exact HZ0.out, by rw [← HRr.out]; exact HR0.out⟩, by rw [← HSM.out]; exact hfit⟩)
        clear hfit
        go_region_held3 (fun W => BBp W ∧ W.cell? ⟨w.heap.size, 1, none⟩ = some (.slice (some ⟨g, o, none⟩) nE cE) ∧ W.cell? ⟨w.heap.size, 0, none⟩ = some (.int .i64 z)) ((refine HK.out _ ?_; repeat (first | exact H0.out | assumption | apply HDd.out))) ((go_at_call 35; ((with_reducible refine (HUS.out _ (HEx.out _ (by repeat (first | exact H0.out | assumption | apply HDd.out)))).mono ?_)); rintro e w' ⟨rfl, hb⟩; have hw := HL.out _ _ (by repeat (first | exact H0.out | assumption | apply HDd.out)) hb; clear hb))
        have HB3 := Lib.hid (HEx.out _ hw)
        clear hw
        go_wp2_with fail
        go_roundw
        case rel => exact ⟨k + 1, by omega, by go_num, HNX.out, HB3.out⟩
        case measure => simp [intOf]; omega
    · obtain rfl : nE = k := by omega
      have HX : Hid (exR ⟨#[]⟩ z E = true) := Lib.hid (by rw [HN.out, List.take_length] at hx; exact hx)
      have HSo : Hid (Sorted E) := Lib.hid (rising_sorted (exR_rising HX.out))
      have q2 : wr.cell? ⟨w.heap.size, 2, none⟩ = some (.slice pW nW cW) := x1.cell 2 (by simp)
      have HB1 := Lib.hid hb
      clear x1 hb hx
      go_wp2_with fail
      go_loopw [6, 7, 86] (fun _ _ i ws => ∃ k : Nat, k ≤ nW ∧ i = .int .i64 k ∧ (∀ j, j < k → wrOk E (L.getD j default) = true) ∧ Below u0.heap.size u0 ws) (fun _ _ i _ => nW - (intOf i).toNat)
      case atStart => exact ⟨0, by omega, rfl, fun j hj => by omega, HB1.out⟩
      case round =>
        obtain ⟨j, hj, rfl, hx, hb⟩ := hrel
        have x1 := X0.out.below hb
        by_cases hjl : j < nW
        · have hjL : j < L.length := by rw [← HNW.out]; exact hjl
          obtain ⟨ga, oa, rfl, hga, d0, d1, d2, s1, s2⟩ := (HW.out.below hb) j hjL
          obtain ⟨x, hxx⟩ : ∃ x, x = (L.getD j default).1 := ⟨_, rfl⟩
          obtain ⟨c, hcc⟩ : ∃ c, c = (L.getD j default).2.1 := ⟨_, rfl⟩
          obtain ⟨y, hy⟩ : ∃ y, y = (L.getD j default).2.2 := ⟨_, rfl⟩
          have hwk : wrOk E (L.getD j default) = ((decide (0 ≤ c) && decide (c < (lookN E x : Nat))) && decide (y.size = 64)) := by rw [hxx, hcc, hy]; rfl
          have HBW : Hid (wrOk E (L.getD j default) = false → (2 : Int) = ckE ⟨z, E, L, fz, dn⟩) := Lib.hid (fun hh => ck_badW hjL hh)
          rw [← hxx] at d0 s1; rw [← hcc] at d1; rw [← hy] at d2 s2
          have m0 : (0 : Int) ≤ (j : Int) := by omega
          have m1 : (j : Int) < (nW : Int) := by omega
          obtain ⟨W2, hW2⟩ : ∃ W2, W2 = wr.alloc (.cells #[.string x, .int .i64 c, .string y] 63) := ⟨_, rfl⟩
          have HW2 := Lib.hid hW2
          have t2 : Below wr.heap.size wr W2 := by rw [hW2]; exact (Below.refl _ _).alloc (Nat.le_refl _) _
          have ob : Boxed W2 wr.heap.size [.string x, .int .i64 c, .string y] := by rw [hW2]; exact Boxed.new wr #[.string x, .int .i64 c, .string y] 63
          have x2 := x1.below t2
          have B2 : Hid (Below u0.heap.size u0 W2) := Lib.hid (hb.trans (t2.mono hb.size))
          have v0 : W2.cell? ⟨wr.heap.size, 0, none⟩ = some (.string x) := ob.cell 0 (by simp)
          have v2 : W2.cell? ⟨w.heap.size, 1, none⟩ = some (.slice pE nE cE) := x2.cell 1 (by simp)
          have v2' : wr.cell? ⟨w.heap.size, 1, none⟩ = some (.slice pE nE cE) := x1.cell 1 (by simp)
          have l0 : w.heap.size < wr.heap.size := x1.lt
          have HFc : Hid (Calls Try.prog 34 #[.slice pE nE cE, .string x] W2 fun e w' => e = .returned (.int .i64 (fnd E x)) ∧ Below W2.heap.size W2 w') := Lib.hid (rFind_any E pE nE cE x W2 HN.out ((HE.out.below hb).below t2) (by omega))
          have HOB := Lib.hid ob; have HXX := Lib.hid x2; have HWK := Lib.hid hwk; have HXs := Lib.hid hx
          have hfp := fnd_pos HSo.out x
          obtain ⟨p, hp⟩ : ∃ p, p = fnd E x := ⟨_, rfl⟩
          rw [← hp] at HFc hfp
          have HFP := Lib.hid hfp
          clear hxx hcc hy hwk ob x2 x1 t2 hb hW2 hx hp hfp
          go_wp2_with fail
          rw [← HW2.out]
          refine HFc.out.mono ?_
          rintro e w3 ⟨rfl, b3⟩
          have ob := HOB.out.below b3
          have x2 := HXX.out.below b3
          have B3 : Hid (Below u0.heap.size u0 w3) := Lib.hid (B2.out.trans (b3.mono B2.out.size))
          have u1 : w3.cell? ⟨wr.heap.size, 1, none⟩ = some (.int .i64 c) := ob.cell 1 (by simp)
          have u2 : w3.cell? ⟨wr.heap.size, 2, none⟩ = some (.string y) := ob.cell 2 (by simp)
          have u3 : w3.cell? ⟨w.heap.size, 1, none⟩ = some (.slice pE nE cE) := x2.cell 1 (by simp)
          clear ob x2 b3 v0 v2 v2' d0 d1 d2 HW2
          by_cases hi : isAt E x = true
          case neg =>
            have hpe : p = -1 := by rw [HFP.out, if_neg hi]
            have F : Hid ((2 : Int) = ckE ⟨z, E, L, fz, dn⟩) := Lib.hid (HBW.out (by rw [HWK.out]; unfold lookN; rw [if_neg hi]; rw [Bool.and_eq_false_iff, Bool.and_eq_false_iff]; left; (by_cases h0 : 0 ≤ c); exact .inr (decide_eq_false (by omega)); exact .inl (decide_eq_false h0)))
            subst hpe
            clear hi HFP HFc
            go_wp2_with fail
            go_quiet (fail)
            go_wp2_with fail
            go_ret
            exact ⟨ret_int F.out, below_drewN (BB.out.trans (B3.out.mono BB.out.size)) _⟩
          obtain ⟨q, hq⟩ : ∃ q, q = pos E x := ⟨_, rfl⟩
          have hpe : p = (q : Int) := by rw [HFP.out, if_pos hi, hq]
          have hqE : q < E.length := by rw [hq]; exact isAt_lt hi
          have hlk : lookN E x = many (E.getD q default).2 := by unfold lookN; rw [if_pos hi, hq]
          subst hpe
          obtain ⟨gb, ob, rfl, _, _, f1, _, s4⟩ := (HE.out.below B3.out) q hqE
          obtain ⟨yy, hyy⟩ : ∃ yy, yy = (E.getD q default).2 := ⟨_, rfl⟩
          rw [← hyy] at f1 hlk s4
          obtain ⟨M, hM⟩ : ∃ M, M = many yy := ⟨_, rfl⟩
          have HWK2 : Hid (wrOk E (L.getD j default) = ((decide (0 ≤ c) && decide (c < (M : Int))) && decide (y.size = 64))) := Lib.hid (by rw [HWK.out, hlk, hM])
          have e1 : (yy.size : Int) / 64 = (M : Int) := by rw [hM]; unfold many; omega
          have e2 : (yy.size : Int).tdiv 64 = (M : Int) := by rw [Int.tdiv_eq_ediv_of_nonneg (by omega)]; exact e1
          have hm : M ≤ yy.size := by rw [hM]; exact Nat.div_le_self _ _
          have e3 : IntKind.i64.wrap (M : Int) = (M : Int) := IntWalk.i64_in _ (by omega)
          have m3 : (0 : Int) ≤ (q : Int) := by omega
          have m4 : (q : Int) < (nE : Int) := by have := HN.out; omega
          have g0 : decide ((q : Int) < 0) = false := decide_eq_false (by omega)
          clear hi hq hqE hlk hyy hM HFP HFc
          by_cases c1 : 0 ≤ c
          case neg =>
            have F : Hid ((2 : Int) = ckE ⟨z, E, L, fz, dn⟩) := Lib.hid (HBW.out (by rw [HWK2.out, decide_eq_false c1]; rfl))
            have t2 : decide (c < 0) = true := decide_eq_true (by omega)
            clear c1
            go_wp2_with fail
            go_quiet (fail)
            go_wp2_with fail
            go_ret
            exact ⟨ret_int F.out, below_drewN (BB.out.trans (B3.out.mono BB.out.size)) _⟩
          have t2 : decide (c < 0) = false := decide_eq_false (by omega)
          by_cases c2 : c < (M : Int)
          case neg =>
            have F : Hid ((2 : Int) = ckE ⟨z, E, L, fz, dn⟩) := Lib.hid (HBW.out (by rw [HWK2.out, decide_eq_false c2]; simp))
            have t3 : decide ((M : Int) ≤ c) = true := decide_eq_true (by omega)
            clear c1 c2
            go_wp2_with fail
            go_quiet (fail)
            go_wp2_with fail
            go_ret
            exact ⟨ret_int F.out, below_drewN (BB.out.trans (B3.out.mono BB.out.size)) _⟩
          have t3 : decide ((M : Int) ≤ c) = false := decide_eq_false (by omega)
          by_cases c3 : y.size = 64
          case neg =>
            have F : Hid ((2 : Int) = ckE ⟨z, E, L, fz, dn⟩) := Lib.hid (HBW.out (by rw [HWK2.out, decide_eq_false c3]; simp))
            have t4 : ((y.size : Int) != 64) = true := by rw [bne_iff_ne]; omega
            clear c1 c2 c3
            go_wp2_with fail
            go_quiet (fail)
            go_wp2_with fail
            go_ret
            exact ⟨ret_int F.out, below_drewN (BB.out.trans (B3.out.mono BB.out.size)) _⟩
          have t4 : ((y.size : Int) != 64) = false := by rw [bne_eq_false_iff_eq]; omega
          have HX4 : Hid (∀ i, i < j + 1 → wrOk E (L.getD i default) = true) := Lib.hid (fun i hi => by
            rcases Nat.lt_or_ge i j with h | h
            · exact HXs.out i h
            · obtain rfl : i = j := by omega
              rw [HWK2.out, decide_eq_true c1, decide_eq_true c2, decide_eq_true c3]; rfl)
          clear c1 c2 c3
          go_wp2_with fail
          go_quiet (fail)
          go_wp2_with fail
          go_roundw
          case rel => exact ⟨j + 1, by omega, by go_num, HX4.out, below_drewN B3.out _⟩
          case measure => simp [intOf]; omega
        · obtain rfl : nW = j := by omega
          have F : Hid ((0 : Int) = ckE ⟨z, E, L, fz, dn⟩) := Lib.hid (ck_fine LM.out HX.out (fun i hi => hx i (by rw [HNW.out]; exact hi)))
          have HB2 := Lib.hid hb
          clear hx hb x1
          go_wp2_with fail
          go_ret
          exact ⟨ret_int F.out, BB.out.trans (HB2.out.mono BB.out.size)⟩
end Go.Proofs.Ytejmbbhbimgheaa.Dk

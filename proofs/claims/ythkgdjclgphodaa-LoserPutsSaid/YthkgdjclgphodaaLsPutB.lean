/- The walk of put. -/
import Derived.Test.YthkgdjclgphodaaLsPutI
namespace Go.Proofs.Ythkgdjclgphodaa.Ls
open Go.RowKit Rw Nm
attribute [local go_sem] Oper.semAt_some

/-- what is left to show at a return; no panic gets out -/
def markPost (fn : Func) (R : Ending → World → Prop) : Exit → Act → World → Prop
  | .normal, a, w => LeavesInM Fence.wide 4 Try.prog fn a.tmps R a.defers .returning w
  | .ret, a, w => LeavesInM Fence.wide 4 Try.prog fn a.tmps R a.defers .returning w
  | _, _, _ => False
theorem calls_of_marks {f : FuncId} {fn : Func} {c : Code} {args : Array Value} {w : World} {R : Ending → World → Prop} (hf : Try.prog.funcs[f]? = some fn) (hb : fn.body = some c)
    (h : c.wp Try.prog (markPost fn R) { tmps := args ++ Array.replicate (fn.ntmps - args.size) undef, defers := [] } w) : Calls Try.prog f args w R := by
  refine callsIn_wide.1 (callsIn_of_wp_marks (n := 4) hf hb trivial (wpIn_mono (wpIn_wide.2 h) ?_) rfl)
  rintro e a w h
  cases e <;> first | exact h | exact h.elim

set_option maxRecDepth 100000 in
set_option maxHeartbeats 4000000 in
theorem put_any {w : World} {B g gk gt ck ct d : Nat} {K : Keys} {x : List Nat} {q : Option Addr} (h : Wk w B g gk gt ck ct K (up (build K))) (h1 : 1 ≤ K.length) (h2 : K.length ≤ 256) (hq : Rd w q (nums x)) (hx : x.length ≤ 17592186044416) :
    Calls Try.prog 33 #[.pointer (some ⟨g, 0, none⟩), .slice q x.length d] w fun e w' => e = .returned (.int .i64 (pe K x)) ∧ Wk w' B g gk gt ck ct (pk K x) (up (build (pk K x))) ∧ Below B w w' := by
  obtain ⟨i, hi⟩ : ∃ i, i = wn K 1 := ⟨_, rfl⟩
  have hik : i < K.length := by rw [hi]; exact wn_lt (by omega) (by omega)
  have hT0 : (build K).getD 0 0 = i := by rw [build_get K 0 (by omega), if_pos rfl, hi]
  have hTl := build_length K
  obtain ⟨W0, hW0⟩ : ∃ W0, W0 = w.alloc (.cells #[.pointer (some ⟨g, 0, none⟩)] 49) := ⟨_, rfl⟩
  have bx0 : Bx W0 w.heap.size [.pointer (some ⟨g, 0, none⟩)] := by rw [hW0]; exact Bx.new w #[.pointer (some ⟨g, 0, none⟩)] _
  have hB0 : Below w.heap.size w W0 := by rw [hW0]; exact (Below.refl _ _).alloc (Nat.le_refl _) _
  have hgl := h.box.lt
  have hgB := h.ge
  have hwk0 := h.below hB0
  have hq0 := hq.below hB0
  obtain ⟨y, hy⟩ : ∃ y, y = kat K i := ⟨_, rfl⟩
  have hgtl0 : gt < w.heap.size := (h.tree.lt gt rfl).2
  have hgkl : gk < w.heap.size := by obtain ⟨V0, hk0, _⟩ := h.keys; exact (hk0.lt gk rfl).2
  obtain ⟨a', qk, dk, ea, _, ck0, hry, hyl⟩ := hwk0.recs i hik
  cases ea
  have e0 : K.getD i [] = y := by rw [hy]; rfl
  rw [e0] at ck0 hry hyl
  have c0 := hwk0.box.cell 0 (by simp)
  have c1 := hwk0.box.cell 1 (by simp)
  have cn := (hwk0.node (i := 0) (by omega)).1
  rw [hT0] at cn
  have hul : (up (build K)).length = K.length := by rw [up_length, hTl]
  simp only [List.getD_cons_zero, List.getD_cons_succ, hul] at c0 c1
  obtain ⟨k, hk⟩ : ∃ k, k = K.length := ⟨_, rfl⟩
  obtain ⟨m, hm⟩ : ∃ m, m = y.length := ⟨_, rfl⟩
  rw [← hk] at c0 c1 h1 h2 hik
  rw [← hm] at ck0
  have cb := bx0.cell 0 (by simp)
  simp only [List.getD_cons_zero] at cb
  have HE : Hid (Calls Try.prog 29 #[.pointer (some ⟨g, 0, none⟩)] W0 fun e w' => e = .returned (.bool (decide (m = 0))) ∧ ∃ j, w' = W0.drewN j) :=
    Lib.hid (isEmpty_any c0 c1 (by omega) cn hik ck0)
  have HBe : Hid (∀ n, Calls Try.prog 32 #[.pointer (some ⟨g, 0, none⟩)] (W0.drewN n) fun e w' => e = .returned (.slice qk m dk) ∧ ∃ j, w' = (W0.drewN n).drewN j) :=
    Lib.hid fun n => best_any (by simpa using c0) (by simpa using c1) (by omega) (by simpa using cn) hik (by simpa using ck0)
  have HWi : Hid (∀ n, Calls Try.prog 30 #[.pointer (some ⟨g, 0, none⟩)] (W0.drewN n) fun e w' => e = .returned (.int .i64 (i : Nat)) ∧ W0.drewN n = w') :=
    Lib.hid fun n => winner_any (by simpa using c1) (by omega) (by simpa using cn)
  have HLe : Hid (∀ n, Calls Try.prog 23 #[.slice q x.length d, .slice qk m dk] (W0.drewN n) fun e w' => e = .returned (.bool (lexL x y)) ∧ W0.drewN n = w') :=
    Lib.hid fun n => by rw [hm]; exact less_any x y q qk d dk _ (hq0.drewN n) (hry.drewN n) (by omega) hyl
  have ht0 : (m = 0) = (y = []) := by rw [hm]; exact propext List.length_eq_zero_iff
  have DR : Hid (∀ n, Below w.heap.size w (W0.drewN n)) := Lib.hid fun n => below_drewN hB0 n
  have DW : Hid (∀ n, Below w.heap.size w (W0.drewN n) → Wk (W0.drewN n) B g gk gt ck ct K (up (build K)) ∧ Below B w (W0.drewN n)) := Lib.hid fun n hb => ⟨h.below hb, hb.mono (by omega)⟩
  have P1 : Hid (m = 0 → pe K x = 3) := Lib.hid fun e => by unfold pe; rw [← hi, ← hy, if_pos (by rw [← ht0]; exact e)]
  have P2 : Hid (m ≠ 0 → x.length ≠ 0 → lexL x y = true → pe K x = 12) := Lib.hid fun e1 e2 e3 => by
    unfold pe; rw [← hi, ← hy, if_neg (by rw [← ht0]; exact e1), if_pos ⟨by rw [ne_eq, ← List.length_eq_zero_iff]; exact e2, e3⟩]
  have P3 : Hid (m ≠ 0 → (x.length = 0 ∨ lexL x y = false) → pe K x = 0 ∧ pk K x = K.set i x) := Lib.hid fun e1 e2 => by
    have : pe K x = 0 := by
      unfold pe; rw [← hi, ← hy, if_neg (by rw [← ht0]; exact e1), if_neg]
      rintro ⟨a1, a2⟩
      rcases e2 with e2 | e2
      · exact a1 (List.length_eq_zero_iff.1 e2)
      · rw [e2] at a2; cases a2
    refine ⟨this, ?_⟩
    unfold pk; rw [if_pos this, hi]
  have PK : Hid (pe K x ≠ 0 → pk K x = K) := Lib.hid fun e => by unfold pk; rw [if_neg e]
  obtain ⟨r, hr⟩ : ∃ r, r = pe K x := ⟨_, rfl⟩
  obtain ⟨K2, hK2⟩ : ∃ K2, K2 = pk K x := ⟨_, rfl⟩
  obtain ⟨u, hu⟩ : ∃ u, u = lexL x y := ⟨_, rfl⟩
  obtain ⟨lx, hlx⟩ : ∃ lx, lx = x.length := ⟨_, rfl⟩
  rw [← hr] at P1 P2 P3 PK ⊢
  rw [← hK2] at P3 PK ⊢
  rw [← hu] at HLe P2 P3
  rw [← hlx] at HLe P2 P3 ⊢
  have HW0 := Lib.hid hW0; have HQ := Lib.hid hq0; have HX := Lib.hid hx; have HLX := Lib.hid hlx; have HK := Lib.hid hk; have HWK := Lib.hid hwk0; have HBX := Lib.hid bx0; have HI := Lib.hid hi; have HB0 := Lib.hid hB0; have HGK := Lib.hid hgkl; have HGT := Lib.hid hgtl0
  clear hW0 hq hq0 hx hu hlx hr hK2 ht0 hB0 hry hyl hy hm hk h hi hT0 hTl hul e0 hwk0 bx0 cn ck0 c0 c1 hgkl hgtl0
  refine calls_of_marks Try.func33 rfl ?_
  simp only [Try.ntmps33, List.size_toArray, List.length_cons, List.length_nil, Nat.reduceAdd, Nat.reduceSub, Array.replicate_succ, Array.replicate_zero, List.push_toArray, List.append_toArray, List.nil_append, List.cons_append]
  go_wp2_with fail
  rw [← HW0.out]
  refine HE.out.mono ?_
  rintro e w' ⟨rfl, j1, rfl⟩
  by_cases hm0 : m = 0
  · have hr := P1.out hm0
    have hK2 := PK.out (by omega)
    have F : Hid (Wk (W0.drewN j1) B g gk gt ck ct K2 (up (build K2)) ∧ Below B w (W0.drewN j1)) := Lib.hid (by rw [hK2]; exact DW.out _ (DR.out _))
    have t : decide (m = 0) = true := decide_eq_true hm0
    clear P1 P2 P3 PK HE HBe HWi HLe hm0 hK2
    go_wp2_with fail
    exact ⟨_, results_tmp rfl _ _ _, by rw [hr]; rfl, F.out⟩
  · have t : decide (m = 0) = false := decide_eq_false hm0
    have hP2 := Lib.hid (P2.out hm0); have hP3 := Lib.hid (P3.out hm0)
    clear P1 P2 P3 HE hm0
    by_cases hl : lx = 0
    · have hP := hP3.out (.inl hl)
      have tl : decide (0 < lx) = false := decide_eq_false (by omega)
      obtain ⟨j, hj⟩ : ∃ j, j = j1 := ⟨_, rfl⟩
      clear hP3 PK DW HBe HLe hP2 hl
      go_wp2_with fail
      rw [← hj]
      obtain ⟨V, hV⟩ : ∃ V, V = W0.drewN j := ⟨_, rfl⟩
      have hWi := HWi.out j
      have cb2 : V.cell? ⟨w.heap.size, 0, none⟩ = some (.pointer (some ⟨g, 0, none⟩)) := by rw [hV]; simpa using cb
      have hV0 : Below W0.heap.size W0 V := by rw [hV]; exact below_drewN (Below.refl _ _) j
      rw [← hV] at hWi ⊢
      have HV0 := Lib.hid hV0
      refine hWi.mono ?_
      rintro e w' ⟨rfl, rfl⟩
      clear tl t hj HWi hV cb hWi hV0
      have hr0 := Lib.hid hP.1; have hK2 := Lib.hid hP.2
      clear hP
      go_upto_region 6 with fail
      obtain ⟨W1, hW1⟩ : ∃ W1, W1 = V.alloc (.cells #[.int .i64 (i : Nat)] 3) := ⟨_, rfl⟩
      have b2 : Below V.heap.size V W1 := by rw [hW1]; exact (Below.refl _ _).alloc (Nat.le_refl _) _
      have bxl : Bx W1 V.heap.size [.int .i64 (i : Nat)] := by rw [hW1]; exact Bx.new V #[.int .i64 (i : Nat)] _
      rw [← hW1]
      have wk1 : WkO W1 B g gk gt ck ct V.heap.size K (build K) := (HWK.out.below HV0.out).apart b2 (Nat.le_refl _)
      have bx1 : Bx W1 w.heap.size [.pointer (some ⟨g, 0, none⟩)] := (HBX.out.below HV0.out).below b2
      have hBw : Below B w W1 := (HB0.out.mono (by omega)).trans ((HV0.out.mono (Nat.le_trans (by omega) HB0.out.size)).trans (b2.mono (Nat.le_trans (Nat.le_trans (by omega) HB0.out.size) HV0.out.size)))
      have hBl : Below w.heap.size w W1 := HB0.out.trans ((HV0.out.mono HB0.out.size).trans (b2.mono (Nat.le_trans HB0.out.size HV0.out.size)))
      have hq1 : Rd W1 q (nums x) := (HQ.out.below HV0.out).below b2
      have hs0 : w.heap.size < V.heap.size := Nat.lt_of_lt_of_le HBX.out.lt HV0.out.size
      obtain ⟨BB, hBB⟩ : ∃ BB : World → Prop, BB = fun W => Below W1.heap.size W1 W := ⟨_, rfl⟩
      have hK : ∀ W, BB W → W.cell? ⟨w.heap.size, 0, none⟩ = some (.pointer (some ⟨g, 0, none⟩)) ∧ W.cell? ⟨g, 0, none⟩ = some (.slice (some ⟨gk, 0, none⟩) k ck) ∧ W.cell? ⟨V.heap.size, 0, none⟩ = some (.int .i64 (i : Nat)) ∧ (∃ u, W.cell? ⟨gk, i, none⟩ = some u) ∧ W.frozen? ⟨gk, i, none⟩ = false := by
        intro W h
        rw [hBB] at h
        have wk2 := wk1.below h
        have c0 := wk2.wk.box.cell 0 (by simp)
        rw [List.getD_cons_zero, ← HK.out] at c0
        obtain ⟨a, q0, d0, ea, _, hc0, _⟩ := wk2.wk.recs i (by rw [← HK.out]; exact hik)
        cases ea
        obtain ⟨V0, hk0, _⟩ := wk2.wk.keys
        exact ⟨(bx1.below h).cell 0 (by simp), c0, (bxl.below h).cell 0 (by simp), ⟨_, by rw [Addr.add_lit, Nat.zero_add] at hc0; exact hc0⟩, hk0.frozenAt i⟩
      have hL : ∀ W W' : World, BB W → Below W.heap.size W W' → BB W' := by
        intro W W' h hb
        rw [hBB] at h ⊢
        exact h.trans (hb.mono h.size)
      have hD : ∀ W, BB W → BB W.drew := fun W h => hL W _ h (Below.drew (Below.refl _ W))
      have h0 : BB W1 := by rw [hBB]; exact Below.refl _ _
      have hC : ∀ W, BB W → Calls Try.prog 31 #[.slice q lx d] W fun e w' => ∃ q' c', e = .returned (.slice q' lx c') ∧ BB w' ∧ Rd w' q' (nums x) ∧ NewAt W1.heap.size q' := by
        intro W h
        have h2 := h
        rw [hBB] at h2
        rw [HLX.out]
        refine (cloneU_any x q d W (hq1.below h2) HX.out).mono ?_
        rintro e w' ⟨q', c', rfl, hr', hnew, hb⟩
        exact ⟨q', c', rfl, hL W w' h hb, hr', fun a e => Nat.le_trans h2.size (hnew a e)⟩
      have hF : ∀ W, BB W → ∀ q' c', Rd W q' (nums x) → NewAt W1.heap.size q' → WkO (W.setCell ⟨gk, i, none⟩ (.slice q' lx c')) B g gk gt ck ct V.heap.size (K.set i x) (build K) ∧ Bx (W.setCell ⟨gk, i, none⟩ (.slice q' lx c')) w.heap.size [.pointer (some ⟨g, 0, none⟩)] ∧ Bx (W.setCell ⟨gk, i, none⟩ (.slice q' lx c')) V.heap.size [.int .i64 (i : Nat)] ∧ Below B w (W.setCell ⟨gk, i, none⟩ (.slice q' lx c')) ∧ V.heap.size < (W.setCell ⟨gk, i, none⟩ (.slice q' lx c')).heap.size := by
        intro W h q' c' hrq hnew
        rw [hBB] at h
        have wk2 := wk1.below h
        obtain ⟨V0, hk0, _⟩ := wk1.wk.keys
        have l1 := wk1.wk.box.lt; have l2 := (hk0.lt gk rfl); have l3 := (wk1.wk.tree.lt gt rfl); have l4 := bxl.lt
        have hgkw : gk < w.heap.size := by have := HGK.out; omega
        rw [HLX.out]
        refine ⟨wk2.setKey hrq HX.out (fun a e => by have := hnew a e; omega) i (by rw [← HK.out]; exact hik), (bx1.below h).other (by show gk ≠ w.heap.size; omega) _, (bxl.below h).other (by show gk ≠ V.heap.size; omega) _, (hBw.trans (h.mono (by omega))).setCell (p := ⟨gk, i, none⟩) l2.1 _, ?_⟩
        have := h.size
        simp
        omega
      have HKK := Lib.hid hK; have HD := Lib.hid hD; have H0 := Lib.hid h0; have HC := Lib.hid hC; have HF := Lib.hid hF
      obtain ⟨q4, q5, q6, ⟨q9, q7⟩, q8⟩ := hK W1 h0
      have i0 : (0 : Int) ≤ (i : Int) := by omega
      have i1 : (i : Int) < (k : Int) := by omega
      clear hK hL hD h0 hC hF hBB wk1 bx1 bxl hBw hBl hq1 b2 hW1 cb2
      go_cut [28] from 20 to 28 (fun v28 wx => WkO wx B g gk gt ck ct V.heap.size (K.set i x) (build K) ∧ Bx wx w.heap.size [.pointer (some ⟨g, 0, none⟩)] ∧ Bx wx V.heap.size [.int .i64 (i : Nat)] ∧ Below B w wx ∧ V.heap.size < wx.heap.size)
      case first =>
        go_region_law (first
          | (go_simp; go_at_call 31; ((with_reducible refine (HC.out _ (by repeat (first | exact H0.out | assumption | apply HD.out))).mono ?_)); rintro e w' ⟨q', c', rfl, hw, hrq, hnew⟩; obtain ⟨q4, q5, q6, ⟨q9, q7⟩, q8⟩ := HKK.out _ hw)
          | fail)
        all_goals go_wp2_with fail
        all_goals go_meet
        all_goals exact HF.out _ hw q' c' hrq hnew
      case rest =>
        obtain ⟨hO, hb0, hbl, hBw, hsl⟩ := hcut
        have c0 := hO.wk.box.cell 0 (by simp)
        rw [List.getD_cons_zero, List.length_set, ← HK.out] at c0
        have l0 := hO.wk.box.lt
        have f0 := hb0.cell 0 (by simp)
        have f1 := hbl.cell 0 (by simp)
        simp only [List.getD_cons_zero] at f0 f1
        have HO := Lib.hid hO; have HB1 := Lib.hid hb0; have HBL := Lib.hid hbl; have HBW := Lib.hid hBw
        clear hO hb0 hbl hBw HC HF HKK HD H0 q4 q5 q6 q7 q8 q9
        go_wp2_with (go_at_call 36; refine (above_any _ _ _).mono ?_; rintro e w' ⟨rfl, rfl⟩)
        obtain ⟨Wl, hWl⟩ : ∃ Wl, Wl = (wc.alloc (.cells #[.pointer (some ⟨g, 0, none⟩)] 49)).alloc (.cells #[.int .i64 (i : Nat)] 3) := ⟨_, rfl⟩
        have bl1 : Below wc.heap.size wc Wl := by rw [hWl]; exact ((Below.refl _ _).alloc (Nat.le_refl _) _).alloc (by simp) _
        have bxa := (Bx.new wc #[.pointer (some ⟨g, 0, none⟩)] 49).below ((Below.refl _ _).alloc (Nat.le_refl _) (.cells #[.int .i64 (i : Nat)] 3))
        have bxb := Bx.new (wc.alloc (.cells #[.pointer (some ⟨g, 0, none⟩)] 49)) #[.int .i64 (i : Nat)] 3
        rw [← hWl] at bxa bxb ⊢
        rw [World.size_alloc] at bxb
        have g0 := bxa.cell 0 (by simp)
        have g1 := bxb.cell 0 (by simp)
        simp only [List.getD_cons_zero] at g0 g1
        have gl0 := bxa.lt; have gl1 := bxb.lt
        have c0l : Wl.cell? ⟨g, 0, none⟩ = some (.slice (some ⟨gk, 0, none⟩) k ck) := by rw [bl1.cell (p := ⟨g, 0, none⟩) l0]; exact c0
        have hkl : K.length = k := HK.out.symm
        have hTk : (build K).length = k := by rw [build_length]; exact hkl
        have hBW : B ≤ w.heap.size := by omega
        have hbw2 := bl1.size
        have hsz : w.heap.size ≤ wc.heap.size := HBW.out.size
        have pi0 : PutI B g gk gt ck ct w.heap.size V.heap.size k i (K.set i x) (build K) w [] Wl := by
          refine ⟨(i, build K), rfl, ⟨hik, hTk, fun n hn => ?_⟩, HO.out.below bl1, HB1.out.below bl1, HBL.out.below bl1, HBW.out.trans (bl1.mono (by omega))⟩
          show (build K).getD n 0 < k
          rw [build_get K n (by omega)]
          rw [← hkl]
          split
          · exact wn_lt (by omega) (by omega)
          · exact lo_lt (by omega) (by omega)
        have hgtl : gt < w.heap.size := HGT.out
        have hst := above_stopsF wc.heap.size (wc.heap.size + 1) g k ck ((k + i) / 2) i (some ⟨gk, 0, none⟩) Wl rfl h2 hik gl0 gl1 (by omega) g0 g1 c0l
        have PI := Lib.hid pi0
        refine (wpIn_wide (n := 4)).1 ?_
        refine' wpIn_rangeFunc_ownF (n := 4) rfl (by omega) (gf := 43) (lb := #[.pointer (some ⟨wc.heap.size, 0, none⟩), .pointer (some ⟨wc.heap.size + 1, 0, none⟩)]) rfl trivial above_enters hst (fun _ _ => trivial) (fun _ _ _ _ _ _ _ _ => trivial) (Below.refl _ _) (fun _ => rfl)
          (PutI B g gk gt ck ct w.heap.size V.heap.size k i (K.set i x) (build K) w) (fun _ _ _ => False) (PutI.own hBW (by omega)) (fun _ _ _ _ _ hs _ _ => hs) PI.out _ ?assign ?body ?done ?stop
        case assign =>
          intro l x W K hK
          gi_wp2
          exact hK
        case body =>
          rintro l pre x' W ⟨s, es, ok, hO, hb0, hbl, hB⟩ hlt
          have f0 := hb0.cell 0 (by simp)
          have f1 := hbl.cell 0 (by simp)
          have f2 := hbl.free 0 (by simp)
          have c0 := hO.wk.box.cell 0 (by simp)
          have c1 := hO.wk.box.cell 1 (by simp)
          obtain ⟨cn, fn⟩ := hO.wk.node (i := x'.val) (by rw [ok.2.1]; exact x'.isLt)
          have hul : (up s.2).length = k := by rw [up_length]; exact ok.2.1
          simp only [List.getD_cons_zero, List.getD_cons_succ, List.length_set, hkl, hul] at f0 f1 c0 c1
          have hbt : ∀ z, Calls Try.prog 40 #[.slice (some ⟨gk, 0, none⟩) k ck, .int .i64 (s.2.getD x'.val 0 : Nat), .int .i64 (s.1 : Nat)] (W.drewN z) fun e w' => e = .returned (.bool (bt (K.set i x) (s.2.getD x'.val 0) s.1)) ∧ ∃ m, w' = (W.drewN z).drewN m := fun z => by
            have := beats_any (K := K.set i x) (c := ck) (a := s.2.getD x'.val 0) (b := s.1) (by rw [List.length_set, hkl]; exact ok.2.2 _ x'.isLt) (by rw [List.length_set, hkl]; exact ok.1) (hO.wk.recs.drewN z)
            rwa [List.length_set, hkl] at this
          have hstay := fun hb => PutI.stay (pre := pre) (x := x') es ok hO hb0 hbl hB hb
          have hswap := fun hb => PutI.swap (pre := pre) (x := x') es ok hO hb0 hbl hB hb (by omega) (by omega) (by omega)
          have n1 : ¬ (gt = V.heap.size) := by omega
          have n2 : ¬ (V.heap.size = gt) := by omega
          have x0 : (0 : Int) ≤ (x'.val : Int) := by omega
          have x1 : (x'.val : Int) < (k : Int) := by have := x'.isLt; omega
          obtain ⟨b1, hb1⟩ : ∃ b1, b1 = s.1 := ⟨_, rfl⟩
          obtain ⟨a1, ha1⟩ : ∃ a1, a1 = s.2.getD x'.val 0 := ⟨_, rfl⟩
          obtain ⟨t, ht⟩ : ∃ t, t = bt (K.set i x) a1 b1 := ⟨_, rfl⟩
          rw [← hb1] at hbt f1 hstay hswap
          rw [← ha1] at hbt cn hstay hswap
          simp only [← ht] at hbt hstay hswap
          have HBT := Lib.hid hbt; have HST := Lib.hid hstay; have HSW := Lib.hid hswap
          clear hbt hstay hswap es ok hO hb0 hbl hB hb1 ha1 ht hul hlt hst g0 g1 c0l pi0
          gi_wp2
          refine wpIn_quiet_round (by kernel_rfl) (by kernel_rfl) (by kernel_rfl) (fun ⟨_, _, h⟩ => h) ?_
          repeat (go_big_quiet_step ((go_at_call 40; exact Calls.quiet_of (HBT.out _))))
          refine wpQuiet_nil ?_
          intro _ hw'
          obtain ⟨nq, hw''⟩ := hw'
          subst hw''
          cases t with
          | false =>
            gi_wp2
            exact ⟨keeps_drewN _ _, trivial, HST.out (by simp) _⟩
          | true =>
            have HSW2 := Lib.hid (HSW.out (by simp))
            clear HST HSW
            gi_wp2
            refine wpIn_still_round 16 (by kernel_rfl) (by kernel_rfl) (by kernel_rfl) (fun ⟨_, _, h⟩ => h) ?_
            simp only [List.take_succ_cons, List.take_zero, List.drop_succ_cons, List.drop_zero]
            repeat still_step
            try refine wpStill_nil ?_
            go_wp2_with fail
            exact ⟨((keeps_drewN W (nq + 1)).trans (KeepsOthers.setCell _ _ _)).trans (KeepsOthers.setCell _ _ _), trivial, HSW2.out (nq + 1)⟩
        case done =>
          rintro D xs W hD hxs ⟨s, es, ok, hO, hb0, hbl, hB⟩ hKD
          have f0 := hb0.cell 0 (by simp)
          have f1 := hbl.cell 0 (by simp)
          have c1 := hO.wk.box.cell 1 (by simp)
          obtain ⟨cn, fn⟩ := hO.wk.node (i := 0) (by rw [ok.2.1]; omega)
          have hul : (up s.2).length = k := by rw [up_length]; exact ok.2.1
          simp only [List.getD_cons_zero, List.getD_cons_succ, hul] at f0 f1 c1
          have hfin : s.2.set 0 s.1 = build (K.set i x) := by
            have := put_build (K := K) (i := i) x HI.out.symm (by rw [hkl]; exact hik)
            unfold putT at this
            rw [hxs] at es
            simp only [List.length_set, hkl] at this
            rw [← es] at this
            exact this
          have HF2 : Hid ((W.setCell ⟨gt, 0, none⟩ (.int .i64 (s.1 : Nat))).drew.heap[D]? = some (.deferred (some [])) ∧ Wk ((W.setCell ⟨gt, 0, none⟩ (.int .i64 (s.1 : Nat))).drew.putObj D (.deferred none)) B g gk gt ck ct K2 (up (build K2)) ∧ Below B w ((W.setCell ⟨gt, 0, none⟩ (.int .i64 (s.1 : Nat))).drew.putObj D (.deferred none))) := Lib.hid (by
            have hk := ((KeepsOthers.setCell W ⟨gt, 0, none⟩ (.int .i64 (s.1 : Nat))).trans (KeepsOthers.drew _)).same D _ hKD rfl
            refine ⟨hk, ?_, ?_⟩
            · have := (hO.setNode 0 s.1).wk.below (Below.drew (Below.refl _ _))
              rw [hfin, ← hK2.out] at this
              exact this.kept (grownBy_putObj' _ D (.deferred none)) (fun r e => by cases e; exact ⟨_, hk, rfl⟩)
            · exact (Below.drew (hB.setCell (p := ⟨gt, 0, none⟩) (hO.wk.tree.lt gt rfl).1 _)).trans (belowK_b (w := w) hBW _ D _ _ (by omega) hk rfl rfl))
          obtain ⟨b1, hb1⟩ : ∃ b1, b1 = s.1 := ⟨_, rfl⟩
          rw [← hb1] at f1 HF2
          have k0 : (0 : Int) < (k : Int) := by omega
          have n1 : ¬ (gt = V.heap.size) := by omega
          clear es hO hb0 hbl hB hul hfin hst g0 g1 c0l pi0 hb1
          go_wp2_with fail
          go_region
          all_goals go_wp2_with fail
          all_goals (
            obtain ⟨hk, hw1, hb1⟩ := HF2.out
            refine ⟨by simp, .inl ⟨_, _, rfl, run_takeDeferred hk, ?_⟩⟩
            exact ⟨_, results_tmp rfl _ _ _, by rw [hr0.out]; rfl, hw1, hb1⟩)
        case stop =>
          rintro D c pre W _ _ h _
          exact h.elim
    · have hP2 := hP2.out hl
      have tl : decide ((0 : Int) < (lx : Int)) = true := decide_eq_true (by omega)
      go_wp2_with fail
      refine (HBe.out _).mono ?_
      rintro e w' ⟨rfl, j2, rfl⟩
      go_wp2_with fail
      refine (HLe.out _).mono ?_
      rintro e w' ⟨rfl, rfl⟩
      cases u with
      | true =>
        have hr := hP2 rfl
        have hK2 := PK.out (by omega)
        have F : Hid (Wk (W0.drewN (j1 + j2)) B g gk gt ck ct K2 (up (build K2)) ∧ Below B w (W0.drewN (j1 + j2))) := Lib.hid (by rw [hK2]; exact DW.out _ (DR.out _))
        go_wp2_with fail
        exact ⟨_, results_tmp rfl _ _ _, by rw [hr]; rfl, F.out⟩
      | false =>
        have hP := hP3.out (.inr rfl)
        clear hP3 PK DW HBe HLe hP2 hl
        obtain ⟨j, hj⟩ : ∃ j, j = j1 + j2 := ⟨_, rfl⟩
        go_wp2_with fail
        rw [← hj]
        obtain ⟨V, hV⟩ : ∃ V, V = W0.drewN j := ⟨_, rfl⟩
        have hWi := HWi.out j
        have cb2 : V.cell? ⟨w.heap.size, 0, none⟩ = some (.pointer (some ⟨g, 0, none⟩)) := by rw [hV]; simpa using cb
        have hV0 : Below W0.heap.size W0 V := by rw [hV]; exact below_drewN (Below.refl _ _) j
        rw [← hV] at hWi ⊢
        have HV0 := Lib.hid hV0
        refine hWi.mono ?_
        rintro e w' ⟨rfl, rfl⟩
        clear tl t hj HWi hV cb hWi hV0
        have hr0 := Lib.hid hP.1; have hK2 := Lib.hid hP.2
        clear hP
        go_upto_region 6 with fail
        obtain ⟨W1, hW1⟩ : ∃ W1, W1 = V.alloc (.cells #[.int .i64 (i : Nat)] 3) := ⟨_, rfl⟩
        have b2 : Below V.heap.size V W1 := by rw [hW1]; exact (Below.refl _ _).alloc (Nat.le_refl _) _
        have bxl : Bx W1 V.heap.size [.int .i64 (i : Nat)] := by rw [hW1]; exact Bx.new V #[.int .i64 (i : Nat)] _
        rw [← hW1]
        have wk1 : WkO W1 B g gk gt ck ct V.heap.size K (build K) := (HWK.out.below HV0.out).apart b2 (Nat.le_refl _)
        have bx1 : Bx W1 w.heap.size [.pointer (some ⟨g, 0, none⟩)] := (HBX.out.below HV0.out).below b2
        have hBw : Below B w W1 := (HB0.out.mono (by omega)).trans ((HV0.out.mono (Nat.le_trans (by omega) HB0.out.size)).trans (b2.mono (Nat.le_trans (Nat.le_trans (by omega) HB0.out.size) HV0.out.size)))
        have hBl : Below w.heap.size w W1 := HB0.out.trans ((HV0.out.mono HB0.out.size).trans (b2.mono (Nat.le_trans HB0.out.size HV0.out.size)))
        have hq1 : Rd W1 q (nums x) := (HQ.out.below HV0.out).below b2
        have hs0 : w.heap.size < V.heap.size := Nat.lt_of_lt_of_le HBX.out.lt HV0.out.size
        obtain ⟨BB, hBB⟩ : ∃ BB : World → Prop, BB = fun W => Below W1.heap.size W1 W := ⟨_, rfl⟩
        have hK : ∀ W, BB W → W.cell? ⟨w.heap.size, 0, none⟩ = some (.pointer (some ⟨g, 0, none⟩)) ∧ W.cell? ⟨g, 0, none⟩ = some (.slice (some ⟨gk, 0, none⟩) k ck) ∧ W.cell? ⟨V.heap.size, 0, none⟩ = some (.int .i64 (i : Nat)) ∧ (∃ u, W.cell? ⟨gk, i, none⟩ = some u) ∧ W.frozen? ⟨gk, i, none⟩ = false := by
          intro W h
          rw [hBB] at h
          have wk2 := wk1.below h
          have c0 := wk2.wk.box.cell 0 (by simp)
          rw [List.getD_cons_zero, ← HK.out] at c0
          obtain ⟨a, q0, d0, ea, _, hc0, _⟩ := wk2.wk.recs i (by rw [← HK.out]; exact hik)
          cases ea
          obtain ⟨V0, hk0, _⟩ := wk2.wk.keys
          exact ⟨(bx1.below h).cell 0 (by simp), c0, (bxl.below h).cell 0 (by simp), ⟨_, by rw [Addr.add_lit, Nat.zero_add] at hc0; exact hc0⟩, hk0.frozenAt i⟩
        have hL : ∀ W W' : World, BB W → Below W.heap.size W W' → BB W' := by
          intro W W' h hb
          rw [hBB] at h ⊢
          exact h.trans (hb.mono h.size)
        have hD : ∀ W, BB W → BB W.drew := fun W h => hL W _ h (Below.drew (Below.refl _ W))
        have h0 : BB W1 := by rw [hBB]; exact Below.refl _ _
        have hC : ∀ W, BB W → Calls Try.prog 31 #[.slice q lx d] W fun e w' => ∃ q' c', e = .returned (.slice q' lx c') ∧ BB w' ∧ Rd w' q' (nums x) ∧ NewAt W1.heap.size q' := by
          intro W h
          have h2 := h
          rw [hBB] at h2
          rw [HLX.out]
          refine (cloneU_any x q d W (hq1.below h2) HX.out).mono ?_
          rintro e w' ⟨q', c', rfl, hr', hnew, hb⟩
          exact ⟨q', c', rfl, hL W w' h hb, hr', fun a e => Nat.le_trans h2.size (hnew a e)⟩
        have hF : ∀ W, BB W → ∀ q' c', Rd W q' (nums x) → NewAt W1.heap.size q' → WkO (W.setCell ⟨gk, i, none⟩ (.slice q' lx c')) B g gk gt ck ct V.heap.size (K.set i x) (build K) ∧ Bx (W.setCell ⟨gk, i, none⟩ (.slice q' lx c')) w.heap.size [.pointer (some ⟨g, 0, none⟩)] ∧ Bx (W.setCell ⟨gk, i, none⟩ (.slice q' lx c')) V.heap.size [.int .i64 (i : Nat)] ∧ Below B w (W.setCell ⟨gk, i, none⟩ (.slice q' lx c')) ∧ V.heap.size < (W.setCell ⟨gk, i, none⟩ (.slice q' lx c')).heap.size := by
          intro W h q' c' hrq hnew
          rw [hBB] at h
          have wk2 := wk1.below h
          obtain ⟨V0, hk0, _⟩ := wk1.wk.keys
          have l1 := wk1.wk.box.lt; have l2 := (hk0.lt gk rfl); have l3 := (wk1.wk.tree.lt gt rfl); have l4 := bxl.lt
          have hgkw : gk < w.heap.size := by have := HGK.out; omega
          rw [HLX.out]
          refine ⟨wk2.setKey hrq HX.out (fun a e => by have := hnew a e; omega) i (by rw [← HK.out]; exact hik), (bx1.below h).other (by show gk ≠ w.heap.size; omega) _, (bxl.below h).other (by show gk ≠ V.heap.size; omega) _, (hBw.trans (h.mono (by omega))).setCell (p := ⟨gk, i, none⟩) l2.1 _, ?_⟩
          have := h.size
          simp
          omega
        have HKK := Lib.hid hK; have HD := Lib.hid hD; have H0 := Lib.hid h0; have HC := Lib.hid hC; have HF := Lib.hid hF
        obtain ⟨q4, q5, q6, ⟨q9, q7⟩, q8⟩ := hK W1 h0
        have i0 : (0 : Int) ≤ (i : Int) := by omega
        have i1 : (i : Int) < (k : Int) := by omega
        clear hK hL hD h0 hC hF hBB wk1 bx1 bxl hBw hBl hq1 b2 hW1 cb2
        go_cut [28] from 20 to 28 (fun v28 wx => WkO wx B g gk gt ck ct V.heap.size (K.set i x) (build K) ∧ Bx wx w.heap.size [.pointer (some ⟨g, 0, none⟩)] ∧ Bx wx V.heap.size [.int .i64 (i : Nat)] ∧ Below B w wx ∧ V.heap.size < wx.heap.size)
        case first =>
          go_region_law (first
            | (go_simp; go_at_call 31; ((with_reducible refine (HC.out _ (by repeat (first | exact H0.out | assumption | apply HD.out))).mono ?_)); rintro e w' ⟨q', c', rfl, hw, hrq, hnew⟩; obtain ⟨q4, q5, q6, ⟨q9, q7⟩, q8⟩ := HKK.out _ hw)
            | fail)
          all_goals go_wp2_with fail
          all_goals go_meet
          all_goals exact HF.out _ hw q' c' hrq hnew
        case rest =>
          obtain ⟨hO, hb0, hbl, hBw, hsl⟩ := hcut
          have c0 := hO.wk.box.cell 0 (by simp)
          rw [List.getD_cons_zero, List.length_set, ← HK.out] at c0
          have l0 := hO.wk.box.lt
          have f0 := hb0.cell 0 (by simp)
          have f1 := hbl.cell 0 (by simp)
          simp only [List.getD_cons_zero] at f0 f1
          have HO := Lib.hid hO; have HB1 := Lib.hid hb0; have HBL := Lib.hid hbl; have HBW := Lib.hid hBw
          clear hO hb0 hbl hBw HC HF HKK HD H0 q4 q5 q6 q7 q8 q9
          go_wp2_with (go_at_call 36; refine (above_any _ _ _).mono ?_; rintro e w' ⟨rfl, rfl⟩)
          obtain ⟨Wl, hWl⟩ : ∃ Wl, Wl = (wc.alloc (.cells #[.pointer (some ⟨g, 0, none⟩)] 49)).alloc (.cells #[.int .i64 (i : Nat)] 3) := ⟨_, rfl⟩
          have bl1 : Below wc.heap.size wc Wl := by rw [hWl]; exact ((Below.refl _ _).alloc (Nat.le_refl _) _).alloc (by simp) _
          have bxa := (Bx.new wc #[.pointer (some ⟨g, 0, none⟩)] 49).below ((Below.refl _ _).alloc (Nat.le_refl _) (.cells #[.int .i64 (i : Nat)] 3))
          have bxb := Bx.new (wc.alloc (.cells #[.pointer (some ⟨g, 0, none⟩)] 49)) #[.int .i64 (i : Nat)] 3
          rw [← hWl] at bxa bxb ⊢
          rw [World.size_alloc] at bxb
          have g0 := bxa.cell 0 (by simp)
          have g1 := bxb.cell 0 (by simp)
          simp only [List.getD_cons_zero] at g0 g1
          have gl0 := bxa.lt; have gl1 := bxb.lt
          have c0l : Wl.cell? ⟨g, 0, none⟩ = some (.slice (some ⟨gk, 0, none⟩) k ck) := by rw [bl1.cell (p := ⟨g, 0, none⟩) l0]; exact c0
          have hkl : K.length = k := HK.out.symm
          have hTk : (build K).length = k := by rw [build_length]; exact hkl
          have hBW : B ≤ w.heap.size := by omega
          have hbw2 := bl1.size
          have hsz : w.heap.size ≤ wc.heap.size := HBW.out.size
          have pi0 : PutI B g gk gt ck ct w.heap.size V.heap.size k i (K.set i x) (build K) w [] Wl := by
            refine ⟨(i, build K), rfl, ⟨hik, hTk, fun n hn => ?_⟩, HO.out.below bl1, HB1.out.below bl1, HBL.out.below bl1, HBW.out.trans (bl1.mono (by omega))⟩
            show (build K).getD n 0 < k
            rw [build_get K n (by omega)]
            rw [← hkl]
            split
            · exact wn_lt (by omega) (by omega)
            · exact lo_lt (by omega) (by omega)
          have hgtl : gt < w.heap.size := HGT.out
          have hst := above_stopsF wc.heap.size (wc.heap.size + 1) g k ck ((k + i) / 2) i (some ⟨gk, 0, none⟩) Wl rfl h2 hik gl0 gl1 (by omega) g0 g1 c0l
          have PI := Lib.hid pi0
          refine (wpIn_wide (n := 4)).1 ?_
          refine' wpIn_rangeFunc_ownF (n := 4) rfl (by omega) (gf := 43) (lb := #[.pointer (some ⟨wc.heap.size, 0, none⟩), .pointer (some ⟨wc.heap.size + 1, 0, none⟩)]) rfl trivial above_enters hst (fun _ _ => trivial) (fun _ _ _ _ _ _ _ _ => trivial) (Below.refl _ _) (fun _ => rfl)
            (PutI B g gk gt ck ct w.heap.size V.heap.size k i (K.set i x) (build K) w) (fun _ _ _ => False) (PutI.own hBW (by omega)) (fun _ _ _ _ _ hs _ _ => hs) PI.out _ ?assign ?body ?done ?stop
          case assign =>
            intro l x W K hK
            gi_wp2
            exact hK
          case body =>
            rintro l pre x' W ⟨s, es, ok, hO, hb0, hbl, hB⟩ hlt
            have f0 := hb0.cell 0 (by simp)
            have f1 := hbl.cell 0 (by simp)
            have f2 := hbl.free 0 (by simp)
            have c0 := hO.wk.box.cell 0 (by simp)
            have c1 := hO.wk.box.cell 1 (by simp)
            obtain ⟨cn, fn⟩ := hO.wk.node (i := x'.val) (by rw [ok.2.1]; exact x'.isLt)
            have hul : (up s.2).length = k := by rw [up_length]; exact ok.2.1
            simp only [List.getD_cons_zero, List.getD_cons_succ, List.length_set, hkl, hul] at f0 f1 c0 c1
            have hbt : ∀ z, Calls Try.prog 40 #[.slice (some ⟨gk, 0, none⟩) k ck, .int .i64 (s.2.getD x'.val 0 : Nat), .int .i64 (s.1 : Nat)] (W.drewN z) fun e w' => e = .returned (.bool (bt (K.set i x) (s.2.getD x'.val 0) s.1)) ∧ ∃ m, w' = (W.drewN z).drewN m := fun z => by
              have := beats_any (K := K.set i x) (c := ck) (a := s.2.getD x'.val 0) (b := s.1) (by rw [List.length_set, hkl]; exact ok.2.2 _ x'.isLt) (by rw [List.length_set, hkl]; exact ok.1) (hO.wk.recs.drewN z)
              rwa [List.length_set, hkl] at this
            have hstay := fun hb => PutI.stay (pre := pre) (x := x') es ok hO hb0 hbl hB hb
            have hswap := fun hb => PutI.swap (pre := pre) (x := x') es ok hO hb0 hbl hB hb (by omega) (by omega) (by omega)
            have n1 : ¬ (gt = V.heap.size) := by omega
            have n2 : ¬ (V.heap.size = gt) := by omega
            have x0 : (0 : Int) ≤ (x'.val : Int) := by omega
            have x1 : (x'.val : Int) < (k : Int) := by have := x'.isLt; omega
            obtain ⟨b1, hb1⟩ : ∃ b1, b1 = s.1 := ⟨_, rfl⟩
            obtain ⟨a1, ha1⟩ : ∃ a1, a1 = s.2.getD x'.val 0 := ⟨_, rfl⟩
            obtain ⟨t, ht⟩ : ∃ t, t = bt (K.set i x) a1 b1 := ⟨_, rfl⟩
            rw [← hb1] at hbt f1 hstay hswap
            rw [← ha1] at hbt cn hstay hswap
            simp only [← ht] at hbt hstay hswap
            have HBT := Lib.hid hbt; have HST := Lib.hid hstay; have HSW := Lib.hid hswap
            clear hbt hstay hswap es ok hO hb0 hbl hB hb1 ha1 ht hul hlt hst g0 g1 c0l pi0
            gi_wp2
            refine wpIn_quiet_round (by kernel_rfl) (by kernel_rfl) (by kernel_rfl) (fun ⟨_, _, h⟩ => h) ?_
            repeat (go_big_quiet_step ((go_at_call 40; exact Calls.quiet_of (HBT.out _))))
            refine wpQuiet_nil ?_
            intro _ hw'
            obtain ⟨nq, hw''⟩ := hw'
            subst hw''
            cases t with
            | false =>
              gi_wp2
              exact ⟨keeps_drewN _ _, trivial, HST.out (by simp) _⟩
            | true =>
              have HSW2 := Lib.hid (HSW.out (by simp))
              clear HST HSW
              gi_wp2
              refine wpIn_still_round 16 (by kernel_rfl) (by kernel_rfl) (by kernel_rfl) (fun ⟨_, _, h⟩ => h) ?_
              simp only [List.take_succ_cons, List.take_zero, List.drop_succ_cons, List.drop_zero]
              repeat still_step
              try refine wpStill_nil ?_
              go_wp2_with fail
              exact ⟨((keeps_drewN W (nq + 1)).trans (KeepsOthers.setCell _ _ _)).trans (KeepsOthers.setCell _ _ _), trivial, HSW2.out (nq + 1)⟩
          case done =>
            rintro D xs W hD hxs ⟨s, es, ok, hO, hb0, hbl, hB⟩ hKD
            have f0 := hb0.cell 0 (by simp)
            have f1 := hbl.cell 0 (by simp)
            have c1 := hO.wk.box.cell 1 (by simp)
            obtain ⟨cn, fn⟩ := hO.wk.node (i := 0) (by rw [ok.2.1]; omega)
            have hul : (up s.2).length = k := by rw [up_length]; exact ok.2.1
            simp only [List.getD_cons_zero, List.getD_cons_succ, hul] at f0 f1 c1
            have hfin : s.2.set 0 s.1 = build (K.set i x) := by
              have := put_build (K := K) (i := i) x HI.out.symm (by rw [hkl]; exact hik)
              unfold putT at this
              rw [hxs] at es
              simp only [List.length_set, hkl] at this
              rw [← es] at this
              exact this
            have HF2 : Hid ((W.setCell ⟨gt, 0, none⟩ (.int .i64 (s.1 : Nat))).drew.heap[D]? = some (.deferred (some [])) ∧ Wk ((W.setCell ⟨gt, 0, none⟩ (.int .i64 (s.1 : Nat))).drew.putObj D (.deferred none)) B g gk gt ck ct K2 (up (build K2)) ∧ Below B w ((W.setCell ⟨gt, 0, none⟩ (.int .i64 (s.1 : Nat))).drew.putObj D (.deferred none))) := Lib.hid (by
              have hk := ((KeepsOthers.setCell W ⟨gt, 0, none⟩ (.int .i64 (s.1 : Nat))).trans (KeepsOthers.drew _)).same D _ hKD rfl
              refine ⟨hk, ?_, ?_⟩
              · have := (hO.setNode 0 s.1).wk.below (Below.drew (Below.refl _ _))
                rw [hfin, ← hK2.out] at this
                exact this.kept (grownBy_putObj' _ D (.deferred none)) (fun r e => by cases e; exact ⟨_, hk, rfl⟩)
              · exact (Below.drew (hB.setCell (p := ⟨gt, 0, none⟩) (hO.wk.tree.lt gt rfl).1 _)).trans (belowK_b (w := w) hBW _ D _ _ (by omega) hk rfl rfl))
            obtain ⟨b1, hb1⟩ : ∃ b1, b1 = s.1 := ⟨_, rfl⟩
            rw [← hb1] at f1 HF2
            have k0 : (0 : Int) < (k : Int) := by omega
            have n1 : ¬ (gt = V.heap.size) := by omega
            clear es hO hb0 hbl hB hul hfin hst g0 g1 c0l pi0 hb1
            go_wp2_with fail
            go_region
            all_goals go_wp2_with fail
            all_goals (
              obtain ⟨hk, hw1, hb1⟩ := HF2.out
              refine ⟨by simp, .inl ⟨_, _, rfl, run_takeDeferred hk, ?_⟩⟩
              exact ⟨_, results_tmp rfl _ _ _, by rw [hr0.out]; rfl, hw1, hb1⟩)
          case stop =>
            rintro D c pre W _ _ h _
            exact h.elim
end Go.Proofs.Ythkgdjclgphodaa.Ls

/- The walk of package pack's counts. -/
import Derived.Test.YtbegngilbngnoaaPsH
namespace Go.Proofs.Ytbegngilbngnoaa.Ps
open Go.RowKit Go.Lib Rw Ls Od Pk St _root_.Go.Proofs.Ytbegngilbngnoaa.Nm
attribute [local go_sem] Oper.semAt_some wide_fn'

/-- what a round leaves as it lay -/
def Kept2 (g b : Nat) (W0 W : World) : Prop := W0.heap.size ≤ W.heap.size ∧ ∀ k, k < W0.heap.size → k ≠ g → k ≠ b → W.heap[k]? = W0.heap[k]?
theorem Kept2.refl (g b : Nat) (W : World) : Kept2 g b W W := ⟨Nat.le_refl _, fun _ _ _ _ => rfl⟩
theorem kept2_own {β : Type} {g b B : Nat} {W0 : World} (hB : W0.heap.size ≤ B) : OwnFrom B (fun (_ : β) W => Kept2 g b W0 W) := fun _ W W' row hs hg hr =>
  ⟨Nat.le_trans hs.1 hg.size, fun k hk h1 h2 => (hg.block k (Nat.lt_of_lt_of_le hk hs.1) (fun e => by have := (hr k e.symm).1; omega)).trans (hs.2 k hk h1 h2)⟩
theorem setCell_grown0 (W : World) (a : Addr) (v : Value) : W.grownBy (W.setCell a v) (some a.block) :=
  ⟨rfl, rfl, rfl, (KeepsWalks.setCell W _ v).size, fun k _ hk => Below.heap_setCell _ _ _ k (fun e => hk (by rw [e]))⟩
theorem Kept2.put {g b : Nat} {W0 W : World} (h : Kept2 g b W0 W) (a : Addr) (v : Value) (ha : a.block = g ∨ a.block = b) : Kept2 g b W0 (W.setCell a v) :=
  ⟨Nat.le_trans h.1 (setCell_grown0 W a v).size, fun k hk h1 h2 => (Below.heap_setCell _ _ _ k (fun e => by rcases ha with ha | ha <;> omega)).trans (h.2 k hk h1 h2)⟩
theorem Kept2.alloc {g b : Nat} {W0 W : World} (h : Kept2 g b W0 W) (o : Obj) : Kept2 g b W0 (W.alloc o) :=
  ⟨Nat.le_trans h.1 (by simp), fun k hk h1 h2 => (Below.heap_alloc _ _ _ (Nat.lt_of_lt_of_le hk h.1)).trans (h.2 k hk h1 h2)⟩
theorem Kept2.boxed {g b B : Nat} {W0 W : World} {t : TypeId} {v : Value} (h : Kept2 g b W0 W) (hb : Boxed W0 B t v) (h1 : B ≠ g) (h2 : B ≠ b) : Boxed W B t v := (h.2 B hb.lt h1 h2).trans hb
theorem Kept2.rd {g b : Nat} {W0 W : World} {p : Nat} {xs : List Value} (h : Kept2 g b W0 W) (hr : Rd W0 (some ⟨p, 0, none⟩) xs) (h1 : p ≠ g) (h2 : p ≠ b) : Rd W (some ⟨p, 0, none⟩) xs := fun i hi => by
  obtain ⟨a, e, hl, hc⟩ := hr i hi
  cases e
  refine ⟨_, rfl, Nat.lt_of_lt_of_le hl h.1, ?_⟩
  rw [← hc]
  unfold World.cell?
  rw [add_block, h.2 _ hl h1 h2]
/-- what is counted, levels below r being left -/
def StC (V : Nat → Nat) (L : List Nat) (tot : Nat → Nat) (r k : Nat) (O : List Nat) : Prop := match r with
  | 0 => O.length = L.length ∧ ∀ i, i < L.length → O.getD i 0 = tot i
  | j + 1 => Cnt V L tot j k O
theorem stc_own {B bf b g n : Nat} {t e : TypeId} (P : List Nat → Nat → List Nat → Prop) (hg : g < B) (hb : bf < B) : OwnFrom B (fun (pre : List Nat) W => ∃ (k : Nat) (O : List Nat), P pre k O ∧ Boxed W bf t (.int .i64 (k : Nat)) ∧ Arr W b e g n (zs (up O))) := fun pre W W' row ⟨k, O, hP, hx, hA⟩ hgr hr =>
  ⟨k, O, hP, hx.kept hgr (fun e => by have := (hr bf e.symm).1; omega), World.ownsRow.kept hA hgr (.inr (fun e => by have := (hr g (by rw [← e]; rfl)).1; omega))⟩
theorem tot_le {V : Nat → Nat} {L : List Nat} {t : Nat → Nat} {j k : Nat} {O : List Nat} (h : Cnt V L t j k O) {i : Nat} (hi : i < L.length) : O.getD i 0 ≤ t i := by have := h.2.2 i hi; omega
theorem up_set (O : List Nat) (q v : Nat) : (zs (up O)).set q (.int .i64 (v : Nat)) = zs (up (O.set q v)) := by simp [zs, up, List.map_set]
theorem zup_getD (O : List Nat) (k : Nat) (h : k < O.length) : (zs (up O)).getD k (.bool false) = .int .i64 ((O.getD k 0 : Nat) : Int) := by simp [zs, up, h]
set_option maxHeartbeats 8000000 in
set_option maxRecDepth 100000 in
theorem counts_any (ws : List Nat) (ga cap n lm : Nat) (gs : List (Nat × Nat)) (w : World) (hn : n = (lv ws).length) (h2 : 2 ≤ n) (h5 : n ≤ 512) (hlm : 1 ≤ lm) (hlm2 : lm ≤ 15) (hgs : gs.length = lm) (hk : n ≤ 2 ^ (lm - 1 + 1))
    (ho : Rd w (some ⟨ga, 0, none⟩) (ovs (wf ws) (lv ws) gs)) (hl : LvsAt w (wf ws) (lv ws) gs) :
    Calls Try.prog 18 #[.slice (some ⟨ga, 0, none⟩) lm cap, .int .i64 (n : Nat)] w fun e w' => ∃ g c, e = .returned (.slice (some ⟨g, 0, none⟩) n c) ∧ w.heap.size ≤ g ∧ Rd w' (some ⟨g, 0, none⟩) (zs (up ((List.range n).map fun i => len (wf ws) (lv ws) (lm - 1) ((lv ws).getD i 0)))) ∧ Below w.heap.size w w' := by
  obtain ⟨i0, hi0, hz0, hz1, hz2⟩ := info_parts info_int
  have HO := Lib.hid ho; have HL := Lib.hid hl; have HN := Lib.hid hn; have HGS := Lib.hid hgs; have HK := Lib.hid hk
  obtain ⟨f0, hf0⟩ : ∃ x, x = 2 * n - 2 := ⟨_, rfl⟩
  have z1 : (2 : Int) * (n : Int) - 2 = (f0 : Int) := by omega
  obtain ⟨n2, hn2⟩ : ∃ x, x = 2 * n := ⟨_, rfl⟩
  have z2 : (2 : Int) * (n : Int) = (n2 : Int) := by omega
  have z3 : (n2 : Int) - 2 = (f0 : Int) := by omega
  have z4 : IntKind.i64.wrap (n2 : Int) = (n2 : Int) := IntWalk.i64_in _ (by omega)
  have z5 : IntKind.i64.wrap (f0 : Int) = (f0 : Int) := IntWalk.i64_in _ (by omega)
  have HF0 := Lib.hid hf0
  clear ho hl hn hgs hf0 hn2 hk
  refine (callsIn_wide (n := 4)).1 (callsIn_of_wp_marks Try.func18 rfl trivial ?_ rfl)
  simp only [Try.ntmps18, List.size_toArray, List.length_cons, List.length_nil, Nat.reduceAdd, Nat.reduceSub, Array.replicate_succ, Array.replicate_zero, List.push_toArray, List.append_toArray, List.nil_append, List.cons_append]
  refine wpIn_wide.2 ?_
  go_wp2_with (at_make; refine wpList_make_full _ rfl _ _ 23 rfl w.heap.size 3 i0 (.int .i64 0) 1 Try.underlying23 hi0 hz0 hz1 .i64 .i64 ↑n ↑n n rfl rfl rfl rfl ?c1 ?c2 ?c3 ?_)
  case c1 => rw [hz2]; omega
  case c2 => unfold maxLen; omega
  case c3 => simp
  intro w1 hown1 hgr1
  have b1 : Below w.heap.size w w1 := (Below.refl _ _).grown hgr1 (Nat.le_refl _) (by simp)
  rw [toList_madeCells_one] at hown1
  obtain ⟨g, hg⟩ : ∃ g, g = w.heap.size := ⟨_, rfl⟩
  rw [← hg] at hown1 b1
  try rw [← hg]
  obtain ⟨s1, hs1⟩ : ∃ s, s = w1.heap.size := ⟨_, rfl⟩
  have hgs1 : g < s1 := by rw [hs1]; exact (hown1.lt g rfl).2
  have HB := Lib.hid (backward_any (some ⟨ga, 0, none⟩) lm cap)
  have hbx := Lib.hid (And.intro (Boxed.new w1 23 (.slice (some ⟨g, 0, none⟩) n n)) (And.intro (Boxed.new (w1.alloc (.cells #[.slice (some ⟨g, 0, none⟩) n n] 23)) 3 (.int .i64 f0)) (Boxed.new ((w1.alloc (.cells #[.slice (some ⟨g, 0, none⟩) n n] 23)).alloc (.cells #[.int .i64 f0] 3)) 40 (.slice (some ⟨ga, 0, none⟩) lm cap))))
  go_wp2_with fail
  refine (HB.out _).mono ?_
  rintro e w8 ⟨rfl, rfl⟩
  go_wp2_with fail
  try rw [← hg]
  rw [← hs1] at hbx ⊢
  obtain ⟨wA, hwA⟩ : ∃ wA, wA = ((w1.alloc (.cells #[.slice (some ⟨g, 0, none⟩) n n] 23)).alloc (.cells #[.int .i64 f0] 3)).alloc (.cells #[.slice (some ⟨ga, 0, none⟩) lm cap] 40) := ⟨_, rfl⟩
  have hsA : wA.heap.size = s1 + 3 := by rw [hwA, hs1]; simp
  have b1A : Below s1 w1 wA := by rw [hwA, hs1]; exact (((Below.refl _ w1).alloc (Nat.le_refl _) _).alloc (by simp) _).alloc (by simp; omega) _
  have Z5 : Boxed wA s1 23 (.slice (some ⟨g, 0, none⟩) n n) := by rw [hwA]; exact (hbx.out.1.alloc _).alloc _
  have Z6 : Boxed wA (s1 + 1) 3 (.int .i64 f0) := by
    have := hbx.out.2.1.alloc (.cells #[.slice (some ⟨ga, 0, none⟩) lm cap] 40)
    rw [hwA]; simp only [World.size_alloc, ← hs1] at this ⊢; exact this
  have ZX : Boxed wA (s1 + 1 + 1) 40 (.slice (some ⟨ga, 0, none⟩) lm cap) := by
    have := hbx.out.2.2
    rw [hwA]; simp only [World.size_alloc, ← hs1] at this ⊢; exact this
  have hAr : Arr wA g 3 g n (zs (up (List.replicate (lv ws).length 0))) := by
    have h1 := own_belowB hown1 (b1A) (fun k e => by simp [Value.ownBlock] at e; omega)
    have e : zs (up (List.replicate (lv ws).length 0)) = List.replicate n (.int .i64 0) := by rw [HN.out]; simp [zs, up]
    rw [e]; exact h1
  have hbA : Below g w wA := b1.trans (b1A.mono (by omega))
  have X0 := HO.out.below (by rw [← hg]; exact hbA)
  have XL := HL.out.below (by rw [← hg]; exact hbA)
  have hLpos : 0 < (lv ws).length := by rw [← HN.out]; omega
  have hgaL : ga < g := by
    obtain ⟨a, e, hlt, _⟩ := HO.out 0 (by rw [ovs_length, HGS.out]; omega)
    cases e; rw [hg]; exact hlt
  have hgL : ∀ j, j < lm → (gs.getD j (0, 0)).1 < g := fun j hj => by rw [hg]; exact HL.out.lt hLpos (by rw [HGS.out]; exact hj)
  have HZ5 := Lib.hid Z5; have HZ6 := Lib.hid Z6; have HZX := Lib.hid ZX; have HAr := Lib.hid hAr; have HbA := Lib.hid hbA; have HX0 := Lib.hid X0; have HXL := Lib.hid XL; have HgaL := Lib.hid hgaL; have HgL := Lib.hid hgL; have HG := Lib.hid hg; have HsA := Lib.hid hsA
  have TOT : Hid (∀ i, i < n → len (wf ws) (lv ws) (lm - 1) ((lv ws).getD i 0) ≤ 16) := Lib.hid (fun i hi => by
    have hi2 : i < (lv ws).length := by rw [← HN.out]; exact hi
    have := ((len_full (lv_up ws) (lv_nodup ws) (by rw [← HN.out]; exact h2) (by rw [← HN.out]; exact HK.out)).1 (lv ws)[i] (List.getElem_mem hi2)).2
    simp only [List.getD_eq_getElem?_getD, List.getElem?_eq_getElem hi2, Option.getD_some]
    omega)
  obtain ⟨tot, htot⟩ : ∃ tot : Nat → Nat, tot = fun i => len (wf ws) (lv ws) (lm - 1) ((lv ws).getD i 0) := ⟨_, rfl⟩
  have HTOT := Lib.hid htot
  have TOT2 : Hid (∀ i, i < n → tot i ≤ 16) := Lib.hid (fun i hi => by rw [htot]; exact TOT.out i hi)
  have HST : Hid (StC (wf ws) (lv ws) tot lm f0 (List.replicate (lv ws).length 0)) := Lib.hid (by
    obtain ⟨j, rfl⟩ : ∃ j, lm = j + 1 := ⟨lm - 1, by omega⟩
    have := Cnt.start (W := wf ws) (L := lv ws) (j := j) (lev_long j (by rw [← HN.out]; have := HK.out; simpa using this))
    rw [← HN.out] at this
    rw [htot, HF0.out, ← HN.out]
    exact this)
  rw [← hwA]
  clear hwA hbx HB Z5 Z6 ZX hAr hbA X0 XL hLpos hgaL hgL hsA b1A b1 hown1 hgr1 hg hs1 htot TOT
  clear w1
  refine (wpIn_wide (n := 4)).1 ?_
  refine range_told rfl (by omega) (gf := 31) (lb := #[.pointer (some ⟨s1 + 1 + 1, 0, none⟩)]) rfl trivial back_enters
    (back_tells (s1 + 1 + 1) ga lm cap (fun j => .slice (some ⟨(gs.getD j (0, 0)).1, 0, none⟩) (lev (wf ws) (lv ws) j).length (gs.getD j (0, 0)).2) (by omega)) (fun _ => rfl)
    (fun pre W => Kept2 g (s1 + 1) wA W ∧ Below g w W ∧ ∃ (k : Nat) (O : List Nat), (StC (wf ws) (lv ws) tot (lm - pre.length) k O ∧ k ≤ 4096) ∧ Boxed W (s1 + 1) 3 (.int .i64 (k : Nat)) ∧ Arr W g 3 g n (zs (up O)))
    ((kept2_own (Nat.le_refl _)).and ((ownFrom_below (by rw [HG.out]; exact Nat.le_refl _) (by rw [HsA.out]; omega)).and (stc_own _ (by rw [HsA.out]; omega) (by rw [HsA.out]; omega))))
    (fun pre W h => ⟨(h.1.boxed HZX.out (by omega) (by omega)).cell, fun j hj => by
      have := (h.1.rd HX0.out (by have := HgaL.out; omega) (by have := HgaL.out; omega)).at (i := j) (by rw [ovs_length, HGS.out]; exact hj)
      rw [Addr.add_lit, Nat.zero_add, ovs_at _ _ _ (by rw [HGS.out]; exact hj)] at this
      exact this⟩)
    ⟨Kept2.refl _ _ _, HbA.out, f0, _, ⟨by rw [List.length_nil, Nat.sub_zero]; exact HST.out, by omega⟩, HZ6.out, HAr.out⟩
    (fun j => { tmps := #[.slice (some ⟨ga, 0, none⟩) lm cap, .int .i64 (n : Nat), undef, undef, .slice none 0 0, .pointer (some ⟨s1, 0, none⟩), .pointer (some ⟨s1 + 1, 0, none⟩), undef, .slice (some ⟨(gs.getD j (0, 0)).1, 0, none⟩) (lev (wf ws) (lv ws) j).length (gs.getD j (0, 0)).2, undef, undef, undef, .int .i64 (n : Nat), .slice (some ⟨g, 0, none⟩) n n, .int .i64 (n : Nat), .int .i64 (n2 : Nat), .int .i64 (f0 : Nat), .slice (some ⟨ga, 0, none⟩) lm cap, .func (.func 31) #[] #[.pointer (some ⟨s1 + 1 + 1, 0, none⟩)], .int .i64 (j : Nat), .slice (some ⟨(gs.getD j (0, 0)).1, 0, none⟩) (lev (wf ws) (lv ws) j).length (gs.getD j (0, 0)).2, undef, undef, undef, undef, undef, undef, undef, undef, undef, undef, undef, undef, undef, undef, undef, undef, undef, undef, undef, undef, undef, undef, undef, undef], defers := [] }) ?assign ?body ?done
  case assign =>
    intro lp j W K hK
    gi_wp2
    exact hK
  case body =>
    intro lp pre j rest W hx hI
    obtain ⟨hK2, hBw, k, O, ⟨hS, hk4⟩, h6, hA⟩ := hI
    obtain ⟨hj1, hj2, -⟩ := downs_at hx
    have hr : lm - pre.length = j + 1 := by omega
    rw [hr] at hS
    have HC : Hid (Cnt (wf ws) (lv ws) tot j k O) := Lib.hid hS
    obtain ⟨T, hT⟩ : ∃ T, T = lev (wf ws) (lv ws) j := ⟨_, rfl⟩
    have HTT := Lib.hid hT
    have hrT := hK2.rd (HXL.out j (by rw [HGS.out]; exact hj1)).1 (by have := HgL.out j hj1; omega) (by have := HgL.out j hj1; omega)
    have hcT := (HXL.out j (by rw [HGS.out]; exact hj1)).2
    have hgt := HgL.out j hj1
    have hkT := hS.2.1
    have hOl := hS.1
    have hlT := lfc_lev (wf ws) (lv ws) j
    rw [← hT] at hrT hcT hkT hlT ⊢
    obtain ⟨gt, hgt2⟩ : ∃ x, x = (gs.getD j (0, 0)).1 := ⟨_, rfl⟩
    obtain ⟨ct, hct2⟩ : ∃ x, x = (gs.getD j (0, 0)).2 := ⟨_, rfl⟩
    have hrA := (HXL.out j (by rw [HGS.out]; exact hj1)).1
    rw [← hgt2] at hrT hgt hrA
    rw [← hT] at hrA
    have HRA := Lib.hid hrA
    rw [← hct2] at hcT
    rw [← hgt2, ← hct2]
    rw [← HN.out] at hOl hlT
    have HR := Lib.hid hrT; have HLT := Lib.hid hlT; have HOL := Lib.hid hOl
    have HLEN : Hid (k ≤ T.length) := Lib.hid hkT
    have OB : Hid (∀ q, q < n → O.getD q 0 ≤ 16) := Lib.hid (fun q hq => Nat.le_trans (tot_le HC.out (by rw [← HN.out]; exact hq)) (TOT2.out q hq))
    have HFIN : Hid (∀ W', Kept2 g (s1 + 1) wA W' → Below g w W' → Boxed W' (s1 + 1) 3 (.int .i64 ((2 * (k - lfc (T.take k)) : Nat) : Int)) → Arr W' g 3 g n (zs (up (bump O (lfc (T.take k))))) →
        Kept2 g (s1 + 1) wA W' ∧ Below g w W' ∧ ∃ (k : Nat) (O : List Nat), (StC (wf ws) (lv ws) tot (lm - (pre ++ [j]).length) k O ∧ k ≤ 4096) ∧ Boxed W' (s1 + 1) 3 (.int .i64 (k : Nat)) ∧ Arr W' g 3 g n (zs (up O))) := Lib.hid (fun W' a1 a2 a3 a4 => by
      refine ⟨a1, a2, _, _, ⟨?_, ?_⟩, a3, a4⟩
      · rw [show lm - (pre ++ [j]).length = j by simp; omega]
        cases j with
        | zero =>
          have := HC.out.low (lv_nodup ws)
          rw [← HTT.out] at this
          exact this
        | succ j =>
          have := HC.out.step (lv_up ws) (lv_nodup ws)
          rw [← HTT.out] at this
          unfold nxt at this
          rw [← HTT.out] at this
          exact this
      · cases j with
        | zero =>
          have h1 : k ≤ n := by have := HLEN.out; rw [HTT.out] at this; simpa [lev, ← HN.out] using this
          omega
        | succ j =>
          have := (step_up (lv_up ws) (W := wf ws) (L := lv ws) (j := j) (k := k) (by rw [← HTT.out]; exact HLEN.out) 0).2
          unfold nxt at this
          rw [← HTT.out] at this
          have h3 := lev_le (wf ws) (lv ws) j
          rw [← HN.out] at h3
          omega)
    have h5' := hK2.boxed HZ5.out (by omega) (by omega)
    have c6 := h6.cell
    have d1 : (0 : Int) ≤ (k : Int) := by omega
    have d2 : (k : Int) ≤ (ct : Int) := by omega
    have HK2 := Lib.hid hK2; have HBw := Lib.hid hBw; have H6 := Lib.hid h6; have HA := Lib.hid hA
    have KF : Hid (KeepsFrom wA.heap.size W W) := Lib.hid (KeepsFrom.refl _ _)
    have HS3 : Hid (wA.heap.size = s1 + 3) := HsA
    clear hrA hx hS hT hK2 hBw h6 hA hgt2 hct2 hrT hkT hOl hlT hcT h5'
    gi_wp2
    gi_loopw [9, 25] (fun vl vi wr => ∃ t : Nat, t ≤ k ∧ vi = .int .i64 (t : Nat) ∧ vl = .int .i64 ((lfc (T.take t) : Nat) : Int) ∧ Hid (Kept2 g (s1 + 1) wA wr) ∧ Hid (Below g w wr) ∧ Hid (Boxed wr (s1 + 1) 3 (.int .i64 (k : Nat))) ∧ Hid (Arr wr g 3 g n (zs (up (bump O (lfc (T.take t)))))) ∧ Hid (KeepsFrom wA.heap.size W wr)) (fun _ i _ => k - (intOf i).toNat)
    case atStart => exact ⟨0, Nat.zero_le _, rfl, rfl, HK2, HBw, H6, by rw [List.take_zero]; show Hid (Arr W g _ g n (zs (up (bump O 0)))); rw [bump_zero]; exact HA, KF⟩
    case round =>
      clear HA H6 HBw HK2 KF c6
      obtain ⟨t, htk, rfl, rfl, HK2, HBw, H6, HA, KF⟩ := hrel
      have hwA : wA.heap.size ≤ wr.heap.size := HK2.out.1
      by_cases hlt : t < k
      · have htT : t < T.length := by have := HLEN.out; omega
        have hsucc := lfc_succ htT
        have hqn : lfc (T.take (t + 1)) ≤ n := by rw [← HLT.out]; exact lfc_le T (t + 1)
        obtain ⟨cw, cl⟩ := pk_cell (HK2.out.rd HRA.out (by omega) (by omega)) htT
        obtain ⟨x, hx⟩ : ∃ x, x = T[t].wt (wf ws) := ⟨_, rfl⟩
        obtain ⟨q, hq⟩ : ∃ q, q = lfc (T.take t) := ⟨_, rfl⟩
        rw [← hx] at cw
        rw [← hq] at HA hsucc ⊢
        have k0 : (0 : Int) ≤ (t : Int) := by omega
        have k1 : (t : Int) < (k : Int) := by omega
        have hq2 := Lib.hid hq
        have hA0 : Below wr.heap.size wr (wr.alloc (.cells #[.int .u64 (x : Nat), .bool (leaf T[t])] 55)) := (Below.refl _ _).alloc (Nat.le_refl _) _
        have HK3 := Lib.hid (HK2.out.alloc (.cells #[.int .u64 (x : Nat), .bool (leaf T[t])] 55))
        have HB3 : Hid (Below g w (wr.alloc (.cells #[.int .u64 (x : Nat), .bool (leaf T[t])] 55))) := Lib.hid (HBw.out.alloc (by have := HS3.out; omega) _)
        have H63 := Lib.hid (H6.out.alloc (.cells #[.int .u64 (x : Nat), .bool (leaf T[t])] 55))
        have HA3 := Lib.hid (HA.out.below hA0)
        have KF3 : Hid (KeepsFrom wA.heap.size W (wr.alloc (.cells #[.int .u64 (x : Nat), .bool (leaf T[t])] 55))) := Lib.hid (KF.out.trans ((KeepsOthers.alloc _ _).from _))
        have c5 := (HK3.out.boxed HZ5.out (by omega) (by omega)).cell
        have hmes : t < k := hlt
        clear hx hq hA0
        cases hlf : leaf T[t] with
        | true =>
          rw [hlf] at cl HK3 HB3 H63 HA3 KF3 c5 hsucc
          rw [if_pos rfl] at hsucc
          have hqlt : q < n := by omega
          have cq := HA3.out.cell hqlt
          have fq := HA3.out.free q
          rw [zup_getD _ _ (by rw [bump_length, HOL.out]; exact hqlt)] at cq
          have hv := bump_at (O := O) (q := q) (i := q) (by rw [HOL.out]; exact hqlt)
          rw [if_neg (by omega), Nat.add_zero] at hv
          have hvb := OB.out q hqlt
          have HBS := Lib.hid (bump_succ (O := O) (q := q) (by rw [HOL.out]; exact hqlt))
          obtain ⟨v, hv2⟩ : ∃ v, v = (bump O q).getD q 0 := ⟨_, rfl⟩
          rw [← hv2] at cq hv HBS
          have hvl : v ≤ 16 := by omega
          obtain ⟨v1, hv1⟩ : ∃ v1, v1 = v + 1 := ⟨_, rfl⟩
          rw [← hv1] at HBS
          have y1 : (v : Int) + 1 = (v1 : Int) := by omega
          have y2 : IntKind.i64.wrap (v1 : Int) = (v1 : Int) := IntWalk.i64_in _ (by omega)
          have y3 : (0 : Int) ≤ (q : Int) := by omega
          have y4 : (q : Int) < (n : Int) := by omega
          obtain ⟨q1, hq1⟩ : ∃ q1, q1 = q + 1 := ⟨_, rfl⟩
          have y5 : (q : Int) + 1 = (q1 : Int) := by omega
          have y6 : IntKind.i64.wrap (q1 : Int) = (q1 : Int) := IntWalk.i64_in _ (by omega)
          have HQ1 : Hid (q1 = lfc (T.take (t + 1))) := Lib.hid (by rw [hsucc, hq1])
          have HQS : Hid (q1 = q + 1) := Lib.hid hq1
          have E1 := Lib.hid (HK3.out.put ⟨g, q, none⟩ (.int .i64 (v1 : Nat)) (.inl rfl))
          have E2 := Lib.hid (below_put HB3.out (a := ⟨g, q, none⟩) (Nat.le_refl _) (.int .i64 (v1 : Nat)))
          have E3 := Lib.hid (H63.out.kept (setCell_grown0 _ ⟨g, q, none⟩ (.int .i64 (v1 : Nat))) (fun e => absurd (Option.some.inj e) (by show s1 + 1 ≠ g; omega)))
          have E4 := HA3.out.set q (.int .i64 (v1 : Nat))
          rw [up_set, HBS.out, ← HQS.out] at E4
          have E4 := Lib.hid E4
          have E5 : Hid (KeepsFrom wA.heap.size W ((wr.alloc (.cells #[.int .u64 (x : Nat), .bool true] 55)).setCell ⟨g, q, none⟩ (.int .i64 (v1 : Nat)))) := Lib.hid (KF3.out.trans (KeepsFrom.of_grownBy (setCell_grown0 _ ⟨g, q, none⟩ _) (fun j e => by cases e; show g < wA.heap.size; rw [HS3.out]; omega)))
          clear hsucc hv hv2 hv1 hq1 hlf HK3 HB3 H63 HA3 KF3 HBS hvb hqn hqlt
          gi_wp2
          go_roundw
          case rel => exact ⟨t + 1, by omega, by go_num, by rw [HQ1.out], E1, E2, E3, by rw [← HQ1.out]; exact E4, E5⟩
          case measure => simp [intOf]; omega
        | false =>
          rw [hlf] at cl HK3 HB3 H63 HA3 KF3 c5 hsucc
          rw [if_neg (by simp), Nat.add_zero] at hsucc
          have HQ1 : Hid (q = lfc (T.take (t + 1))) := Lib.hid hsucc.symm
          clear hsucc hlf hqn
          gi_wp2
          go_roundw
          case rel => exact ⟨t + 1, by omega, by go_num, by rw [HQ1.out], HK3, HB3, H63, by rw [← HQ1.out]; exact HA3, KF3⟩
          case measure => simp [intOf]; omega
      · obtain rfl : t = k := by omega
        have hqk : lfc (T.take t) ≤ t := by have := lfc_len (T.take t); rw [List.length_take] at this; omega
        have FIN := Lib.hid (HFIN.out)
        obtain ⟨q, hq⟩ : ∃ q, q = lfc (T.take t) := ⟨_, rfl⟩
        rw [← hq] at HA HFIN hqk ⊢
        have c6 := H6.out.cell
        have f6 := H6.out.frozen
        have k1 : ¬ (t : Int) < (t : Int) := by omega
        obtain ⟨u, hu⟩ : ∃ u, u = t - q := ⟨_, rfl⟩
        rw [← hu] at HFIN
        have y1 : (t : Int) - (q : Int) = (u : Int) := by omega
        have y2 : IntKind.i64.wrap (u : Int) = (u : Int) := IntWalk.i64_in _ (by omega)
        obtain ⟨u2, hu2⟩ : ∃ u2, u2 = 2 * u := ⟨_, rfl⟩
        rw [← hu2] at HFIN
        have y3 : (2 : Int) * (u : Int) = (u2 : Int) := by omega
        have y4 : IntKind.i64.wrap (u2 : Int) = (u2 : Int) := IntWalk.i64_in _ (by omega)
        have E1 := HK2.out.put ⟨s1 + 1, 0, none⟩ (.int .i64 (u2 : Nat)) (.inr rfl)
        have E2 := below_put HBw.out (a := ⟨s1 + 1, 0, none⟩) (by show g ≤ s1 + 1; omega) (.int .i64 (u2 : Nat))
        have E3 := H6.out.set (.int .i64 (u2 : Nat))
        have E4 := HA.out.other (a := ⟨s1 + 1, 0, none⟩) (by show s1 + 1 ≠ g; omega) (.int .i64 (u2 : Nat))
        have E5 : Hid (KeepsFrom wA.heap.size W (wr.setCell ⟨s1 + 1, 0, none⟩ (.int .i64 (u2 : Nat)))) := Lib.hid (KF.out.trans (KeepsFrom.of_grownBy (setCell_grown0 _ ⟨s1 + 1, 0, none⟩ _) (fun j e => by cases e; show s1 + 1 < wA.heap.size; rw [HS3.out]; omega)))
        have FF := Lib.hid (HFIN.out _ E1 E2 E3 E4)
        clear E1 E2 E3 E4 hu hu2 hq hqk FIN HFIN hlt
        gi_wp2
        exact ⟨rfl, E5.out, FF.out⟩
  case done =>
    rintro D W hD ⟨hK2, hBw, k, O, ⟨hS, hk4⟩, h6, hA⟩ hDf
    rw [downs_length, Nat.sub_self] at hS
    have c5 := (hK2.boxed HZ5.out (by omega) (by omega)).cell
    have HS0 : Hid (O = (List.range n).map fun i => len (wf ws) (lv ws) (lm - 1) ((lv ws).getD i 0)) := Lib.hid (by
      obtain ⟨e1, e2⟩ := hS
      apply List.ext_getElem
      · rw [e1, List.length_map, List.length_range, HN.out]
      · intro i h1 h3
        have := e2 i (by rw [← e1]; exact h1)
        rw [HTOT.out, List.getD_eq_getElem?_getD, List.getElem?_eq_getElem h1, Option.getD_some] at this
        rw [this]
        simp)
    have HA := Lib.hid hA; have HBw := Lib.hid hBw; have HD := Lib.hid hD; have HDf := Lib.hid hDf
    clear hK2 hBw hS h6 hA hD hDf
    go_wp2_with fail
    refine ⟨by simp, .inl ⟨_, _, rfl, run_takeDeferred HDf.out, ?_⟩⟩
    have hb2 := HBw.out.trans (belowK_b (w := wA) (n₀ := g) (by rw [HsA.out]; omega) W D _ (.deferred none) HD.out HDf.out rfl rfl)
    have hA2 : Arr (W.putObj D (.deferred none)) g 3 g n (zs (up O)) := World.ownsRow.kept HA.out (grownBy_putObj' _ D (.deferred none)) (.inr (fun e => by
      have : g = D := by simpa [Value.ownBlock] using e
      have := HD.out; have := HsA.out; omega))
    refine ⟨.slice (some ⟨g, 0, none⟩) n n, by simp [results, Try.results18, go_sem], ?_⟩
    exact ⟨g, n, rfl, by rw [HG.out]; exact Nat.le_refl _, by rw [← HS0.out]; exact hA2.rd, by rw [← HG.out]; exact hb2⟩
end Go.Proofs.Ytbegngilbngnoaa.Ps

/- the empty list, made less names that are all unlike tell the order by themselves the order of a level's ends -/
import Derived.Test.YtonlbcibfbbpgaaSkPH
import Derived.Test.YtonlbcibfbbpgaaSkPL
import Derived.Test.YtonlbcibfbbpgaaOrdPInv
namespace Go.Proofs.Ytonlbcibfbbpgaa.Sk
open Go.RowKit Go.Lib Go.Sort Rw Ls Od _root_.Go.Proofs.Ytonlbcibfbbpgaa.Nm

set_option maxHeartbeats 8000000 in
set_option maxRecDepth 100000 in
theorem reduce0_any (p q : Option Addr) (c d : Nat) (w : World) :
    Calls Try.prog 28 #[.agg #[.slice p 0 c, .slice q 0 d]] w (ReP w []) := by
  obtain ⟨i0, hi0, hz0, hz1, hz2⟩ := info_parts info_u64
  have hb0 : RowKit.Below w.heap.size w (w.alloc (.cells #[.slice p 0 c, .slice q 0 d] 44)) := (RowKit.Below.refl _ w).alloc (Nat.le_refl _) _
  have C1 := Lib.hid (triplesP_any [] p q 0 c 0 d (w.alloc (.cells #[.slice p 0 c, .slice q 0 d] 44)) rfl (by omega) (by decide) (fun i hi => absurd hi (by simp [nums])) (fun i hi => absurd hi (by rw [show places 0 = [] by decide]; simp [zs, up])))
  have HB0 := Lib.hid hb0
  have HML : Hid (mm ([] : List Nat).length = 0) := Lib.hid (by decide)
  clear hb0
  go_enter Try.func28, Try.ntmps28
  go_wp2_with fail
  refine C1.out.mono ?_
  rintro e w1 ⟨g, cg, rfl, hcg, hR, hg, hb1⟩
  rw [HML.out] at hcg ⊢
  rw [World.size_alloc] at hg
  have B1 : Hid (RowKit.Below w.heap.size w w1) := Lib.hid (HB0.out.trans (hb1.mono (by rw [World.size_alloc]; omega)))
  have HV := Lib.hid (fun w => values_any (some ⟨g, 0, none⟩) 0 cg w)
  clear hR hb1 hg C1 HB0
  go_wp2_with fail
  refine (HV.out _).mono ?_
  rintro e w2 ⟨rfl, rfl⟩
  have b2 : RowKit.Below w1.heap.size w1 (w1.alloc (.cells #[.slice (some ⟨g, 0, none⟩) 0 cg] 47)) := (RowKit.Below.refl _ w1).alloc (Nat.le_refl _) _
  have C2 := Lib.hid (sortedf0_any w1.heap.size cg (some ⟨g, 0, none⟩) (w1.alloc (.cells #[.slice (some ⟨g, 0, none⟩) 0 cg] 47)) (by rw [World.size_alloc]; omega) (Boxed.new w1 47 _).cell)
  have B2 : Hid (RowKit.Below w.heap.size w (w1.alloc (.cells #[.slice (some ⟨g, 0, none⟩) 0 cg] 47))) := Lib.hid (B1.out.trans (b2.mono B1.out.size))
  clear HV B1 b2
  go_wp2_with fail
  generalize w1.alloc (.cells #[.slice (some ⟨g, 0, none⟩) 0 cg] 47) = w2 at C2 B2 ⊢
  refine C2.out.mono ?_
  rintro e w3 ⟨r3, c3, rfl, hb3⟩
  have B3 : Hid (RowKit.Below w.heap.size w w3) := Lib.hid (B2.out.trans (hb3.mono B2.out.size))
  have C3 := Lib.hid (compact0_any r3 c3 w3)
  clear hb3 C2 B2
  go_wp2_with fail
  refine C3.out.mono ?_
  rintro e w4 ⟨rfl, rfl⟩
  clear C3
  go_wp2_with (at_make; refine wpList_make_own _ rfl _ _ 42 rfl w4.heap.size 41 i0 (.int .u64 0) 1 Try.underlying42 hi0 hz0 hz1 .i64 .i64 0 0 rfl rfl rfl ?c1 ?c2 ?c3 ?_)
  case c1 => rw [hz2]; omega
  case c2 => unfold maxLen; omega
  case c3 => simp
  intro w5 hown5 hgr5
  have b5 : RowKit.Below w4.heap.size w4 w5 := (RowKit.Below.refl _ w4).grown hgr5 (Nat.le_refl _) (by simp)
  have B5 : Hid (RowKit.Below w.heap.size w w5) := Lib.hid (B3.out.trans (b5.mono B3.out.size))
  have F : Hid (ReP w [] (.returned (.tuple #[.slice (some ⟨w4.heap.size, 0, none⟩) 0 0, .int .i64 0])) w5) := Lib.hid ⟨_, 0, by rw [HML.out]; rfl, by rw [HML.out]; exact Nat.le_refl _, fun i hi => absurd hi (by rw [show red [] = [] by decide]; simp [nums]), fun a e => by cases e; exact B3.out.size, B5.out⟩
  clear hown5 hgr5 b5 B5 B3
  go_wp2_with fail
  go_loopw [6, 22] (fun v i wr => v = .slice (some ⟨w4.heap.size, 0, none⟩) 0 0 ∧ i = .int .i64 0 ∧ wr = w5) (fun _ _ _ => 0)
  case atStart => exact ⟨rfl, rfl, rfl⟩
  case round =>
    obtain ⟨rfl, rfl, rfl⟩ := hrel
    go_wp2_with fail
    refine bodyPost_ret (v := .tuple #[.slice (some ⟨w4.heap.size, 0, none⟩) 0 0, .int .i64 0]) (by simp [results, Try.results28, go_sem]) rfl ?_
    exact F.out
end Go.Proofs.Ytonlbcibfbbpgaa.Sk
namespace Go.Proofs.Ytonlbcibfbbpgaa.Sk
open Go.RowKit Go.Lib Go.Sort Rw Ls Od _root_.Go.Proofs.Ytonlbcibfbbpgaa.Nm

theorem all_first {l : List Nat} (h : many l = mm l.length) : ∀ j, j < mm l.length → first (trips l) j = true := by
  rw [many_is] at h
  have hl := trips_length l
  have h2 : ((List.range (trips l).length).filter fun j => first (trips l) j).length = (List.range (trips l).length).length := by
    rw [List.length_range]; exact h.trans hl.symm
  have h3 := List.length_filter_eq_length_iff.1 h2
  intro j hj
  exact h3 j (List.mem_range.2 (by omega))
theorem red_nodup {l : List Nat} (h : many l = mm l.length) {i j : Nat} (hij : i < j) (hj : j < mm l.length) : (red l).getD i 0 ≠ (red l).getD j 0 := by
  intro e
  have hl := trips_length l
  rw [red_at l i (by omega), red_at l j hj] at e
  have m1 : triple l (pl l.length i) ∈ trips l := by
    rw [← trips_at l i (by omega), List.getD_eq_getElem?_getD, List.getElem?_eq_getElem (by omega)]; exact List.getElem_mem _
  have m2 : triple l (pl l.length j) ∈ trips l := by
    rw [← trips_at l j hj, List.getD_eq_getElem?_getD, List.getElem?_eq_getElem (by omega)]; exact List.getElem_mem _
  have e2 := nameOf_inj m1 m2 e
  have hf := all_first h j hj
  unfold first at hf
  refine (of_decide_eq_true hf) ?_
  rw [trips_at l j hj, ← e2, ← trips_at l i (by omega), List.getD_eq_getElem?_getD, List.getElem?_eq_getElem (by omega), Option.getD_some]
  exact List.mem_take_iff_getElem.2 ⟨i, by omega, rfl⟩
/-- the rows: one less than the names -/
def rowR (l : List Nat) : List Nat := (red l).map fun x => x - 1
theorem rowR_length (l : List Nat) : (rowR l).length = mm l.length := by rw [rowR, List.length_map, red_length]
theorem rowR_at (l : List Nat) (i : Nat) : (rowR l).getD i 0 = (red l).getD i 0 - 1 := by
  simp only [rowR, List.getD_eq_getElem?_getD, List.getElem?_map]
  cases (red l)[i]? <;> rfl
theorem rowR_perm {l : List Nat} (h : many l = mm l.length) : (rowR l).Perm (List.range (mm l.length)) := by
  have hl := red_length l
  have hr := rowR_length l
  have hb : ∀ i, i < mm l.length → 1 ≤ (red l).getD i 0 ∧ (red l).getD i 0 ≤ many l := fun i hi => by
    rw [gd (by omega)]; exact red_bound (List.getElem_mem _)
  refine nodup_perm _ _ (List.pairwise_iff_getElem.2 fun i j hi hj hij => ?_) (fun x hx => ?_) hr
  · rw [← gd hi, ← gd hj, rowR_at, rowR_at]
    have := red_nodup h hij (by omega)
    have := hb i (by omega)
    have := hb j (by omega)
    omega
  · obtain ⟨i, hi, rfl⟩ := List.getElem_of_mem hx
    rw [← gd hi, rowR_at]
    have := hb i (by omega)
    omega
theorem inv_red {l : List Nat} (h : many l = mm l.length) : invL (up (rowR l)) = ends (red l) := by
  have hp := rowR_perm h
  have hr := rowR_length l
  have hl := red_length l
  obtain ⟨M, hM, hlM, hat⟩ := inv_perm (P := rowR l) (by rw [hr]; exact hp)
  rw [(inv_yes hM).1]
  obtain ⟨_, _, q3, q4⟩ := perm_getD hp
  rw [hr] at hlM hat q3 q4
  have hb : ∀ i, i < mm l.length → 1 ≤ (red l).getD i 0 := fun i hi => by
    rw [gd (by omega)]; exact (red_bound (List.getElem_mem _)).1
  have hin : ∀ x, x < mm l.length → ∃ j, j < mm l.length ∧ (rowR l).getD j 0 = x ∧ M.getD x 0 = j := fun x hx => by
    obtain ⟨j, hj, e⟩ := q4 x hx
    exact ⟨j, hj, e, by rw [← e]; exact hat j hj⟩
  refine ends_one (nodup_perm _ _ (List.pairwise_iff_getElem.2 fun i j hi hj hij => ?_) (fun x hx => ?_) (by omega)) (List.pairwise_iff_getElem.2 fun i j hi hj hij => ?_)
  · rw [← gd hi, ← gd hj]
    obtain ⟨a, _, ha, e1⟩ := hin i (by omega)
    obtain ⟨b, _, hb2, e2⟩ := hin j (by omega)
    rw [e1, e2]
    intro e
    rw [e] at ha
    omega
  · obtain ⟨i, hi, rfl⟩ := List.getElem_of_mem hx
    rw [← gd hi]
    obtain ⟨a, h1, ha, e1⟩ := hin i (by omega)
    omega
  · rw [← gd hi, ← gd hj]
    obtain ⟨a, h1, ha, e1⟩ := hin i (by omega)
    obtain ⟨b, h2, hb2, e2⟩ := hin j (by omega)
    rw [e1, e2, lt_step (red l) a b (by omega) (by omega)]
    rw [rowR_at] at ha hb2
    have := hb a h1
    have := hb b h2
    rw [decide_eq_true (show (red l).getD a 0 < (red l).getD b 0 by omega)]
    rfl
theorem pos_red (l : List Nat) : Pos (red l) := fun _ hx => (red_bound hx).1
/-- names are at most as many as the reduced list is long -/
theorem many_le (l : List Nat) : many l ≤ mm l.length := by
  rw [many_is]
  have : (firsts (trips l)).length ≤ (List.range (trips l).length).length := List.length_filter_le _ _
  rw [List.length_range, trips_length] at this
  exact this
/-- one number alone has one name -/
theorem many_one {l : List Nat} (h : l.length = 1) : many l = mm l.length := by
  have e : mm 1 = 1 := by decide
  have h1 := many_le l
  rw [h, e] at h1 ⊢
  have h2 : 0 < (red l).length := by rw [red_length, h, e]; exact Nat.one_pos
  have h3 := red_bound (List.getElem_mem h2)
  omega
theorem mm_lt {n : Nat} (h : 2 ≤ n) : mm n < n := by unfold mm top; split <;> omega
end Go.Proofs.Ytonlbcibfbbpgaa.Sk
namespace Go.Proofs.Ytonlbcibfbbpgaa.Sk
open Go.RowKit Go.Lib Go.Sort Rw Ls Od _root_.Go.Proofs.Ytonlbcibfbbpgaa.Nm

/-- what stands while ends walks -/
def EnB (w : World) (l : List Nat) (p q r : Option Addr) (n c m d : Nat) (W : World) : Prop := RowKit.Below w.heap.size w W ∧ w.heap.size < W.heap.size ∧ Rd W p (nums l) ∧ Rd W q (zs (up (places n))) ∧ Rd W r (nums (red l)) ∧ W.cell? ⟨w.heap.size, 0, none⟩ = some (.slice p n c) ∧ W.cell? ⟨w.heap.size, 1, none⟩ = some (.slice q m d)
theorem EnB.below {w : World} {l : List Nat} {p q r : Option Addr} {n c m d : Nat} {W W' : World} (h : EnB w l p q r n c m d W) (hb : RowKit.Below W.heap.size W W') : EnB w l p q r n c m d W' := by
  obtain ⟨h1, h2, h3, h4, h5, h6, h7⟩ := h
  exact ⟨h1.trans (hb.mono (Nat.le_of_lt h2)), Nat.lt_of_lt_of_le h2 hb.size, h3.below hb, h4.below hb, h5.below hb, by rw [hb.cell (p := ⟨w.heap.size, 0, none⟩) h2]; exact h6, by rw [hb.cell (p := ⟨w.heap.size, 1, none⟩) h2]; exact h7⟩
theorem EnB.rd {w : World} {l : List Nat} {p q r : Option Addr} {n c m d : Nat} {W : World} (h : EnB w l p q r n c m d W) : Rd W r (nums (red l)) := h.2.2.2.2.1
theorem EnB.rdp {w : World} {l : List Nat} {p q r : Option Addr} {n c m d : Nat} {W : World} (h : EnB w l p q r n c m d W) : Rd W p (nums l) := h.2.2.1
theorem EnB.rdq {w : World} {l : List Nat} {p q r : Option Addr} {n c m d : Nat} {W : World} (h : EnB w l p q r n c m d W) : Rd W q (zs (up (places n))) := h.2.2.2.1
theorem EnB.fin {w : World} {l : List Nat} {p q r : Option Addr} {n c m d : Nat} {W W' : World} {g : Option Addr} {cap : Nat} (h : EnB w l p q r n c m d W) (hc : l.length ≤ cap) (hr : Rd W' g (zs (up (ends l)))) (hn : NewAt W.heap.size g) (hb : RowKit.Below W.heap.size W W') : XpP w l (.returned (.slice g l.length cap)) W' :=
  ⟨g, cap, rfl, hc, hr, fun a e => Nat.le_trans h.1.size (hn a e), h.1.trans (hb.mono h.1.size)⟩
/-- a row of ints, new -/
def ZP (w : World) (m : Nat) (L : List Nat) (e : Ending) (w' : World) : Prop := ∃ (g : Option Addr) (cap : Nat), e = .returned (.slice g m cap) ∧ m ≤ cap ∧ Rd w' g (zs (up L)) ∧ NewAt w.heap.size g ∧ RowKit.Below w.heap.size w w'
theorem zp_is (w : World) (l : List Nat) (m : Nat) (h : l.length = m) : XpP w l = ZP w m (ends l) := by
  funext e w'
  unfold XpP ZP
  rw [h]
set_option maxHeartbeats 8000000 in
set_option maxRecDepth 100000 in
theorem endsP_any : ∀ (N : Nat) (l : List Nat) (p q : Option Addr) (n c m d : Nat) (w : World), n ≤ N → n = l.length → 0 < n → n ≤ 100000 → m = mm n → Rd w p (nums l) → Rd w q (zs (up (places n))) → Pos l →
    Calls Try.prog 32 #[.agg #[.slice p n c, .slice q m d]] w (XpP w l) := by
  intro N
  induction N with
  | zero => intro l p q n c m d w h1 _ h2; omega
  | succ N ih =>
  intro l p q n c m d w hN hn h0 hl hm hp hq hP
  obtain ⟨i0, hi0, hz0, hz1, hz2⟩ := info_parts info_int
  have hmm : 0 < m ∧ m ≤ n + 1 := by rw [hm]; unfold mm top; split <;> omega
  have hb0 : RowKit.Below w.heap.size w (w.alloc (.cells #[.slice p n c, .slice q m d] 44)) := (RowKit.Below.refl _ w).alloc (Nat.le_refl _) _
  have CR := Lib.hid (reduceP_any l p q n c m d (w.alloc (.cells #[.slice p n c, .slice q m d] 44)) hn hl h0 hm (hp.below hb0) (hq.below hb0))
  have HX := Lib.hid (fun (W : World) (e0 : Option Addr) (ce : Nat) (h1 : Rd W p (nums l)) (h2 : Rd W q (zs (up (places n)))) (h3 : Rd W e0 (zs (up (ends (red l))))) => expandP_any l p q e0 n c m d ce W hn h0 hl hm h1 h2 h3 hP)
  have hrl : (red l).length = m := by rw [red_length, ← hn, hm]
  have HI : Hid (many l < m → ∀ (W : World) (r qq : Option Addr) (cr dd : Nat), Rd W r (nums (red l)) → Rd W qq (zs (up (places m))) → Calls Try.prog 32 #[.agg #[.slice r m cr, .slice qq (mm m) dd]] W (ZP W m (ends (red l)))) := Lib.hid (fun hlt W r qq cr dd h1 h2 => by
    rw [← zp_is W (red l) m hrl]
    have h2n : 2 ≤ n := by
      rcases Nat.lt_or_ge n 2 with h | h
      · have := many_one (l := l) (by omega)
        rw [← hn, ← hm] at this; omega
      · exact h
    have := mm_lt h2n
    exact ih (red l) r qq m cr (mm m) dd W (by omega) hrl.symm hmm.1 (by omega) rfl h1 h2 (pos_red l))
  have HO := Lib.hid (fun (W : World) (r : Option Addr) (cr : Nat) => over_any r m cr W (by omega))
  have HEQ := Lib.hid (fun (h : many l = m) => inv_red (l := l) (by rw [← hn, ← hm]; exact h))
  have HML := Lib.hid (show many l ≤ m by have := many_le l; rw [← hn, ← hm] at this; exact this)
  have HRL := Lib.hid hrl
  have HMN : Hid (mm l.length = m) := Lib.hid (by rw [← hn, hm])
  have HNL := Lib.hid hn
  have HP := Lib.hid (hp.below hb0); have HQ := Lib.hid (hq.below hb0); have HB0 := Lib.hid hb0
  have X0 := Lib.hid (World.alloc_heap_new w (.cells #[.slice p n c, .slice q m d] 44))
  clear ih hn hm hp hq hP hb0 hrl
  go_enter Try.func32, Try.ntmps32
  go_wp2_with fail
  refine CR.out.mono ?_
  rintro e w1 ⟨r, cr, rfl, hcr, hRr, hNr, hb1⟩
  rw [HMN.out] at hcr ⊢
  rw [World.size_alloc] at hNr hb1
  have hBB : EnB w l p q r n c m d w1 := by
    have c0 : (w.alloc (.cells #[.slice p n c, .slice q m d] 44)).cell? ⟨w.heap.size, 0, none⟩ = some (.slice p n c) := (fun (W : World) (h : W.heap[w.heap.size]? = some (.cells #[.slice p n c, .slice q m d] 44 (0, 0))) => show W.cell? ⟨w.heap.size, 0, none⟩ = some (.slice p n c) by simp [World.cell?, h]) _ X0.out
    have c1 : (w.alloc (.cells #[.slice p n c, .slice q m d] 44)).cell? ⟨w.heap.size, 1, none⟩ = some (.slice q m d) := (fun (W : World) (h : W.heap[w.heap.size]? = some (.cells #[.slice p n c, .slice q m d] 44 (0, 0))) => show W.cell? ⟨w.heap.size, 1, none⟩ = some (.slice q m d) by simp [World.cell?, h]) _ X0.out
    rw [← World.size_alloc w (.cells #[.slice p n c, .slice q m d] 44)] at hb1
    exact ⟨HB0.out.trans (hb1.mono (by rw [World.size_alloc]; omega)), Nat.lt_of_lt_of_le (by rw [World.size_alloc]; omega) hb1.size, HP.out.below hb1, HQ.out.below hb1, hRr, by rw [hb1.cell (p := ⟨w.heap.size, 0, none⟩) (by rw [World.size_alloc]; exact Nat.lt_succ_self _)]; exact c0, by rw [hb1.cell (p := ⟨w.heap.size, 1, none⟩) (by rw [World.size_alloc]; exact Nat.lt_succ_self _)]; exact c1⟩
  have HBB := Lib.hid hBB
  clear hRr hb1 hBB CR HP HQ HB0 X0
  by_cases hlt : many l < m
  · have k1 : (many l : Int) < (m : Int) := by omega
    have k2 : decide ((many l : Int) < (m : Int)) = true := decide_eq_true k1
    go_wp2_with fail
    have HK : Hid (∀ W, EnB w l p q r n c m d W → EnB w l p q r n c m d W ∧ W.cell? ⟨w.heap.size, 0, none⟩ = some (.slice p n c) ∧ W.cell? ⟨w.heap.size, 1, none⟩ = some (.slice q m d)) := Lib.hid (fun W h => ⟨h, h.2.2.2.2.2.1, h.2.2.2.2.2.2⟩)
    have HD : Hid (∀ W, EnB w l p q r n c m d W → EnB w l p q r n c m d W.drew) := Lib.hid (fun W h => h.below ⟨rfl, rfl, rfl, Nat.le_refl _, fun _ _ => rfl⟩)
    have HL := Lib.hid (fun (W W' : World) (h : EnB w l p q r n c m d W) (hb : RowKit.Below W.heap.size W W') => h.below hb)
    go_region_held3 (fun W => EnB w l p q r n c m d W ∧ W.cell? ⟨w.heap.size, 0, none⟩ = some (.slice p n c) ∧ W.cell? ⟨w.heap.size, 1, none⟩ = some (.slice q m d)) ((refine HK.out _ ?_; repeat (first | exact HBB.out | assumption | apply HD.out)))
      (first
        | (go_at_call 23; (with_reducible refine (HO.out _ _ _).mono ?_); rintro e wo ⟨q1, d1, rfl, hd1, hq1, hn1, hb1⟩; have hw1 := HL.out _ _ (by repeat (first | exact HBB.out | assumption | apply HD.out)) hb1; clear hb1 hn1)
        | (go_at_call 32; (with_reducible refine (HI.out hlt _ _ _ _ _ (by exact EnB.rd (by repeat (first | assumption | apply HD.out))) (by assumption)).mono ?_); rintro e we ⟨g2, d2, rfl, hd2, hg2, hn2, hb2⟩; have hw2 := HL.out _ _ (by repeat (first | assumption | apply HD.out)) hb2; clear hb2 hn2)
        | (go_at_call 35; (with_reducible refine (HX.out _ _ _ (by exact EnB.rdp (by repeat (first | assumption | apply HD.out))) (by exact EnB.rdq (by repeat (first | assumption | apply HD.out))) (by assumption)).mono ?_); rintro e wx ⟨g3, d3, rfl, hd3, hg3, hn3, hb3⟩; have hfin := Lib.hid (EnB.fin (by repeat (first | assumption | apply HD.out)) hd3 hg3 hn3 hb3); have hw3 := HL.out _ _ (by repeat (first | assumption | apply HD.out)) hb3; clear hb3 hn3 hg3 hd3))
    go_wp2_with fail
    refine bodyPost_ret (by simp [results, Try.results32, go_sem]; rfl) rfl ?_
    exact hfin.out
  · have k1 : ¬ (many l : Int) < (m : Int) := by omega
    have k2 : decide ((many l : Int) < (m : Int)) = false := decide_eq_false k1
    go_wp2_with (at_make; refine wpList_make_own _ rfl _ _ 24 rfl w1.heap.size 3 i0 (.int .i64 0) 1 Try.underlying24 hi0 hz0 hz1 .i64 .i64 (m : Int) m rfl rfl rfl ?c1 ?c2 ?c3 ?_)
    case c1 => rw [hz2]; omega
    case c2 => unfold maxLen; omega
    case c3 => simp
    intro w5 hown5 hgr5
    have b5 : RowKit.Below w1.heap.size w1 w5 := (RowKit.Below.refl _ w1).grown hgr5 (Nat.le_refl _) (by simp)
    obtain ⟨hB, hhB⟩ : ∃ hB, hB = w1.heap.size := ⟨_, rfl⟩
    have Z5 : Hid (hB ≤ w1.heap.size ∧ w.heap.size < hB) := Lib.hid ⟨by rw [hhB]; exact Nat.le_refl _, by rw [hhB]; exact HBB.out.2.1⟩
    have hrb : ∀ k, k < m → ∃ a : Addr, r = some a ∧ a.block < hB ∧ w1.cell? (a.add k) = some (.int .u64 ((red l).getD k 0 : Nat)) := fun k hk => by
      obtain ⟨a, e, hl1, hc⟩ := HBB.out.rd k (by rw [nums_length, HRL.out]; exact hk)
      exact ⟨a, e, by rw [hhB]; exact hl1, by rw [hc, nums_getD _ _ (by rw [HRL.out]; exact hk)]⟩
    have HR5 := Lib.hid hrb
    have HhB := Lib.hid hhB
    rw [← hhB] at hown5 b5 ⊢
    have HO5 : Hid (w5.ownsRow hB 3 1 (.slice (some ⟨hB, 0, none⟩) 0 m) 0 (zs (up ((rowR l).take 0)))) := Lib.hid hown5
    have HB5 : Hid (RowKit.Below hB w1 w5) := Lib.hid b5
    have HWL : Hid ((rowR l).length = m) := Lib.hid (by rw [rowR_length, HMN.out])
    have hml : many l = m := by have := HML.out; omega
    have HNV := Lib.hid (HEQ.out hml)
    have HRB : Hid (∀ k, k < m → 1 ≤ (red l).getD k 0 ∧ (red l).getD k 0 ≤ m) := Lib.hid (fun k hk => by
      have h2 : k < (red l).length := by rw [HRL.out]; exact hk
      have h3 := red_bound (List.getElem_mem h2)
      rw [gd h2]; omega)
    clear hown5 hgr5 b5 hhB hrb k1 k2 hml HO HI
    go_wp2_with fail
    go_loopw [5, 29] (fun v i wr => ∃ (k g6 c6 : Nat), k ≤ m ∧ i = .int .i64 k ∧ v = .slice (some ⟨g6, 0, none⟩) k c6 ∧ Hid (wr.ownsRow hB 3 1 v k (zs (up ((rowR l).take k)))) ∧ Hid (RowKit.Below hB w1 wr)) (fun _ i _ => m - (intOf i).toNat)
    case atStart => exact ⟨0, hB, m, Nat.zero_le _, rfl, rfl, HO5, HB5⟩
    case round =>
      clear HO5 HB5
      obtain ⟨k, g6, c6, hk, rfl, rfl, HO, HB⟩ := hrel
      have hz5 := Z5.out
      have hws := HB.out.size
      by_cases hlt : k < m
      · have k0 : (0 : Int) ≤ (k : Int) := by omega
        have k1 : (k : Int) < (m : Int) := by omega
        obtain ⟨ad, rfl, hab, hc1⟩ := HR5.out k hlt
        obtain ⟨v, hv⟩ : ∃ v, v = (red l).getD k 0 := ⟨_, rfl⟩
        obtain ⟨u, hu⟩ : ∃ u, u = v - 1 := ⟨_, rfl⟩
        have hvb := HRB.out k hlt
        rw [← hv] at hc1 hvb
        have hc : wr.cell? (ad.add k) = some (.int .u64 (v : Nat)) := by rw [← hc1]; exact HB.out.cell (by rw [add_block]; exact hab)
        have HTK : Hid (zs (up ((rowR l).take (k + 1))) = zs (up ((rowR l).take k)) ++ [.int .i64 (u : Nat)]) := Lib.hid (by
          have h2 : k < (rowR l).length := by rw [HWL.out]; exact hlt
          rw [List.take_succ_eq_append_getElem h2, ← gd h2, rowR_at, ← hv, ← hu]
          simp [zs, up])
        have er : (v : Int) - 1 = (u : Int) := by omega
        have wr1 : IntKind.i64.wrap (v : Int) = (v : Int) := by simp [IntKind.wrap, IntKind.bits, IntKind.signed]; omega
        have wr2 : IntKind.i64.wrap (u : Int) = (u : Int) := by simp [IntKind.wrap, IntKind.bits, IntKind.signed]; omega
        have hum : u ≤ m := by omega
        clear hv hu hvb hc1 hab
        go_wp2_with (at_builtin; refine Rw.push rfl _ _ 24 rfl hB 3 i0 (.int .i64 0) 1 8 Try.underlying24 hi0 hz0 hz1 hz2 rfl (by decide) _ _ _ rfl HO.out [.int .i64 (u : Nat)] rfl rfl rfl (by omega) (by omega) (by omega) ?_)
        intro g7 c7 w7 hown7 _ _ _ hgr7
        have H7 : Hid (w7.ownsRow hB 3 1 (.slice (some ⟨g7, 0, none⟩) (k + 1) c7) (k + 1) (zs (up ((rowR l).take (k + 1))))) := Lib.hid (by rw [HTK.out]; exact hown7)
        have HB7 : Hid (RowKit.Below hB w1 w7) := Lib.hid (HB.out.trans hgr7)
        clear hown7 hgr7
        go_wp2_with fail
        go_roundw
        case rel => exact ⟨k + 1, g7, c7, by omega, by first | rfl | go_num, rfl, H7, HB7⟩
        case measure => simp [intOf]; omega
      · obtain rfl : k = m := by omega
        have k1 : ¬ (k : Int) < (k : Int) := by omega
        have hoo := HO.out
        rw [List.take_of_length_le (by rw [HWL.out]; exact Nat.le_refl _)] at hoo
        have hE := HBB.out.below (W' := wr) (by rw [← HhB.out]; exact HB.out)
        have CI := pinverse_any (up (rowR l)) (some ⟨g6, 0, none⟩) c6 wr (Rd.of_own hoo) (by rw [up_length, HWL.out]; omega)
        rw [HNV.out, up_length, HWL.out] at CI
        have HEL : Hid ((ends (red l)).length = k) := Lib.hid (by rw [ends_length, HRL.out])
        have HC := Lib.hid CI
        have HE := Lib.hid hE
        clear hoo hE CI HO HB HR5 HRB HNV HBB hlt
        go_wp2_with fail
        refine HC.out.mono ?_
        rintro e w6 ⟨q6, c7, rfl, hc7, hr6, hn6, _, hb6⟩
        rw [HEL.out] at hc7 ⊢
        have HE6 := Lib.hid (HE.out.below hb6)
        have C3 := Lib.hid (HX.out w6 q6 c7 HE6.out.rdp HE6.out.rdq hr6)
        have a0 := HE6.out.2.2.2.2.2.1
        have a1 := HE6.out.2.2.2.2.2.2
        clear hr6 hn6 hb6 HC HX
        go_wp2_with fail
        refine C3.out.mono ?_
        rintro e w8 ⟨g8, c8, rfl, hc8, hr8, hn8, hb8⟩
        have F := Lib.hid (HE6.out.fin hc8 hr8 hn8 hb8)
        clear hc8 hr8 hn8 hb8 C3 a0 a1
        go_wp2_with fail
        refine bodyPost_ret (v := .slice g8 l.length c8) (by simp [results, Try.results32, go_sem]) rfl ?_
        exact F.out
end Go.Proofs.Ytonlbcibfbbpgaa.Sk

/- the functions of package skew that others call the empty list: its firsts, its expand, its ends; then Ends of the program Expand and Triples of the program Check of the program, its post as the laws ask it. -/
import Derived.Test.YtonlbcibfbbpgaaSkPQ
import Derived.Test.YtonlbcibfbbpgaaSkC
import Derived.Test.YtonlbcibfbbpgaaSkPL
import Derived.Test.YtonlbcibfbbpgaaOrdPRight
namespace Go.Proofs.Ytonlbcibfbbpgaa.Sk
open Go.RowKit Go.Lib Go.Sort Rw Ls Od _root_.Go.Proofs.Ytonlbcibfbbpgaa.Nm

theorem pl_no {W w' : World} {L : List Nat} {r : Int} (h : L = []) (hb : RowKit.Below W.heap.size W w') : PL W L r (.returned (.tuple #[.slice none 0 0, .int .i64 r])) w' := by
  subst h; exact ⟨none, 0, rfl, Nat.le_refl _, fun i hi => absurd hi (by simp [zs, up]), hb⟩
theorem rdp_no {W w' : World} {L : List Nat} {m : Nat} {r : Int} (h : L = []) (hb : RowKit.Below W.heap.size W w') : RdP W L m r (.returned (.tuple #[.slice none 0 0, .int .i64 (m : Nat), .int .i64 r])) w' := by
  subst h; exact ⟨none, 0, rfl, Nat.le_refl _, fun i hi => absurd hi (by simp [nums]), hb⟩
theorem run_samples (a b : Value) (w : World) : (Instr.field 44 (.agg #[a, b]) 1).run Try.prog w = .ok b w := by
  have a1 := Try.isAgg24
  simp [Instr.field, run_underlying Try.underlying44, part, asAgg, a1, go_sem]
set_option maxHeartbeats 8000000 in
set_option maxRecDepth 100000 in
theorem psamples_any (l : List Nat) (p : Option Addr) (c : Nat) (w : World) (hp : Rd w p (nums l)) (hl : l.length ≤ 17592186044416) :
    Calls Try.prog 7 #[.slice p l.length c] w (PL w (smpL l) (smpE l)) := by
  have H := Lib.hid (pchecks_any l p c w hp hl)
  have HO := Lib.hid (fun h => over_any p l.length c w h)
  clear hp hl
  go_enter Try.func7, Try.ntmps7
  go_wp2_with fail
  refine H.out.mono ?_
  rintro e w1 ⟨rfl, rfl⟩
  rcases chk_cases l with ⟨hk, hc⟩ | ⟨hk, hc⟩
  · rw [hc]
    have hlen := ok_len hk
    have C := Lib.hid (HO.out (by omega))
    have HPL := Lib.hid (places_length l.length)
    have HY := Lib.hid (smp_yes hk)
    clear hk hc H HO
    have RF := run_samples
    go_wp2_with fail
    refine C.out.mono ?_
    rintro e w1 ⟨q, d, rfl, hd, hq, hn, hb⟩
    have F : Hid (PL w (smpL l) (smpE l) (.returned (.tuple #[.slice q (mm l.length) d, .int .i64 0])) w1) := Lib.hid (by rw [HY.out.1, HY.out.2]; exact pl_mk HPL.out hd hq hb)
    clear hd hq hn hb C
    go_wp2_with fail
    refine bodyPost_ret (v := .tuple #[.slice q (mm l.length) d, .int .i64 0]) (by simp [results, Try.results7, go_sem]) rfl ?_
    exact F.out
  · rw [hc]
    have F : Hid (PL w (smpL l) (smpE l) (.returned (.tuple #[.slice none 0 0, .int .i64 1])) w) := Lib.hid (by rw [(smp_no hk).2]; exact pl_no (smp_no hk).1 (RowKit.Below.refl _ _))
    clear hk hc H HO
    go_wp2_with fail
    refine bodyPost_ret (v := .tuple #[.slice none 0 0, .int .i64 1]) (by simp [results, Try.results7, go_sem]) rfl ?_
    exact F.out
theorem reduce_all (l : List Nat) (p q : Option Addr) (n c m d : Nat) (w : World) (hn : n = l.length) (hl : n ≤ 100000) (hm : m = mm n) (hp : Rd w p (nums l)) (hq : Rd w q (zs (up (places n)))) :
    Calls Try.prog 28 #[.agg #[.slice p n c, .slice q m d]] w (ReP w l) := by
  rcases Nat.eq_zero_or_pos n with h | h
  · subst h
    obtain rfl : l = [] := List.eq_nil_of_length_eq_zero hn.symm
    obtain rfl : m = 0 := by rw [hm]; decide
    exact reduce0_any p q c d w
  · exact reduceP_any l p q n c m d w hn hl h hm hp hq
set_option maxHeartbeats 8000000 in
set_option maxRecDepth 100000 in
theorem preduce_any (l : List Nat) (p : Option Addr) (c : Nat) (w : World) (hp : Rd w p (nums l)) (hl : l.length ≤ 17592186044416) :
    Calls Try.prog 11 #[.slice p l.length c] w (RdP w (rdL l) (rdM l) (smpE l)) := by
  have H := Lib.hid (pchecks_any l p c w hp hl)
  have HO := Lib.hid (fun h => over_any p l.length c w h)
  have HP := Lib.hid hp
  clear hp hl
  go_enter Try.func11, Try.ntmps11
  go_wp2_with fail
  refine H.out.mono ?_
  rintro e w1 ⟨rfl, rfl⟩
  rcases chk_cases l with ⟨hk, hc⟩ | ⟨hk, hc⟩
  · rw [hc]
    have hlen := ok_len hk
    have C := Lib.hid (HO.out (by omega))
    have HY := Lib.hid (rd_yes hk)
    have HZ := Lib.hid (smp_yes hk).2
    have HRL := Lib.hid (red_length l)
    clear hk hc H HO
    go_wp2_with fail
    refine C.out.mono ?_
    rintro e w1 ⟨q, d, rfl, hd, hq, hn, hb⟩
    have C2 := Lib.hid (reduce_all l p q l.length c (mm l.length) d w1 rfl (by omega) rfl (HP.out.below hb) hq)
    have B1 := Lib.hid hb
    clear hd hq hn hb C
    go_wp2_with fail
    refine C2.out.mono ?_
    rintro e w2 ⟨q2, d2, rfl, hd, hq, hn, hb⟩
    have F : Hid (RdP w (rdL l) (rdM l) (smpE l) (.returned (.tuple #[.slice q2 (mm l.length) d2, .int .i64 (many l : Nat), .int .i64 0])) w2) := Lib.hid (by rw [HY.out.1, HY.out.2, HZ.out]; exact rd_mk HRL.out hd hq (B1.out.trans (hb.mono B1.out.size)))
    clear hd hq hn hb C2 B1
    go_wp2_with fail
    refine bodyPost_ret (v := .tuple #[.slice q2 (mm l.length) d2, .int .i64 (many l : Nat), .int .i64 0]) (by simp [results, Try.results11, go_sem]) rfl ?_
    exact F.out
  · rw [hc]
    have F : Hid (RdP w (rdL l) (rdM l) (smpE l) (.returned (.tuple #[.slice none 0 0, .int .i64 0, .int .i64 1])) w) := Lib.hid (by rw [(smp_no hk).2, (rd_no hk).2]; exact rdp_no (rd_no hk).1 (RowKit.Below.refl _ _))
    clear hk hc H HO
    go_wp2_with fail
    refine bodyPost_ret (v := .tuple #[.slice none 0 0, .int .i64 0, .int .i64 1]) (by simp [results, Try.results11, go_sem]) rfl ?_
    exact F.out
set_option maxHeartbeats 8000000 in
set_option maxRecDepth 100000 in
/-- Ends, but for the empty list's level -/
theorem pends13_of (l : List Nat) (p : Option Addr) (c : Nat) (w : World) (hp : Rd w p (nums l)) (hl : l.length ≤ 17592186044416)
    (h0 : Hid (∀ (q : Option Addr) (d : Nat) (W : World), l = [] → Calls Try.prog 32 #[.agg #[.slice p 0 c, .slice q 0 d]] W (XpP W []))) :
    Calls Try.prog 18 #[.slice p l.length c] w (PL w (edL l) (smpE l)) := by
  have H := Lib.hid (pchecks_any l p c w hp hl)
  have HO := Lib.hid (fun h => over_any p l.length c w h)
  have HP := Lib.hid hp
  clear hp hl
  go_enter Try.func18, Try.ntmps18
  go_wp2_with fail
  refine H.out.mono ?_
  rintro e w1 ⟨rfl, rfl⟩
  rcases chk_cases l with ⟨hk, hc⟩ | ⟨hk, hc⟩
  · rw [hc]
    have hlen := ok_len hk
    have C := Lib.hid (HO.out (by omega))
    have HY := Lib.hid (ed_yes hk)
    have HZ := Lib.hid (smp_yes hk).2
    have HPO := Lib.hid (ok_pos hk)
    clear hk hc H HO
    go_wp2_with fail
    refine C.out.mono ?_
    rintro e w1 ⟨q, d, rfl, hd, hq, hn, hb⟩
    have C2 : Hid (Calls Try.prog 32 #[.agg #[.slice p l.length c, .slice q (mm l.length) d]] w1 (XpP w1 l)) := Lib.hid (by
      rcases Nat.eq_zero_or_pos l.length with h | h
      · have hl := List.eq_nil_of_length_eq_zero h
        have := h0.out q d w1 hl
        rw [hl, show mm ([] : List Nat).length = 0 by decide]
        exact this
      · exact endsP_any l.length l p q l.length c (mm l.length) d w1 (Nat.le_refl _) rfl h (by omega) rfl (HP.out.below hb) hq HPO.out)
    have B1 := Lib.hid hb
    clear hd hq hn hb C
    go_wp2_with fail
    refine C2.out.mono ?_
    rintro e w2 ⟨q2, d2, rfl, hd, hq, hn, hb⟩
    have F : Hid (PL w (edL l) (smpE l) (.returned (.tuple #[.slice q2 l.length d2, .int .i64 0])) w2) := Lib.hid (by rw [HY.out, HZ.out]; exact pl_mk (ends_length l) hd hq (B1.out.trans (hb.mono B1.out.size)))
    clear hd hq hn hb C2 B1
    go_wp2_with fail
    refine bodyPost_ret (v := .tuple #[.slice q2 l.length d2, .int .i64 0]) (by simp [results, Try.results18, go_sem]) rfl ?_
    exact F.out
  · rw [hc]
    have F : Hid (PL w (edL l) (smpE l) (.returned (.tuple #[.slice none 0 0, .int .i64 1])) w) := Lib.hid (by rw [(smp_no hk).2]; exact pl_no (ed_no hk) (RowKit.Below.refl _ _))
    clear hk hc H HO
    go_wp2_with fail
    refine bodyPost_ret (v := .tuple #[.slice none 0 0, .int .i64 1]) (by simp [results, Try.results18, go_sem]) rfl ?_
    exact F.out
end Go.Proofs.Ytonlbcibfbbpgaa.Sk
namespace Go.Proofs.Ytonlbcibfbbpgaa.Sk
open Go.RowKit Go.Lib Go.Sort Rw Ls Od _root_.Go.Proofs.Ytonlbcibfbbpgaa.Nm

theorem ends_nil : ends [] = [] := List.eq_nil_of_length_eq_zero (by rw [ends_length]; rfl)
set_option maxHeartbeats 8000000 in
set_option maxRecDepth 100000 in
theorem firsts0_any (p q r : Option Addr) (c m d n1 cr : Nat) (w : World) :
    Calls Try.prog 51 #[.agg #[.slice p 0 c, .slice q m d, .slice r n1 cr]] w (FsP w []) := by
  have C := Lib.hid (fun p cap fv w => Try.slices_SortFunc_none (α := Nat) p cap fv w)
  go_enter Try.func51, Try.ntmps51
  go_wp2_with fail
  obtain ⟨s, hs⟩ : ∃ s, s = w.heap.size := ⟨_, rfl⟩
  obtain ⟨w2, hw2⟩ : ∃ w2, w2 = (w.alloc (.cells #[.slice p 0 c, .slice q m d, .slice r n1 cr] 77)).alloc (.cells #[] 3) := ⟨_, rfl⟩
  have FB : Hid (RowKit.Below s w w2) := Lib.hid (by rw [hw2, hs]; exact ((RowKit.Below.refl _ w).alloc (Nat.le_refl _) _).alloc (by simp) _)
  have F0 : w2.heap[s]? = some (.cells #[.slice p 0 c, .slice q m d, .slice r n1 cr] 77 (0, 0)) := by rw [hw2, hs]; exact (Below.heap_alloc _ _ _ (by simp)).trans (World.alloc_heap_new w _)
  have k0 : w2.cell? ⟨s, 0, none⟩ = some (.slice p 0 c) := by simp [World.cell?, F0]
  have F : Hid (FsP w [] (.returned (.slice (some ⟨s + 1, 0, none⟩) 0 0)) w2) := Lib.hid ⟨s + 1, 0, [], rfl, Nat.le_refl _, by rw [show zer ([] : List Nat).length = [] by decide], List.Pairwise.nil, fun i hi => absurd hi (by simp [zs, up]), by omega, by rw [← hs]; exact FB.out⟩
  rw [← hw2, ← hs]
  clear hw2 hs F0 FB
  go_loopw [3, 4] (fun v i wr => v = .slice (some ⟨s + 1, 0, none⟩) 0 0 ∧ i = .int .i64 0 ∧ wr = w2) (fun _ _ _ => 0)
  case atStart => exact ⟨rfl, rfl, rfl⟩
  case round =>
    obtain ⟨rfl, rfl, rfl⟩ := hrel
    go_wp2_with fail
    refine (C.out _ _ _ _).mono ?_
    rintro e w5 ⟨rfl, rfl⟩
    go_wp2_with fail
    go_ret
    exact F.out
set_option maxHeartbeats 8000000 in
set_option maxRecDepth 100000 in
theorem expand0_any (p q e0 : Option Addr) (c d ce : Nat) (w : World) :
    Calls Try.prog 35 #[.agg #[.slice p 0 c, .slice q 0 d], .slice e0 0 ce] w (XpP w []) := by
  obtain ⟨i0, hi0, hz0, hz1, hz2⟩ := info_parts info_int
  have hb0 : RowKit.Below w.heap.size w (w.alloc (.cells #[.slice p 0 c, .slice q 0 d] 44)) := (RowKit.Below.refl _ w).alloc (Nat.le_refl _) _
  have CK := Lib.hid (know_any [] p q e0 0 c 0 d ce (w.alloc (.cells #[.slice p 0 c, .slice q 0 d] 44)) (by omega) (by decide) (fun i hi => absurd hi (by rw [show places 0 = [] by decide]; simp [zs, up])) (fun i hi => absurd hi (by simp [zs, up])) rfl (fun i hi => absurd hi (by omega)))
  have HB0 := Lib.hid hb0
  have X0 : Hid ((w.alloc (.cells #[.slice p 0 c, .slice q 0 d] 44)).heap[w.heap.size]? = some (.cells #[.slice p 0 c, .slice q 0 d] 44 (0, 0))) := Lib.hid (World.alloc_heap_new w _)
  unfold KnP at CK
  clear hb0
  go_enter Try.func35, Try.ntmps35
  go_wp2_with fail
  refine CK.out.mono ?_
  rintro e w1 ⟨gr, cr, rfl, hRr, hgr, hb1⟩
  obtain ⟨s, hs⟩ : ∃ s, s = w.heap.size := ⟨_, rfl⟩
  rw [World.size_alloc] at hgr hb1
  have B1 : Hid (RowKit.Below s w w1) := Lib.hid (by rw [hs]; exact HB0.out.trans (hb1.mono (Nat.le_succ _)))
  have X1 : Hid (w1.heap[s]? = some (.cells #[.slice p 0 c, .slice q 0 d] 44 (0, 0))) := Lib.hid (by rw [hs]; exact (hb1.block _ (Nat.lt_succ_self _)).trans X0.out)
  have HS := Lib.hid hs
  have Z1 : Hid (s < w1.heap.size) := Lib.hid (Array.getElem?_eq_some_iff.1 X1.out).1
  rw [← hs]
  have k0 : w1.cell? ⟨s, 0, none⟩ = some (.slice p 0 c) := by simp [World.cell?, X1.out]
  have k1 : ∀ o, (w1.alloc o).cell? ⟨s, 0, none⟩ = some (.slice p 0 c) := fun o => by
    rw [((RowKit.Below.refl _ w1).alloc (Nat.le_refl _) o).cell (p := ⟨s, 0, none⟩) Z1.out]; exact k0
  clear hRr hgr hb1 CK HB0 X0 hs
  go_wp2_with (at_make; refine wpList_make_own _ rfl _ _ 24 rfl (w1.alloc (.cells #[.slice p 0 c, .slice q 0 d, .slice (some ⟨gr, 0, none⟩) (0 + 1) cr] 77)).heap.size 3 i0 (.int .i64 0) 1 Try.underlying24 hi0 hz0 hz1 .i64 .i64 0 0 rfl rfl rfl ?c1 ?c2 ?c3 ?_)
  case c1 => rw [hz2]; omega
  case c2 => unfold maxLen; omega
  case c3 => simp
  intro w3 hown3 hgr3
  obtain ⟨kb, hkb⟩ : ∃ kb, kb = w1.heap.size := ⟨_, rfl⟩
  have b3 : RowKit.Below (kb + 1) (w1.alloc (.cells #[.slice p 0 c, .slice q 0 d, .slice (some ⟨gr, 0, none⟩) (0 + 1) cr] 77)) w3 := (RowKit.Below.refl _ _).grown hgr3 (by rw [World.size_alloc, hkb]; exact Nat.le_refl _) (by simp)
  have B3 : Hid (RowKit.Below kb w1 w3) := Lib.hid (((RowKit.Below.refl kb w1).alloc (by omega) _).trans (b3.mono (Nat.le_succ _)))
  have Y3 : Hid (w3.heap[kb]? = some (.cells #[.slice p 0 c, .slice q 0 d, .slice (some ⟨gr, 0, none⟩) (0 + 1) cr] 77 (0, 0))) := Lib.hid ((b3.block kb (Nat.lt_succ_self _)).trans (by rw [hkb]; exact World.alloc_heap_new w1 _))
  have W3 : Hid (RowKit.Below s w w3) := Lib.hid (B1.out.trans (B3.out.mono (by rw [hkb]; exact Nat.le_of_lt Z1.out)))
  have ZS : Hid (s < kb ∧ kb + 1 < w3.heap.size) := Lib.hid ⟨by rw [hkb]; exact Z1.out, by have := hown3.lt _ rfl; rw [hkb]; exact this.2⟩
  rw [← hkb] at hown3 ⊢
  have O3 := Lib.hid hown3
  have CF := Lib.hid (firsts0_any p q (some ⟨gr, 0, none⟩) c 0 d (0 + 1) cr w3)
  have c0 : w3.cell? ⟨kb, 0, none⟩ = some (.slice p 0 c) := by simp [World.cell?, Y3.out]
  have c1 : w3.cell? ⟨kb, 1, none⟩ = some (.slice q 0 d) := by simp [World.cell?, Y3.out]
  have c2 : w3.cell? ⟨kb, 2, none⟩ = some (.slice (some ⟨gr, 0, none⟩) (0 + 1) cr) := by simp [World.cell?, Y3.out]
  clear hown3 hgr3 b3 k0 k1 hkb B1 X1 Z1 B3
  go_wp2_with fail
  refine CF.out.mono ?_
  rintro e w4 ⟨gF, cF, F, rfl, hFc, hFp, hFu, hFr, hFg, hFb⟩
  obtain rfl : F = [] := by
    have := hFp.length_eq
    rw [show zer ([] : List Nat).length = [] by decide] at this
    exact List.eq_nil_of_length_eq_zero this
  have O4 := Lib.hid (Rw.own_below O3.out hFb)
  have W4 : Hid (RowKit.Below s w w4) := Lib.hid (W3.out.trans (hFb.mono (by have := ZS.out; omega)))
  have F4 : Hid (XpP w [] (.returned (.slice (some ⟨kb + 1, 0, none⟩) 0 0)) w4) := Lib.hid ⟨_, 0, rfl, Nat.le_refl _, fun i hi => absurd hi (by rw [ends_nil]; simp [zs, up]), fun a e => by cases e; show w.heap.size ≤ kb + 1; rw [← HS.out]; have := ZS.out; omega, by rw [← HS.out]; exact W4.out⟩
  clear hFc hFp hFu hFr hFg hFb CF c0 c1 c2 Y3 O3 W3
  go_wp2_with fail
  go_loopw [6, 7, 22] (fun vo vf i wr => vo = .slice (some ⟨kb + 1, 0, none⟩) 0 0 ∧ vf = .slice (some ⟨gF, 0, none⟩) 0 cF ∧ i = .int .i64 0 ∧ wr = w4) (fun _ _ _ _ => 0)
  case atStart => exact ⟨rfl, rfl, rfl, rfl⟩
  case round =>
    obtain ⟨rfl, rfl, rfl, rfl⟩ := hrel
    have HOg := O4.out
    go_wp2_with (at_builtin; refine wpList_app0 rfl _ _ 24 rfl (kb + 1) 3 i0 1 Try.underlying24 hi0 _ _ _ rfl HOg (some ⟨gF, 0, none⟩) cF rfl ?_)
    go_wp2_with fail
    go_ret
    exact F4.out
set_option maxHeartbeats 8000000 in
set_option maxRecDepth 100000 in
theorem ends0_any (p q : Option Addr) (c d : Nat) (w : World) :
    Calls Try.prog 32 #[.agg #[.slice p 0 c, .slice q 0 d]] w (XpP w []) := by
  obtain ⟨i0, hi0, hz0, hz1, hz2⟩ := info_parts info_int
  have hb0 : RowKit.Below w.heap.size w (w.alloc (.cells #[.slice p 0 c, .slice q 0 d] 44)) := (RowKit.Below.refl _ w).alloc (Nat.le_refl _) _
  have CR := Lib.hid (reduce0_any p q c d (w.alloc (.cells #[.slice p 0 c, .slice q 0 d] 44)))
  have HX := Lib.hid (fun (W : World) (e0 : Option Addr) (ce : Nat) => expand0_any p q e0 c d ce W)
  have HML : Hid (mm ([] : List Nat).length = 0) := Lib.hid (by decide)
  have HMN : Hid (many [] = 0) := Lib.hid (by decide)
  have HIL : Hid ((invL (up [])).length = 0) := Lib.hid (by decide)
  have HB0 := Lib.hid hb0
  have X0 := Lib.hid (World.alloc_heap_new w (.cells #[.slice p 0 c, .slice q 0 d] 44))
  clear hb0
  go_enter Try.func32, Try.ntmps32
  go_wp2_with fail
  refine CR.out.mono ?_
  rintro e w1 ⟨r, cr, rfl, hcr, hRr, hNr, hb1⟩
  rw [HML.out] at hcr ⊢
  rw [HMN.out]
  rw [World.size_alloc] at hNr hb1
  obtain ⟨s, hs⟩ : ∃ s, s = w.heap.size := ⟨_, rfl⟩
  have B1 : Hid (RowKit.Below s w w1) := Lib.hid (by rw [hs]; exact HB0.out.trans (hb1.mono (Nat.le_succ _)))
  have X1 : Hid (w1.heap[s]? = some (.cells #[.slice p 0 c, .slice q 0 d] 44 (0, 0))) := Lib.hid (by rw [hs]; exact (hb1.block _ (Nat.lt_succ_self _)).trans X0.out)
  have HS := Lib.hid hs
  rw [← hs]
  clear hcr hRr hNr hb1 CR HB0 X0 hs
  go_wp2_with (at_make; refine wpList_make_own _ rfl _ _ 24 rfl w1.heap.size 3 i0 (.int .i64 0) 1 Try.underlying24 hi0 hz0 hz1 .i64 .i64 0 0 rfl rfl rfl ?c1 ?c2 ?c3 ?_)
  case c1 => rw [hz2]; omega
  case c2 => unfold maxLen; omega
  case c3 => simp
  intro w5 hown5 hgr5
  have b5 : RowKit.Below w1.heap.size w1 w5 := (RowKit.Below.refl _ w1).grown hgr5 (Nat.le_refl _) (by simp)
  obtain ⟨hB, hhB⟩ : ∃ hB, hB = w1.heap.size := ⟨_, rfl⟩
  have B5 : Hid (RowKit.Below s w w5) := Lib.hid (B1.out.trans (b5.mono (by have := (Array.getElem?_eq_some_iff.1 X1.out).1; omega)))
  have X5 : Hid (w5.heap[s]? = some (.cells #[.slice p 0 c, .slice q 0 d] 44 (0, 0))) := Lib.hid ((b5.block s (Array.getElem?_eq_some_iff.1 X1.out).1).trans X1.out)
  have CI := Lib.hid (pinverse_any (up []) (some ⟨hB, 0, none⟩) 0 w5 (fun i hi => absurd hi (by simp [zs, up])) (by simp [up]))
  rw [← hhB]
  clear hown5 hgr5 b5 B1 X1 hhB
  go_wp2_with fail
  go_loopw [5, 29] (fun v i wr => v = .slice (some ⟨hB, 0, none⟩) 0 0 ∧ i = .int .i64 0 ∧ wr = w5) (fun _ _ _ => 0)
  case atStart => exact ⟨rfl, rfl, rfl⟩
  case round =>
    obtain ⟨rfl, rfl, rfl⟩ := hrel
    go_wp2_with fail
    refine CI.out.mono ?_
    rintro e w6 ⟨q6, c7, rfl, hc7, hr6, hn6, _, hb6⟩
    rw [HIL.out] at hc7 ⊢
    have B6 : Hid (RowKit.Below s w w6) := Lib.hid (B5.out.trans (hb6.mono (by have := (Array.getElem?_eq_some_iff.1 X5.out).1; omega)))
    have X6 : w6.heap[s]? = some (.cells #[.slice p 0 c, .slice q 0 d] 44 (0, 0)) := (hb6.block s (Array.getElem?_eq_some_iff.1 X5.out).1).trans X5.out
    have a0 : w6.cell? ⟨s, 0, none⟩ = some (.slice p 0 c) := by simp [World.cell?, X6]
    have a1 : w6.cell? ⟨s, 1, none⟩ = some (.slice q 0 d) := by simp [World.cell?, X6]
    have C3 := Lib.hid (HX.out w6 q6 c7)
    have ZW : Hid (s ≤ w6.heap.size) := Lib.hid (by have := (Array.getElem?_eq_some_iff.1 X6).1; omega)
    clear hc7 hr6 hn6 hb6 X6 CI B5 X5 HX
    go_wp2_with fail
    refine C3.out.mono ?_
    rintro e w8 ⟨g8, c8, rfl, hc8, hr8, hn8, hb8⟩
    have F : Hid (XpP w [] (.returned (.slice g8 0 c8)) w8) := Lib.hid ⟨g8, c8, rfl, hc8, hr8, fun a e => by have := hn8 a e; have := ZW.out; have := HS.out; omega, by rw [← HS.out]; exact B6.out.trans (hb8.mono ZW.out)⟩
    clear hc8 hr8 hn8 hb8 C3 a0 a1
    go_wp2_with fail
    refine bodyPost_ret (v := .slice g8 0 c8) (by simp [results, Try.results32, go_sem]) rfl ?_
    exact F.out
theorem pends13_any (l : List Nat) (p : Option Addr) (c : Nat) (w : World) (hp : Rd w p (nums l)) (_hlc : l.length ≤ c) (hl : l.length ≤ 17592186044416) :
    Calls Try.prog 18 #[.slice p l.length c] w (PL w (edL l) (smpE l)) :=
  pends13_of l p c w hp hl (Lib.hid fun q d W _ => ends0_any p q c d W)
end Go.Proofs.Ytonlbcibfbbpgaa.Sk
namespace Go.Proofs.Ytonlbcibfbbpgaa.Sk
open Go.RowKit Go.Lib Go.Sort Rw Ls Od _root_.Go.Proofs.Ytonlbcibfbbpgaa.Nm

theorem expand_all (l : List Nat) (p q e0 : Option Addr) (n c m d ce : Nat) (w : World) (hn : n = l.length) (hl : n ≤ 100000) (hm : m = mm n) (hp : Rd w p (nums l)) (hq : Rd w q (zs (up (places n)))) (he : Rd w e0 (zs (up (ends (red l))))) (hP : Pos l) :
    Calls Try.prog 35 #[.agg #[.slice p n c, .slice q m d], .slice e0 m ce] w (XpP w l) := by
  rcases Nat.eq_zero_or_pos n with h | h
  · subst h
    obtain rfl : l = [] := List.eq_nil_of_length_eq_zero hn.symm
    obtain rfl : m = 0 := by rw [hm]; decide
    exact expand0_any p q e0 c d ce w
  · exact expandP_any l p q e0 n c m d ce w hn h hl hm hp hq he hP
theorem ex_no {l : List Nat} {E : List Int} (h : okL l = false) : exL l E = [] ∧ exE l E = 1 := by unfold exL exE; rw [h]; exact ⟨rfl, rfl⟩
theorem ex_not {l : List Nat} {E : List Int} (h : okL l = true) (hr : right (red l) E = false) : exL l E = [] ∧ exE l E = 2 := by unfold exL exE; rw [h, hr]; exact ⟨rfl, rfl⟩
theorem ex_yes {l : List Nat} {E : List Int} (h : okL l = true) (hr : right (red l) E = true) : exL l E = ends l ∧ exE l E = 0 := by unfold exL exE; rw [h, hr]; exact ⟨rfl, rfl⟩
set_option maxHeartbeats 8000000 in
set_option maxRecDepth 100000 in
theorem pexpand_any (l : List Nat) (E : List Int) (p q : Option Addr) (c d : Nat) (w : World) (hp : Rd w p (nums l)) (hq : Rd w q (zs E)) (_hlc : l.length ≤ c) (hl : l.length ≤ 17592186044416) (hE : E.length ≤ 17592186044416) :
    Calls Try.prog 20 #[.slice p l.length c, .slice q E.length d] w (PL w (exL l E) (exE l E)) := by
  have H := Lib.hid (pchecks_any l p c w hp hl)
  have HO := Lib.hid (fun h => over_any p l.length c w h)
  have HP := Lib.hid hp
  have HQ := Lib.hid hq
  have HE := Lib.hid hE
  clear hp hq hl hE
  go_enter Try.func20, Try.ntmps20
  go_wp2_with fail
  refine H.out.mono ?_
  rintro e w1 ⟨rfl, rfl⟩
  rcases chk_cases l with ⟨hk, hc⟩ | ⟨hk, hc⟩
  · rw [hc]
    have hlen := ok_len hk
    have C := Lib.hid (HO.out (by omega))
    have HOK := Lib.hid hk
    clear hk hc H HO
    go_wp2_with fail
    refine C.out.mono ?_
    rintro e w1 ⟨q1, d1, rfl, hd1, hq1, hn1, hb1⟩
    obtain ⟨w2, hw2⟩ : ∃ w2, w2 = w1.alloc (.cells #[.slice p l.length c, .slice q1 (mm l.length) d1] 44) := ⟨_, rfl⟩
    obtain ⟨s, hs⟩ : ∃ s, s = w1.heap.size := ⟨_, rfl⟩
    have b2 : RowKit.Below w1.heap.size w1 w2 := by rw [hw2]; exact (RowKit.Below.refl _ w1).alloc (Nat.le_refl _) _
    have X2 : Hid (w2.heap[s]? = some (.cells #[.slice p l.length c, .slice q1 (mm l.length) d1] 44 (0, 0))) := Lib.hid (by rw [hw2, hs]; exact World.alloc_heap_new w1 _)
    have B2 : Hid (RowKit.Below w.heap.size w w2) := Lib.hid (hb1.trans (b2.mono hb1.size))
    have P2 : Hid (Rd w2 p (nums l)) := Lib.hid (HP.out.below B2.out)
    have Q2 : Hid (Rd w2 q1 (zs (up (places l.length)))) := Lib.hid (hq1.below b2)
    have CR := Lib.hid (reduce_all l p q1 l.length c (mm l.length) d1 w2 rfl (by omega) rfl P2.out Q2.out)
    have hsz : s < w2.heap.size := (Array.getElem?_eq_some_iff.1 X2.out).1
    have HW2 := Lib.hid hw2; have HS := Lib.hid hs
    clear hd1 hq1 hn1 hb1 b2 hw2 hs C
    go_wp2_with fail
    rw [← HS.out, ← HW2.out]
    refine CR.out.mono ?_
    rintro e w3 ⟨r, cr, rfl, hcr, hRr, hNr, hb3⟩
    have hml : mm l.length ≤ 100000 := by have := mm_le l.length; omega
    have CT := pright_any (red l) E r q cr d w3 hRr (HQ.out.below (B2.out.trans (hb3.mono B2.out.size))) (by rw [red_length]; exact hcr) (by rw [red_length]; omega) HE.out
    rw [red_length] at CT
    have HCT := Lib.hid CT
    have B3 : Hid (RowKit.Below w.heap.size w w3) := Lib.hid (B2.out.trans (hb3.mono B2.out.size))
    have X3 : Hid (w3.heap[s]? = some (.cells #[.slice p l.length c, .slice q1 (mm l.length) d1] 44 (0, 0))) := Lib.hid ((hb3.block s hsz).trans X2.out)
    have Q3 : Hid (Rd w3 q1 (zs (up (places l.length)))) := Lib.hid (Q2.out.below hb3)
    clear CT hcr hRr hNr hb3 CR X2 B2 P2 Q2 hsz HW2
    go_wp2_with fail
    refine HCT.out.mono ?_
    rintro e w4 ⟨rfl, hb4⟩
    have B4 : Hid (RowKit.Below w.heap.size w w4) := Lib.hid (B3.out.trans (hb4.mono B3.out.size))
    have X4 : w4.heap[s]? = some (.cells #[.slice p l.length c, .slice q1 (mm l.length) d1] 44 (0, 0)) := (hb4.block s (Array.getElem?_eq_some_iff.1 X3.out).1).trans X3.out
    have Q4 : Hid (Rd w4 q1 (zs (up (places l.length)))) := Lib.hid (Q3.out.below hb4)
    cases hr : right (red l) E with
    | false =>
      have F : Hid (PL w (exL l E) (exE l E) (.returned (.tuple #[.slice none 0 0, .int .i64 2])) w4) := Lib.hid (by rw [(ex_not HOK.out hr).2]; exact pl_no (ex_not HOK.out hr).1 B4.out)
      clear hb4 HCT B3 X3 Q3 X4 Q4 hr
      go_wp2_with fail
      refine bodyPost_ret (v := .tuple #[.slice none 0 0, .int .i64 2]) (by simp [results, Try.results20, go_sem]) rfl ?_
      exact F.out
    | true =>
      have hEe := right_iff.1 hr
      have hEl : E.length = mm l.length := by rw [hEe, up_length, ends_length, red_length]
      have Q4' : Rd w4 q (zs (up (ends (red l)))) := by rw [← hEe]; exact HQ.out.below B4.out
      have CX := Lib.hid (expand_all l p q1 q l.length c (mm l.length) d1 d w4 rfl (by omega) rfl (HP.out.below B4.out) Q4.out Q4' (ok_pos HOK.out))
      rw [hEl]
      have HY := Lib.hid (ex_yes HOK.out hr)
      have a0 : w4.cell? ⟨s, 0, none⟩ = some (.slice p l.length c) := by simp [World.cell?, X4]
      have a1 : w4.cell? ⟨s, 1, none⟩ = some (.slice q1 (mm l.length) d1) := by simp [World.cell?, X4]
      clear hb4 HCT B3 X3 Q3 X4 Q4 hr hEe hEl Q4' HE
      go_wp2_with fail
      refine CX.out.mono ?_
      rintro e w5 ⟨q2, d2, rfl, hd, hq, hn, hb⟩
      have F : Hid (PL w (exL l E) (exE l E) (.returned (.tuple #[.slice q2 l.length d2, .int .i64 0])) w5) := Lib.hid (by rw [HY.out.1, HY.out.2]; exact pl_mk (ends_length l) hd hq (B4.out.trans (hb.mono B4.out.size)))
      clear hd hq hn hb CX a0 a1
      go_wp2_with fail
      refine bodyPost_ret (v := .tuple #[.slice q2 l.length d2, .int .i64 0]) (by simp [results, Try.results20, go_sem]) rfl ?_
      exact F.out
  · rw [hc]
    have F : Hid (PL w (exL l E) (exE l E) (.returned (.tuple #[.slice none 0 0, .int .i64 1])) w) := Lib.hid (by rw [(ex_no hk).2]; exact pl_no (ex_no hk).1 (RowKit.Below.refl _ _))
    clear hk hc H HO
    go_wp2_with fail
    refine bodyPost_ret (v := .tuple #[.slice none 0 0, .int .i64 1]) (by simp [results, Try.results20, go_sem]) rfl ?_
    exact F.out
set_option maxHeartbeats 8000000 in
set_option maxRecDepth 100000 in
theorem ptriples_any (l : List Nat) (p : Option Addr) (c : Nat) (w : World) (hp : Rd w p (nums l)) (hl : l.length ≤ 17592186044416) :
    Calls Try.prog 9 #[.slice p l.length c] w (TrP w (trL l) (smpE l)) := by
  obtain ⟨i0, hi0, hz0, hz1, hz2⟩ := info_parts info_u64s
  have H := Lib.hid (pchecks_any l p c w hp hl)
  have HO := Lib.hid (fun h => over_any p l.length c w h)
  have HP := Lib.hid hp
  clear hp hl
  go_enter Try.func9, Try.ntmps9
  go_wp2_with fail
  refine H.out.mono ?_
  rintro e w1 ⟨rfl, rfl⟩
  rcases chk_cases l with ⟨hk, hc⟩ | ⟨hk, hc⟩
  · rw [hc]
    have hlen := ok_len hk
    have C := Lib.hid (HO.out (by omega))
    have E := Lib.hid (tr_yes hk); have E2 := Lib.hid (smp_yes hk).2
    clear hk hc H HO
    go_wp2_with fail
    refine C.out.mono ?_
    rintro e w1 ⟨q1, d1, rfl, hd1, hq1, hn1, hb1⟩
    have C2 := Lib.hid (triplesP_any l p q1 l.length c (mm l.length) d1 w1 rfl (by omega) rfl (HP.out.below hb1) hq1)
    have B1 := Lib.hid hb1
    clear hd1 hq1 hn1 hb1 C
    go_wp2_with fail
    refine C2.out.mono ?_
    rintro e w2 ⟨g, cg, rfl, hcg, hR, hg, hb2⟩
    obtain ⟨m, hm⟩ : ∃ m, m = mm l.length := ⟨_, rfl⟩
    have hmm : m ≤ 10000 := by rw [hm]; have := mm_le l.length; omega
    have HLT : Hid ((trT l).length = m) := Lib.hid (by rw [trT_length, hm])
    have HTL : Hid ((trips l).length = m ∧ ∀ L ∈ trips l, L.length ≤ 8) := Lib.hid ⟨by rw [trips_length, hm], fun L hL => by
      unfold trips at hL
      obtain ⟨x, _, rfl⟩ := List.mem_map.1 hL
      simp [triple]⟩
    have B2 : Hid (RowKit.Below w.heap.size w w2) := Lib.hid (B1.out.trans (hb2.mono B1.out.size))
    have R2 := Lib.hid hR
    rw [← hm]
    clear hcg hR hg hb2 C2 B1 hm
    go_wp2_with (at_make; refine wpList_make_own _ rfl _ _ 28 rfl w2.heap.size 22 i0 (.slice none 0 0) 1 Try.underlying28 hi0 hz0 hz1 .i64 .i64 (m : Int) m rfl rfl rfl ?c1 ?c2 ?c3 ?_)
    case c1 => rw [hz2]; omega
    case c2 => unfold maxLen; omega
    case c3 => simp
    intro w3 hown3 hgr3
    have b3 : RowKit.Below w2.heap.size w2 w3 := (RowKit.Below.refl _ w2).grown hgr3 (Nat.le_refl _) (by simp)
    obtain ⟨hB, hhB⟩ : ∃ hB, hB = w2.heap.size := ⟨_, rfl⟩
    have R3 : Hid (RowT w3 g (trT l)) := Lib.hid (rowT_below R2.out b3)
    have B3 : Hid (RowKit.Below w.heap.size w w3) := Lib.hid (B2.out.trans (b3.mono B2.out.size))
    have Z3 : Hid (hB ≤ w3.heap.size ∧ g < hB ∧ w.heap.size ≤ hB) := Lib.hid ⟨by rw [hhB]; exact b3.size, by rw [hhB]; exact R2.out.1, by rw [hhB]; exact B2.out.size⟩
    rw [← hhB] at hown3 ⊢
    have O3 : Hid (w3.ownsRow hB 22 1 (.slice (some ⟨hB, 0, none⟩) 0 m) 0 []) := Lib.hid hown3
    clear hown3 hgr3 b3 hhB R2 B2
    go_wp2_with fail
    go_loopw [6, 22] (fun v i wr => TrR l hB m w3 v i wr) (fun _ i _ => m - (intOf i).toNat)
    case atStart => exact ⟨0, [], by omega, rfl, O3.out, FitN.nil _ _, RowKit.Below.refl _ _⟩
    case round =>
      obtain ⟨k, xs, hk, rfl, ho, hf, hb⟩ := hrel
      have HO := Lib.hid ho; have HF := Lib.hid hf; have HB := Lib.hid hb
      have hsz := hb.size
      have hz3 := Z3.out
      clear ho hf hb O3
      by_cases hlt : k < m
      · have k0 : (0 : Int) ≤ (k : Int) := by omega
        have k1 : (k : Int) < (m : Int) := by omega
        have hR : RowT wr g (trT l) := rowT_blk R3.out HB.out.size (HB.out.block g (by omega))
        have hkl : k < (trT l).length := by rw [HLT.out]; exact hlt
        obtain ⟨⟨a0, a1, a2⟩, _⟩ := rowT_at hR hkl
        obtain ⟨t, ht⟩ : ∃ t, t = (trT l)[k] := ⟨_, rfl⟩
        have htk : (trips l).take (k + 1) = (trips l).take k ++ [tl t] := by
          have h2 : k < (trips l).length := by rw [HTL.out.1]; exact hlt
          rw [List.take_succ_eq_append_getElem h2, ht]
          congr 2
          have h3 := trT_tl l
          have h4 : ((trT l).map tl)[k]'(by rw [List.length_map]; exact hkl) = tl (trT l)[k] := List.getElem_map ..
          rw [← h4]; congr 1; exact h3.symm
        rw [← ht] at a0 a1 a2
        have HTK := Lib.hid htk
        obtain ⟨wa, hwa⟩ : ∃ wa, wa = wr.alloc (.cells (encT t).toArray 50) := ⟨_, rfl⟩
        obtain ⟨s, hs⟩ : ∃ s, s = wr.heap.size := ⟨_, rfl⟩
        have hrd : Rd wa (some ⟨s, 0, none⟩) (nums (tl t)) := by rw [hwa, hs]; exact box3_rd wr t _
        have hba : RowKit.Below wr.heap.size wr wa := by rw [hwa]; exact (RowKit.Below.refl _ wr).alloc (Nat.le_refl _) _
        have HCL : Hid (Calls Try.prog 26 #[.slice (some ⟨s, 0, none⟩) 3 3] wa (N3 wa (tl t))) := Lib.hid (cloneU_any (tl t) (some ⟨s, 0, none⟩) 3 wa hrd (by simp [tl]))
        have OA := Lib.hid (own_below HO.out hba)
        have FA := Lib.hid (HF.out.below hba)
        have BA : Hid (RowKit.Below hB w3 wa) := Lib.hid (HB.out.trans (hba.mono (by omega)))
        have SA : Hid (hB ≤ wa.heap.size) := Lib.hid (Nat.le_trans hz3.1 (Nat.le_trans hsz hba.size))
        have HTL2 : Hid ((tl t).length = 3) := Lib.hid (by simp [tl])
        have HWA := Lib.hid hwa; have HS := Lib.hid hs
        clear ht htk hR hkl hrd hba hwa hs HO HF HB
        obtain ⟨t1, t2, t3⟩ := t
        simp only [encT] at HWA
        go_wp2_with fail
        rw [← HS.out, ← HWA.out]
        refine HCL.out.mono ?_
        rintro e w4 ⟨q3, c3, rfl, hr3, hn3, hb3⟩
        have O4 := Lib.hid (own_below OA.out hb3)
        have F4 : Hid (FitN w4 _ (xs ++ [.slice q3 3 c3]) ((trips l).take (k + 1))) := Lib.hid (by
          rw [HTK.out]
          refine FitN.snoc (FA.out.below hb3) ⟨q3, c3, by rw [HTL2.out], hr3⟩ (fun a l c e => ?_)
          cases e
          have h1 := hn3 a rfl
          obtain ⟨a', e', hl'⟩ := hr3.form (by simp [nums, tl])
          cases e'
          refine ⟨fun e2 => ?_, hl'⟩
          have := (OA.out.lt _ e2).2
          omega)
        have B4 : Hid (RowKit.Below hB w3 w4) := Lib.hid (BA.out.trans (hb3.mono SA.out))
        have hsz4 : hB ≤ w4.heap.size := by have := hb3.size; have := SA.out; omega
        have hk3 : k ≤ 1000000000 := by omega
        clear hr3 hb3 hn3 OA FA BA HWA HCL
        go_wp2_with (at_builtin; refine Rw.push rfl _ _ 28 rfl hB 22 i0 (.slice none 0 0) 1 24 Try.underlying28 hi0 hz0 hz1 hz2 rfl (by decide) _ _ _ rfl O4.out [.slice q3 3 c3] rfl rfl rfl hk3 (by omega) hsz4 ?_)
        intro g4 cap4 w5 hown5 hgr5 hnw _ hgr
        have H3 := Lib.hid hown5
        have H4 := Lib.hid (B4.out.trans hgr)
        have F5 : Hid (FitN w5 (some g4) (xs ++ [.slice q3 3 c3]) ((trips l).take (k + 1))) := Lib.hid (F4.out.grown hgr5 hnw)
        clear hown5 hgr hgr5 hnw
        go_wp2_with fail
        go_roundw
        case rel => exact ⟨k + 1, _, by omega, by go_num, H3.out, F5.out, H4.out⟩
        case measure => simp [intOf]; omega
      · obtain rfl : k = m := by omega
        have hf2 := HF.out
        rw [List.take_of_length_le (by rw [HTL.out.1]; exact Nat.le_refl _)] at hf2
        obtain ⟨q5, c5, rfl, hc5, _, _⟩ := own_rdN HO.out
        have HRA : Hid (RecsAt wr q5 (trips l)) := Lib.hid (recsAt_fit (RowKit.Below.refl _ _) HO.out hf2.1 HTL.out.2)
        have B9 : Hid (RowKit.Below w.heap.size w wr) := Lib.hid (B3.out.trans (HB.out.mono (by omega)))
        clear hf2
        go_wp2_with fail
        refine bodyPost_ret (v := .tuple #[.slice q5 k c5, .int .i64 0]) (by simp [results, Try.results9, go_sem]) rfl ?_
        rw [E.out, E2.out]
        exact tr_mk HTL.out.1 hc5 HRA.out B9.out
  · rw [hc]
    have F : Hid (TrP w (trL l) (smpE l) (.returned (.tuple #[.slice none 0 0, .int .i64 1])) w) := Lib.hid (by rw [(smp_no hk).2, tr_no hk]; exact tr_mk rfl (Nat.le_refl _) (fun i hi => absurd hi (by simp)) (RowKit.Below.refl _ _))
    clear hk hc H HO
    go_wp2_with fail
    refine bodyPost_ret (v := .tuple #[.slice none 0 0, .int .i64 1]) (by simp [results, Try.results9, go_sem]) rfl ?_
    exact F.out
end Go.Proofs.Ytonlbcibfbbpgaa.Sk
namespace Go.Proofs.Ytonlbcibfbbpgaa.Sk
open Go.RowKit Go.Lib Rw Ls Od _root_.Go.Proofs.Ytonlbcibfbbpgaa.Nm

theorem pcheckb_any (l : List Nat) (p : Option Addr) (c : Nat) (w : World) (hp : Rd w p (nums l)) (hl : l.length ≤ 17592186044416) :
    Calls Try.prog 16 #[.slice p l.length c] w fun e w' => e = .returned (.int .i64 (chkS l)) ∧ Below w.heap.size w w' :=
  (pchecks_any l p c w hp hl).mono fun _ _ ⟨h1, h2⟩ => ⟨h1, by subst h2; exact Below.refl _ _⟩
end Go.Proofs.Ytonlbcibfbbpgaa.Sk

/- The walk of a level's reduce. -/
import Derived.Test.YtonlbcibfbbpgaaSkPM
namespace Go.Proofs.Ytonlbcibfbbpgaa.Sk
open Go.RowKit Go.Lib Go.Sort Rw Ls Od _root_.Go.Proofs.Ytonlbcibfbbpgaa.Nm

theorem values_any (p : Option Addr) (n c : Nat) (w : World) : Calls Try.prog 44 #[.slice p n c] w fun e w' => e = .returned (.func (.func 58) #[] #[.pointer (some ⟨w.heap.size, 0, none⟩)]) ∧ w' = w.alloc (.cells #[.slice p n c] 47) := by
  go_enter Try.func44, Try.ntmps44
  go_wp2
  go_ret
  exact ⟨rfl, rfl⟩
theorem compact0_any (p : Option Addr) (c : Nat) (w : World) : Calls Try.prog 42 #[.slice p 0 c] w fun e w' => e = .returned (.slice p 0 c) ∧ w' = w := by
  go_enter Try.func42, Try.ntmps42
  go_wp2_with fail
  go_ret
  exact ⟨rfl, rfl⟩
theorem sortedf0_any (Bs c : Nat) (p : Option Addr) (w : World) (hBs : Bs < w.heap.size) (hc : w.cell? ⟨Bs, 0, none⟩ = some (.slice p 0 c)) :
    Calls Try.prog 43 #[.func (.func 58) #[] #[.pointer (some ⟨Bs, 0, none⟩)], .func (.func 45) #[] #[]] w fun e w' => ∃ r d, e = .returned (.slice r 0 d) ∧ RowKit.Below w.heap.size w w' := by
  have hr : Rd w p (fT []) := fun i hi => absurd hi (by simp [fT])
  have C1 := Lib.hid (collect_any [] (by simp) w.heap.size 58 #[.pointer (some ⟨Bs, 0, none⟩)] w (Nat.le_refl _) values_enters
    (fun W hW => values_stops Bs w.heap.size c p [] (by simp) W hW.size (Nat.lt_of_lt_of_le hBs hW.size) (fun h => absurd h (by simp)) (by rw [hW.cell (p := ⟨Bs, 0, none⟩) hBs, hc]; rfl) (hr.below hW)))
  have C2 := Lib.hid (fun p cap w => Try.slices_SortFunc_T_none p cap (.func (.func 45) #[] #[]) w)
  clear hr hc
  go_enter Try.func43, Try.ntmps43
  go_wp2_with fail
  refine C1.out.mono ?_
  rintro e w1 ⟨v, rfl, ho, hb⟩
  obtain ⟨r, d, rfl⟩ : ∃ r d, v = .slice r 0 d := by
    rcases ho.2 with ⟨rfl, _⟩ | ⟨g, cap, cur, rfl, _⟩
    · exact ⟨none, 0, rfl⟩
    · exact ⟨_, _, rfl⟩
  have HB := Lib.hid hb
  clear ho hb C1
  go_wp2_with fail
  refine (C2.out _ _ _).mono ?_
  rintro e w2 ⟨rfl, rfl⟩
  go_wp2_with fail
  go_ret
  exact ⟨_, _, rfl, HB.out⟩
theorem rowT_blk {w w' : World} {g : Nat} {M : List T3} (h : RowT w g M) (hs : w.heap.size ≤ w'.heap.size) (hb : w'.heap[g]? = w.heap[g]?) : RowT w' g M :=
  rowT_of (Nat.lt_of_lt_of_le h.1 hs) (fun t ht => by
    obtain ⟨h1, h2⟩ := rowT_cell h ht
    refine ⟨?_, ?_⟩
    · unfold World.cell? at h1 ⊢; rw [hb]; exact h1
    · unfold World.frozen? at h2 ⊢; rw [hb]; exact h2)
/-- what reduce answers -/
def ReP (w : World) (l : List Nat) (e : Ending) (w' : World) : Prop := ∃ (r : Option Addr) (cr : Nat), e = .returned (.tuple #[.slice r (mm l.length) cr, .int .i64 (many l : Nat)]) ∧ mm l.length ≤ cr ∧ Rd w' r (nums (red l)) ∧ NewAt w.heap.size r ∧ RowKit.Below w.heap.size w w'
theorem red_names {l : List Nat} {K : List T3} (h : KnT (trT l) K) : red l = (trT l).map fun t => lessT K t + 1 := by
  unfold red
  rw [← trT_tl, List.map_map]
  apply List.map_congr_left
  intro t _
  show nameOf _ (tl t) = _
  rw [trT_tl, knT_name h]
set_option maxHeartbeats 8000000 in
set_option maxRecDepth 100000 in
theorem reduceP_any (l : List Nat) (p q : Option Addr) (n c m d : Nat) (w : World) (hn : n = l.length) (hl : n ≤ 100000) (h0 : 0 < n) (hm : m = mm n) (hp : Rd w p (nums l)) (hq : Rd w q (zs (up (places n)))) :
    Calls Try.prog 28 #[.agg #[.slice p n c, .slice q m d]] w (ReP w l) := by
  obtain ⟨i0, hi0, hz0, hz1, hz2⟩ := info_parts info_u64
  have hmm : m ≤ n + 1 ∧ 0 < m := by rw [hm]; unfold mm top; split <;> omega
  have hb0 : RowKit.Below w.heap.size w (w.alloc (.cells #[.slice p n c, .slice q m d] 44)) := (RowKit.Below.refl _ w).alloc (Nat.le_refl _) _
  have C1 := Lib.hid (triplesP_any l p q n c m d (w.alloc (.cells #[.slice p n c, .slice q m d] 44)) hn (by omega) hm (hp.below hb0) (hq.below hb0))
  have HM := Lib.hid hm; have HN := Lib.hid hn
  have HML : Hid (mm l.length = m) := Lib.hid (by rw [← hn, hm])
  have HLT : Hid ((trT l).length = m) := Lib.hid (by rw [trT_length, ← hn, hm])
  have HB0 := Lib.hid hb0
  clear hp hq hm hn hb0
  go_enter Try.func28, Try.ntmps28
  go_wp2_with fail
  refine C1.out.mono ?_
  rintro e w1 ⟨g, cg, rfl, hcg, hR, hg, hb1⟩
  rw [HML.out] at hcg ⊢
  rw [World.size_alloc] at hg
  have B1 : Hid (RowKit.Below w.heap.size w w1) := Lib.hid (HB0.out.trans (hb1.mono (by rw [World.size_alloc]; omega)))
  have HV := Lib.hid (fun w => values_any (some ⟨g, 0, none⟩) m cg w)
  have R1 := Lib.hid hR; have G1 := Lib.hid hg
  clear hR hb1 hg C1 HB0
  go_wp2_with fail
  refine (HV.out _).mono ?_
  rintro e w2 ⟨rfl, rfl⟩
  have b2 : RowKit.Below w1.heap.size w1 (w1.alloc (.cells #[.slice (some ⟨g, 0, none⟩) m cg] 47)) := (RowKit.Below.refl _ w1).alloc (Nat.le_refl _) _
  have C2 := Lib.hid (sortedf_any (trT l) m w1.heap.size cg (some ⟨g, 0, none⟩) (w1.alloc (.cells #[.slice (some ⟨g, 0, none⟩) m cg] 47)) HLT.out.symm hmm.2 (by omega) (by rw [World.size_alloc]; omega) (Boxed.new w1 47 _).cell ((rowT_rd R1.out).below b2))
  have R2 := Lib.hid (rowT_below R1.out b2)
  have B2 : Hid (RowKit.Below w.heap.size w (w1.alloc (.cells #[.slice (some ⟨g, 0, none⟩) m cg] 47))) := Lib.hid (B1.out.trans (b2.mono B1.out.size))
  clear HV R1 B1 b2
  go_wp2_with fail
  generalize w1.alloc (.cells #[.slice (some ⟨g, 0, none⟩) m cg] 47) = w2 at C2 R2 B2 ⊢
  refine C2.out.mono ?_
  rintro e w3 ⟨g3, c3, M, rfl, hc3, hp3, hs3, hR3, hg3, hb3⟩
  have HMl : Hid (M.length = m) := Lib.hid (by rw [hp3.length_eq, HLT.out])
  have HK := Lib.hid (knT_of hp3 hs3)
  have R3 := Lib.hid (rowT_below R2.out hb3)
  have hg3b : w.heap.size ≤ g3 := Nat.le_trans B2.out.size hg3
  have B3 : Hid (RowKit.Below w.heap.size w w3) := Lib.hid (B2.out.trans (hb3.mono B2.out.size))
  have hgg : g < g3 := Nat.lt_of_lt_of_le R2.out.1 hg3
  have C3 := Lib.hid (compactT_any M m g3 c3 w3 HMl.out.symm (by omega) hc3 hR3)
  have hR3l := hR3.1
  clear hp3 hs3 hR3 hb3 C2 R2 B2
  go_wp2_with fail
  refine C3.out.mono ?_
  rintro e w4 ⟨mk, rfl, hmk, hmkn, hRk, hbk⟩
  obtain ⟨K, hKe⟩ : ∃ K, K = compactUpTo M.toArray M.length := ⟨_, rfl⟩
  rw [← hKe] at hmk hRk HK
  have HMK : Hid (mk = K.length ∧ K.length = many l) := Lib.hid ⟨hmk, knT_many HK.out⟩
  have R4 : Hid (RowT w4 g (trT l)) := Lib.hid (rowT_blk R3.out hbk.size (hbk.block g hgg))
  have B4 : Hid (RowKit.Below w.heap.size w w4) := Lib.hid (B3.out.trans (hbk.mono hg3b))
  have RK := Lib.hid hRk
  have hmkl : mk ≤ m := by rw [HMl.out] at hmkn; exact hmkn
  have hg34 : g3 < w4.heap.size := Nat.lt_of_lt_of_le hR3l hbk.size
  clear hmk hRk hbk hKe hmkn C3 R3 B3 hgg hg3 hg3b hR3l HMl
  go_wp2_with (at_make; refine wpList_make_own _ rfl _ _ 42 rfl w4.heap.size 41 i0 (.int .u64 0) 1 Try.underlying42 hi0 hz0 hz1 .i64 .i64 (m : Int) m rfl rfl rfl ?c1 ?c2 ?c3 ?_)
  case c1 => rw [hz2]; omega
  case c2 => unfold maxLen; omega
  case c3 => simp
  intro w5 hown5 hgr5
  have b5 : RowKit.Below w4.heap.size w4 w5 := (RowKit.Below.refl _ w4).grown hgr5 (Nat.le_refl _) (by simp)
  obtain ⟨hB, hhB⟩ : ∃ hB, hB = w4.heap.size := ⟨_, rfl⟩
  have R5 : Hid (RowT w5 g (trT l)) := Lib.hid (rowT_below R4.out b5)
  have RK5 : Hid (Rd w5 (some ⟨g3, 0, none⟩) (fT K)) := Lib.hid (RK.out.below b5)
  have B5 : Hid (RowKit.Below w.heap.size w w5) := Lib.hid (B4.out.trans (b5.mono B4.out.size))
  have Z5 : Hid (hB ≤ w5.heap.size ∧ g < hB ∧ g3 < hB ∧ w.heap.size ≤ hB) := Lib.hid ⟨by rw [hhB]; exact b5.size, by rw [hhB]; exact R4.out.1, by rw [hhB]; exact hg34, by rw [hhB]; exact B4.out.size⟩
  rw [← hhB] at hown5 ⊢
  have HO5 : Hid (w5.ownsRow hB 41 1 (.slice (some ⟨hB, 0, none⟩) 0 m) 0 (nums ((red l).take 0))) := Lib.hid hown5
  have HB5 := Lib.hid (RowKit.Below.refl hB w5)
  have HRL : Hid ((red l).length = m) := Lib.hid (by rw [red_length, HML.out])
  clear hown5 hgr5 b5 hhB R4 RK B4 hg34 hcg hc3
  go_wp2_with fail
  go_loopw [6, 22] (fun v i wr => ∃ (k g6 c6 : Nat), k ≤ m ∧ i = .int .i64 k ∧ v = .slice (some ⟨g6, 0, none⟩) k c6 ∧ Hid (wr.ownsRow hB 41 1 v k (nums ((red l).take k))) ∧ Hid (RowKit.Below hB w5 wr)) (fun _ i _ => m - (intOf i).toNat)
  case atStart => exact ⟨0, hB, m, Nat.zero_le _, rfl, rfl, HO5, HB5⟩
  case round =>
    clear HO5 HB5
    obtain ⟨k, g6, c6, hk, rfl, rfl, HO, HB⟩ := hrel
    have hz5 := Z5.out
    have hws := HB.out.size
    by_cases hlt : k < m
    · have k0 : (0 : Int) ≤ (k : Int) := by omega
      have k1 : (k : Int) < (m : Int) := by omega
      have hR : RowT wr g (trT l) := rowT_blk R5.out HB.out.size (HB.out.block g (by omega))
      have hkl : k < (trT l).length := by rw [HLT.out]; exact hlt
      obtain ⟨⟨a0, a1, a2⟩, _⟩ := rowT_at hR hkl
      have hrk : (red l).getD k 0 = lessT K (trT l)[k] + 1 := by
        rw [red_names HK.out, List.getD_eq_getElem?_getD, List.getElem?_map, List.getElem?_eq_getElem hkl]; rfl
      have hKw : Rd wr (some ⟨g3, 0, none⟩) (fT K) := fun i hi => by
        obtain ⟨a, e, hl3, hc⟩ := RK5.out i hi
        cases e
        exact ⟨_, rfl, Nat.lt_of_lt_of_le hl3 HB.out.size, by rw [← hc]; exact HB.out.cell (by rw [add_block]; exact hz5.2.2.1)⟩
      obtain ⟨t, ht⟩ : ∃ t, t = (trT l)[k] := ⟨_, rfl⟩
      rw [← ht] at a0 a1 a2 hrk
      have C4 := Lib.hid (bsf_any K (knT_sorted HK.out) t (some ⟨g3, 0, none⟩) c3 mk (wr.alloc (.cells (encT t).toArray 50)) HMK.out.1 (by omega) (hKw.alloc _))
      obtain ⟨r, hr⟩ : ∃ r, r = lessT K t := ⟨_, rfl⟩
      obtain ⟨r1, hr1⟩ : ∃ r1, r1 = r + 1 := ⟨_, rfl⟩
      have hrm : r ≤ mk := by rw [hr, HMK.out.1]; exact List.countP_le_length
      rw [← hr] at C4 hrk
      rw [← hr1] at hrk
      have htk : nums ((red l).take (k + 1)) = nums ((red l).take k) ++ [.int .u64 (r1 : Nat)] := by
        have h2 : k < (red l).length := by rw [HRL.out]; exact hlt
        rw [List.take_succ_eq_append_getElem h2, ← gd h2, hrk]
        simp [nums]
      have HTK := Lib.hid htk
      have er : (r : Int) + 1 = (r1 : Int) := by omega
      have wr1 : IntKind.u64.wrap (r : Int) = (r : Int) := by simp [IntKind.wrap, IntKind.bits, IntKind.signed]; omega
      have wr2 : IntKind.u64.wrap (r1 : Int) = (r1 : Int) := by simp [IntKind.wrap, IntKind.bits, IntKind.signed]; omega
      have hO2 : (wr.alloc (.cells (encT t).toArray 50)).ownsRow hB 41 1 (.slice (some ⟨g6, 0, none⟩) k c6) k (nums ((red l).take k)) := HO.out.alloc _
      have HO2 := Lib.hid hO2
      have hb2 : Hid (RowKit.Below hB w5 (wr.alloc (.cells (encT t).toArray 50))) := Lib.hid (HB.out.alloc (by omega) _)
      clear ht hr hr1 hrk htk hR hKw hkl hO2
      obtain ⟨t1, t2, t3⟩ := t
      simp only [encT] at C4 HO2 hb2
      go_wp2_with fail
      generalize (wr.alloc (.cells #[.int .u64 (t1 : Nat), .int .u64 (t2 : Nat), .int .u64 (t3 : Nat)] 50)) = wa at C4 HO2 hb2 ⊢
      refine C4.out.mono ?_
      rintro e w6 ⟨b, rfl, hb6⟩
      have HO3 := Lib.hid (Rw.own_below HO2.out hb6)
      have hbase := Nat.le_trans hz5.1 (Nat.le_trans hb2.out.size hb6.size)
      have HB6 : Hid (RowKit.Below hB w5 w6) := Lib.hid (hb2.out.trans (hb6.mono (Nat.le_trans hz5.1 hb2.out.size)))
      clear hb6 C4 HO2
      go_wp2_with (at_builtin; refine Rw.push rfl _ _ 42 rfl hB 41 i0 (.int .u64 0) 1 8 Try.underlying42 hi0 hz0 hz1 hz2 rfl (by decide) _ _ _ rfl HO3.out [.int .u64 (r1 : Nat)] rfl rfl rfl (by omega) (by omega) hbase ?_)
      intro g7 c7 w7 hown7 _ _ _ hgr7
      have H7 : Hid (w7.ownsRow hB 41 1 (.slice (some ⟨g7, 0, none⟩) (k + 1) c7) (k + 1) (nums ((red l).take (k + 1)))) := Lib.hid (by rw [HTK.out]; exact hown7)
      have HB7 : Hid (RowKit.Below hB w5 w7) := Lib.hid (HB6.out.trans hgr7)
      clear hown7 hgr7
      go_wp2_with fail
      go_roundw
      case rel => exact ⟨k + 1, g7, c7, by omega, by first | rfl | go_num, rfl, H7, HB7⟩
      case measure => simp [intOf]; omega
    · obtain rfl : k = m := by omega
      have k1 : ¬ (k : Int) < (k : Int) := by omega
      have hoo := HO.out
      rw [List.take_of_length_le (by rw [HRL.out]; exact Nat.le_refl _)] at hoo
      have hcp : k ≤ c6 := by
        rcases hoo.2 with ⟨h, _⟩ | ⟨g2, cap2, cur, h, _, _, hc2, _⟩
        · cases h
        · simp only [Value.slice.injEq] at h; rw [h.2.2]; exact hc2
      have hg6 := (hoo.lt g6 rfl).1
      have F : Hid (ReP w l (.returned (.tuple #[.slice (some ⟨g6, 0, none⟩) k c6, .int .i64 (mk : Nat)])) wr) := Lib.hid ⟨_, c6, by rw [HML.out, ← HMK.out.2, ← HMK.out.1], by rw [HML.out]; exact hcp, Rd.of_own hoo, fun a e => by cases e; show w.heap.size ≤ g6; omega, B5.out.trans (HB.out.mono hz5.2.2.2)⟩
      clear hoo hcp hg6 hlt hk
      go_wp2_with fail
      refine bodyPost_ret (v := .tuple #[.slice (some ⟨g6, 0, none⟩) k c6, .int .i64 (mk : Nat)]) (by simp [results, Try.results28, go_sem]) rfl ?_
      exact F.out
end Go.Proofs.Ytonlbcibfbbpgaa.Sk

/- The walk of package pack's Lengths. -/
import Derived.Test.YtbegngilbngnoaaPsI
namespace Go.Proofs.Ytbegngilbngnoaa.Ps
open Go.RowKit Go.Lib Rw Ls Od Pk St _root_.Go.Proofs.Ytbegngilbngnoaa.Nm

theorem rd_other {w : World} {A : Option Addr} {xs : List Value} (h : Rd w A xs) {a : Addr} (ha : ∀ q, A = some q → q.block ≠ a.block) (v : Value) : Rd (w.setCell a v) A xs := fun i hi => by
  obtain ⟨q, e, hl, hc⟩ := h i hi
  refine ⟨q, e, Nat.lt_of_lt_of_le hl (KeepsWalks.setCell w a v).size, ?_⟩
  rw [World.cell?_setCell_other _ _ _ _ (fun h2 => ha q e (by rw [← add_block q i, h2]))]
  exact hc
set_option maxHeartbeats 4000000 in
set_option maxRecDepth 100000 in
theorem plengths_bad (ws : List Nat) (lim : Int) (p : Option Addr) (c : Nat) (w : World) (hp : Rd w p (nums ws)) (hl : ws.length ≤ 17592186044416) (hb : okL ws lim = false) :
    Calls Try.prog 8 #[.slice p ws.length c, .int .i64 lim] w (IE w (lenR ws lim)) := by
  have F : Hid (lenR ws lim = ([], 1)) := Lib.hid (by unfold lenR; rw [hb]; rfl)
  have CR := pweights_any ws p c w hp hl
  cases ho : okW ws with
  | false =>
    rw [ho] at CR
    have C := Lib.hid CR
    clear CR ho hp hb hl
    go_enter Try.func8, Try.ntmps8
    go_wp2_with fail
    refine C.out.mono ?_
    rintro e w1 ⟨rfl, rfl⟩
    go_wp2_with fail
    refine bodyPost_ret (v := .tuple #[.slice none 0 0, .int .i64 1]) (by simp [results, Try.results8, go_sem]) rfl ?_
    exact ie_mk F.out rfl (Nat.le_refl _) (Rd.nil _ _) (Below.refl _ _)
  | true =>
    have hlm : okLim lim = false := by
      unfold okL at hb
      unfold okLim
      rw [ho, Bool.true_and] at hb
      exact hb
    have CL := plimit_any lim w
    rw [hlm] at CL
    rw [ho] at CR
    have C := Lib.hid CR
    have D := Lib.hid CL
    clear CR CL ho hp hb hl hlm
    go_enter Try.func8, Try.ntmps8
    go_wp2_with fail
    refine C.out.mono ?_
    rintro e w1 ⟨rfl, rfl⟩
    go_wp2_with fail
    refine D.out.mono ?_
    rintro e w2 ⟨rfl, rfl⟩
    go_wp2_with fail
    refine bodyPost_ret (v := .tuple #[.slice none 0 0, .int .i64 1]) (by simp [results, Try.results8, go_sem]) rfl ?_
    exact ie_mk F.out rfl (Nat.le_refl _) (Rd.nil _ _) (Below.refl _ _)
set_option maxHeartbeats 8000000 in
set_option maxRecDepth 100000 in
theorem plengths_ok (ws : List Nat) (lm n : Nat) (p : Option Addr) (c : Nat) (w : World) (hn : n = ws.length) (hp : Rd w p (nums ws)) (hb : okL ws (lm : Int) = true) :
    Calls Try.prog 8 #[.slice p n c, .int .i64 (lm : Int)] w (IE w (lenR ws (lm : Int))) := by
  obtain ⟨i0, hi0, hz0, hz1, hz2⟩ := info_parts info_int
  have hb2 := hb
  unfold okL at hb2
  simp only [Bool.and_eq_true, decide_eq_true_eq] at hb2
  obtain ⟨⟨ho, g1⟩, g2⟩ := hb2
  have hl1 : 1 ≤ lm ∧ lm ≤ 15 := by omega
  have hl5 := okW_len ho
  rw [← hn] at hl5
  have CR0 := pweights_any ws p c w hp (by rw [← hn]; omega)
  rw [ho, ← hn] at CR0
  have hlim : okLim (lm : Int) = true := by unfold okLim; rw [decide_eq_true g1, decide_eq_true g2]; rfl
  have CL0 := plimit_any (lm : Int) w
  rw [hlim] at CL0
  have hsl := sy_len ws
  obtain ⟨sz, hsz⟩ : ∃ sz, sz = (sy ws).length := ⟨_, rfl⟩
  rw [← hsz, ← hn] at hsl
  have CLE := leaves_any ws p c n sz w hn (by omega) hsz hp
  obtain ⟨x0, hx0⟩ : ∃ x0 : Nat, x0 = 2 ^ lm := ⟨_, rfl⟩
  have sh0 := shl_i64 lm hl1.2
  rw [← hx0] at sh0
  have hx0b : x0 ≤ 32768 := by rw [hx0]; exact Nat.pow_le_pow_right (n := 2) (by omega) hl1.2
  have HX0 := Lib.hid hx0
  have C1 := Lib.hid CR0; have C2 := Lib.hid CL0; have C3 := Lib.hid CLE
  have HN := Lib.hid hn; have HSZ := Lib.hid hsz; have HOK := Lib.hid ho; have HBD := Lib.hid hb; have HP := Lib.hid hp
  have e5 : decide (15 < lm) = false := decide_eq_false (by omega)
  clear CR0 CL0 CLE hn hsz hx0 hlim ho hb hp g1 g2
  go_enter Try.func8, Try.ntmps8
  go_wp2_with fail
  refine C1.out.mono ?_
  rintro e w1 ⟨rfl, hw1⟩
  replace hw1 := hw1.symm
  subst hw1
  go_wp2_with fail
  refine C2.out.mono ?_
  rintro e w2 ⟨rfl, hw2⟩
  replace hw2 := hw2.symm
  subst hw2
  go_wp2_with fail
  refine C3.out.mono ?_
  rintro e w3 ⟨g, cap, rfl, h1, h2, h3, h4⟩
  have HG := Lib.hid (And.intro h1 h2); have HRS := Lib.hid h3; have HB3 := Lib.hid h4
  clear h1 h2 h3 h4 C1 C2 C3
  by_cases hfull : x0 < sz
  · have t1 : decide ((x0 : Int) < (sz : Int)) = true := decide_eq_true (by omega)
    have t2 : decide (x0 < sz) = true := decide_eq_true hfull
    have F : Hid (lenR ws (lm : Int) = ([], 8)) := Lib.hid (by unfold lenR; rw [if_pos HBD.out, Int.toNat_natCast, if_pos (by rw [← HX0.out, ← HSZ.out]; exact hfull)])
    clear hfull
    go_wp2_with fail
    refine bodyPost_ret (v := .tuple #[.slice none 0 0, .int .i64 8]) (by simp [results, Try.results8, go_sem]) rfl ?_
    exact ie_mk F.out rfl (Nat.le_refl _) (Rd.nil _ _) HB3.out
  have t1 : decide ((x0 : Int) < (sz : Int)) = false := decide_eq_false (by omega)
  have t2 : decide (x0 < sz) = false := decide_eq_false hfull
  have F : Hid (lenR ws (lm : Int) = (lens ws lm, 0)) := Lib.hid (by unfold lenR; rw [if_pos HBD.out, Int.toNat_natCast, if_neg (by rw [← HX0.out, ← HSZ.out]; exact hfull)])
  have HFU := Lib.hid hfull
  clear hfull
  go_wp2_with (at_make; refine wpList_make_full _ rfl _ _ 23 rfl w3.heap.size 3 i0 (.int .i64 0) 1 Try.underlying23 hi0 hz0 hz1 .i64 .i64 ↑n ↑n n rfl rfl rfl rfl ?c1 ?c2 ?c3 ?_)
  case c1 => rw [hz2]; omega
  case c2 => unfold maxLen; omega
  case c3 => simp
  intro w4 hown4 hgr4
  have b4 : Below w3.heap.size w3 w4 := (Below.refl _ _).grown hgr4 (Nat.le_refl _) (by simp)
  rw [toList_madeCells_one] at hown4
  obtain ⟨gL, hgL⟩ : ∃ gL, gL = w3.heap.size := ⟨_, rfl⟩
  rw [← hgL] at hown4 b4 
  have HGL := Lib.hid hgL
  have hAr : Arr w4 gL 3 gL n (zs (up (List.replicate n 0))) := by
    have e : zs (up (List.replicate n 0)) = List.replicate n (.int .i64 0) := by simp [zs, up]
    rw [e]; exact hown4
  have HAr := Lib.hid hAr
  have HB4 : Hid (Below w.heap.size w w4) := Lib.hid (HB3.out.trans (b4.mono (by rw [hgL]; exact HB3.out.size)))
  have HRS4 : Hid (Rd w4 (some ⟨g, 0, none⟩) (zs (up (lv ws)))) := Lib.hid (HRS.out.below (by rw [← hgL]; exact b4))
  have hgg : g < gL := by rw [hgL]; exact HG.out.2
  try rw [← hgL]
  clear hown4 hgr4 b4 hAr hgL
  have HSL : Hid ((lv ws).length = sz) := Lib.hid (by rw [lv_len, HSZ.out])
  have HLL : Hid ((lens ws lm).length = n) := Lib.hid (by rw [lens_length, HN.out])
  by_cases hs0 : sz = 0
  · have u1 : ((sz : Int) == 1) = false := by rw [beq_eq_false_iff_ne]; omega
    have u2 : ((sz : Int) == 0) = true := by rw [beq_iff_eq]; omega
    have u3 : (sz == 0) = true := by rw [beq_iff_eq]; exact hs0
    have u4 : (sz == 1) = false := by rw [beq_eq_false_iff_ne]; omega
    have HFE : Hid (lens ws lm = List.replicate n 0) := Lib.hid (by rw [few_none (by rw [← HSZ.out]; exact hs0), HN.out])
    clear hs0
    go_wp2_with fail
    refine bodyPost_ret (v := .tuple #[.slice (some ⟨gL, 0, none⟩) n n, .int .i64 0]) (by simp [results, Try.results8, go_sem]) rfl ?_
    exact ie_mk F.out HLL.out (Nat.le_refl _) (by rw [HFE.out]; exact HAr.out.rd) HB4.out
  by_cases hs1 : sz = 1
  · have u1 : ((sz : Int) == 1) = true := by rw [beq_iff_eq]; omega
    have u4 : (sz == 1) = true := by rw [beq_iff_eq]; exact hs1
    obtain ⟨x, hx⟩ := List.length_eq_one_iff.1 (show (sy ws).length = 1 by rw [← HSZ.out]; exact hs1)
    have hlv : lv ws = [x] := by
      have := lv_perm ws
      rw [hx] at this
      exact List.perm_singleton.1 this
    have hxn : x < n := by rw [HN.out]; exact (sy_lt (show x ∈ sy ws by rw [hx]; simp)).1
    have cs := HRS4.out.at (i := 0) (by rw [hlv]; simp [zs, up])
    rw [Addr.add_lit, hlv] at cs
    have cs2 : w4.cell? ⟨g, 0, none⟩ = some (.int .i64 (x : Nat)) := by
      rw [show (⟨g, 0 + 0, none⟩ : Addr) = ⟨g, 0, none⟩ from rfl] at cs
      rw [cs]; rfl
    have ca := HAr.out.cell hxn
    have fa := HAr.out.free x
    have HFE : Hid (lens ws lm = (List.replicate n 0).set x 1) := Lib.hid (by rw [few_one hx, HN.out])
    have HA2 := HAr.out.set x (.int .i64 ((1 : Nat) : Int))
    rw [up_set] at HA2
    have HA2 := Lib.hid HA2
    have HB5 := Lib.hid (below_put HB4.out (a := ⟨gL, x, none⟩) (by show w.heap.size ≤ gL; have := HG.out.1; omega) (.int .i64 ((1 : Nat) : Int)))
    have y1 : (0 : Int) ≤ (x : Int) := by omega
    have y2 : (x : Int) < (n : Int) := by omega
    have y3 : (0 : Int) < (sz : Int) := by omega
    clear cs hx hlv hs1
    go_wp2_with fail
    refine bodyPost_ret (v := .tuple #[.slice (some ⟨gL, 0, none⟩) n n, .int .i64 0]) (by simp [results, Try.results8, go_sem]) rfl ?_
    exact ie_mk F.out HLL.out (Nat.le_refl _) (by rw [HFE.out]; exact HA2.out.rd) HB5.out
  have h2 : 2 ≤ sz := by omega
  have u1 : ((sz : Int) == 1) = false := by rw [beq_eq_false_iff_ne]; omega
  have u2 : ((sz : Int) == 0) = false := by rw [beq_eq_false_iff_ne]; omega
  have u3 : (sz == 0) = false := by rw [beq_eq_false_iff_ne]; exact hs0
  have u4 : (sz == 1) = false := by rw [beq_eq_false_iff_ne]; exact hs1
  have hkk : sz ≤ 2 ^ (lm - 1 + 1) := by rw [show lm - 1 + 1 = lm by omega, ← HX0.out]; have := HFU.out; omega
  have HKK := Lib.hid hkk
  have CLV := Lib.hid (levels_any ws p c n g sz cap lm w4 HN.out HOK.out HSL.out.symm h2 hl1.1 hl1.2 (HP.out.below HB4.out) HRS4.out)
  have CCO : Hid (∀ (ga cap : Nat) (gs : List (Nat × Nat)) (W : World), gs.length = lm → Rd W (some ⟨ga, 0, none⟩) (ovs (wf ws) (lv ws) gs) → LvsAt W (wf ws) (lv ws) gs → Calls Try.prog 18 #[.slice (some ⟨ga, 0, none⟩) lm cap, .int .i64 (sz : Nat)] W fun e w' => ∃ g c, e = .returned (.slice (some ⟨g, 0, none⟩) sz c) ∧ W.heap.size ≤ g ∧ Rd w' (some ⟨g, 0, none⟩) (zs (up ((List.range sz).map fun i => len (wf ws) (lv ws) (lm - 1) ((lv ws).getD i 0)))) ∧ Below W.heap.size W w') :=
    Lib.hid (fun ga cap gs W a1 a2 a3 => counts_any ws ga cap sz lm gs W HSL.out.symm h2 (by omega) hl1.1 hl1.2 a1 HKK.out a2 a3)
  have HTOLD : Hid (told n (lv ws) (len (wf ws) (lv ws) (lm - 1)) sz = lens ws lm) := Lib.hid (by
    have := told_all (ws := ws) (lim := lm) (by rw [HSL.out]; exact h2) (by rw [HSL.out]; exact HKK.out)
    rw [HSL.out, ← HN.out] at this
    exact this)
  obtain ⟨f, hf⟩ : ∃ f, f = len (wf ws) (lv ws) (lm - 1) := ⟨_, rfl⟩
  rw [← hf] at CCO HTOLD
  have HA0 : Hid (Arr w4 gL 3 gL n (zs (up (told n (lv ws) f 0)))) := Lib.hid (by rw [told_zero]; exact HAr.out)
  clear hf hs0 hs1 hkk
  go_wp2_with fail
  refine CLV.out.mono ?_
  rintro e w5 ⟨ga, ca, gs, rfl, q1, q2, q3, q4, q5⟩
  have HR5 := Lib.hid q2; have HL5 := Lib.hid q3; have HB5 := Lib.hid q5; have HQ1 := Lib.hid q1
  clear q1 q2 q3 q4 q5 CLV
  go_wp2_with fail
  refine (CCO.out ga ca gs w5 HQ1.out HR5.out HL5.out).mono ?_
  rintro e w6 ⟨gO, cO, rfl, q0, q1, q2⟩
  have HB45 : Hid (Below w4.heap.size w4 w6) := Lib.hid (HB5.out.trans (q2.mono HB5.out.size))
  have HRO := Lib.hid q1
  have HB6 : Hid (Below w.heap.size w w6) := Lib.hid (HB4.out.trans (HB45.out.mono HB4.out.size))
  have HA6 : Hid (Arr w6 gL 3 gL n (zs (up (told n (lv ws) f 0)))) := Lib.hid (HA0.out.below HB45.out)
  have HRS6 : Hid (Rd w6 (some ⟨g, 0, none⟩) (zs (up (lv ws)))) := Lib.hid (HRS4.out.below HB45.out)
  have hgO : gO ≠ gL := by
    have h1 := HAr.out.lt
    have h3 := HB5.out.size
    omega
  clear q0 q1 q2 CCO HB5 HR5 HL5 HA0 HRS4 HAr HB4
  go_wp2_with fail
  go_loopw [48] (fun i wr => ∃ t : Nat, t ≤ sz ∧ i = .int .i64 (t : Nat) ∧ Hid (Arr wr gL 3 gL n (zs (up (told n (lv ws) f t)))) ∧ Hid (Rd wr (some ⟨g, 0, none⟩) (zs (up (lv ws)))) ∧ Hid (Rd wr (some ⟨gO, 0, none⟩) (zs (up ((List.range sz).map fun i => f ((lv ws).getD i 0))))) ∧ Hid (Below w.heap.size w wr)) (fun i _ => sz - (intOf i).toNat)
  case atStart => exact ⟨0, Nat.zero_le _, rfl, HA6, HRS6, HRO, HB6⟩
  case round =>
    clear HA6 HRS6 HRO HB6
    obtain ⟨t, ht, rfl, HA, HRS, HRO, HB⟩ := hrel
    by_cases hlt : t < sz
    · have htl : t < (lv ws).length := by rw [HSL.out]; exact hlt
      have cs := HRS.out.at (i := t) (by simp [zs, up]; exact htl)
      have co := HRO.out.at (i := t) (by simp [zs, up]; exact hlt)
      rw [Addr.add_lit, Nat.zero_add, zup_getD _ _ htl] at cs
      rw [Addr.add_lit, Nat.zero_add, zup_getD _ _ (by simp; exact hlt)] at co
      have hsn : (lv ws)[t] < n := by rw [HN.out]; exact (lv_mem.1 (List.getElem_mem htl)).1
      have hTS := told_succ (m := n) (L := lv ws) (f := f) htl
      obtain ⟨s, hs⟩ : ∃ s, s = (lv ws)[t] := ⟨_, rfl⟩
      have es : (lv ws).getD t 0 = s := by rw [hs]; simp [htl]
      have eo : ((List.range sz).map fun i => f ((lv ws).getD i 0)).getD t 0 = f s := by
        rw [List.getD_eq_getElem?_getD, List.getElem?_map, List.getElem?_range hlt]
        show f ((lv ws).getD t 0) = f s
        rw [es]
      rw [es] at cs
      rw [eo] at co
      rw [← hs] at hsn hTS
      obtain ⟨v, hv⟩ : ∃ v, v = f s := ⟨_, rfl⟩
      rw [← hv] at co hTS
      have ca := HA.out.cell hsn
      have fa := HA.out.free s
      have HA2 := HA.out.set s (.int .i64 (v : Nat))
      rw [up_set, hTS] at HA2
      have HA2 := Lib.hid HA2
      have HRS2 := Lib.hid (rd_other HRS.out (a := ⟨gL, s, none⟩) (fun q e => by cases e; show g ≠ gL; omega) (.int .i64 (v : Nat)))
      have HRO2 := Lib.hid (rd_other HRO.out (a := ⟨gL, s, none⟩) (fun q e => by cases e; exact hgO) (.int .i64 (v : Nat)))
      have HB2 := Lib.hid (below_put HB.out (a := ⟨gL, s, none⟩) (by show w.heap.size ≤ gL; have := HG.out.1; omega) (.int .i64 (v : Nat)))
      have y1 : (0 : Int) ≤ (t : Int) := by omega
      have y2 : (t : Int) < (sz : Int) := by omega
      have y3 : (0 : Int) ≤ (s : Int) := by omega
      have y4 : (s : Int) < (n : Int) := by omega
      clear hs es eo hv hTS htl hlt
      go_wp2_with fail
      go_roundw
      case rel => exact ⟨t + 1, by omega, by go_num, HA2, HRS2, HRO2, HB2⟩
      case measure => simp [intOf]; omega
    · obtain rfl : t = sz := by omega
      have k1 : ¬ (t : Int) < (t : Int) := by omega
      have HAF : Hid (Arr wr gL 3 gL n (zs (up (lens ws lm)))) := Lib.hid (by rw [← HTOLD.out]; exact HA.out)
      go_wp2_with fail
      refine bodyPost_ret (v := .tuple #[.slice (some ⟨gL, 0, none⟩) n n, .int .i64 0]) (by simp [results, Try.results8, go_sem]) rfl ?_
      exact ie_mk F.out HLL.out (Nat.le_refl _) HAF.out.rd HB.out
theorem plengths_any (ws : List Nat) (lim : Int) (p : Option Addr) (c : Nat) (w : World) (hp : Rd w p (nums ws)) (hl : ws.length ≤ 17592186044416) :
    Calls Try.prog 8 #[.slice p ws.length c, .int .i64 lim] w (IE w (lenR ws lim)) := by
  cases hb : okL ws lim with
  | false => exact plengths_bad ws lim p c w hp hl hb
  | true =>
    have hb2 := hb
    unfold okL at hb2
    simp only [Bool.and_eq_true, decide_eq_true_eq] at hb2
    obtain ⟨lm, rfl⟩ := Int.eq_ofNat_of_zero_le (show 0 ≤ lim by omega)
    exact plengths_ok ws lm ws.length p c w rfl hp hb
end Go.Proofs.Ytbegngilbngnoaa.Ps

/- The document's Write. The document's done: a write is done, on the spot. -/
import Derived.Test.YtejmbbhbimgheaaDkRefF
namespace Go.Proofs.Ytejmbbhbimgheaa.Dk
open Go.RowKit Go.Op Rw

theorem rdy_two {D : Dsk} (h : rdy D = 2) : ckE D = 2 := by
  rw [rdy_ck] at h
  rcases ckE_cases D with hk | hk
  · rw [hk, if_pos rfl] at h
    split at h
    · exact absurd h (by decide)
    · exact absurd h (by decide)
  · exact hk
theorem as_rdy {D : Dsk} (h : rdy D ≠ 0) (D' : Dsk) (er : Int) : asD D (rdy D) = chg D D' ∧ rdy D = chgR D er := by
  rw [chg_if, chgR_if]
  by_cases h2 : rdy D = 2
  · rw [if_pos h2, if_pos h2]
    unfold asD
    rw [if_pos ⟨h2, rdy_two h2⟩]
    exact ⟨rfl, h2⟩
  · rw [if_neg h2, if_neg h2, if_neg h, if_neg h]
    unfold asD
    rw [if_neg (fun hh => h2 hh.1)]
    exact ⟨rfl, rfl⟩
theorem as_no {D : Dsk} {er : Int} (h : rdy D = 0) : asD D er = D := by
  unfold asD
  rw [if_neg]
  rintro ⟨_, hk⟩
  rw [rdy_ck, hk] at h
  rw [if_neg (by decide)] at h
  exact absurd h (by decide)
theorem OwnD.snoc {S w5 : World} {B : Nat} {D : Dsk} {v : DVal} {nm d : ByteArray} {s : Int} {g cap : Nat} (h : OwnD S B D v) (hown : w5.ownsRow B 63 3 (.slice (some ⟨g, 0, none⟩) (v.nW + 1) cap) (v.nW + 1) (wRow D.W ++ [.string nm, .int .i64 s, .string d]))
    (hg : S.grownBy w5 (Value.slice v.pW v.nW v.cW).ownBlock) (hgg : (Value.slice v.pW v.nW v.cW).ownBlock = some g ∨ S.heap.size < g) (h1 : nm.size ≤ 140737488355328) (h2 : d.size ≤ 140737488355328) {f : Int} {dn : Bool} (hl : Lim ⟨D.size, D.E, D.W ++ [(nm, s, d)], f, dn⟩) :
    OwnD w5 B ⟨D.size, D.E, D.W ++ [(nm, s, d)], f, dn⟩ ⟨v.pE, v.nE, v.cE, some ⟨g, 0, none⟩, v.nW + 1, cap⟩ := by
  have hbar : Bar S w5 (fun k => (Value.slice v.pW v.nW v.cW).ownBlock = some k) := ⟨hg.os, hg.tape, hg.output, hg.size, fun k hk hp => hg.block k hk (fun e => hp e.symm)⟩
  refine ⟨h.hE, own_bar h.E hbar (fun k e hp => ?_), by simp [h.hW], ?_, h.okE, ?_, hl, ?_⟩
  · cases hpe : v.pE with
    | none => rw [hpe] at e; simp [Value.ownBlock] at e
    | some a =>
      cases hpw : v.pW with
      | none => rw [hpw] at hp; simp [Value.ownBlock] at hp
      | some b =>
        rw [hpe] at e; rw [hpw] at hp
        simp only [Value.ownBlock, Option.some.injEq] at e hp
        exact h.apart a b hpe hpw (by rw [e, hp])
  · have e : wRow (D.W ++ [(nm, s, d)]) = wRow D.W ++ [.string nm, .int .i64 s, .string d] := by rw [wRow_app]; rfl
    simp only
    rw [e]
    exact hown
  · intro i hi
    simp only [List.length_append, List.length_singleton] at hi
    rcases Nat.lt_or_ge i D.W.length with hi2 | hi2
    · have := h.okW i hi2
      simpa [List.getD_eq_getElem?_getD, List.getElem?_append_left hi2] using this
    · obtain rfl : i = D.W.length := by omega
      simpa [List.getD_eq_getElem?_getD] using ⟨h1, h2⟩
  · intro a b ea eb
    cases eb
    have hlt := (own_aboveV h.E a ea).2
    rcases hgg with hgg | hgg
    · cases hpw : v.pW with
      | none => rw [hpw] at hgg; simp [Value.ownBlock] at hgg
      | some b =>
        rw [hpw] at hgg
        simp only [Value.ownBlock, Option.some.injEq] at hgg
        have := h.apart a b ea hpw
        show a.block ≠ g
        rw [← hgg]; exact this
    · show a.block ≠ g
      omega
theorem bar_setD {w W : World} (a b c d e : Value) (p : Nat → Prop) (hp : p w.heap.size) : Bar W (((((W.setCell ⟨w.heap.size, 0, none⟩ a).setCell ⟨w.heap.size, 1, none⟩ b).setCell ⟨w.heap.size, 2, none⟩ c).setCell ⟨w.heap.size, 3, none⟩ d).setCell ⟨w.heap.size, 4, none⟩ e) p :=
  (((((Bar.refl W p).setCell (q := ⟨w.heap.size, 0, none⟩) hp a).setCell (q := ⟨w.heap.size, 1, none⟩) hp b).setCell (q := ⟨w.heap.size, 2, none⟩) hp c).setCell (q := ⟨w.heap.size, 3, none⟩) hp d).setCell (q := ⟨w.heap.size, 4, none⟩) hp e
theorem Two.setD {w W : World} {D : Dsk} {v v' : DVal} (h : Two w W D v) : Two w (((((W.setCell ⟨w.heap.size, 0, none⟩ (.int .i64 D.size)).setCell ⟨w.heap.size, 1, none⟩ (.slice v'.pE v'.nE v'.cE)).setCell ⟨w.heap.size, 2, none⟩ (.slice v'.pW v'.nW v'.cW)).setCell ⟨w.heap.size, 3, none⟩ (.int .i64 D.fuse)).setCell ⟨w.heap.size, 4, none⟩ (.bool D.down)) D v' := by
  refine ⟨?_, ?_, ?_⟩
  · have h1 := ((((h.d.set (i := 0) (by simp) (.int .i64 D.size)).set (i := 1) (by simp) (.slice v'.pE v'.nE v'.cE)).set (i := 2) (by simp) (.slice v'.pW v'.nW v'.cW)).set (i := 3) (by simp) (.int .i64 D.fuse)).set (i := 4) (by simp) (.bool D.down)
    exact h1
  · exact h.r.bar (bar_setD _ _ _ _ _ (fun k => k = w.heap.size) rfl) (by omega)
  · exact h.b.trans ((bar_setD _ _ _ _ _ (fun k => k = w.heap.size) rfl).below (fun k _ e => by omega) h.b.size)
set_option maxHeartbeats 16000000 in
set_option maxRecDepth 100000 in
theorem rWrite_any (D : Dsk) (v : DVal) (nm : ByteArray) (s : Int) (d : ByteArray) (w : World) (h : VarAt w D v) (hc : v.nE ≤ v.cE) (hf : Few D) (h1 : nm.size ≤ 140737488355328) (h2 : d.size ≤ 140737488355328) :
    Calls Try.prog 23 #[.agg #[.int .i64 D.size, .slice v.pE v.nE v.cE, .slice v.pW v.nW v.cW, .int .i64 D.fuse, .bool D.down], .string nm, .int .i64 s, .string d] w (AnsP w (wtD D nm s d) (wtE D nm s d)) := by
  obtain ⟨i0, hi0, hz0, hz1, hz2⟩ := info_parts info_wr
  obtain ⟨W2, hW2⟩ : ∃ W2, W2 = ((w.alloc (.cells #[.int .i64 D.size, .slice v.pE v.nE v.cE, .slice v.pW v.nW v.cW, .int .i64 D.fuse, .bool D.down] 25)).alloc (.cells #[.int .i64 0, .slice none 0 0, .slice none 0 0, .int .i64 0, .bool false] 25)) := ⟨_, rfl⟩
  have tw := Two.new w D v
  rw [← hW2] at tw
  have hv := h.below tw.b
  have HW2 := Lib.hid hW2
  obtain ⟨r, hr⟩ : ∃ r, r = rdE D nm s := ⟨_, rfl⟩
  have HPl : Hid (∀ W, Below W2.heap.size W2 W → Calls Try.prog 53 #[.agg #[.int .i64 D.size, .slice v.pE v.nE v.cE, .slice v.pW v.nW v.cW, .int .i64 D.fuse, .bool D.down], .string nm, .int .i64 s] W fun e w' => e = .returned (.int .i64 r) ∧ Below W.heap.size W w') := Lib.hid (fun W hb => by rw [hr]; exact rplace_any D v nm s W (hv.below hb) hc)
  have HCp : Hid (∀ W, Below W2.heap.size W2 W → Calls Try.prog 5 #[.agg #[.int .i64 D.size, .slice v.pE v.nE v.cE, .slice v.pW v.nW v.cW, .int .i64 D.fuse, .bool D.down]] W (CpP W D)) := Lib.hid (fun W hb => rCopy_any D v W (hv.below hb) hf)
  have HAs : Hid (∀ W, Below W2.heap.size W2 W → Calls Try.prog 32 #[.agg #[.int .i64 D.size, .slice v.pE v.nE v.cE, .slice v.pW v.nW v.cW, .int .i64 D.fuse, .bool D.down], .int .i64 r] W (AnsP W (asD D r) r)) := Lib.hid (fun W hb => ras_any D v r W (hv.below hb) hc hf)
  have TW := Lib.hid tw; have HR := Lib.hid hr
  obtain ⟨q0, q1, q2, q3, q4⟩ := tw.d.five
  have HVW : Hid (v.nW = D.W.length) := Lib.hid h.hW
  have HLf := h.lim.f
  clear h hc hf tw hv hW2 hr
  by_cases h0 : r = 0
  case neg =>
    have t0 : (r != 0) = true := by rw [bne_iff_ne]; exact h0
    have F : Hid (asD D r = wtD D nm s d ∧ r = wtE D nm s d) := Lib.hid (by
      have hr2 := HR.out
      by_cases hy : rdy D = 0
      · have e : rdE D nm s = findE D.E nm s := rdE_ok hy nm s
        rw [e] at hr2
        have hne : ¬ findE D.E nm s = 0 := by rw [← hr2]; exact h0
        unfold wtD wtE
        rw [chg_ok hy, chgR_ok hy, as_no hy]
        unfold wrD wrE
        rw [if_neg (fun hh => hne hh.1), if_neg hne]
        exact ⟨rfl, hr2⟩
      · have e : rdE D nm s = rdy D := by
          show (if rdy D = 0 then findE D.E nm s else rdy D) = _
          rw [if_neg hy]
        rw [hr2, e]
        exact as_rdy hy _ _)
    clear h0 HCp
    go_enter Try.func23, Try.ntmps23
    go_wp2_with fail
    rw [← HW2.out]
    refine (HPl.out _ (Below.refl _ _)).mono ?_
    rintro e w1 ⟨rfl, b1⟩
    have TW1 := Lib.hid (TW.out.below b1)
    obtain ⟨q0, q1, q2, q3, q4⟩ := TW1.out.d.five
    have HBC := Lib.hid b1
    clear b1
    go_wp2_with fail
    refine (HAs.out _ HBC.out).mono ?_
    rintro e w3 ⟨v', rfl, hvar, habv, b3⟩
    have tw3 := TW1.out.below b3
    have hlt := TW1.out.lt
    have HFin : Hid (∀ W, Bar w3 W (fun k => k = w.heap.size ∨ k = w.heap.size + 1) → AnsP w (wtD D nm s d) (wtE D nm s d) (.returned (.tuple #[.agg #[.int .i64 (asD D r).size, .slice v'.pE v'.nE v'.cE, .slice v'.pW v'.nW v'.cW, .int .i64 (asD D r).fuse, .bool (asD D r).down], .int .i64 r])) W) := Lib.hid (fun W hb => by rw [← F.out.1]; exact ans_var hvar habv hlt hb (TW1.out.b.trans (b3.mono TW1.out.b.size)) F.out.2)
    obtain ⟨p0, p1, p2, p3, p4⟩ := tw3.r.five
    obtain ⟨f0, f1, f2, f3, f4⟩ := tw3.r.fiveF
    clear hvar habv b3 tw3 hlt
    go_wp2_with fail
    (try simp only [Exit.inBlock, Exit.then])
    refine bodyPost_ret (v := .tuple #[.agg #[.int .i64 (asD D r).size, .slice v'.pE v'.nE v'.cE, .slice v'.pW v'.nW v'.cW, .int .i64 (asD D r).fuse, .bool (asD D r).down], .int .i64 r]) ?_ rfl ?_
    · rw [results_cell_tmp rfl]
      go_simp
    · refine HFin.out _ ?_
      repeat (first | refine Bar.setCell ?_ (by first | exact Or.inl rfl | exact Or.inr rfl) _ | exact Bar.refl _ _)
  subst h0
  obtain ⟨hy, hfe⟩ := rd_zero HR.out.symm
  have hlr := lim_rdy hy
  have hWl : D.W.length ≤ 16384 := hlr.2.2.1
  have hfz : -1 ≤ D.fuse := hlr.2.2.2
  have eD : wtD D nm s d = wrD D.size D.E D.W D.fuse D.down nm s d := by unfold wtD; rw [chg_ok hy]
  have eE : wtE D nm s d = wrE D.E D.W D.fuse nm s d := by unfold wtE; rw [chgR_ok hy]
  rw [eD, eE]
  have hn1 : v.nW ≤ 16384 := by rw [HVW.out]; exact hWl
  clear HAs eD eE
  by_cases c1 : d.size = 64
  case neg =>
    have t1 : ((d.size : Int) != 64) = true := by rw [bne_iff_ne]; omega
    have F : Hid (wrD D.size D.E D.W D.fuse D.down nm s d = D ∧ wrE D.E D.W D.fuse nm s d = 2) := Lib.hid (by
      unfold wrD wrE
      rw [if_neg (fun hh => c1 hh.2.1), if_pos hfe, if_neg c1]
      exact ⟨rfl, rfl⟩)
    clear c1 hfe hlr hy
    go_enter Try.func23, Try.ntmps23
    go_wp2_with fail
    rw [← HW2.out]
    refine (HPl.out _ (Below.refl _ _)).mono ?_
    rintro e w1 ⟨rfl, b1⟩
    have TW1 := Lib.hid (TW.out.below b1)
    obtain ⟨q0, q1, q2, q3, q4⟩ := TW1.out.d.five
    have HBC := Lib.hid b1
    clear b1
    go_wp2_with fail
    refine (HCp.out _ HBC.out).mono ?_
    rintro e w3 ⟨v', rfl, hown, b3⟩
    have tw3 := TW1.out.below b3
    have hlt := TW1.out.lt
    have HFin : Hid (∀ W, Bar w3 W (fun k => k = w.heap.size ∨ k = w.heap.size + 1) → AnsP w (wrD D.size D.E D.W D.fuse D.down nm s d) (wrE D.E D.W D.fuse nm s d) (.returned (.tuple #[.agg #[.int .i64 D.size, .slice v'.pE v'.nE v'.cE, .slice v'.pW v'.nW v'.cW, .int .i64 D.fuse, .bool D.down], .int .i64 2])) W) := Lib.hid (fun W hb => by rw [F.out.1]; exact ans_own hown hlt hb (TW1.out.b.trans (b3.mono TW1.out.b.size)) F.out.2.symm)
    obtain ⟨p0, p1, p2, p3, p4⟩ := tw3.r.five
    obtain ⟨f0, f1, f2, f3, f4⟩ := tw3.r.fiveF
    clear hown b3 tw3 hlt
    go_wp2_with fail
    (try simp only [Exit.inBlock, Exit.then])
    refine bodyPost_ret (v := .tuple #[.agg #[.int .i64 D.size, .slice v'.pE v'.nE v'.cE, .slice v'.pW v'.nW v'.cW, .int .i64 D.fuse, .bool D.down], .int .i64 2]) ?_ rfl ?_
    · rw [results_cell_tmp rfl]
      go_simp
    · refine HFin.out _ ?_
      repeat (first | refine Bar.setCell ?_ (by first | exact Or.inl rfl | exact Or.inr rfl) _ | exact Bar.refl _ _)
  have t1 : ((d.size : Int) != 64) = false := by rw [bne_eq_false_iff_eq]; omega
  by_cases c2 : D.W.length = 16384
  case pos =>
    have t2 : decide ((16384 : Int) ≤ (v.nW : Int)) = true := decide_eq_true (by have := HVW.out; omega)
    have F : Hid (wrD D.size D.E D.W D.fuse D.down nm s d = D ∧ wrE D.E D.W D.fuse nm s d = 8) := Lib.hid (by
      unfold wrD wrE
      rw [if_neg (fun hh => hh.2.2 c2), if_pos hfe, if_pos c1, if_pos c2]
      exact ⟨rfl, rfl⟩)
    clear c1 c2 hfe hlr hy
    go_enter Try.func23, Try.ntmps23
    go_wp2_with fail
    rw [← HW2.out]
    refine (HPl.out _ (Below.refl _ _)).mono ?_
    rintro e w1 ⟨rfl, b1⟩
    have TW1 := Lib.hid (TW.out.below b1)
    obtain ⟨q0, q1, q2, q3, q4⟩ := TW1.out.d.five
    have HBC := Lib.hid b1
    clear b1
    go_wp2_with fail
    refine (HCp.out _ HBC.out).mono ?_
    rintro e w3 ⟨v', rfl, hown, b3⟩
    have tw3 := TW1.out.below b3
    have hlt := TW1.out.lt
    have HFin : Hid (∀ W, Bar w3 W (fun k => k = w.heap.size ∨ k = w.heap.size + 1) → AnsP w (wrD D.size D.E D.W D.fuse D.down nm s d) (wrE D.E D.W D.fuse nm s d) (.returned (.tuple #[.agg #[.int .i64 D.size, .slice v'.pE v'.nE v'.cE, .slice v'.pW v'.nW v'.cW, .int .i64 D.fuse, .bool D.down], .int .i64 8])) W) := Lib.hid (fun W hb => by rw [F.out.1]; exact ans_own hown hlt hb (TW1.out.b.trans (b3.mono TW1.out.b.size)) F.out.2.symm)
    obtain ⟨p0, p1, p2, p3, p4⟩ := tw3.r.five
    obtain ⟨f0, f1, f2, f3, f4⟩ := tw3.r.fiveF
    clear hown b3 tw3 hlt
    go_wp2_with fail
    (try simp only [Exit.inBlock, Exit.then])
    refine bodyPost_ret (v := .tuple #[.agg #[.int .i64 D.size, .slice v'.pE v'.nE v'.cE, .slice v'.pW v'.nW v'.cW, .int .i64 D.fuse, .bool D.down], .int .i64 8]) ?_ rfl ?_
    · rw [results_cell_tmp rfl]
      go_simp
    · refine HFin.out _ ?_
      repeat (first | refine Bar.setCell ?_ (by first | exact Or.inl rfl | exact Or.inr rfl) _ | exact Bar.refl _ _)
  have t2 : decide ((16384 : Int) ≤ (v.nW : Int)) = false := decide_eq_false (by have := HVW.out; omega)
  have HD : Hid (wrD D.size D.E D.W D.fuse D.down nm s d = ⟨D.size, D.E, D.W ++ [(nm, s, d)], if 0 < D.fuse then D.fuse - 1 else D.fuse, if D.fuse = 0 then true else D.down⟩ ∧ wrE D.E D.W D.fuse nm s d = if D.fuse = 0 then 10 else 0) := Lib.hid (by
    unfold wrD wrE
    rw [if_pos ⟨hfe, c1, c2⟩, if_pos hfe, if_pos c1, if_neg c2]
    exact ⟨rfl, rfl⟩)
  have HLm : Hid (∀ f dn, f ≤ 9223372036854775807 → Lim ⟨D.size, D.E, D.W ++ [(nm, s, d)], f, dn⟩) := Lib.hid (fun f dn hf => ⟨by have := hlr.2.1; simp only; omega, by simp; omega, hf⟩)
  clear c1 c2 hfe hlr hy
  go_enter Try.func23, Try.ntmps23
  go_wp2_with fail
  rw [← HW2.out]
  refine (HPl.out _ (Below.refl _ _)).mono ?_
  rintro e w1 ⟨rfl, b1⟩
  have TW1 := Lib.hid (TW.out.below b1)
  obtain ⟨q0, q1, q2, q3, q4⟩ := TW1.out.d.five
  have HBC := Lib.hid b1
  clear b1
  go_wp2_with fail
  refine (HCp.out _ HBC.out).mono ?_
  rintro e w3 ⟨v', rfl, hown, b3⟩
  have tw3 := TW1.out.below b3
  obtain ⟨p0, p1, p2, p3, p4⟩ := tw3.d.five
  obtain ⟨f0, f1, f2, f3, f4⟩ := tw3.d.fiveF
  have hlt1 := TW1.out.lt
  obtain ⟨S, hS⟩ : ∃ S, S = (((((w3.setCell ⟨w.heap.size, 0, none⟩ (.int .i64 D.size)).setCell ⟨w.heap.size, 1, none⟩ (.slice v'.pE v'.nE v'.cE)).setCell ⟨w.heap.size, 2, none⟩ (.slice v'.pW v'.nW v'.cW)).setCell ⟨w.heap.size, 3, none⟩ (.int .i64 D.fuse)).setCell ⟨w.heap.size, 4, none⟩ (.bool D.down)) := ⟨_, rfl⟩
  have ts : Two w S D v' := by rw [hS]; exact tw3.setD
  have hos : OwnD S w1.heap.size D v' := by
    rw [hS]
    refine hown.bar (bar_setD _ _ _ _ _ (fun k => k = w.heap.size) rfl) (fun a e hk => ?_)
    rcases e with e | e
    · have := hown.above.1 a e; omega
    · have := hown.above.2 a e; omega
  have hSz : S.heap.size = w3.heap.size := by rw [hS]; simp
  have hbS : w1.heap.size ≤ S.heap.size := by rw [hSz]; exact b3.size
  have hvn : v'.nW ≤ 16384 := by rw [hos.hW]; exact hWl
  have HOW : Hid ((((((w3.setCell ⟨w.heap.size, 0, none⟩ (.int .i64 D.size)).setCell ⟨w.heap.size, 1, none⟩ (.slice v'.pE v'.nE v'.cE)).setCell ⟨w.heap.size, 2, none⟩ (.slice v'.pW v'.nW v'.cW)).setCell ⟨w.heap.size, 3, none⟩ (.int .i64 D.fuse)).setCell ⟨w.heap.size, 4, none⟩ (.bool D.down)).ownsRow w1.heap.size 63 3 (.slice v'.pW v'.nW v'.cW) v'.nW (wRow D.W)) := Lib.hid (by rw [← hS]; exact hos.W)
  have HSZ2 : Hid (w1.heap.size ≤ (((((w3.setCell ⟨w.heap.size, 0, none⟩ (.int .i64 D.size)).setCell ⟨w.heap.size, 1, none⟩ (.slice v'.pE v'.nE v'.cE)).setCell ⟨w.heap.size, 2, none⟩ (.slice v'.pW v'.nW v'.cW)).setCell ⟨w.heap.size, 3, none⟩ (.int .i64 D.fuse)).setCell ⟨w.heap.size, 4, none⟩ (.bool D.down)).heap.size) := Lib.hid (by rw [← hS]; exact hbS)
  have HSZ4 : Hid (S.heap.size = w3.heap.size) := Lib.hid hSz
  have HSZ3 : Hid ((((((w3.setCell ⟨w.heap.size, 0, none⟩ (.int .i64 D.size)).setCell ⟨w.heap.size, 1, none⟩ (.slice v'.pE v'.nE v'.cE)).setCell ⟨w.heap.size, 2, none⟩ (.slice v'.pW v'.nW v'.cW)).setCell ⟨w.heap.size, 3, none⟩ (.int .i64 D.fuse)).setCell ⟨w.heap.size, 4, none⟩ (.bool D.down)).heap.size = w3.heap.size) := Lib.hid (by rw [← hS]; exact hSz)
  have HS := Lib.hid hS; have TS := Lib.hid ts; have OS := Lib.hid hos; have HT1 := Lib.hid hlt1
  have l0 : w.heap.size < w3.heap.size := by have := b3.size; omega
  have ne0 : ¬ (w.heap.size = w3.heap.size) := by omega
  have ne1 : ¬ (w3.heap.size = w.heap.size) := by omega
  clear hS ts hos hSz hbS hown b3 tw3 hlt1
  go_wp2_with (at_builtin; refine Rw.push rfl _ _ 23 rfl w1.heap.size 63 i0 (.agg #[.string ⟨#[]⟩, .int .i64 0, .string ⟨#[]⟩]) 3 40 Try.underlying23 hi0 hz0 hz1 hz2 rfl (by decide) (.slice v'.pW v'.nW v'.cW) v'.nW (wRow D.W) rfl HOW.out [.string nm, .int .i64 s, .string d] (by rw [HSZ3.out]; rfl) rfl rfl (by omega) (by decide) HSZ2.out ?_)
  rw [← HS.out]
  intro g cap w5 hown5 hgr hgg hlt5 hb5
  have HOf : Hid (∀ f dn, f ≤ 9223372036854775807 → OwnD w5 w1.heap.size ⟨D.size, D.E, D.W ++ [(nm, s, d)], f, dn⟩ ⟨v'.pE, v'.nE, v'.cE, some ⟨g, 0, none⟩, v'.nW + 1, cap⟩) := Lib.hid (fun f dn hf => OS.out.snoc hown5 hgr (hgg.imp id (fun h => by rw [HSZ4.out]; exact h)) h1 h2 (HLm.out f dn hf))
  have hh := HT1.out
  have x5 := TS.out.d.belowB hb5 (by omega)
  have y5 := TS.out.r.belowB hb5 (by omega)
  have B5 : Hid (Below w.heap.size w w5) := Lib.hid (TS.out.b.trans (hb5.mono (by omega)))
  obtain ⟨p0, p1, p2, p3, p4⟩ := x5.five
  obtain ⟨f0, f1, f2, f3, f4⟩ := x5.fiveF
  obtain ⟨r0, r1, r2, r3, r4⟩ := y5.five
  obtain ⟨k0, k1, k2, k3, k4⟩ := y5.fiveF
  have HFin : Hid (∀ f dn er W, f ≤ 9223372036854775807 → wrD D.size D.E D.W D.fuse D.down nm s d = ⟨D.size, D.E, D.W ++ [(nm, s, d)], f, dn⟩ → er = wrE D.E D.W D.fuse nm s d → Bar w5 W (fun k => k = w.heap.size ∨ k = w.heap.size + 1) → AnsP w (wrD D.size D.E D.W D.fuse D.down nm s d) (wrE D.E D.W D.fuse nm s d) (.returned (.tuple #[.agg #[.int .i64 D.size, .slice v'.pE v'.nE v'.cE, .slice (some ⟨g, 0, none⟩) (v'.nW + 1) cap, .int .i64 f, .bool dn], .int .i64 er])) W) := Lib.hid (fun f dn er W hf e1 e2 hb => by
    rw [e1]
    exact ans_own (HOf.out f dn hf) HT1.out hb B5.out e2)
  clear hown5 hgr hgg hlt5 hb5 x5 y5 hh
  by_cases c3 : D.fuse = 0
  · have e1 : wrD D.size D.E D.W D.fuse D.down nm s d = ⟨D.size, D.E, D.W ++ [(nm, s, d)], D.fuse, true⟩ := by rw [HD.out.1, c3]; rfl
    have e2 : (10 : Int) = wrE D.E D.W D.fuse nm s d := by rw [HD.out.2, if_pos c3]
    have E1 := Lib.hid e1; have E2 := Lib.hid e2
    have t3 : (D.fuse == 0) = true := by rw [beq_iff_eq]; exact c3
    clear c3 e1 e2
    go_wp2_with fail
    (try simp only [Exit.inBlock, Exit.then])
    refine bodyPost_ret (v := .tuple #[.agg #[.int .i64 D.size, .slice v'.pE v'.nE v'.cE, .slice (some ⟨g, 0, none⟩) (v'.nW + 1) cap, .int .i64 D.fuse, .bool true], .int .i64 10]) ?_ rfl ?_
    · rw [results_cell_tmp rfl]
      go_simp
    · refine HFin.out _ _ _ _ HLf E1.out E2.out ?_
      repeat (first | refine Bar.setCell ?_ (by first | exact Or.inl rfl | exact Or.inr rfl) _ | exact Bar.refl _ _)
  have t3 : (D.fuse == 0) = false := by rw [beq_eq_false_iff_ne]; exact c3
  have E2 : Hid ((0 : Int) = wrE D.E D.W D.fuse nm s d) := Lib.hid (by rw [HD.out.2, if_neg c3])
  by_cases c4 : 0 < D.fuse
  · have E1 : Hid (wrD D.size D.E D.W D.fuse D.down nm s d = ⟨D.size, D.E, D.W ++ [(nm, s, d)], D.fuse - 1, D.down⟩) := Lib.hid (by rw [HD.out.1, if_pos c4, if_neg c3])
    have t4 : decide (0 < D.fuse) = true := decide_eq_true c4
    have t5 : IntKind.i64.wrap (D.fuse - 1) = D.fuse - 1 := IntWalk.i64_in _ (by omega)
    have t6 : IntKind.i64.wrap (D.fuse + -1) = D.fuse - 1 := by rw [show D.fuse + -1 = D.fuse - 1 by omega]; exact t5
    have HL2 : Hid (D.fuse - 1 ≤ 9223372036854775807) := Lib.hid (by omega)
    clear c3 c4
    go_wp2_with fail
    (try simp only [Exit.inBlock, Exit.then])
    refine bodyPost_ret (v := .tuple #[.agg #[.int .i64 D.size, .slice v'.pE v'.nE v'.cE, .slice (some ⟨g, 0, none⟩) (v'.nW + 1) cap, .int .i64 (D.fuse - 1), .bool D.down], .int .i64 0]) ?_ rfl ?_
    · rw [results_cell_tmp rfl]
      go_simp
    · refine HFin.out _ _ _ _ HL2.out E1.out E2.out ?_
      repeat (first | refine Bar.setCell ?_ (by first | exact Or.inl rfl | exact Or.inr rfl) _ | exact Bar.refl _ _)
  · have E1 : Hid (wrD D.size D.E D.W D.fuse D.down nm s d = ⟨D.size, D.E, D.W ++ [(nm, s, d)], D.fuse, D.down⟩) := Lib.hid (by rw [HD.out.1, if_neg c4, if_neg c3])
    have t4 : decide (0 < D.fuse) = false := decide_eq_false c4
    clear c3 c4
    go_wp2_with fail
    (try simp only [Exit.inBlock, Exit.then])
    refine bodyPost_ret (v := .tuple #[.agg #[.int .i64 D.size, .slice v'.pE v'.nE v'.cE, .slice (some ⟨g, 0, none⟩) (v'.nW + 1) cap, .int .i64 D.fuse, .bool D.down], .int .i64 0]) ?_ rfl ?_
    · rw [results_cell_tmp rfl]
      go_simp
    · refine HFin.out _ _ _ _ HLf E1.out E2.out ?_
      repeat (first | refine Bar.setCell ?_ (by first | exact Or.inl rfl | exact Or.inr rfl) _ | exact Bar.refl _ _)
end Go.Proofs.Ytejmbbhbimgheaa.Dk
namespace Go.Proofs.Ytejmbbhbimgheaa.Dk
open Go.RowKit Go.Op Rw

theorem patch_eq (y d : ByteArray) (n : Nat) (hd : d.size = 64) : y.extract 0 (64 * n) ++ d ++ y.extract (64 * (n + 1)) y.size = patch y (n : Int) d := by
  apply ByteArray.ext
  apply Array.toList_inj.1
  have hl : d.data.toList.length = 64 := by rw [← Lib.size_eq]; exact hd
  have hy : y.data.toList.length = y.size := (Lib.size_eq y).symm
  unfold patch over
  simp only [ByteArray.data_append, ByteArray.data_extract, Array.toList_append, Array.toList_extract, List.extract_eq_take_drop, Int.toNat_natCast, hl, List.drop_zero, Nat.sub_zero]
  rw [show 64 * n = n * 64 by omega, show 64 * (n + 1) = n * 64 + 64 by omega, List.take_of_length_le (l := y.data.toList.drop (n * 64 + 64)) (by rw [List.length_drop, hy]; exact Nat.le_refl _)]
theorem eRow_put {E : List Ext} {q : Nat} (hq : q < E.length) (z : ByteArray) : (eRow E).set (q * 2 + 1) (.string z) = eRow (E.set q ((E.getD q default).1, z)) := by
  rw [← eRow_set E q _ z hq]
  have e : (eRow E).set (q * 2) (.string (E.getD q default).1) = eRow E := by
    apply List.ext_getElem?
    intro i
    rw [List.getElem?_set]
    split
    · rename_i h
      subst h
      rw [if_pos (by rw [eRow_length]; omega)]
      exact (eRow_get E q hq).1.symm
    · rfl
  rw [e]
set_option maxHeartbeats 16000000 in
set_option maxRecDepth 100000 in
theorem rdone_any (D : Dsk) (v : DVal) (nm d : ByteArray) (n B : Nat) (w : World) (h : OwnD w B D v) (hB : B ≤ w.heap.size) (hso : Sorted D.E) (hk : wrOk D.E (nm, (n : Int), d) = true) :
    Calls Try.prog 59 #[.agg #[.int .i64 D.size, .slice v.pE v.nE v.cE, .slice v.pW v.nW v.cW, .int .i64 D.fuse, .bool D.down], .agg #[.string nm, .int .i64 n, .string d]] w fun e w' => e = .returned (.agg #[.int .i64 D.size, .slice v.pE v.nE v.cE, .slice v.pW v.nW v.cW, .int .i64 D.fuse, .bool D.down]) ∧ OwnD w' B ⟨D.size, doneE D.E (nm, (n : Int), d), D.W, D.fuse, D.down⟩ v ∧ Below B w w' := by
  obtain ⟨W1, hW1⟩ : ∃ W1, W1 = w.alloc (.cells #[.int .i64 D.size, .slice v.pE v.nE v.cE, .slice v.pW v.nW v.cW, .int .i64 D.fuse, .bool D.down] 25) := ⟨_, rfl⟩
  obtain ⟨W2, hW2⟩ : ∃ W2, W2 = W1.alloc (.cells #[.string nm, .int .i64 n, .string d] 63) := ⟨_, rfl⟩
  obtain ⟨W3, hW3⟩ : ∃ W3, W3 = W2.alloc (.cells #[.int .i64 0, .slice none 0 0, .slice none 0 0, .int .i64 0, .bool false] 25) := ⟨_, rfl⟩
  have s1 : W1.heap.size = w.heap.size + 1 := by rw [hW1]; simp
  have s2 : W2.heap.size = w.heap.size + 1 + 1 := by rw [hW2]; simp [s1]
  have a0 : Below w.heap.size w W1 := by rw [hW1]; exact (Below.refl _ _).alloc (Nat.le_refl _) _
  have a1 : Below W1.heap.size W1 W2 := by rw [hW2]; exact (Below.refl _ _).alloc (Nat.le_refl _) _
  have a2 : Below W2.heap.size W2 W3 := by rw [hW3]; exact (Below.refl _ _).alloc (Nat.le_refl _) _
  have t0 : Below w.heap.size w W3 := (a0.trans (a1.mono a0.size)).trans (a2.mono (Nat.le_trans a0.size a1.size))
  have bx : Boxed W3 w.heap.size [.int .i64 D.size, .slice v.pE v.nE v.cE, .slice v.pW v.nW v.cW, .int .i64 D.fuse, .bool D.down] := by
    have := Boxed.new w #[.int .i64 D.size, .slice v.pE v.nE v.cE, .slice v.pW v.nW v.cW, .int .i64 D.fuse, .bool D.down] 25
    rw [← hW1] at this
    exact (this.below a1).below a2
  have bw : Boxed W3 (w.heap.size + 1) [.string nm, .int .i64 n, .string d] := by
    have := Boxed.new W1 #[.string nm, .int .i64 n, .string d] 63
    rw [← hW2, s1] at this
    exact this.below a2
  have br : Boxed W3 (w.heap.size + 1 + 1) [.int .i64 0, .slice none 0 0, .slice none 0 0, .int .i64 0, .bool false] := by
    have := Boxed.new W2 #[.int .i64 0, .slice none 0 0, .slice none 0 0, .int .i64 0, .bool false] 25
    rw [← hW3, s2] at this
    exact this
  have ho := h.below t0
  obtain ⟨q, hq⟩ : ∃ q, q = pos D.E nm := ⟨_, rfl⟩
  obtain ⟨hi, hn64, hd64⟩ : isAt D.E nm = true ∧ (n : Int) < (lookN D.E nm : Nat) ∧ d.size = 64 := by
    unfold wrOk at hk
    simp only [Bool.and_eq_true, decide_eq_true_eq] at hk
    refine ⟨?_, hk.1.2, hk.2⟩
    cases hi : isAt D.E nm with
    | true => rfl
    | false =>
      have := hk.1.2
      unfold lookN at this
      rw [hi] at this
      have h0 : ((if false = true then many (D.E.getD (pos D.E nm) default).2 else 0 : Nat) : Int) = 0 := rfl
      omega
  have hqE : q < D.E.length := by rw [hq]; exact isAt_lt hi
  have hlk : lookN D.E nm = many (D.E.getD q default).2 := by unfold lookN; rw [if_pos hi, hq]
  have hfn : fnd D.E nm = (q : Int) := by rw [fnd_pos hso, if_pos hi, hq]
  obtain ⟨g, o, hpE, _, _, f1, _, s4⟩ := ho.at.E q hqE
  have hg0 : o = 0 := by
    rcases ho.E.2 with ⟨hv, _⟩ | ⟨g', cap, cur, hv, _⟩
    · injection hv with hp _ _; rw [hpE] at hp; cases hp
    · injection hv with hp _ _; rw [hpE] at hp; cases hp; rfl
  subst hg0
  obtain ⟨y, hy⟩ : ∃ y, y = (D.E.getD q default).2 := ⟨_, rfl⟩
  rw [← hy] at f1 s4 hlk
  have hyn : (n + 1) * 64 ≤ y.size := by rw [hlk] at hn64; unfold many at hn64; omega
  have hgB := own_aboveV h.E ⟨g, 0, none⟩ hpE
  have HFi : Hid (Calls Try.prog 34 #[.slice v.pE v.nE v.cE, .string nm] W3 fun e w' => e = .returned (.int .i64 (q : Int)) ∧ Below W3.heap.size W3 w') := Lib.hid (by
    have := rFind_any D.E v.pE v.nE v.cE nm W3 ho.hE ho.at.E ho.at.l1
    rw [hfn] at this
    exact this)
  obtain ⟨z, hz⟩ : ∃ z, z = patch y (n : Int) d := ⟨_, rfl⟩
  have hpt := patch_eq y d n hd64
  rw [← hz] at hpt
  have hzs : z.size = y.size := by rw [hz]; exact patch_size _ _ _ (by rw [hd64]; omega)
  have HDone : Hid (∀ W W', Below W3.heap.size W3 W → (∃ m, W' = (W.setCell ⟨g, q * 2 + 1, none⟩ (.string z)).drewN m) → OwnD W' B ⟨D.size, doneE D.E (nm, (n : Int), d), D.W, D.fuse, D.down⟩ v ∧ Bar W3 W' (fun k => k = g)) := Lib.hid (fun W W' hb hm => by
    obtain ⟨m, rfl⟩ := hm
    have hoW := ho.below hb
    have hrow := hoW.E
    rw [hpE] at hrow
    have hr2 := own_set hrow (q * 2 + 1) (.string z)
    rw [eRow_put hqE, hz] at hr2
    have hde : doneE D.E (nm, (n : Int), d) = D.E.set q ((D.E.getD q default).1, patch y (n : Int) d) := by
      unfold doneE
      simp only
      rw [← hq, ← hy]
    have hbar : Bar W ((W.setCell ⟨g, q * 2 + 1, none⟩ (.string z)).drewN m) (fun k => k = g) := ((Bar.refl W (fun k => k = g)).setCell (q := ⟨g, q * 2 + 1, none⟩) rfl (.string z)).trans (Bar.of_below (below_drewN (Below.refl _ _) m) _)
    refine ⟨⟨?_, ?_, h.hW, own_bar hoW.W hbar (fun k e hk => ?_), ?_, h.okW, ?_, h.apart⟩, (Bar.of_below hb _).trans hbar⟩
    · rw [hde]; simp only [List.length_set]; exact h.hE
    · rw [hde, hpE, ← hz]
      rw [← hz] at hr2
      exact own_below hr2 (below_drewN (Below.refl _ _) m)
    · cases hpw : v.pW with
      | none => rw [hpw] at e; simp [Value.ownBlock] at e
      | some b =>
        rw [hpw] at e
        simp only [Value.ownBlock, Option.some.injEq] at e
        exact h.apart ⟨g, 0, none⟩ b hpE hpw (by rw [e, hk])
    · rw [hde]
      intro i hi
      rw [List.length_set] at hi
      by_cases e : i = q
      · subst e
        have h1 := h.okE i hi
        have e2 : (D.E.set i ((D.E.getD i default).1, patch y (n : Int) d)).getD i default = ((D.E.getD i default).1, patch y (n : Int) d) := by simp [List.getD_eq_getElem?_getD, hi]
        rw [e2]
        exact ⟨h1.1, by simp only; rw [← hz, hzs]; exact s4⟩
      · have e2 : (D.E.set q ((D.E.getD q default).1, patch y (n : Int) d)).getD i default = D.E.getD i default := by simp [List.getD_eq_getElem?_getD, List.getElem?_set_ne (fun h => e h.symm)]
        rw [e2]
        exact h.okE i hi
    · exact ⟨by rw [hde]; simp only [List.length_set]; exact h.lim.e, h.lim.w, h.lim.f⟩)
  have HAT : Hid (∀ W, Below W3.heap.size W3 W → W.cell? ⟨g, q * 2 + 1, none⟩ = some (.string y) ∧ W.frozen? ⟨g, q * 2 + 1, none⟩ = false ∧ g < W.heap.size) := Lib.hid (fun W hb => by
    obtain ⟨g', o', e, hg2, _, f1, _, s4⟩ := (ho.below hb).at.E q hqE
    rw [hpE] at e
    cases e
    have hrow := (ho.below hb).E
    rw [hpE] at hrow
    exact ⟨by rw [hy, ← Nat.zero_add (q * 2)]; exact f1, own_free hrow _, hg2⟩)
  have HBR := Lib.hid br
  have HRT : Hid (∀ W', Bar W3 W' (fun k => k = g) → Below B w W') := Lib.hid (fun W' hb => (t0.mono hB).trans (hb.below (fun k _ e => by rw [e]; exact hgB.1) (Nat.le_trans hB t0.size)))
  have HFn : Hid (∀ W W', OwnD W B ⟨D.size, doneE D.E (nm, (n : Int), d), D.W, D.fuse, D.down⟩ v → Bar W3 W (fun k => k = g) → Bar W W' (fun k => k = w.heap.size + 1 + 1) → OwnD W' B ⟨D.size, doneE D.E (nm, (n : Int), d), D.W, D.fuse, D.down⟩ v ∧ Below B w W') := Lib.hid (fun W W' h1 h2 h3 => by
    have hW := own_aboveV h.W
    refine ⟨h1.bar h3 (fun a e hk => ?_), ?_⟩
    · rcases e with e | e
      · rw [hpE] at e; cases e
        have := hgB.2
        have hk2 : g = w.heap.size + 1 + 1 := hk
        omega
      · have := (hW a e).2; omega
    · have hr : w.heap.size + 1 + 1 < W3.heap.size := HBR.out.lt
      have hb : Bar W3 W' (fun k => k = g ∨ k = w.heap.size + 1 + 1) := (h2.mono (fun k _ e => .inl e)).trans (h3.mono (fun k _ e => .inr e))
      refine (t0.mono hB).trans (hb.below (fun k _ e => ?_) (Nat.le_trans hB t0.size))
      rcases e with e | e
      · rw [e]; exact hgB.1
      · omega)
  have HBX := Lib.hid bx; have HBW := Lib.hid bw
  have HW1 := Lib.hid hW1; have HW2 := Lib.hid hW2; have HW3 := Lib.hid hW3
  have m3 : (0 : Int) ≤ (q : Int) := by omega
  have m4 : (q : Int) < (v.nE : Int) := by have := h.hE; omega
  have r1 : (0 : Int) ≤ 64 * (n : Int) := by omega
  have r2 : 64 * ((n : Int) + 1) ≤ (y.size : Int) := by omega
  have r5 : 64 * (n : Int) ≤ (y.size : Int) := by omega
  have r6 : (0 : Int) ≤ 64 * ((n : Int) + 1) := by omega
  have r3 : (y.size : Int) ≤ 140737488355328 := by omega
  have w1 : IntKind.i64.wrap (64 * (n : Int)) = 64 * (n : Int) := IntWalk.i64_in _ (by omega)
  have w2 : IntKind.i64.wrap (64 * ((n : Int) + 1)) = 64 * ((n : Int) + 1) := IntWalk.i64_in _ (by omega)
  have w3 : IntKind.i64.wrap ((n : Int) + 1) = (n : Int) + 1 := IntWalk.i64_in _ (by omega)
  have n1 : (64 * (n : Int)).toNat = 64 * n := by omega
  have n2 : (64 * ((n : Int) + 1)).toNat = 64 * (n + 1) := by omega
  have hs1 : ∀ wx, (Instr.slice 9 (.string y) none (some (.int .i64 (64 * (n : Int)))) none).run Try.prog wx = .ok (.string (y.extract 0 (64 * n))) wx := fun wx => by
    have h := run_slice_string_h (P := Try.prog) (w := wx) (t := 9) (s := y) Try.underlying9 .i64 (64 * (n : Int)) r1 r5
    rw [n1] at h
    exact h
  have hs2 : ∀ wx, (Instr.slice 9 (.string y) (some (.int .i64 (64 * ((n : Int) + 1)))) none none).run Try.prog wx = .ok (.string (y.extract (64 * (n + 1)) y.size)) wx := fun wx => by
    have h := run_slice_string_l (P := Try.prog) (w := wx) (t := 9) (s := y) Try.underlying9 .i64 (64 * ((n : Int) + 1)) r6 r2
    rw [n2] at h
    exact h
  obtain ⟨y1, hy1⟩ : ∃ y1, y1 = y.extract 0 (64 * n) := ⟨_, rfl⟩
  obtain ⟨y2, hy2⟩ : ∃ y2, y2 = y.extract (64 * (n + 1)) y.size := ⟨_, rfl⟩
  have k1 : ¬ (9223372036854775807 < y1.size + d.size) := by
    rw [hy1, ByteArray.size_extract]; omega
  have k2 : ¬ (9223372036854775807 < (y1 ++ d).size + y2.size) := by
    rw [hy1, hy2, ByteArray.size_append, ByteArray.size_extract, ByteArray.size_extract]; omega
  rw [← hy1] at hs1 hpt
  rw [← hy2] at hs2 hpt
  have HPE := Lib.hid hpE
  obtain ⟨q0, q1, q2, q3, q4⟩ := bx.five
  rw [hpE] at q1
  have u0 : W3.cell? ⟨w.heap.size + 1, 0, none⟩ = some (.string nm) := bw.cell 0 (by simp)
  have u1 : W3.cell? ⟨w.heap.size + 1, 1, none⟩ = some (.int .i64 n) := bw.cell 1 (by simp)
  have u2 : W3.cell? ⟨w.heap.size + 1, 2, none⟩ = some (.string d) := bw.cell 2 (by simp)
  have HNG : Hid (g ≠ w.heap.size ∧ g ≠ w.heap.size + 1 ∧ g ≠ w.heap.size + 1 + 1) := Lib.hid (by
    have hh : g < w.heap.size := hgB.2
    omega)
  clear h hB hso hk a0 a1 a2 t0 bx bw br ho hi hn64 hd64 hqE hlk hfn hy hyn hgB hz hzs hq hW1 hW2 hW3 s1 s2 f1 s4 n1 n2 hy1 hy2 hpE
  go_enter Try.func59, Try.ntmps59
  go_wp2_with fail
  rw [← HW1.out, ← HW2.out, ← HW3.out]
  refine HFi.out.mono ?_
  rintro e w4 ⟨rfl, b4⟩
  have bx := HBX.out.below b4
  have bw := HBW.out.below b4
  obtain ⟨q0, q1, q2, q3, q4⟩ := bx.five
  rw [HPE.out] at q1
  have u1 : w4.cell? ⟨w.heap.size + 1, 1, none⟩ = some (.int .i64 n) := bw.cell 1 (by simp)
  have u2 : w4.cell? ⟨w.heap.size + 1, 2, none⟩ = some (.string d) := bw.cell 2 (by simp)
  obtain ⟨c1, c2, c3⟩ := HAT.out w4 b4
  have B4 := Lib.hid b4
  clear u0 bx bw b4
  go_wp2_with fail
  go_region
  have hd := HDone.out w4 (w4.setCell ⟨g, q * 2 + 1, none⟩ (.string z)).drew B4.out ⟨1, rfl⟩
  obtain ⟨W5, hW5⟩ : ∃ W5, W5 = (w4.setCell ⟨g, q * 2 + 1, none⟩ (.string z)).drew := ⟨_, rfl⟩
  rw [← hW5] at hd ⊢
  have hng := HNG.out
  have bx := HBX.out.bar hd.2 (fun e => hng.1 e.symm)
  have br := HBR.out.bar hd.2 (fun e => hng.2.2 e.symm)
  obtain ⟨q0, q1, q2, q3, q4⟩ := bx.five
  obtain ⟨p0, p1, p2, p3, p4⟩ := br.five
  obtain ⟨f0, f1, f2, f3, f4⟩ := br.fiveF
  have HD := Lib.hid hd
  clear hd hW5 hng bx br c1 c2 c3
  go_wp2_with fail
  (try simp only [Exit.inBlock, Exit.then])
  refine bodyPost_ret (v := .agg #[.int .i64 D.size, .slice v.pE v.nE v.cE, .slice v.pW v.nW v.cW, .int .i64 D.fuse, .bool D.down]) ?_ rfl ?_
  · simp only [results, Try.results59]
    go_simp
  · refine ⟨rfl, HFn.out _ _ HD.out.1 HD.out.2 ?_⟩
    repeat (first | refine Bar.setCell ?_ (by exact rfl) _ | exact Bar.refl _ _)
end Go.Proofs.Ytejmbbhbimgheaa.Dk

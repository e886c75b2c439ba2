/- TopKept: the law. -/
import Derived.Test.YtgpheofdeflhdaaKpM
import Derived.Deep.RegionLaw
namespace Go.Proofs.Ytgpheofdeflhdaa.Dk
open Go.RowKit Go.Op Rw

theorem five {w : World} {g : Nat} {a b c d e : Value} (h : Boxed w g [a, b, c, d, e]) : w.cell? ⟨g, 0, none⟩ = some a ∧ w.cell? ⟨g, 1, none⟩ = some b ∧ w.cell? ⟨g, 2, none⟩ = some c ∧ w.cell? ⟨g, 3, none⟩ = some d ∧ w.cell? ⟨g, 4, none⟩ = some e :=
  ⟨h.cell 0 (by simp), h.cell 1 (by simp), h.cell 2 (by simp), h.cell 3 (by simp), h.cell 4 (by simp)⟩
theorem fiveF {w : World} {g : Nat} {a b c d e : Value} (h : Boxed w g [a, b, c, d, e]) : w.frozen? ⟨g, 0, none⟩ = false ∧ w.frozen? ⟨g, 1, none⟩ = false ∧ w.frozen? ⟨g, 2, none⟩ = false ∧ w.frozen? ⟨g, 3, none⟩ = false ∧ w.frozen? ⟨g, 4, none⟩ = false :=
  ⟨h.free 0 (by simp), h.free 1 (by simp), h.free 2 (by simp), h.free 3 (by simp), h.free 4 (by simp)⟩
theorem bar_set5 {W : World} {g : Nat} (a b c d e : Value) (p : Nat → Prop) (hp : p g) : Bar W (((((W.setCell ⟨g, 0, none⟩ a).setCell ⟨g, 1, none⟩ b).setCell ⟨g, 2, none⟩ c).setCell ⟨g, 3, none⟩ d).setCell ⟨g, 4, none⟩ e) p :=
  (((((Bar.refl W p).setCell (q := ⟨g, 0, none⟩) hp a).setCell (q := ⟨g, 1, none⟩) hp b).setCell (q := ⟨g, 2, none⟩) hp c).setCell (q := ⟨g, 3, none⟩) hp d).setCell (q := ⟨g, 4, none⟩) hp e
/-- the disk's variable -/
structure KpI (w wr : World) (b : Nat) (D : Dsk) (v : DVal) : Prop where
  box : Boxed wr b [.int .i64 D.size, .slice v.pE v.nE v.cE, .slice v.pW v.nW v.cW, .int .i64 D.fuse, .bool D.down]
  va : VarAt wr D v
  bel : Below w.heap.size w wr
  ge : w.heap.size ≤ b
theorem KpI.below {w wr w2 : World} {b : Nat} {D : Dsk} {v : DVal} (h : KpI w wr b D v) (hb : Below wr.heap.size wr w2) : KpI w w2 b D v := ⟨h.box.below hb, h.va.below hb, h.bel.trans (hb.mono h.bel.size), h.ge⟩
theorem KpI.new {w wr : World} {D : Dsk} {v : DVal} (hv : VarAt wr D v) (hb : Below w.heap.size w wr) : KpI w (wr.alloc (.cells #[.int .i64 D.size, .slice v.pE v.nE v.cE, .slice v.pW v.nW v.cW, .int .i64 D.fuse, .bool D.down] 31)) wr.heap.size D v := by
  have hal : Below wr.heap.size wr (wr.alloc (.cells #[.int .i64 D.size, .slice v.pE v.nE v.cE, .slice v.pW v.nW v.cW, .int .i64 D.fuse, .bool D.down] 31)) := (Below.refl _ _).alloc (Nat.le_refl _) _
  exact ⟨Boxed.new wr #[.int .i64 D.size, .slice v.pE v.nE v.cE, .slice v.pW v.nW v.cW, .int .i64 D.fuse, .bool D.down] 31, hv.below hal, hb.trans (hal.mono hb.size), hb.size⟩
theorem KpI.put {w wr w4 : World} {b : Nat} {D De : Dsk} {v ve : DVal} (h : KpI w wr b D v) (hb : Below wr.heap.size wr w4) (hv : VarAt w4 De ve) (ha : ve.above wr.heap.size) : KpI w (((((w4.setCell ⟨b, 0, none⟩ (.int .i64 De.size)).setCell ⟨b, 1, none⟩ (.slice ve.pE ve.nE ve.cE)).setCell ⟨b, 2, none⟩ (.slice ve.pW ve.nW ve.cW)).setCell ⟨b, 3, none⟩ (.int .i64 De.fuse)).setCell ⟨b, 4, none⟩ (.bool De.down)) b De ve := by
  have h4 := h.below hb
  have hlt := h.box.lt
  have hbar : Bar w4 (((((w4.setCell ⟨b, 0, none⟩ (.int .i64 De.size)).setCell ⟨b, 1, none⟩ (.slice ve.pE ve.nE ve.cE)).setCell ⟨b, 2, none⟩ (.slice ve.pW ve.nW ve.cW)).setCell ⟨b, 3, none⟩ (.int .i64 De.fuse)).setCell ⟨b, 4, none⟩ (.bool De.down)) (fun k => k = b) := bar_set5 _ _ _ _ _ _ rfl
  have hx := ((((h4.box.set (i := 0) (by simp) (.int .i64 De.size)).set (i := 1) (by simp) (.slice ve.pE ve.nE ve.cE)).set (i := 2) (by simp) (.slice ve.pW ve.nW ve.cW)).set (i := 3) (by simp) (.int .i64 De.fuse)).set (i := 4) (by simp) (.bool De.down)
  have hge := h.ge
  exact ⟨hx, hv.bar ha hbar (fun k e => by omega), h4.bel.trans (hbar.below (fun k _ e => by omega) h4.bel.size), hge⟩
set_option maxHeartbeats 32000000 in
set_option maxRecDepth 100000 in
theorem kept_law (L : List Nat) (p : Option Addr) (cp : Nat) (c : Int) (M : List Wr) (pM : Option Addr) (cM : Nat) (K : List Bool) (pK : Option Addr) (cK : Nat) (w : World) (hL : Rd w p (Nm.nums L)) (hLl : L.length ≤ 9223372036854775807) (hM : WrsAt w pM M) (hMl : M.length ≤ 9223372036854775807) (hK : Rd w pK (bools K)) :
    Calls Try.prog 3 #[.slice p L.length cp, .int .i64 c, .slice pM M.length cM, .slice pK K.length cK] w fun e w' => e = .returned (.bool true) ∧ Below w.heap.size w w' := by
  obtain ⟨D0, hD0⟩ : ∃ x, x = mkD 8 := ⟨_, rfl⟩
  obtain ⟨D1, hD1⟩ : ∃ x, x = kD1 := ⟨_, rfl⟩
  have HD0 : Hid (mkD 8 = D0) := Lib.hid hD0.symm
  have HE0 := Lib.hid kp1.2
  have HD1 : Hid (nwD D0 nA 4 = D1 ∧ nwE D0 nA 4 = 0) := Lib.hid (by rw [hD0, hD1]; exact kp2)
  obtain ⟨n, hn⟩ : ∃ n, n = L.length := ⟨_, rfl⟩
  obtain ⟨nM, hnM⟩ : ∃ n, n = M.length := ⟨_, rfl⟩
  obtain ⟨nK, hnK⟩ : ∃ n, n = K.length := ⟨_, rfl⟩
  have HN := Lib.hid hn; have HNM := Lib.hid hnM; have HNK := Lib.hid hnK
  have HL : Hid (∀ W, Below w.heap.size w W → Rd W p (Nm.nums L)) := Lib.hid (fun W hb => hL.below hb)
  have HM : Hid (∀ W, Below w.heap.size w W → WrsAt W pM M) := Lib.hid (fun W hb => hM.below hb)
  have HK : Hid (∀ W, Below w.heap.size w W → Rd W pK (bools K)) := Lib.hid (fun W hb => hK.below hb)
  obtain ⟨s, hs⟩ : ∃ s, s = Nm.recS L := ⟨_, rfl⟩
  obtain ⟨re, hre⟩ : ∃ re, re = Nm.recE L := ⟨_, rfl⟩
  have HRc : Hid (∀ W, Below w.heap.size w W → Calls Try.prog 5 #[.slice p n cp] W fun e w' => e = .returned (.tuple #[.string s, .int .i64 re]) ∧ Below W.heap.size W w') := Lib.hid (fun W hb => by
    rw [hn, hs, hre]; exact Nm.record_any L p cp W (hL.below hb) hLl)
  rw [← hn] at hLl ⊢
  rw [← hnM] at hMl ⊢
  rw [← hnK]
  have HLl := Lib.hid hLl
  have n1 : nA.size ≤ 140737488355328 := by decide
  by_cases hok : Nm.recOk L
  case neg =>
    have hs0 : s = ⟨#[]⟩ := by rw [hs]; unfold Nm.recS; rw [if_neg hok]
    have hr1 : re = 1 := by rw [hre]; unfold Nm.recE; rw [if_neg hok]
    subst hs0 hr1
    clear hs hre hok hn hnM hnK hL hM hK hD0 hD1
    go_enter Try.func3, Try.ntmps3
    go_wp2_with fail
    refine (Kp.begins_any _).mono ?_
    rintro e w1 ⟨rfl, b1⟩
    have BB := Lib.hid b1
    clear b1
    go_wp2_with fail
    refine (HRc.out _ BB.out).mono ?_
    rintro e w2 ⟨rfl, b2⟩
    have BB := Lib.hid (BB.out.trans (b2.mono BB.out.size))
    clear b2
    go_wp2_with fail
    refine (mk_call 8 _).mono ?_
    rw [HD0.out, HE0.out]
    rintro e w3 ⟨v0, rfl, va0, _, b3⟩
    have ki0 := KpI.new va0 (BB.out.trans (b3.mono BB.out.size))
    obtain ⟨U, hU⟩ : ∃ U, U = (w3.alloc (.cells #[.int .i64 D0.size, .slice v0.pE v0.nE v0.cE, .slice v0.pW v0.nW v0.cW, .int .i64 D0.fuse, .bool D0.down] 31)) := ⟨_, rfl⟩
    rw [← hU] at ki0
    obtain ⟨b0, hb0⟩ : ∃ b, b = w3.heap.size := ⟨_, rfl⟩
    have HU := Lib.hid hU
    have K0 := Lib.hid ki0
    clear va0 b3 hU ki0
    go_wp2_with fail
    rw [← HU.out]
    rw [← hb0] at K0 ⊢
    clear HU hb0
    refine (nw_call K0.out.va nA 4 n1).mono ?_
    rw [HD1.out.1, HD1.out.2]
    rintro e w4 ⟨v1, rfl, va1, ab1, b4⟩
    have ki1 := K0.out.put b4 va1 ab1
    have k4 := K0.out.below b4
    obtain ⟨q0, q1, q2, q3, q4⟩ := five k4.box
    obtain ⟨f0, f1, f2, f3, f4⟩ := fiveF k4.box
    obtain ⟨U1, hU1⟩ : ∃ U, U = (((((w4.setCell ⟨b0, 0, none⟩ (.int .i64 D1.size)).setCell ⟨b0, 1, none⟩ (.slice v1.pE v1.nE v1.cE)).setCell ⟨b0, 2, none⟩ (.slice v1.pW v1.nW v1.cW)).setCell ⟨b0, 3, none⟩ (.int .i64 D1.fuse)).setCell ⟨b0, 4, none⟩ (.bool D1.down)) := ⟨_, rfl⟩
    rw [← hU1] at ki1
    have KI := Lib.hid ki1; have HU1 := Lib.hid hU1
    clear va1 ab1 b4 ki1 k4 hU1
    go_wp2_with fail
    rw [← HU1.out]
    go_ret
    exact ⟨rfl, KI.out.bel⟩
  have hr0 : re = 0 := by rw [hre]; unfold Nm.recE; rw [if_pos hok]
  subst hr0
  have hsz := Nm.recS_size hok
  rw [← hs] at hsz
  have HSp := Lib.hid (Nm.split_own hok)
  rw [← hs] at HSp
  obtain ⟨m, hm⟩ : ∃ m, m = 64 - s.size := ⟨_, rfl⟩
  obtain ⟨d, hd⟩ : ∃ d, d = s ++ zer m := ⟨_, rfl⟩
  have hds : d.size = 64 := by rw [hd, ByteArray.size_append, zer_size]; omega
  have hdt : d.extract 0 s.size = s := by
    rw [hd]
    apply ByteArray.ext
    apply Array.toList_inj.1
    have : s.data.toList.length = s.size := (Lib.size_eq s).symm
    simp [ByteArray.data_extract, ByteArray.data_append]
    exact List.take_of_length_le (by omega)
  have hWt := kp_write c d hds
  obtain ⟨D2, hD2⟩ : ∃ x, x = wtD D1 nA c d := ⟨_, rfl⟩
  obtain ⟨e2, he2⟩ : ∃ x, x = wtE D1 nA c d := ⟨_, rfl⟩
  have HD2 : Hid (wtD D1 nA c d = D2 ∧ wtE D1 nA c d = e2) := Lib.hid ⟨hD2.symm, he2.symm⟩
  rw [← hD1, ← he2] at hWt
  have hw9 : IntKind.i64.wrap (64 - (s.size : Int)) = (m : Int) := by rw [show (64 : Int) - (s.size : Int) = (m : Int) by omega]; exact IntWalk.i64_in _ (by omega)
  obtain ⟨i0, hi0, hz0, hz1, hz2⟩ := info_parts Cln.info_u8
  obtain ⟨MC, hMC⟩ : ∃ MC, MC = madeCells #[Value.int .u8 0] m := ⟨_, rfl⟩
  have hmk : ∀ W : World, (Instr.makeSlice 36 (.int .i64 (m : Int)) (.int .i64 (m : Int))).run Try.prog W = .ok (.slice (some ⟨W.heap.size, 0, none⟩) m m) (W.alloc (.cells MC 5)) := by
    intro W
    have h := run_make (P := Try.prog) W 36 5 i0 (.int .u8 0) Try.underlying36 hi0 hz0 .i64 .i64 (m : Int) (m : Int) (by omega) (by omega) (by rw [hz2]; omega) (by omega)
    rw [h, hMC]
    simp [hz1, Value.cells]
  obtain ⟨zz, hzz⟩ : ∃ zz, zz = zer m := ⟨_, rfl⟩
  have hcv : ∀ W : World, (convert 36 9 (.slice (some ⟨W.heap.size, 0, none⟩) m m)).run Try.prog (W.alloc (.cells MC 5)) = .ok (.string zz) (W.alloc (.cells MC 5)) := by
    intro W
    have hB : Row.Bytes (W.alloc (.cells MC 5)) W.heap.size (List.replicate m 0) := zeros_made W m MC hMC
    have := Row.run_back hB m
    rw [List.length_replicate] at this
    rw [hzz]
    exact this
  have hcv2 : ∀ W : World, (convert 36 9 (.slice (some ⟨W.heap.size, 0, none⟩) m m)).run Try.prog (W.alloc (.cells MC 5)).drew = .ok (.string zz) (W.alloc (.cells MC 5)).drew := by
    intro W
    have hB : Row.Bytes (W.alloc (.cells MC 5)).drew W.heap.size (List.replicate m 0) := (zeros_made W m MC hMC).drew
    have := Row.run_back hB m
    rw [List.length_replicate] at this
    rw [hzz]
    exact this
  rw [← hzz] at hd
  have k1 : ¬ (9223372036854775807 < s.size + zz.size) := by rw [hzz, zer_size]; omega
  have hds2 : d.size ≤ 140737488355328 := by omega
  have HDT := Lib.hid hdt
  have HSZ := Lib.hid hsz
  have hSy := fun h => kp_sync (c := c) (d := d) h
  clear hsz hs hre hok hn hnM hnK hL hM hK hm hdt hi0 hz0 hz1 hz2 hMC hzz
  by_cases hcr : 0 ≤ c ∧ c < 4
  case neg =>
    rw [if_neg hcr] at hWt
    subst hWt
    have hor : (c < 0) ∨ (¬ c < 0 ∧ 3 < c) := by omega
    clear hcr hSy HSp HDT hD0 hD1 hD2 he2
    go_enter Try.func3, Try.ntmps3
    go_wp2_with fail
    refine (Kp.begins_any _).mono ?_
    rintro e w1 ⟨rfl, b1⟩
    have BB := Lib.hid b1
    clear b1
    go_wp2_with fail
    refine (HRc.out _ BB.out).mono ?_
    rintro e w2 ⟨rfl, b2⟩
    have BB := Lib.hid (BB.out.trans (b2.mono BB.out.size))
    clear b2
    go_wp2_with fail
    refine (mk_call 8 _).mono ?_
    rw [HD0.out, HE0.out]
    rintro e w3 ⟨v0, rfl, va0, _, b3⟩
    have ki0 := KpI.new va0 (BB.out.trans (b3.mono BB.out.size))
    obtain ⟨U, hU⟩ : ∃ U, U = (w3.alloc (.cells #[.int .i64 D0.size, .slice v0.pE v0.nE v0.cE, .slice v0.pW v0.nW v0.cW, .int .i64 D0.fuse, .bool D0.down] 31)) := ⟨_, rfl⟩
    rw [← hU] at ki0
    obtain ⟨b0, hb0⟩ : ∃ b, b = w3.heap.size := ⟨_, rfl⟩
    have HU := Lib.hid hU
    have K0 := Lib.hid ki0
    clear va0 b3 hU ki0
    go_wp2_with fail
    rw [← HU.out]
    rw [← hb0] at K0 ⊢
    clear HU hb0
    refine (nw_call K0.out.va nA 4 n1).mono ?_
    rw [HD1.out.1, HD1.out.2]
    rintro e w4 ⟨v1, rfl, va1, ab1, b4⟩
    have ki1 := K0.out.put b4 va1 ab1
    have k4 := K0.out.below b4
    obtain ⟨q0, q1, q2, q3, q4⟩ := five k4.box
    obtain ⟨f0, f1, f2, f3, f4⟩ := fiveF k4.box
    obtain ⟨U1, hU1⟩ : ∃ U, U = (((((w4.setCell ⟨b0, 0, none⟩ (.int .i64 D1.size)).setCell ⟨b0, 1, none⟩ (.slice v1.pE v1.nE v1.cE)).setCell ⟨b0, 2, none⟩ (.slice v1.pW v1.nW v1.cW)).setCell ⟨b0, 3, none⟩ (.int .i64 D1.fuse)).setCell ⟨b0, 4, none⟩ (.bool D1.down)) := ⟨_, rfl⟩
    rw [← hU1] at ki1
    have KI := Lib.hid ki1; have HU1 := Lib.hid hU1
    clear va1 ab1 b4 ki1 k4 hU1
    go_wp2_with fail
    rw [← HU1.out]
    obtain ⟨BBp, hBBp⟩ : ∃ BBp : World → Prop, BBp = fun W => Below U1.heap.size U1 W := ⟨_, rfl⟩
    have hK : ∀ W, BBp W → W.cell? ⟨b0, 0, none⟩ = some (.int .i64 D1.size) ∧ W.cell? ⟨b0, 1, none⟩ = some (.slice v1.pE v1.nE v1.cE) ∧ W.cell? ⟨b0, 2, none⟩ = some (.slice v1.pW v1.nW v1.cW) ∧ W.cell? ⟨b0, 3, none⟩ = some (.int .i64 D1.fuse) ∧ W.cell? ⟨b0, 4, none⟩ = some (.bool D1.down) := fun W hh => by
      rw [hBBp] at hh
      exact five (KI.out.below hh).box
    have hKI : ∀ W, BBp W → KpI w W b0 D1 v1 := fun W hh => by rw [hBBp] at hh; exact KI.out.below hh
    have hDd : ∀ W, BBp W → BBp W.drew := fun W hh => by rw [hBBp] at hh ⊢; exact hh.trans ((Below.drew (Below.refl _ W)).mono hh.size)
    have hAl : ∀ W o, BBp W → BBp (W.alloc o) := fun W o hh => by rw [hBBp] at hh ⊢; exact hh.alloc hh.size o
    have h0 : BBp U1 := by rw [hBBp]; exact Below.refl _ _
    have hEnd : ∀ W W6 v2, BBp W → Below W.heap.size W W6 → VarAt W6 D2 v2 → v2.above W.heap.size → KpI w W6 b0 D1 v1 ∧ KpI w (((((W6.setCell ⟨b0, 0, none⟩ (.int .i64 D2.size)).setCell ⟨b0, 1, none⟩ (.slice v2.pE v2.nE v2.cE)).setCell ⟨b0, 2, none⟩ (.slice v2.pW v2.nW v2.cW)).setCell ⟨b0, 3, none⟩ (.int .i64 D2.fuse)).setCell ⟨b0, 4, none⟩ (.bool D2.down)) b0 D2 v2 := fun W W6 v2 hh b6 va2 ab2 => ⟨(hKI W hh).below b6, (hKI W hh).put b6 va2 ab2⟩
    have hWr : ∀ W, BBp W → Calls Try.prog 8 #[.agg #[.int .i64 D1.size, .slice v1.pE v1.nE v1.cE, .slice v1.pW v1.nW v1.cW, .int .i64 D1.fuse, .bool D1.down], .string ⟨#[97]⟩, .int .i64 c, .string (s ++ zz)] W (AnsP W D2 1) := fun W hh => by
      rw [← hd, ← HD2.out.1, ← HD2.out.2]
      exact wt_call (hKI W hh).va nA c d n1 hds2
    have HKc := Lib.hid hK; have HKI := Lib.hid hKI; have HDd := Lib.hid hDd; have HAl := Lib.hid hAl; have H0 := Lib.hid h0; have HWr := Lib.hid hWr; have HEnd := Lib.hid hEnd
    obtain ⟨q0, q1, q2, q3, q4⟩ := hK U1 h0
    have lb : b0 < U1.heap.size := KI.out.box.lt
    have nb1 : ¬ (b0 = U1.heap.size) := by omega
    have nb2 : ¬ (U1.heap.size = b0) := by omega
    clear hBBp hK hKI hDd hAl h0 hWr hEnd f0 f1 f2 f3 f4
    go_region_law (first
      | (go_simp; go_at_call 8; ((with_reducible refine (HWr.out _ (by repeat (first | exact H0.out | apply HDd.out | apply HAl.out))).mono ?_)); rintro e w6 ⟨v2, rfl, va2, ab2, b6⟩
         have hend := HEnd.out _ _ _ (by repeat (first | exact H0.out | apply HDd.out | apply HAl.out)) b6 va2 ab2
         obtain ⟨x0, x1, x2, x3, x4⟩ := five hend.1.box
         obtain ⟨y0, y1, y2, y3, y4⟩ := fiveF hend.1.box
         have KJ := Lib.hid hend.2
         clear va2 ab2 b6 hend))
    all_goals
      rcases hor with ho | ⟨ho1, ho2⟩
      · have t1 : decide (c < 0) = true := decide_eq_true ho
        go_wp2_with fail
        go_ret
        exact ⟨rfl, KJ.out.bel⟩
      · have t1 : decide (c < 0) = false := decide_eq_false (by omega)
        have t2 : decide (3 < c) = true := decide_eq_true ho2
        go_wp2_with fail
        go_ret
        exact ⟨rfl, KJ.out.bel⟩
  rw [if_pos hcr] at hWt
  subst hWt
  have hsy := hSy (by rw [← hD1]; exact HD2.out.2)
  rw [← hD1, HD2.out.1] at hsy
  obtain ⟨D3, hD3⟩ : ∃ x, x = syD D2 := ⟨_, rfl⟩
  rw [← hD3] at hsy
  have HD3 : Hid (syD D2 = D3 ∧ syE D2 = 0) := Lib.hid ⟨hD3.symm, hsy.1⟩
  have HSf := Lib.hid hsy.2
  have ht64 : ((d.size : Int) != 64) = false := by rw [bne_eq_false_iff_eq]; omega
  have hsl : ∀ W : World, (Instr.slice 9 (.string d) none (some (.int .i64 (s.size : Int))) none).run Try.prog W = .ok (.string s) W := fun W => by
    have h := run_slice_string_h (P := Try.prog) (w := W) (t := 9) (s := d) Try.underlying9 .i64 (s.size : Int) (by omega) (by have := HSZ.out.2; omega)
    rw [Int.toNat_natCast, HDT.out] at h
    exact h
  have HSplit : Hid (∀ W, Calls Try.prog 12 #[.string s, .int .i64 (n : Int)] W fun e w' => ∃ A cap, e = .returned (.tuple #[.slice A 1 cap, .int .i64 0]) ∧ Nm.RecsAt w' A [L] ∧ Below W.heap.size W w') := Lib.hid (fun W => by
    have := Nm.split_any s (n : Int) W (by have := HSZ.out.2; omega)
    rw [HN.out] at this ⊢
    rw [HSp.out.1, HSp.out.2] at this
    exact this)
  have HSame : Hid (∀ W q cq, Rd W q (Nm.nums L) → Below w.heap.size w W → Calls Try.prog 13 #[.slice q n cq, .slice p n cp] W fun e w' => e = .returned (.bool true) ∧ ∃ j, w' = W.drewN j) := Lib.hid (fun W q cq hq hb => by
    have := Nm.sameOne_any L L q p cq cp W hq (HL.out W hb) (by rw [← HN.out]; exact HLl.out) (by rw [← HN.out]; exact HLl.out)
    rw [decide_eq_true rfl] at this
    rw [HN.out]
    exact this)
  clear hsy hD3 hSy hcr hD0 hD1 hD2 he2
  go_enter Try.func3, Try.ntmps3
  go_wp2_with fail
  refine (Kp.begins_any _).mono ?_
  rintro e w1 ⟨rfl, b1⟩
  have BB := Lib.hid b1
  clear b1
  go_wp2_with fail
  refine (HRc.out _ BB.out).mono ?_
  rintro e w2 ⟨rfl, b2⟩
  have BB := Lib.hid (BB.out.trans (b2.mono BB.out.size))
  clear b2
  go_wp2_with fail
  refine (mk_call 8 _).mono ?_
  rw [HD0.out, HE0.out]
  rintro e w3 ⟨v0, rfl, va0, _, b3⟩
  have ki0 := KpI.new va0 (BB.out.trans (b3.mono BB.out.size))
  obtain ⟨U, hU⟩ : ∃ U, U = (w3.alloc (.cells #[.int .i64 D0.size, .slice v0.pE v0.nE v0.cE, .slice v0.pW v0.nW v0.cW, .int .i64 D0.fuse, .bool D0.down] 31)) := ⟨_, rfl⟩
  rw [← hU] at ki0
  obtain ⟨b0, hb0⟩ : ∃ b, b = w3.heap.size := ⟨_, rfl⟩
  have HU := Lib.hid hU
  have K0 := Lib.hid ki0
  clear va0 b3 hU ki0
  go_wp2_with fail
  rw [← HU.out]
  rw [← hb0] at K0 ⊢
  clear HU hb0
  refine (nw_call K0.out.va nA 4 n1).mono ?_
  rw [HD1.out.1, HD1.out.2]
  rintro e w4 ⟨v1, rfl, va1, ab1, b4⟩
  have ki1 := K0.out.put b4 va1 ab1
  have k4 := K0.out.below b4
  obtain ⟨q0, q1, q2, q3, q4⟩ := five k4.box
  obtain ⟨f0, f1, f2, f3, f4⟩ := fiveF k4.box
  obtain ⟨U1, hU1⟩ : ∃ U, U = (((((w4.setCell ⟨b0, 0, none⟩ (.int .i64 D1.size)).setCell ⟨b0, 1, none⟩ (.slice v1.pE v1.nE v1.cE)).setCell ⟨b0, 2, none⟩ (.slice v1.pW v1.nW v1.cW)).setCell ⟨b0, 3, none⟩ (.int .i64 D1.fuse)).setCell ⟨b0, 4, none⟩ (.bool D1.down)) := ⟨_, rfl⟩
  rw [← hU1] at ki1
  have KI := Lib.hid ki1; have HU1 := Lib.hid hU1
  clear va1 ab1 b4 ki1 k4 hU1
  go_wp2_with fail
  rw [← HU1.out]
  obtain ⟨BBp, hBBp⟩ : ∃ BBp : World → Prop, BBp = fun W => Below U1.heap.size U1 W := ⟨_, rfl⟩
  have hK : ∀ W, BBp W → W.cell? ⟨b0, 0, none⟩ = some (.int .i64 D1.size) ∧ W.cell? ⟨b0, 1, none⟩ = some (.slice v1.pE v1.nE v1.cE) ∧ W.cell? ⟨b0, 2, none⟩ = some (.slice v1.pW v1.nW v1.cW) ∧ W.cell? ⟨b0, 3, none⟩ = some (.int .i64 D1.fuse) ∧ W.cell? ⟨b0, 4, none⟩ = some (.bool D1.down) := fun W hh => by
    rw [hBBp] at hh
    exact five (KI.out.below hh).box
  have hKI : ∀ W, BBp W → KpI w W b0 D1 v1 := fun W hh => by rw [hBBp] at hh; exact KI.out.below hh
  have hDd : ∀ W, BBp W → BBp W.drew := fun W hh => by rw [hBBp] at hh ⊢; exact hh.trans ((Below.drew (Below.refl _ W)).mono hh.size)
  have hAl : ∀ W o, BBp W → BBp (W.alloc o) := fun W o hh => by rw [hBBp] at hh ⊢; exact hh.alloc hh.size o
  have h0 : BBp U1 := by rw [hBBp]; exact Below.refl _ _
  have hEnd : ∀ W W6 v2, BBp W → Below W.heap.size W W6 → VarAt W6 D2 v2 → v2.above W.heap.size → KpI w W6 b0 D1 v1 ∧ KpI w (((((W6.setCell ⟨b0, 0, none⟩ (.int .i64 D2.size)).setCell ⟨b0, 1, none⟩ (.slice v2.pE v2.nE v2.cE)).setCell ⟨b0, 2, none⟩ (.slice v2.pW v2.nW v2.cW)).setCell ⟨b0, 3, none⟩ (.int .i64 D2.fuse)).setCell ⟨b0, 4, none⟩ (.bool D2.down)) b0 D2 v2 := fun W W6 v2 hh b6 va2 ab2 => ⟨(hKI W hh).below b6, (hKI W hh).put b6 va2 ab2⟩
  have hWr : ∀ W, BBp W → Calls Try.prog 8 #[.agg #[.int .i64 D1.size, .slice v1.pE v1.nE v1.cE, .slice v1.pW v1.nW v1.cW, .int .i64 D1.fuse, .bool D1.down], .string ⟨#[97]⟩, .int .i64 c, .string (s ++ zz)] W (AnsP W D2 0) := fun W hh => by
    rw [← hd, ← HD2.out.1, ← HD2.out.2]
    exact wt_call (hKI W hh).va nA c d n1 hds2
  have HKc := Lib.hid hK; have HKI := Lib.hid hKI; have HDd := Lib.hid hDd; have HAl := Lib.hid hAl; have H0 := Lib.hid h0; have HWr := Lib.hid hWr; have HEnd := Lib.hid hEnd
  obtain ⟨q0, q1, q2, q3, q4⟩ := hK U1 h0
  have lb : b0 < U1.heap.size := KI.out.box.lt
  have nb1 : ¬ (b0 = U1.heap.size) := by omega
  have nb2 : ¬ (U1.heap.size = b0) := by omega
  clear hBBp hK hKI hDd hAl h0 hWr hEnd f0 f1 f2 f3 f4
  go_region_law (first
    | (go_simp; go_at_call 8; ((with_reducible refine (HWr.out _ (by repeat (first | exact H0.out | apply HDd.out | apply HAl.out))).mono ?_)); rintro e w6 ⟨v2, rfl, va2, ab2, b6⟩
       have hend := HEnd.out _ _ _ (by repeat (first | exact H0.out | apply HDd.out | apply HAl.out)) b6 va2 ab2
       obtain ⟨x0, x1, x2, x3, x4⟩ := five hend.1.box
       obtain ⟨y0, y1, y2, y3, y4⟩ := fiveF hend.1.box
       have KJ := Lib.hid hend.2
       clear va2 ab2 b6 hend))
  all_goals
    obtain ⟨U2, hU2⟩ : ∃ U, U = (((((w6.setCell ⟨b0, 0, none⟩ (.int .i64 D2.size)).setCell ⟨b0, 1, none⟩ (.slice v2.pE v2.nE v2.cE)).setCell ⟨b0, 2, none⟩ (.slice v2.pW v2.nW v2.cW)).setCell ⟨b0, 3, none⟩ (.int .i64 D2.fuse)).setCell ⟨b0, 4, none⟩ (.bool D2.down)) := ⟨_, rfl⟩
    rw [← hU2] at KJ
    have HU2 := Lib.hid hU2
    clear hU2 HKc HKI HDd HAl H0 HWr HEnd nb1 nb2 lb hmk hcv hcv2 q0 q1 q2 q3 q4
    go_wp2_with fail
    rw [← HU2.out]
    clear HU2 x0 x1 x2 x3 x4 y0 y1 y2 y3 y4
    refine (sy_call KJ.out.va).mono ?_
    rw [HD3.out.1, HD3.out.2]
    rintro e w7 ⟨v3, rfl, va3, ab3, b7⟩
    have ki3 := KJ.out.put b7 va3 ab3
    have k7 := KJ.out.below b7
    obtain ⟨x0, x1, x2, x3, x4⟩ := five k7.box
    obtain ⟨y0, y1, y2, y3, y4⟩ := fiveF k7.box
    obtain ⟨U3, hU3⟩ : ∃ U, U = (((((w7.setCell ⟨b0, 0, none⟩ (.int .i64 D3.size)).setCell ⟨b0, 1, none⟩ (.slice v3.pE v3.nE v3.cE)).setCell ⟨b0, 2, none⟩ (.slice v3.pW v3.nW v3.cW)).setCell ⟨b0, 3, none⟩ (.int .i64 D3.fuse)).setCell ⟨b0, 4, none⟩ (.bool D3.down)) := ⟨_, rfl⟩
    rw [← hU3] at ki3
    have K3 := Lib.hid ki3; have HU3 := Lib.hid hU3
    clear va3 ab3 b7 ki3 k7 hU3 hd
    go_wp2_with fail
    rw [← HU3.out]
    clear HU3 x0 x1 x2 x3 x4 y0 y1 y2 y3 y4
    go_loopw [16, 17, 79] (fun _ _ i wr => ∃ (k : Nat) (Dk : Dsk) (vk : DVal), k ≤ nM ∧ i = .int .i64 k ∧ Safe D3 Dk nA c [d] ∧ KpI w wr b0 Dk vk) (fun _ _ i _ => nM - (intOf i).toNat)
    case atStart => exact ⟨0, D3, v3, by omega, rfl, HSf.out.1, K3.out⟩
    case round =>
      obtain ⟨k, Dk, vk, hk, rfl, hsf, hki⟩ := hrel
      by_cases hlt : k < nM
      · obtain ⟨g, o, rfl, hg, d0, d1, d2, z1, z2⟩ := (HM.out wr hki.bel) k (by rw [← HNM.out]; exact hlt)
        obtain ⟨x, hx⟩ : ∃ x, x = (M.getD k default).1 := ⟨_, rfl⟩
        obtain ⟨sx, hsx⟩ : ∃ x, x = (M.getD k default).2.1 := ⟨_, rfl⟩
        obtain ⟨y, hy⟩ : ∃ x, x = (M.getD k default).2.2 := ⟨_, rfl⟩
        rw [← hx] at d0 z1; rw [← hsx] at d1; rw [← hy] at d2 z2
        have m0 : (0 : Int) ≤ (k : Int) := by omega
        have m1 : (k : Int) < (nM : Int) := by omega
        obtain ⟨W2, hW2⟩ : ∃ W2, W2 = wr.alloc (.cells #[.string x, .int .i64 sx, .string y] 39) := ⟨_, rfl⟩
        have t2 : Below wr.heap.size wr W2 := by rw [hW2]; exact (Below.refl _ _).alloc (Nat.le_refl _) _
        have ki2 := hki.below t2
        obtain ⟨r0, r1, r2, r3, r4⟩ := five ki2.box
        rw [hW2] at r0 r1 r2 r3 r4
        obtain ⟨De, hDe⟩ : ∃ x', x' = wtD Dk x sx y := ⟨_, rfl⟩
        obtain ⟨er, her⟩ : ∃ x', x' = wtE Dk x sx y := ⟨_, rfl⟩
        have HC := Lib.hid (wt_call ki2.va x sx y z1 z2)
        rw [← hDe, ← her] at HC
        have HW2 := Lib.hid hW2; have KI2 := Lib.hid ki2; have SF := Lib.hid hsf
        have hnb : ¬ (b0 = wr.heap.size) := by have := hki.box.lt; omega
        have hnb2 : ¬ (wr.heap.size = b0) := by have := hki.box.lt; omega
        have hmore : ¬ (x = nA ∧ sx = c) → Safe D3 De nA c [d] := fun hh => by
          rw [hDe]
          exact kp_more hsf x sx y hh
        have HMO := Lib.hid hmore
        clear hsf hki hx hsx hy hW2 t2 ki2 her hDe hmore
        by_cases h20 : k < 20
        · have h20i : (k : Int) < 20 := by omega
          by_cases hx97 : x.toList = [97]
          · by_cases hsc : sx = c
            · have tsn : (sx != c) = false := by rw [hsc]; simp
              clear hsc
              go_wp2_with fail
              exact ⟨⟨k + 1, Dk, vk, by omega, by go_num, SF.out, by rw [← HW2.out]; exact KI2.out⟩, by simp [intOf]; omega⟩
            · have tsn : (sx != c) = true := by rw [bne_iff_ne]; exact hsc
              have SD := Lib.hid (HMO.out (fun h => hsc h.2))
              clear hsc
              go_wp2_with fail
              all_goals
                rw [← HW2.out]
                refine HC.out.mono ?_
                rintro e w4 ⟨ve, rfl, va4, ab4, b4⟩
                have ki4 := KI2.out.put b4 va4 ab4
                have k4 := KI2.out.below b4
                obtain ⟨x0, x1, x2, x3, x4⟩ := five k4.box
                obtain ⟨y0, y1, y2, y3, y4⟩ := fiveF k4.box
                obtain ⟨U4, hU4⟩ : ∃ U, U = (((((w4.setCell ⟨b0, 0, none⟩ (.int .i64 De.size)).setCell ⟨b0, 1, none⟩ (.slice ve.pE ve.nE ve.cE)).setCell ⟨b0, 2, none⟩ (.slice ve.pW ve.nW ve.cW)).setCell ⟨b0, 3, none⟩ (.int .i64 De.fuse)).setCell ⟨b0, 4, none⟩ (.bool De.down)) := ⟨_, rfl⟩
                rw [← hU4] at ki4
                have K4 := Lib.hid ki4; have HU4 := Lib.hid hU4
                clear va4 ab4 b4 ki4 k4 hU4 d0 d1 d2 r0 r1 r2 r3 r4
                go_wp2_with fail
                exact ⟨⟨k + 1, De, ve, by omega, by go_num, SD.out, by rw [← HU4.out]; exact K4.out⟩, by simp [intOf]; omega⟩
          · have SD := Lib.hid (HMO.out (fun h => hx97 (by rw [h.1]; first | (simp [nA]; done) | decide +kernel)))
            obtain ⟨bs, hbs⟩ : ∃ b, b = (sx != c) := ⟨_, rfl⟩
            have tsn : (sx != c) = bs := hbs.symm
            clear hbs
            go_wp2_with fail
            all_goals
              rw [← HW2.out]
              refine HC.out.mono ?_
              rintro e w4 ⟨ve, rfl, va4, ab4, b4⟩
              have ki4 := KI2.out.put b4 va4 ab4
              have k4 := KI2.out.below b4
              obtain ⟨x0, x1, x2, x3, x4⟩ := five k4.box
              obtain ⟨y0, y1, y2, y3, y4⟩ := fiveF k4.box
              obtain ⟨U4, hU4⟩ : ∃ U, U = (((((w4.setCell ⟨b0, 0, none⟩ (.int .i64 De.size)).setCell ⟨b0, 1, none⟩ (.slice ve.pE ve.nE ve.cE)).setCell ⟨b0, 2, none⟩ (.slice ve.pW ve.nW ve.cW)).setCell ⟨b0, 3, none⟩ (.int .i64 De.fuse)).setCell ⟨b0, 4, none⟩ (.bool De.down)) := ⟨_, rfl⟩
              rw [← hU4] at ki4
              have K4 := Lib.hid ki4; have HU4 := Lib.hid hU4
              clear va4 ab4 b4 ki4 k4 hU4 d0 d1 d2 r0 r1 r2 r3 r4
              go_wp2_with fail
              exact ⟨⟨k + 1, De, ve, by omega, by go_num, SD.out, by rw [← HU4.out]; exact K4.out⟩, by simp [intOf]; omega⟩
        · have h20i : ¬ (k : Int) < 20 := by omega
          go_wp2_with fail
          exact ⟨⟨k + 1, Dk, vk, by omega, by go_num, SF.out, by rw [← HW2.out]; exact KI2.out⟩, by simp [intOf]; omega⟩
      · obtain ⟨Dc, hDc⟩ : ∃ x, x = crD Dk K := ⟨_, rfl⟩
        have hkn : k = nM := by omega
        subst hkn
        obtain ⟨c1, c2, c3⟩ := kp_crash hsf HSf.out.2 K
        have HCR := Lib.hid (cr_call hki.va K pK nK cK HNK.out (HK.out wr hki.bel))
        rw [← hDc, c1] at HCR
        rw [← hDc] at c2 c3
        obtain ⟨x0, x1, x2, x3, x4⟩ := five hki.box
        have C2 := Lib.hid c2; have C3 := Lib.hid c3; have KI4 := Lib.hid hki
        clear hsf hki hDc c1 c2 c3
        go_wp2_with fail
        clear x0 x1 x2 x3 x4
        refine HCR.out.mono ?_
        rintro e w8 ⟨v4, rfl, va4, ab4, b8⟩
        have ki5 := KI4.out.put b8 va4 ab4
        have k5 := KI4.out.below b8
        obtain ⟨x0, x1, x2, x3, x4⟩ := five k5.box
        obtain ⟨y0, y1, y2, y3, y4⟩ := fiveF k5.box
        obtain ⟨U5, hU5⟩ : ∃ U, U = (((((w8.setCell ⟨b0, 0, none⟩ (.int .i64 Dc.size)).setCell ⟨b0, 1, none⟩ (.slice v4.pE v4.nE v4.cE)).setCell ⟨b0, 2, none⟩ (.slice v4.pW v4.nW v4.cW)).setCell ⟨b0, 3, none⟩ (.int .i64 Dc.fuse)).setCell ⟨b0, 4, none⟩ (.bool Dc.down)) := ⟨_, rfl⟩
        rw [← hU5] at ki5
        have K5 := Lib.hid ki5; have HU5 := Lib.hid hU5
        clear va4 ab4 b8 ki5 k5 hU5
        go_wp2_with fail
        rw [← HU5.out]
        clear HU5 x0 x1 x2 x3 x4 y0 y1 y2 y3 y4
        refine (rd_call K5.out.va nA c).mono ?_
        rw [C2.out, C3.out]
        rintro e w9 ⟨rfl, b9⟩
        have BB9 := Lib.hid (K5.out.bel.trans (b9.mono K5.out.bel.size))
        clear b9
        go_wp2_with fail
        refine (HSplit.out _).mono ?_
        rintro e w10 ⟨A, cap, rfl, hR, b10⟩
        obtain ⟨a1, q, cq, rfl, hal, hca, hrq, hql⟩ := hR 0 (by simp)
        have e0 : [L].getD 0 [] = L := rfl
        rw [e0, ← HN.out] at hca
        rw [e0] at hrq
        have bb10 := BB9.out.trans (b10.mono BB9.out.size)
        have hbd : ∀ z, Below w.heap.size w (w10.drewN z) := fun z => bb10.trans ⟨rfl, rfl, rfl, Nat.le_refl _, fun _ _ => rfl⟩
        have hcall := HSame.out w10 q cq hrq bb10
        have HCs := Lib.hid hcall; have HBD := Lib.hid hbd
        have hca0 : w10.cell? a1 = some (.slice q n cq) := by simpa [Addr.add] using hca
        clear hR hrq hql b10 bb10 hbd hcall e0
        go_wp2_with fail
        refine HCs.out.mono ?_
        rintro e w11 ⟨rfl, j, rfl⟩
        go_wp2_with fail
        go_ret
        exact ⟨rfl, HBD.out _⟩
end Go.Proofs.Ytgpheofdeflhdaa.Dk

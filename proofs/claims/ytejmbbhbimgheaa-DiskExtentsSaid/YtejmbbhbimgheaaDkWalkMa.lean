/- The walk of move (of a disk at work). -/
import Derived.Test.YtejmbbhbimgheaaDkMove
import Derived.Test.YtejmbbhbimgheaaDkWalkT
import Derived.Test.YtejmbbhbimgheaaDkWalkN
import Derived.Conc.MuLone
namespace Go.Proofs.Ytejmbbhbimgheaa.Dk
open Go.RowKit Go.Op

set_option maxRecDepth 100000 in
theorem move1_any (to x : ByteArray) (T : Nat) (w : World) (q : w.cell? ⟨T, 0, none⟩ = some (.string to)) :
    Calls Try.prog 66 #[.string x, .pointer (some ⟨T, 0, none⟩)] w fun e w' => e = .returned (.bool (nmEq to x)) ∧ Below w.heap.size w w' := by
  obtain ⟨b, hb⟩ : ∃ b, b = (x.toList == to.toList) := ⟨_, rfl⟩
  have F : Hid (b = nmEq to x) := Lib.hid hb
  have t : (x.toList == to.toList) = b := hb.symm
  clear hb
  go_enter Try.func66, Try.ntmps66
  go_wp2_with fail
  go_ret
  exact ⟨ret_bool F.out, Below.refl _ _⟩

set_option maxHeartbeats 8000000 in
set_option maxRecDepth 100000 in
theorem move_any (z : Int) (E : List Ext) (L : List Wr) (fz : Int) (dn : Bool) (C g gE gW : Nat) (fr to : ByteArray) (w : World) (hbg : Bg C w g gE gW z E L fz dn) (hC : C ≤ w.heap.size)
    (hs : Sorted E) (hE : E.length ≤ 1000000) (hL : L.length ≤ 1000000) (oE : EOk E) (oW : WOk L) (h2 : to.size ≤ 140737488355328) :
    Calls Try.prog 42 #[.pointer (some ⟨g, 0, none⟩), .string fr, .string to] w (StP C g w (movD z E L fz dn fr to) (movE E fr to)) := by
  obtain ⟨ge, n1, n2, n3, box, rowE, rowW⟩ := hbg
  obtain ⟨lE, hlE⟩ : ∃ lE, lE = E.length := ⟨_, rfl⟩
  obtain ⟨lW, hlW⟩ : ∃ lW, lW = L.length := ⟨_, rfl⟩
  rw [← hlE, ← hlW] at box
  rw [← hlE] at rowE hE
  rw [← hlW] at rowW hL
  have gE1 := rowE.lt gE rfl
  have gW1 := rowW.lt gW rfl
  have g1 := box.lt
  obtain ⟨A1, hA1⟩ : ∃ A1, A1 = w.alloc (.cells #[.string to] 9) := ⟨_, rfl⟩
  have bb : Below w.heap.size w A1 := by rw [hA1]; exact (Below.refl _ _).alloc (Nat.le_refl _) _
  have tb : Boxed A1 w.heap.size [.string to] := by rw [hA1]; exact Boxed.new w #[.string to] 9
  have bx := box.below bb
  have rE := Rw.own_below rowE bb
  have rW := Rw.own_below rowW bb
  have hW0 : Hid (∀ W, Below w.heap.size w W → StP C g w ⟨z, E, L, fz, dn⟩ 0 (.returned (.int .i64 0)) W ∧ StP C g w ⟨z, E, L, fz, dn⟩ 1 (.returned (.int .i64 1)) W ∧ StP C g w ⟨z, E, L, fz, dn⟩ 3 (.returned (.int .i64 3)) W) := Lib.hid (fun W hW => by
    have := workAt_own (box.below hW) hlE hlW (Rw.own_below rowE hW) (Rw.own_below rowW hW) oE oW
    exact ⟨⟨rfl, this, hW.mono hC⟩, ⟨rfl, this, hW.mono hC⟩, ⟨rfl, this, hW.mono hC⟩⟩)
  have HA : Hid (w.alloc (.cells #[.string to] 9) = A1) := Lib.hid hA1.symm
  have HE := Lib.hid (extAt_own rE oE)
  have q0 : A1.cell? ⟨g, 0, none⟩ = some (.int .i64 z) := bx.cell 0 (by simp)
  have q1 : A1.cell? ⟨g, 1, none⟩ = some (.slice (some ⟨gE, 0, none⟩) lE (lE + 1)) := bx.cell 1 (by simp)
  have q2 : A1.cell? ⟨g, 2, none⟩ = some (.slice (some ⟨gW, 0, none⟩) lW (lW + 1)) := bx.cell 2 (by simp)
  have q3 : A1.cell? ⟨g, 3, none⟩ = some (.int .i64 fz) := bx.cell 3 (by simp)
  have q4 : A1.cell? ⟨g, 4, none⟩ = some (.bool dn) := bx.cell 4 (by simp)
  have qt : A1.cell? ⟨w.heap.size, 0, none⟩ = some (.string to) := tb.cell 0 (by simp)
  have BX := Lib.hid bx; have RE := Lib.hid rE; have RW := Lib.hid rW; have HLE := Lib.hid hlE; have HLW := Lib.hid hlW; have HS := Lib.hid hs; have OE := Lib.hid oE; have OW := Lib.hid oW
  have N1 := Lib.hid n1; have N2 := Lib.hid n2; have N3 := Lib.hid n3; have GE := Lib.hid ge; have GE1 := Lib.hid gE1; have GW1 := Lib.hid gW1; have G1 := Lib.hid g1; have HC := Lib.hid hC
  have TB := Lib.hid tb; have BB := Lib.hid bb
  clear ge n1 n2 n3 box rowE rowW hlE hlW gE1 gW1 g1 hA1 bb tb bx rE rW hs oE oW hC
  cases cn : named to with
  | false =>
    have F : Hid ((1 : Int) = movE E fr to ∧ movD z E L fz dn fr to = ⟨z, E, L, fz, dn⟩) := Lib.hid ⟨by unfold movE; rw [cn]; rfl, by unfold movD; rw [cn]; simp⟩
    have CN := Lib.hid cn
    clear cn
    go_enter Try.func42, Try.ntmps42
    go_wp2_with fail
    refine (isName_any to _ (by omega)).mono ?_
    rw [CN.out]
    rintro e w1 ⟨rfl, rfl⟩
    go_wp2_with fail
    go_ret
    rw [HA.out, F.out.2, ← F.out.1]
    exact (hW0.out A1 BB.out).2.1
  | true =>
  have CN := Lib.hid cn
  have hA : movE E fr to = if isAt E fr = true then 0 else 3 := by unfold movE; rw [if_pos cn]
  cases ci : isAt E fr with
  | false =>
    have F : Hid ((3 : Int) = movE E fr to ∧ movD z E L fz dn fr to = ⟨z, E, L, fz, dn⟩) := Lib.hid ⟨by rw [hA, ci]; rfl, by unfold movD; rw [ci]; simp⟩
    have CI := Lib.hid ci
    clear cn ci hA
    go_enter Try.func42, Try.ntmps42
    go_wp2_with fail
    refine (isName_any to _ (by omega)).mono ?_
    rw [CN.out]
    rintro e w1 ⟨rfl, rfl⟩
    rw [HA.out]
    go_wp2_with fail
    refine (place_any z (some ⟨gE, 0, none⟩) (some ⟨gW, 0, none⟩) lE (lE + 1) lW (lW + 1) fz dn E fr _ HLE.out HE.out HS.out (by omega)).mono ?_
    rw [CI.out]
    rintro e w1 ⟨rfl, b1⟩
    have B1 := Lib.hid b1
    clear b1
    go_wp2_with fail
    go_ret
    rw [F.out.2, ← F.out.1]
    exact (hW0.out _ (BB.out.trans (B1.out.mono BB.out.size))).2.2
  | true =>
  have CI := Lib.hid ci
  rw [ci, if_pos rfl] at hA
  cases cq : nmEq to fr with
  | true =>
    have hft : fr = to := nmEq_iff.1 cq
    have F : Hid ((0 : Int) = movE E fr to ∧ movD z E L fz dn fr to = ⟨z, E, L, fz, dn⟩) := Lib.hid ⟨hA.symm, by unfold movD; rw [cq]; simp⟩
    have t : (fr.toList == to.toList) = true := by rw [hft]; simp
    clear cn ci hA cq hft
    go_enter Try.func42, Try.ntmps42
    go_wp2_with fail
    refine (isName_any to _ (by omega)).mono ?_
    rw [CN.out]
    rintro e w1 ⟨rfl, rfl⟩
    rw [HA.out]
    go_wp2_with fail
    refine (place_any z (some ⟨gE, 0, none⟩) (some ⟨gW, 0, none⟩) lE (lE + 1) lW (lW + 1) fz dn E fr _ HLE.out HE.out HS.out (by omega)).mono ?_
    rw [CI.out]
    rintro e w1 ⟨rfl, b1⟩
    have B1 := Lib.hid b1
    have qt1 : w1.cell? ⟨w.heap.size, 0, none⟩ = some (.string to) := (TB.out.below b1).cell 0 (by simp)
    clear b1
    go_wp2_with fail
    go_ret
    rw [F.out.2, ← F.out.1]
    exact (hW0.out _ (BB.out.trans (B1.out.mono BB.out.size))).1
  | false =>
  have hq : (fr.toList == to.toList) = false := cq
  have hD : movD z E L fz dn fr to = ⟨z, mvE3 E fr to, mvL L fr to, fz, dn⟩ := by unfold movD; rw [if_pos ⟨cn, ci, cq⟩]
  have HD := Lib.hid hD; have HER := Lib.hid hA
  have hat1 := mvE1_at HS.out ci cq
  have hs1 := HS.out.sub (mvE1_sub E to)
  have hs2 := hs1.sub (mvE2_sub E fr to)
  have ok1 := eOk_sub OE.out (mvE1_sub E to)
  have ok2 := eOk_sub ok1 (mvE2_sub E fr to)
  have okW1 : WOk (keptWn (nmEq to) L) := wOk_sub OW.out List.filter_sublist
  obtain ⟨E1, hE1⟩ : ∃ E1, E1 = mvE1 E to := ⟨_, rfl⟩
  obtain ⟨L1, hL1⟩ : ∃ L1, L1 = keptWn (nmEq to) L := ⟨_, rfl⟩
  obtain ⟨p, hp⟩ : ∃ p, p = pos E1 fr := ⟨_, rfl⟩
  have hl1 : E1.length ≤ lE := by rw [hE1, HLE.out]; exact (mvE1_sub E to).length_le
  have hlW1 : L1.length ≤ lW := by rw [hL1, HLW.out]; exact List.length_filter_le _ _
  rw [← hE1] at hat1 hs1 ok1
  rw [← hL1] at okW1
  have hp1 : p < E1.length := by rw [hp]; exact isAt_lt hat1
  obtain ⟨n, hn⟩ : ∃ n, E1.length = n + 1 := ⟨E1.length - 1, by omega⟩
  obtain ⟨E2, hE2⟩ : ∃ E2, E2 = mvE2 E fr to := ⟨_, rfl⟩
  have hE2e : E2 = E1.take p ++ E1.drop (p + 1) := by rw [hE2, hp, hE1]; rfl
  have hE2n : E2.length = n := by rw [hE2e, List.length_append, List.length_take, List.length_drop]; omega
  rw [← hE2] at hs2 ok2
  obtain ⟨y, hy⟩ : ∃ y, y = (E1.getD p default).2 := ⟨_, rfl⟩
  have hyo : y.size ≤ 140737488355328 := by rw [hy]; exact (ok1 p hp1).2
  have hE3 : mvE3 E fr to = insE E2 (pos E2 to) to y := by unfold mvE3; rw [hy, hp, hE2, hE1]
  have hL3 : mvL L fr to = L1.map (renW fr to) := by unfold mvL; rw [hL1]
  have hcf : ∀ args W, (callFunc 66 args).run Try.prog W = .ok (.enter 66 args) W := fun args W => MuLone.run_callFunc_enter (P := Try.prog) Try.func66 (by kernel_rfl) rfl args W
  have HDR : Hid (∀ W, Below A1.heap.size A1 W → Calls Try.prog 64 #[.pointer (some ⟨g, 0, none⟩), .func (.func 66) #[] #[.pointer (some ⟨w.heap.size, 0, none⟩)]] W fun e w' => e = .returned (.tuple #[]) ∧
      Boxed w' g [.int .i64 z, .slice (some ⟨gE, 0, none⟩) (n + 1) (lE + 1), .slice (some ⟨gW, 0, none⟩) L1.length (lW + 1), .int .i64 fz, .bool dn, .slice none 0 0] ∧
      w'.ownsRow C 58 2 (.slice (some ⟨gE, 0, none⟩) (n + 1) (lE + 1)) (n + 1) (eRow E1) ∧ w'.ownsRow C 63 3 (.slice (some ⟨gW, 0, none⟩) L1.length (lW + 1)) L1.length (wRow L1) ∧ Boxed w' w.heap.size [.string to] ∧ Bar W w' (fun k => k = g ∨ k = gE ∨ k = gW)) := Lib.hid (fun W hW => by
    have gl1 := G1.out
    have gl2 := GE1.out
    have gl3 := GW1.out
    have hb1 := BB.out.size
    have hb2 := hW.size
    have hd := drop_any (nmEq to) z E L fz dn C g gE gW lE (lE + 1) lW (lW + 1) _ 66 #[.pointer (some ⟨w.heap.size, 0, none⟩)] W HLE.out HLW.out (BX.out.below hW) N1.out N2.out N3.out (Rw.own_below RE.out hW) (Rw.own_below RW.out hW) ⟨by omega, by omega⟩ ⟨by omega, by omega⟩ OE.out OW.out hcf (by
      intro W2 hb x _
      exact move1_any to x w.heap.size W2 (((TB.out.below hW).bar hb (by omega)).cell 0 (by simp)))
    have e1 : keptEn (nmEq to) E = E1 := hE1.symm
    rw [e1, ← hL1, hn] at hd
    refine hd.mono ?_
    rintro e w' ⟨rfl, a1, a2, a3, a4⟩
    exact ⟨rfl, a1, a2, a3, (TB.out.below hW).bar a4 (by omega), a4⟩)
  have HS1 := Lib.hid hs1; have HS2 := Lib.hid hs2; have OK1 := Lib.hid ok1; have OK2 := Lib.hid ok2; have OKW := Lib.hid okW1; have HAT := Lib.hid hat1; have HP := Lib.hid hp; have HNN := Lib.hid hn; have HE2E := Lib.hid hE2e; have HE2N := Lib.hid hE2n; have HY := Lib.hid hy; have HYO := Lib.hid hyo; have HE3 := Lib.hid hE3; have HL3 := Lib.hid hL3
  obtain ⟨l1, hl1e⟩ : ∃ l1, l1 = L1.length := ⟨_, rfl⟩
  rw [← hl1e] at HDR hlW1
  have HL1E := Lib.hid hl1e
  clear cn ci hA cq hD hat1 hs1 hs2 ok1 ok2 okW1 hE1 hL1 hp hp1 hE2 hE2e hy hyo hE3 hL3 hcf hl1e
  go_enter Try.func42, Try.ntmps42
  go_wp2_with fail
  refine (isName_any to _ (by omega)).mono ?_
  rw [CN.out]
  rintro e w1 ⟨rfl, rfl⟩
  rw [HA.out]
  go_wp2_with fail
  refine (place_any z (some ⟨gE, 0, none⟩) (some ⟨gW, 0, none⟩) lE (lE + 1) lW (lW + 1) fz dn E fr _ HLE.out HE.out HS.out (by omega)).mono ?_
  rw [CI.out]
  rintro e w1 ⟨rfl, b1⟩
  have qt1 : w1.cell? ⟨w.heap.size, 0, none⟩ = some (.string to) := (TB.out.below b1).cell 0 (by simp)
  have HDR1 := Lib.hid (HDR.out w1 b1)
  have BA1 := Lib.hid (BB.out.trans (b1.mono BB.out.size))
  clear b1 HDR q0 q1 q2 q3 q4 qt
  go_wp2_with fail
  refine HDR1.out.mono ?_
  rintro e w2 ⟨rfl, bx2, r2, s2, tb2, bar2⟩
  have gl1 := G1.out
  have gl2 := GE1.out
  have gl3 := GW1.out
  have hszA := BA1.out.size
  have hsz2 := bar2.size
  have c0 : w2.cell? ⟨g, 0, none⟩ = some (.int .i64 z) := bx2.cell 0 (by simp)
  have c1 : w2.cell? ⟨g, 1, none⟩ = some (.slice (some ⟨gE, 0, none⟩) (n + 1) (lE + 1)) := bx2.cell 1 (by simp)
  have c2 : w2.cell? ⟨g, 2, none⟩ = some (.slice (some ⟨gW, 0, none⟩) l1 (lW + 1)) := bx2.cell 2 (by simp)
  have c3 : w2.cell? ⟨g, 3, none⟩ = some (.int .i64 fz) := bx2.cell 3 (by simp)
  have c4 : w2.cell? ⟨g, 4, none⟩ = some (.bool dn) := bx2.cell 4 (by simp)
  have hn1 : E1.length = n + 1 := HNN.out
  have hpn : p ≤ n := by have := isAt_lt HAT.out; rw [← HP.out] at this; omega
  have HPL := Lib.hid (place_any z (some ⟨gE, 0, none⟩) (some ⟨gW, 0, none⟩) (n + 1) (lE + 1) l1 (lW + 1) fz dn E1 fr w2 hn1.symm (extAt_own r2 OK1.out) HS1.out (by omega))
  rw [← HP.out, HAT.out] at HPL
  have B2 := Lib.hid ((Bar.of_below BA1.out (fun k => k = g ∨ k = gE ∨ k = gW)).trans bar2)
  have BX2 := Lib.hid bx2; have R2 := Lib.hid r2; have S2 := Lib.hid s2; have TB2 := Lib.hid tb2; have HZ2 : Hid (w.heap.size ≤ w2.heap.size) := Lib.hid (by omega)
  clear bx2 r2 s2 tb2 bar2 hszA hsz2 qt1
  go_wp2_with fail
  refine HPL.out.mono ?_
  rintro e w3 ⟨rfl, b3⟩
  have bx3 := BX2.out.below b3
  have r3 := Rw.own_below R2.out b3
  have c1 : w3.cell? ⟨g, 1, none⟩ = some (.slice (some ⟨gE, 0, none⟩) (n + 1) (lE + 1)) := bx3.cell 1 (by simp)
  obtain ⟨g0, o0, hge, hg0, d0, d1, z1, z2⟩ := (extAt_own r3 OK1.out) p (by omega)
  cases hge
  rw [← HY.out] at d1
  simp only [Nat.zero_add] at d1
  have m0 : (0 : Int) ≤ (p : Int) := by omega
  have m1 : (p : Int) < ((n + 1 : Nat) : Int) := by omega
  have m2 : (p : Int) < (n : Int) + 1 := by omega
  have hwp : IntKind.i64.wrap ((p : Int) + 1) = (p : Int) + 1 := IntWalk.i64_in _ (by omega)
  have HDL := Lib.hid (deleteOne_any C gE n (lE + 1) p (eRow E1) w3 r3 (eRow_one E1) hpn (by omega))
  rw [(eRow_split E1 p).1, (eRow_split E1 (p + 1)).2, ← eRow_app, ← HE2E.out] at HDL
  have BX3 := Lib.hid bx3; have S3 := Lib.hid (Rw.own_below S2.out b3); have TB3 := Lib.hid (TB2.out.below b3); have B3 := Lib.hid (B2.out.trans (Bar.of_below b3 _))
  have HZ3 : Hid (w.heap.size ≤ w3.heap.size) := Lib.hid (Nat.le_trans HZ2.out b3.size)
  clear bx3 r3 b3 d0 z1 z2 c0 c2 c3 c4 gl1 gl2 gl3 HPL
  go_wp2_with fail
  refine HDL.out.mono ?_
  unfold DelOneP
  rintro e w4 ⟨rfl, r4, bar4⟩
  have gl1 := G1.out
  have gl2 := GE1.out
  have gl3 := GW1.out
  have hz3 := HZ3.out
  have bx4 := BX3.out.bar bar4 N1.out
  have f1 : w4.frozen? ⟨g, 1, none⟩ = false := bx4.free 1 (by simp)
  have c1' : w4.cell? ⟨g, 1, none⟩ = some (.slice (some ⟨gE, 0, none⟩) (n + 1) (lE + 1)) := bx4.cell 1 (by simp)
  obtain ⟨w5, hw5⟩ : ∃ w5, w5 = w4.setCell ⟨g, 1, none⟩ (.slice (some ⟨gE, 0, none⟩) n (lE + 1)) := ⟨_, rfl⟩
  have bar5 : Bar w4 w5 (fun k => k = g) := by rw [hw5]; exact (Bar.refl _ (fun k => k = g)).setCell (q := ⟨g, 1, none⟩) rfl _
  have bx5 : Boxed w5 g [.int .i64 z, .slice (some ⟨gE, 0, none⟩) n (lE + 1), .slice (some ⟨gW, 0, none⟩) l1 (lW + 1), .int .i64 fz, .bool dn, .slice none 0 0] := by rw [hw5]; exact bx4.set (i := 1) (by simp) _
  have r5 := own_bar r4 bar5 (fun k hk h => by simp [Value.ownBlock] at hk; have := N1.out; omega)
  have s5 := own_bar (own_bar S3.out bar4 (fun k hk h => by simp [Value.ownBlock] at hk; have := N3.out; omega)) bar5 (fun k hk h => by simp [Value.ownBlock] at hk; have := N2.out; omega)
  have tb5 := (TB3.out.bar bar4 (by omega)).bar bar5 (by omega)
  have hb5 := (B3.out.trans (bar4.mono (fun k _ h => Or.inr (Or.inl h)))).trans (bar5.mono (fun k _ h => Or.inl h))
  have qt5 : w5.cell? ⟨w.heap.size, 0, none⟩ = some (.string to) := tb5.cell 0 (by simp)
  have hz5 : w.heap.size ≤ w5.heap.size := by have := bar4.size; have := bar5.size; omega
  have BX5 := Lib.hid bx5; have R5 := Lib.hid r5; have S5 := Lib.hid s5; have TB5 := Lib.hid tb5; have B5 := Lib.hid hb5; have HW5 := Lib.hid hw5; have HZ5 := Lib.hid hz5
  have qt5' : (w4.setCell ⟨g, 1, none⟩ (.slice (some ⟨gE, 0, none⟩) n (lE + 1))).cell? ⟨w.heap.size, 0, none⟩ = some (.string to) := by rw [← hw5]; exact qt5
  clear bx4 bar4 r4 bar5 bx5 r5 s5 tb5 hb5 hw5 hz5 gl1 gl2 gl3 hz3 c1 d1 m0 m1 m2 HDL qt5
  go_wp2_with fail
  rw [← HW5.out]
  clear c1' f1 qt5'
  refine (Cln.clone_any to _ (by omega)).mono ?_
  rintro e w6 ⟨rfl, b6⟩
  have HIN := Lib.hid (insert_any z E2 fz dn C g gE n (lE + 1) (some ⟨gW, 0, none⟩) l1 (lW + 1) (.slice none 0 0) to y w6 HE2N.out.symm (BX5.out.below b6) (Rw.own_below R5.out b6) N1.out (by omega) (by omega) HS2.out OK2.out)
  rw [← HE3.out] at HIN
  have S6 := Lib.hid (Rw.own_below S5.out b6); have TB6 := Lib.hid (TB5.out.below b6); have B6 := Lib.hid (B5.out.trans (Bar.of_below b6 _))
  have HZ6 : Hid (w.heap.size ≤ w6.heap.size) := Lib.hid (Nat.le_trans HZ5.out b6.size)
  clear b6
  go_wp2_with fail
  refine HIN.out.mono ?_
  rintro e w7 ⟨rfl, bx7, r7, bar7⟩
  have gl1 := G1.out
  have gl2 := GE1.out
  have gl3 := GW1.out
  have hz6 := HZ6.out
  have s7 := own_bar S6.out bar7 (fun k hk h => by simp [Value.ownBlock] at hk; have := N2.out; have := N3.out; omega)
  have tb7 := TB6.out.bar bar7 (by omega)
  have hb7 := B6.out.trans (bar7.mono (fun k _ h => h.elim Or.inl (fun h => Or.inr (Or.inl h))))
  have c2 : w7.cell? ⟨g, 2, none⟩ = some (.slice (some ⟨gW, 0, none⟩) l1 (lW + 1)) := bx7.cell 2 (by simp)
  have hz7 := bar7.size
  have BX7 := Lib.hid bx7; have R7 := Lib.hid r7; have S7 := Lib.hid s7; have TB7 := Lib.hid tb7; have B7 := Lib.hid hb7; have HZ7 : Hid (w.heap.size ≤ w7.heap.size) := Lib.hid (by omega)
  have hL1 : l1 = L1.length := HL1E.out
  have HLL := Lib.hid hL1
  clear bx7 r7 bar7 s7 tb7 hb7 gl1 gl2 gl3 hz6 hz7 hL1
  go_wp2_with fail
  go_loopw [12, 13, 77] (fun _ _ i wr => ∃ (k : Nat), k ≤ l1 ∧ i = .int .i64 k ∧ wr.ownsRow C 63 3 (.slice (some ⟨gW, 0, none⟩) l1 (lW + 1)) l1 (wRow ((L1.take k).map (renW fr to) ++ L1.drop k)) ∧ Bar w7 wr (fun j => j = gW)) (fun _ _ i _ => l1 - (intOf i).toNat)
  case atStart => exact ⟨0, by omega, rfl, by simpa using S7.out, Bar.refl _ _⟩
  case round =>
    obtain ⟨k, hk, rfl, hrow, hbar⟩ := hrel
    have hL1 : l1 = L1.length := HLL.out
    have gl1 := G1.out
    have gl2 := GE1.out
    have gl3 := GW1.out
    have hz7 := HZ7.out
    have hbs := hbar.size
    by_cases hlt : k < l1
    · have hkL : k < L1.length := by omega
      have hRl : ((L1.take k).map (renW fr to) ++ L1.drop k).length = L1.length := by simp; omega
      have hRk : ((L1.take k).map (renW fr to) ++ L1.drop k).getD k default = L1.getD k default := by
        rw [List.getD_eq_getElem?_getD, List.getD_eq_getElem?_getD, List.getElem?_append_right (by simp; omega), List.getElem?_drop]
        congr 2
        simp; omega
      obtain ⟨g0, o0, hge, hg0, d0, d1, d2, z1, z2⟩ := (wrsAt_own hrow (renW_ok OKW.out h2 k)) k (by omega)
      cases hge
      rw [hRk] at d0 d1 d2
      obtain ⟨x, hx⟩ : ∃ x, x = (L1.getD k default).1 := ⟨_, rfl⟩
      obtain ⟨sc, hsc⟩ : ∃ sc, sc = (L1.getD k default).2.1 := ⟨_, rfl⟩
      obtain ⟨yy, hyy⟩ : ∃ yy, yy = (L1.getD k default).2.2 := ⟨_, rfl⟩
      rw [← hx] at d0; rw [← hsc] at d1; rw [← hyy] at d2
      simp only [Nat.zero_add] at d0 d1 d2
      obtain ⟨b, hb⟩ : ∃ b, b = (x.toList == fr.toList) := ⟨_, rfl⟩
      have t1 : (x.toList == fr.toList) = b := hb.symm
      obtain ⟨W2, hW2⟩ : ∃ W2, W2 = wr.alloc (.cells #[.string x, .int .i64 sc, .string yy] 63) := ⟨_, rfl⟩
      have t2 : Below wr.heap.size wr W2 := by rw [hW2]; exact (Below.refl _ _).alloc (Nat.le_refl _) _
      have hrow2 := Rw.own_below hrow t2
      have hbar2 := hbar.trans (Bar.of_below t2 _)
      have m0 : (0 : Int) ≤ (k : Int) := by omega
      have m1 : (k : Int) < (l1 : Int) := by omega
      have HW2 := Lib.hid hW2
      cases b with
      | false =>
        have hsame := wRow_same L1 fr to k hkL (by rw [← hx]; exact t1)
        rw [hsame] at hrow2
        have HR2 := Lib.hid hrow2; have HB2 := Lib.hid hbar2
        clear hrow hbar hrow2 hbar2 hsame hRl hRk hx hsc hyy hb hW2 t2 z1 z2 hL1 gl1 gl2 gl3 hz7 hbs
        go_wp2_with fail
        rw [← HW2.out]
        go_roundw
        case rel => exact ⟨k + 1, by omega, by go_num, HR2.out, HB2.out⟩
        case measure => simp [intOf]; omega
      | true =>
        have hmid := wRow_mid L1 fr to k hkL (by rw [← hx]; exact t1)
        have HK : Hid (∀ W, Below W2.heap.size W2 W → W.cell? ⟨g, 2, none⟩ = some (.slice (some ⟨gW, 0, none⟩) l1 (lW + 1)) ∧ W.cell? ⟨w.heap.size, 0, none⟩ = some (.string to) ∧ W.cell? ⟨gW, k * 3, none⟩ = some (.string x) ∧ W.frozen? ⟨gW, k * 3, none⟩ = false ∧
            (W.setCell ⟨gW, k * 3, none⟩ (.string to)).ownsRow C 63 3 (.slice (some ⟨gW, 0, none⟩) l1 (lW + 1)) l1 (wRow ((L1.take (k + 1)).map (renW fr to) ++ L1.drop (k + 1))) ∧ Bar w7 (W.setCell ⟨gW, k * 3, none⟩ (.string to)) (fun j => j = gW)) := Lib.hid (fun W hW => by
          have r8 := Rw.own_below hrow2 hW
          have n2 := N2.out
          have r9 := own_set r8 (k * 3) (.string to)
          rw [hmid] at r9
          refine ⟨(((BX7.out.bar hbar (by omega)).below t2).below hW).cell 2 (by simp), (((TB7.out.bar hbar (by omega)).below t2).below hW).cell 0 (by simp), ?_, own_free r8 _, r9, (hbar2.trans (Bar.of_below hW _)).setCell (q := ⟨gW, k * 3, none⟩) rfl _⟩
          have l8 : gW < wr.heap.size := by omega
          rw [hW.cell (p := ⟨gW, k * 3, none⟩) (Nat.lt_of_lt_of_le l8 t2.size), t2.cell (p := ⟨gW, k * 3, none⟩) l8]
          exact d0)
        obtain ⟨k2, kT, k3, k4, _, _⟩ := HK.out W2 (Below.refl _ _)
        clear hrow hbar hrow2 hbar2 hmid hRl hRk hx hsc hyy hb hW2 t2 z1 z2 hL1 gl1 gl2 gl3 hz7 hbs
        go_wp2_with fail
        rw [← HW2.out]
        clear d0 d1 d2 HW2
        go_region_law (first
          | (go_simp; go_at_call 51; ((with_reducible refine (Cln.clone_any to _ (by omega)).mono ?_)); rintro e w8 ⟨rfl, hb8⟩
             have hb9 : Below W2.heap.size W2 w8 := (by first | exact hb8 | exact (Below.drew (Below.refl _ W2)).trans hb8)
             obtain ⟨k2, kT, k3, k4, k5, k6⟩ := HK.out w8 hb9
             have K5 := Lib.hid k5; have K6 := Lib.hid k6
             clear hb8 hb9 k5 k6)
          | fail)
        all_goals go_wp2_with fail
        all_goals go_roundw
        all_goals (first | (simp [intOf]; done) | (simp [intOf]; omega) | exact ⟨k + 1, by omega, by go_num, K5.out, K6.out⟩)
    · obtain rfl : l1 = k := by omega
      have hrL : (L1.take l1).map (renW fr to) ++ L1.drop l1 = L1.map (renW fr to) := by
        rw [List.take_of_length_le (by omega), List.drop_eq_nil_of_le (by omega), List.append_nil]
      rw [hrL, ← HL3.out] at hrow
      have okL : WOk (mvL L fr to) := by
        have := renW_ok OKW.out (fr := fr) h2 l1
        rw [hrL, ← HL3.out] at this
        exact this
      have okE3 : EOk (mvE3 E fr to) := by
        rw [HE3.out]
        exact eOk_ins OK2.out h2 HYO.out
      have hE3l : (mvE3 E fr to).length = n + 1 := by
        rw [HE3.out, insE_length _ _ _ _ (pos_le _ _), HE2N.out]
      have hL3l : (mvL L fr to).length = l1 := by rw [HL3.out, List.length_map, hL1]
      have hbz := B7.out.trans (hbar.mono (fun j _ h => Or.inr (Or.inr h)))
      have hge := GE.out
      have hcc := HC.out
      have F : Hid (StP C g w (movD z E L fz dn fr to) (movE E fr to) (.returned (.int .i64 0)) wr) := Lib.hid (by
        rw [HD.out, HER.out]
        exact ⟨rfl, workAt_own (BX7.out.bar hbar N2.out) hE3l.symm hL3l.symm (own_bar R7.out hbar (fun j hj h => by simp [Value.ownBlock] at hj; have := N3.out; omega)) hrow okE3 okL, hbz.below (fun j _ h => by omega) hcc⟩)
      clear hrL hrow okL okE3 hE3l hL3l hbz hge hcc hbar hL1 gl1 gl2 gl3 hz7 hbs
      go_wp2_with fail
      go_ret
      exact F.out
end Go.Proofs.Ytejmbbhbimgheaa.Dk

/- The walk of settle (of a disk at work). -/
import Derived.Test.YtgpheofdeflhdaaDkWalkV
import Derived.Test.YtgpheofdeflhdaaDkWalkN
namespace Go.Proofs.Ytgpheofdeflhdaa.Dk
open Go.RowKit Go.Op

theorem wrOk_at {E : List Ext} {L : List Wr} (h : L.all (wrOk E) = true) (i : Nat) (hi : i < L.length) : isAt E (L.getD i default).1 = true ∧ 0 ≤ (L.getD i default).2.1 ∧ ((L.getD i default).2.1.toNat + 1) * 64 ≤ (E.getD (pos E (L.getD i default).1) default).2.size ∧ (L.getD i default).2.2.size = 64 := by
  have hm : L.getD i default ∈ L := by rw [List.getD_eq_getElem?_getD, List.getElem?_eq_getElem hi]; exact List.getElem_mem hi
  have h1 := List.all_eq_true.1 h _ hm
  simp only [wrOk, Bool.and_eq_true, decide_eq_true_eq] at h1
  obtain ⟨⟨h2, h3⟩, h4⟩ := h1
  unfold lookN at h3
  split at h3
  · rename_i h5
    refine ⟨h5, h2, ?_, h4⟩
    unfold many at h3
    omega
  · omega
theorem setlE_from (kp : Nat → Bool) (L : List Wr) (k : Nat) (hk : k < L.length) (C : List Ext) : setlE kp k (L.drop k) C = setlE kp (k + 1) (L.drop (k + 1)) (if kp k = true then doneE C (L.getD k default) else C) := by
  rw [List.drop_eq_getElem_cons hk]
  simp only [setlE]
  have : L.getD k default = L[k] := by simp [List.getD_eq_getElem?_getD, List.getElem?_eq_getElem hk]
  rw [this]
theorem setlE_end (kp : Nat → Bool) (k : Nat) (C : List Ext) : setlE kp k [] C = C := rfl

def SetP (w : World) (B g gE nE cE : Nat) (z : Int) (fz : Int) (dn : Bool) (C : List Ext) (e : Ending) (w' : World) : Prop :=
  e = .returned (.tuple #[]) ∧ Boxed w' g [.int .i64 z, .slice (some ⟨gE, 0, none⟩) nE cE, .slice none 0 0, .int .i64 fz, .bool dn, .slice none 0 0] ∧
    w'.ownsRow B 86 2 (.slice (some ⟨gE, 0, none⟩) nE cE) nE (eRow C) ∧ C.length = nE ∧ EOk C ∧ Bar w w' (fun k => k = g ∨ k = gE)

theorem info_rows : (Try.prog.info? 36).map (fun i => (i.zero, i.size, i.bytes)) = some (some (.slice none 0 0), 1, 24) := by kernel_rfl
theorem bods_new (w : World) (n : Nat) (E : List Ext) (hn : n = E.length) (hm : n ≤ maxLen) (M : Array Value) (hM : M = madeCells #[Value.slice none 0 0] n) : Bods (w.alloc (.cells M 36)) (w.heap.size + 1) w.heap.size n E E (List.replicate n (.slice none 0 0)) := by
  have hMl : M.toList = List.replicate n (.slice none 0 0) := by rw [hM, toList_madeCells_one]
  have hMs : M.size = n := by rw [← Array.length_toList, hMl, List.length_replicate]
  refine ⟨by rw [List.length_replicate], hn.symm, hn.symm, Nat.lt_succ_self _, ⟨by rw [List.length_replicate]; omega, .inr ⟨w.heap.size, n, M, rfl, Nat.le_refl _, heap_alloc_new w _, Nat.le_refl _, hm, by rw [hMs]; omega, by rw [hMl, Nat.mul_one, List.take_of_length_le (by rw [List.length_replicate]; exact Nat.le_refl _)]⟩⟩, ?_, ?_, fun _ _ => rfl, fun _ _ => rfl⟩
  · intro i hi
    refine .inl ⟨?_, rfl⟩
    simp [List.getD_eq_getElem?_getD, hi]
  · intro i j hi hj hij b hb
    simp [List.getD_eq_getElem?_getD, hi, Value.ownBlock] at hb
theorem Bods.eok {w : World} {B gB n : Nat} {E C : List Ext} {cs : List Value} (h : Bods w B gB n E C cs) (o : EOk E) : EOk C := fun i hi => by
  rw [h.nC] at hi
  have := o i (by rw [h.nE]; exact hi)
  rw [h.names i hi, h.sizes i hi]
  exact this
theorem mid_row (C E : List Ext) (j : Nat) (h : C.length = E.length) (hj : j < C.length) (hn : (C.getD j default).1 = (E.getD j default).1) : (eRow (C.take j ++ E.drop j)).set (j * 2 + 1) (.string (C.getD j default).2) = eRow (C.take (j + 1) ++ E.drop (j + 1)) := by
  have hE : E.drop j = E.getD j default :: E.drop (j + 1) := drop_ext E j (by omega)
  have hC : C.take (j + 1) = C.take j ++ [C.getD j default] := by
    rw [List.take_succ_eq_append_getElem hj]; simp [List.getD_eq_getElem?_getD, List.getElem?_eq_getElem hj]
  have hl : (eRow (C.take j)).length = j * 2 := by rw [eRow_length, List.length_take]; omega
  rw [hE, hC, List.append_assoc, eRow_app, eRow_app, List.set_append_right _ _ (by omega), hl, show j * 2 + 1 - j * 2 = 1 by omega]
  have e : ∀ (v : Ext) (R : List Ext), eRow (v :: R) = .string v.1 :: .string v.2 :: eRow R := fun _ _ => rfl
  rw [e, List.set_cons_succ, List.set_cons_zero, List.singleton_append, e, hn]

set_option maxHeartbeats 8000000 in
set_option maxRecDepth 100000 in
theorem settle_any (kp : Nat → Bool) (z : Int) (E : List Ext) (L : List Wr) (fz : Int) (dn : Bool) (B g gE gW nE cE nW cW : Nat) (vb : Value) (f : Nat) (caps : Array Value) (w : World) (hnE : nE = E.length) (hnW : nW = L.length)
    (hb : Boxed w g [.int .i64 z, .slice (some ⟨gE, 0, none⟩) nE cE, .slice (some ⟨gW, 0, none⟩) nW cW, .int .i64 fz, .bool dn, vb]) (n1 : g ≠ gE) (n2 : g ≠ gW)
    (hE : w.ownsRow B 86 2 (.slice (some ⟨gE, 0, none⟩) nE cE) nE (eRow E)) (hW : w.ownsRow B 39 3 (.slice (some ⟨gW, 0, none⟩) nW cW) nW (wRow L)) (hcE : nE ≤ 1000000) (hcW : nW ≤ 1000000) (oE : EOk E) (oW : WOk L)
    (hs : Sorted E) (hok : L.all (wrOk E) = true)
    (hcf : ∀ args W, (callFunc f args).run Try.prog W = .ok (.enter f args) W)
    (hst : ∀ W, Bar w W (fun k => k = g) → ∀ i : Nat, i < L.length → Calls Try.prog f (#[.int .i64 i] ++ caps) W fun e W' => e = .returned (.bool (kp i)) ∧ Below W.heap.size W W') :
    Calls Try.prog 24 #[.pointer (some ⟨g, 0, none⟩), .func (.func f) #[] caps] w (SetP w B g gE nE cE z fz dn (setlE kp 0 L E)) := by
  obtain ⟨i0, hi0, hz0, hz1, hz2⟩ := info_parts info_rows
  obtain ⟨M, hM⟩ : ∃ M, M = madeCells #[Value.slice none 0 0] nE := ⟨_, rfl⟩
  have hmk : ∀ W : World, (Instr.makeSlice 64 (.int .i64 (nE : Int)) (.int .i64 (nE : Int))).run Try.prog W = .ok (.slice (some ⟨W.heap.size, 0, none⟩) nE nE) (W.alloc (.cells M 36)) := by
    intro W
    have h := run_make (P := Try.prog) W 64 36 i0 _ Try.underlying64 hi0 hz0 .i64 .i64 (nE : Int) (nE : Int) (by omega) (by omega) (by rw [hz2]; omega) (by omega)
    rw [h, hM]
    simp [hz1, Value.cells]
  obtain ⟨WA, hWA⟩ : ∃ WA, WA = w.alloc (.cells M 36) := ⟨_, rfl⟩
  have bdA := bods_new w nE E hnE (by unfold maxLen; omega) M hM
  rw [← hWA] at bdA
  have tA : Below w.heap.size w WA := by rw [hWA]; exact (Below.refl _ _).alloc (Nat.le_refl _) _
  have sA : WA.heap.size = w.heap.size + 1 := by rw [hWA]; simp
  obtain ⟨gB, hgB⟩ : ∃ gB, gB = w.heap.size := ⟨_, rfl⟩
  rw [← hgB] at bdA sA
  have g1 := hb.lt
  have gE1 := (hE.lt gE rfl).2
  have gW1 := (hW.lt gW rfl).2
  obtain ⟨W1, hW1⟩ : ∃ W1, W1 = WA.setCell ⟨g, 5, none⟩ (.slice (some ⟨gB, 0, none⟩) nE nE) := ⟨_, rfl⟩
  have bar1 : Bar WA W1 (fun k => k = g) := by rw [hW1]; exact (Bar.refl _ (fun k => k = g)).setCell (q := ⟨g, 5, none⟩) rfl _
  have bd1 := bdA.bar bar1 (fun k hk => by omega)
  have bx1 : Boxed W1 g [.int .i64 z, .slice (some ⟨gE, 0, none⟩) nE cE, .slice (some ⟨gW, 0, none⟩) nW cW, .int .i64 fz, .bool dn, .slice (some ⟨gB, 0, none⟩) nE nE] := by rw [hW1]; exact (hb.below tA).set (i := 5) (by simp) _
  have rE1 := own_bar (Rw.own_below hE tA) bar1 (fun k hk h => by simp [Value.ownBlock] at hk; omega)
  have rW1 := own_bar (Rw.own_below hW tA) bar1 (fun k hk h => by simp [Value.ownBlock] at hk; omega)
  have barw : Bar w W1 (fun k => k = g) := (Bar.of_below tA _).trans bar1
  have s1 : W1.heap.size = gB + 1 := by rw [hW1]; simp [sA]
  have q1 : w.cell? ⟨g, 1, none⟩ = some (.slice (some ⟨gE, 0, none⟩) nE cE) := hb.cell 1 (by simp)
  have a5 : (w.alloc (.cells M 36)).cell? ⟨g, 5, none⟩ = some vb := by rw [← hWA]; exact (hb.below tA).cell 5 (by simp)
  have a2 : (w.alloc (.cells M 36)).cell? ⟨g, 2, none⟩ = some (.slice (some ⟨gW, 0, none⟩) nW cW) := by rw [← hWA]; exact (hb.below tA).cell 2 (by simp)
  have b5 : (w.alloc (.cells M 36)).frozen? ⟨g, 5, none⟩ = false := by rw [← hWA]; exact (hb.below tA).free 5 (by simp)
  have HW1 : Hid (((w.alloc (.cells M 36)).setCell ⟨g, 5, none⟩ (.slice (some ⟨w.heap.size, 0, none⟩) nE nE)) = W1) := Lib.hid (by rw [hW1, hWA, hgB])
  have BX1 := Lib.hid bx1; have RE1 := Lib.hid rE1; have RW1 := Lib.hid rW1; have BD1 := Lib.hid bd1; have BRW := Lib.hid barw; have S1 := Lib.hid s1
  have HST := Lib.hid hst; have HOK := Lib.hid hok; have OE := Lib.hid oE; have OW := Lib.hid oW; have HS := Lib.hid hs; have HNE := Lib.hid hnE; have HNW := Lib.hid hnW
  have N1 := Lib.hid n1; have N2 := Lib.hid n2; have GB := Lib.hid hgB; have G1 := Lib.hid g1; have GE1 := Lib.hid gE1; have GW1 := Lib.hid gW1
  clear hi0 hz0 hz1 hz2 hM hWA bdA tA sA hgB g1 gE1 gW1 hW1 bar1 bd1 bx1 rE1 rW1 barw s1 hb n1 n2 hE hW oE oW hs hok hst hnE hnW
  go_enter Try.func24, Try.ntmps24
  go_wp2_with fail
  rw [HW1.out]
  go_loopw [4, 5, 24] (fun _ _ i wr => ∃ (k : Nat) (C : List Ext) (cs : List Value), k ≤ nW ∧ i = .int .i64 k ∧ Bods wr (gB + 1) gB nE E C cs ∧ setlE kp 0 L E = setlE kp k (L.drop k) C ∧ Bar W1 wr (fun x => x = gB)) (fun _ _ i _ => nW - (intOf i).toNat)
  case atStart => exact ⟨0, E, List.replicate nE (.slice none 0 0), by omega, rfl, BD1.out, rfl, Bar.refl _ _⟩
  case round =>
    obtain ⟨k, C, cs, hk, rfl, hbd, hset, hbar⟩ := hrel
    have gB0 : gB = w.heap.size := GB.out
    have gl1 := GW1.out
    have gl2 := GE1.out
    have gl3 := G1.out
    have s10 := S1.out
    have rWr := own_bar RW1.out hbar (fun x hx h => by simp [Value.ownBlock] at hx; omega)
    by_cases hlt : k < nW
    · have hkL : k < L.length := by rw [← HNW.out]; exact hlt
      obtain ⟨g0, o0, hge, hg0, d0, d1, d2, z1, z2⟩ := (wrsAt_own rWr OW.out) k hkL
      cases hge
      obtain ⟨o1, o2, o3, o4⟩ := wrOk_at HOK.out k hkL
      have hsf := setlE_from kp L k hkL C
      obtain ⟨x, hx⟩ : ∃ x, x = (L.getD k default).1 := ⟨_, rfl⟩
      obtain ⟨y, hy⟩ : ∃ y, y = (L.getD k default).2.2 := ⟨_, rfl⟩
      obtain ⟨sn, hsn⟩ : ∃ sn : Nat, (L.getD k default).2.1 = (sn : Int) := ⟨(L.getD k default).2.1.toNat, by omega⟩
      have hxy : L.getD k default = (x, (sn : Int), y) := by rw [hx, hy, ← hsn]
      rw [hxy] at d0 d1 d2 z1 z2 o1 o2 o3 o4 hsf
      simp only at d0 d1 d2 z1 z2 o1 o3 o4
      simp only [Nat.zero_add] at d0 d1 d2
      obtain ⟨W2, hW2⟩ : ∃ W2, W2 = wr.alloc (.cells #[.string x, .int .i64 (sn : Int), .string y] 39) := ⟨_, rfl⟩
      have t2 : Below wr.heap.size wr W2 := by rw [hW2]; exact (Below.refl _ _).alloc (Nat.le_refl _) _
      have ob := Boxed.new wr #[.string x, .int .i64 (sn : Int), .string y] 39
      rw [← hW2] at ob
      have hbs := hbar.size
      have barW2 : Bar w W2 (fun j => j = g) := ((((BRW.out.mono (q := fun j => j = g ∨ j = gB) (fun j _ h => Or.inl h)).trans (hbar.mono (fun j _ h => Or.inr h))).trans (Bar.of_below t2 _)).mono (fun j hj h => by omega))
      have hcall := HST.out W2 barW2 k hkL
      have bd2 := hbd.below t2
      have bx2 := (BX1.out.bar hbar (by omega)).below t2
      have rE2 := Rw.own_below (own_bar RE1.out hbar (fun j hj h => by simp [Value.ownBlock] at hj; omega)) t2
      have hb2 := hbar.trans (Bar.of_below t2 _)
      have HC := Lib.hid hcall; have BD2 := Lib.hid bd2; have BX2 := Lib.hid bx2; have RE2 := Lib.hid rE2; have OB := Lib.hid ob; have HB2 := Lib.hid hb2; have HW2 := Lib.hid hW2; have HSF := Lib.hid (hset.trans hsf); have O1 := Lib.hid o1; have O3 := Lib.hid o3; have T2 := Lib.hid t2; have HBS := Lib.hid hbs
      have q0 : W2.cell? ⟨wr.heap.size, 0, none⟩ = some (.string x) := ob.cell 0 (by simp)
      have m0 : (0 : Int) ≤ (k : Int) := by omega
      have m1 : (k : Int) < (nW : Int) := by omega
      clear hcall bd2 bx2 rE2 ob hb2 hW2 hset hsf o1 o2 o3 t2 hbs barW2 rWr hbd hbar hx hy hsn hxy
      go_wp2_with fail
      rw [← HW2.out]
      refine HC.out.mono ?_
      rintro e w3 ⟨rfl, b3⟩
      have bd3 := BD2.out.below b3
      have bx3 := BX2.out.below b3
      have rE3 := Rw.own_below RE2.out b3
      have ob3 := OB.out.below b3
      have hb3 := HB2.out.trans (Bar.of_below b3 _)
      cases hkp : kp k with
      | false =>
        have BD3 := Lib.hid bd3; have HB3 := Lib.hid hb3; have HKP := Lib.hid hkp
        clear bd3 bx3 rE3 ob3 hb3 b3 hkp d0 d1 d2 q0 m0 m1 HC HW2
        go_wp2_with fail
        go_roundw
        case rel => exact ⟨k + 1, C, cs, by omega, by go_num, BD3.out, by rw [HSF.out, HKP.out]; rfl, HB3.out⟩
        case measure => simp [intOf]; omega
      | true =>
        obtain ⟨p, hp⟩ : ∃ p, p = pos E x := ⟨_, rfl⟩
        have hpn : p < nE := by rw [hp, HNE.out]; exact isAt_lt O1.out
        have hpC : pos C x = p := by
          rw [hp]
          exact pos_names (by rw [bd3.nC, bd3.nE]) (fun i hi => bd3.names i (by rw [bd3.nE] at hi; exact hi)) x
        obtain ⟨Y, hY⟩ : ∃ Y, Y = (C.getD p default).2 := ⟨_, rfl⟩
        obtain ⟨yn, hyn⟩ : ∃ yn, yn = Y.size := ⟨_, rfl⟩
        have o3 : (sn + 1) * 64 ≤ yn := by
          have h3 := O3.out
          rw [← hp, ← bd3.sizes p hpn, ← hY, ← hyn] at h3
          omega
        have hbig : yn ≤ 140737488355328 := by
          rw [hyn, hY, bd3.sizes p hpn]
          exact (OE.out p (by rw [← HNE.out]; exact hpn)).2
        have hdone : doneE C (x, (sn : Int), y) = C.set p ((C.getD p default).1, patch Y (sn : Int) y) := by
          unfold doneE
          rw [hpC, hY]
        have hin := bd3.nC
        have sz3 := Nat.le_trans HB2.out.size b3.size
        have HCALL : Hid (∀ W, Below w3.heap.size w3 W → Calls Try.prog 47 #[.pointer (some ⟨g, 0, none⟩), .string x] W (BodyP W (gB + 1) gB nE p E C)) := Lib.hid (fun W hW => by
          have := body_any z E C fz dn (gB + 1) g gE gB nE cE (some ⟨gW, 0, none⟩) nW cW cs x W HNE.out (by omega) (bx3.below hW) ((extAt_own rE3 OE.out).below hW) HS.out (bd3.below hW) (by omega) (by have := hW.size; omega) O1.out
          rw [← hp] at this
          exact this)
        have HAFT : Hid (∀ (W w4 : World) (b c : Nat) (cs2 : List Value), Below w3.heap.size w3 W → Bods w4 (gB + 1) gB nE E C cs2 → Bar W w4 (fun j => j = gB) → cs2.getD p default = .slice (some ⟨b, 0, none⟩) (C.getD p default).2.size c →
            (∀ ty, (Builtin.copy_ #[36, 9] ty #[.slice (some ⟨b, sn * 64, none⟩) (yn - sn * 64) (c - sn * 64), .string y]).run Try.prog w4 = .ok (goInt 64) (w4.setCells b (sn * 64) (strVals y))) ∧
            Boxed w4 wr.heap.size [.string x, .int .i64 (sn : Int), .string y] ∧ Bods (w4.setCells b (sn * 64) (strVals y)) (gB + 1) gB nE E (doneE C (x, (sn : Int), y)) cs2 ∧ Bar W1 (w4.setCells b (sn * 64) (strVals y)) (fun j => j = gB)) := Lib.hid (by
          intro W w4 b c cs2 hW hb4 hbar4 hv
          rw [← hY, ← hyn] at hv
          obtain ⟨bd5, bar5, hB5, hby⟩ := Bods.write hb4 p hpn b c (by rw [← hY, ← hyn]; exact hv) (sn : Int) y (by rw [← hY, ← hyn, o4]; omega) _ rfl
          rw [← hY] at bd5 hby
          have hbl : Y.data.toList.length = yn := by rw [hyn, ← Lib.size_eq]
          have e64 : ((sn : Int)).toNat = sn := by omega
          rw [e64] at bd5 bar5
          refine ⟨fun ty => ?_, (ob3.below hW).bar hbar4 (by have := HBS.out; omega), by rw [hdone]; exact bd5, ?_⟩
          · have := run_copy_string (P := Try.prog) w4 36 9 ty 5 b (sn * 64) (yn - sn * 64) (c - sn * 64) y Try.underlying36 (fun _ => rfl) (by omega) (fun j hj => by rw [hby.cell (sn * 64 + j) (by omega)]; rfl) (fun j hj => hby.free (sn * 64 + j) (by omega))
            rw [o4] at this
            exact this
          · have h1 : Bar W1 w4 (fun j => j = gB) := (hb3.trans (Bar.of_below hW _)).trans hbar4
            exact ((h1.mono (q := fun j => j = gB ∨ j = b) (fun j _ h => Or.inl h)).trans (bar5.mono (fun j _ h => Or.inr h))).mono (fun j hj h => by omega))
        have q0' : w3.cell? ⟨wr.heap.size, 0, none⟩ = some (.string x) := ob3.cell 0 (by simp)
        have q1' : w3.cell? ⟨wr.heap.size, 1, none⟩ = some (.int .i64 (sn : Int)) := ob3.cell 1 (by simp)
        have q2' : w3.cell? ⟨wr.heap.size, 2, none⟩ = some (.string y) := ob3.cell 2 (by simp)
        have hmul : IntKind.i64.wrap ((sn : Int) * 64) = (sn : Int) * 64 := IntWalk.i64_in _ (by omega)
        have h64 : ((sn : Int) * 64).toNat = sn * 64 := by omega
        have u0 : (0 : Int) ≤ (sn : Int) * 64 := by omega
        have u1 : (sn : Int) * 64 ≤ (yn : Int) := by omega
        have u2 : sn * 64 ≤ yn := by omega
        have HKP := Lib.hid hkp; have HYN := Lib.hid hyn; have HY := Lib.hid hY; have HU := Lib.hid o3
        clear bd3 bx3 rE3 ob3 hb3 b3 hkp d0 d1 d2 q0 m0 m1 HC HW2 hp hpn hpC hY hyn o3 hdone hin sz3 hbig
        go_wp2_with fail
        go_region_law (first
          | (go_simp; go_at_call 47; (first | refine (HCALL.out _ (Below.refl _ _)).mono ?_ | refine (HCALL.out _ (Below.drew (Below.refl _ _))).mono ?_); rintro e w4 ⟨b, c, cs2, rfl, hv, hb4, hbar4, hyc⟩
             have haft : _ := (by first | exact HAFT.out _ w4 b c cs2 (Below.refl _ _) hb4 hbar4 hv | exact HAFT.out _ w4 b c cs2 (Below.drew (Below.refl _ _)) hb4 hbar4 hv)
             obtain ⟨hcp, hob, hfin⟩ := haft
             have HFIN := Lib.hid hfin
             have p1 : w4.cell? ⟨wr.heap.size, 1, none⟩ = some (.int .i64 (sn : Int)) := hob.cell 1 (by simp)
             have p2 : w4.cell? ⟨wr.heap.size, 2, none⟩ = some (.string y) := hob.cell 2 (by simp)
             rw [← HY.out, ← HYN.out] at hyc ⊢
             have v1 : ¬ (c = sn * 64) := (by have := HU.out; omega)
             clear hv hb4 hbar4 hob hfin)
          | fail)
        all_goals go_wp2_with fail
        all_goals go_roundw
        all_goals (first | (simp [intOf]; done) | (simp [intOf]; omega) | exact ⟨k + 1, _, _, by omega, by go_num, HFIN.out.1, by rw [HSF.out, HKP.out]; rfl, HFIN.out.2⟩)
    · obtain rfl : nW = k := by omega
      have hend : setlE kp 0 L E = C := by rw [hset, HNW.out, List.drop_length]; rfl
      have HEND := Lib.hid hend
      have hbs := hbar.size
      have bxr := BX1.out.bar hbar (by omega)
      have rEr := own_bar RE1.out hbar (fun x hx h => by simp [Value.ownBlock] at hx; omega)
      have hbw : Bar w wr (fun j => j = g ∨ j = gE) := ((BRW.out.mono (q := fun j => j = g ∨ j = gB) (fun j _ h => Or.inl h)).trans (hbar.mono (fun j _ h => Or.inr h))).mono (fun j hj h => by omega)
      have q1 : wr.cell? ⟨g, 1, none⟩ = some (.slice (some ⟨gE, 0, none⟩) nE cE) := bxr.cell 1 (by simp)
      have q5 : wr.cell? ⟨g, 5, none⟩ = some (.slice (some ⟨gB, 0, none⟩) nE nE) := bxr.cell 5 (by simp)
      have HBD := Lib.hid hbd; have BXR := Lib.hid bxr; have RER := Lib.hid rEr; have HBW := Lib.hid hbw; have HBS := Lib.hid hbs
      clear hbd bxr rEr hbw hbar hset hend rWr hlt hbs gB0
      go_wp2_with fail
      go_loopw [6, 7, 49] (fun _ _ i w2 => ∃ (j : Nat), j ≤ nE ∧ i = .int .i64 j ∧ w2.ownsRow B 86 2 (.slice (some ⟨gE, 0, none⟩) nE cE) nE (eRow (C.take j ++ E.drop j)) ∧ Bar wr w2 (fun x => x = gE)) (fun _ _ i _ => nE - (intOf i).toNat)
      case atStart => exact ⟨0, by omega, rfl, by simpa using RER.out, Bar.refl _ _⟩
      case round =>
        obtain ⟨j, hj, rfl, hrow, hb2⟩ := hrel
        have gB0 : gB = w.heap.size := GB.out
        have hbs0 := HBS.out
        have hb2s := hb2.size
        have bxj := BXR.out.bar hb2 N1.out
        have bdj := HBD.out.bar hb2 (fun x hx => by omega)
        have q1 : wr.cell? ⟨g, 1, none⟩ = some (.slice (some ⟨gE, 0, none⟩) nE cE) := bxj.cell 1 (by simp)
        by_cases hlt : j < nE
        · have hlen := bdj.len
          have helt : (cs.getD j default) = cs[j]'(by omega) := by simp [List.getD_eq_getElem?_getD, List.getElem?_eq_getElem (show j < cs.length by omega)]
          have hck : ∀ v, cs.getD j default = v → wr.cell? ⟨gB, j, none⟩ = some v := fun v hv => by
            have := bdj.row.cells (g := gB) rfl j v (by rw [← hv, helt]; exact List.getElem?_eq_getElem _)
            simp only [Addr.add_lit, Nat.zero_add] at this
            exact this
          have hnm := bdj.names j hlt
          have hCl := bdj.nC
          have hEl := bdj.nE
          have m0 : (0 : Int) ≤ (j : Int) := by omega
          have m1 : (j : Int) < (nE : Int) := by omega
          rcases bdj.body j hlt with ⟨hv, hy⟩ | ⟨b, c, hv, hB2, hby, hyc⟩
          · have ck := hck _ hv
            have hnil : ∀ W, (binOp .neq 36 (.slice none 0 0) (.slice none 0 0)).run Try.prog W = .ok (.bool false) W := fun W => run_neq_slice_nil W 36 5 none 0 0 Try.underlying36
            have heq : ∀ W, (Op.equal 36 (.slice none 0 0) (.slice none 0 0)).run Try.prog W = .ok true W := fun W => run_equal_slice_nil W 36 5 none 0 0 Try.underlying36
            have hrow2 : eRow (C.take j ++ E.drop j) = eRow (C.take (j + 1) ++ E.drop (j + 1)) := by
              have h1 : C.take (j + 1) = C.take j ++ [C.getD j default] := by
                rw [List.take_succ_eq_append_getElem (by omega)]; simp [List.getD_eq_getElem?_getD, List.getElem?_eq_getElem (show j < C.length by omega)]
              rw [drop_ext E j (by omega), h1, hy, List.append_assoc, List.singleton_append]
            rw [hrow2] at hrow
            have HRW := Lib.hid hrow; have HB2 := Lib.hid hb2
            clear hrow hb2 bxj bdj hck hv hy hrow2 helt hlen hnm hCl hEl hbs0 hb2s gB0
            go_wp2_with fail
            go_roundw
            case rel => exact ⟨j + 1, by omega, by go_num, HRW.out, HB2.out⟩
            case measure => simp [intOf]; omega
          · obtain ⟨Y, hY⟩ : ∃ Y, Y = (C.getD j default).2 := ⟨_, rfl⟩
            rw [← hY] at hv hby hyc
            have ck := hck _ hv
            have hnil : ∀ W, (binOp .neq 36 (.slice (some ⟨b, 0, none⟩) Y.size c) (.slice none 0 0)).run Try.prog W = .ok (.bool true) W := fun W => run_neq_slice_nil W 36 5 (some ⟨b, 0, none⟩) _ _ Try.underlying36
            have heq : ∀ W, (Op.equal 36 (.slice (some ⟨b, 0, none⟩) Y.size c) (.slice none 0 0)).run Try.prog W = .ok false W := fun W => run_equal_slice_nil W 36 5 (some ⟨b, 0, none⟩) _ _ Try.underlying36
            have hcv : ∀ W : World, Row.Bytes W b Y.data.toList → (convert 36 9 (.slice (some ⟨b, 0, none⟩) Y.size c)).run Try.prog W = .ok (.string Y) W := fun W h => by
              have := Row.run_back h c
              rw [← Lib.size_eq] at this
              exact this
            have hcv1 := hcv wr hby
            have hcv2 := hcv wr.drew hby.drew
            have hce := hrow.cells (g := gE) rfl (j * 2 + 1) ((eRow (C.take j ++ E.drop j))[j * 2 + 1]'(by rw [eRow_length]; simp; omega)) (List.getElem?_eq_getElem _)
            simp only [Addr.add_lit, Nat.zero_add] at hce
            obtain ⟨old, hold⟩ : ∃ old, wr.cell? ⟨gE, j * 2 + 1, none⟩ = some old := ⟨_, hce⟩
            have hfz : wr.frozen? ⟨gE, j * 2 + 1, none⟩ = false := own_free hrow _
            have hrow2 := own_set hrow (j * 2 + 1) (.string Y)
            rw [hY, mid_row C E j (by omega) (by omega) hnm, ← hY] at hrow2
            have hb3 := hb2.setCell (q := ⟨gE, j * 2 + 1, none⟩) rfl (.string Y)
            have HRW := Lib.hid hrow2; have HB2 := Lib.hid hb3
            clear hrow hb2 bxj bdj hck hv hY hby hyc hrow2 hb3 helt hlen hnm hCl hEl hcv hce hbs0 hb2s gB0
            go_wp2_with fail
            go_region
            go_wp2_with fail
            go_roundw
            case rel => exact ⟨j + 1, by omega, by go_num, Rw.own_below HRW.out (Below.drew (Below.refl _ _)), HB2.out.trans (Bar.of_below (Below.drew (Below.refl _ _)) _)⟩
            case measure => simp [intOf]; omega
        · obtain rfl : nE = j := by omega
          have hrE : eRow (C.take nE ++ E.drop nE) = eRow C := by
            rw [List.take_of_length_le (by rw [bdj.nC]; exact Nat.le_refl _), List.drop_eq_nil_of_le (by rw [bdj.nE]; exact Nat.le_refl _), List.append_nil]
          rw [hrE] at hrow
          have c5 : wr.cell? ⟨g, 5, none⟩ = some (.slice (some ⟨gB, 0, none⟩) nE nE) := bxj.cell 5 (by simp)
          have c2 : wr.cell? ⟨g, 2, none⟩ = some (.slice (some ⟨gW, 0, none⟩) nW cW) := bxj.cell 2 (by simp)
          have f5 : wr.frozen? ⟨g, 5, none⟩ = false := bxj.free 5 (by simp)
          have f2 : wr.frozen? ⟨g, 2, none⟩ = false := bxj.free 2 (by simp)
          have bx5 := (bxj.set (i := 5) (by simp) (.slice none 0 0)).set (i := 2) (by simp) (.slice none 0 0)
          have hbz : Bar wr ((wr.setCell ⟨g, 5, none⟩ (.slice none 0 0)).setCell ⟨g, 2, none⟩ (.slice none 0 0)) (fun x => x = g) := ((Bar.refl _ (fun x => x = g)).setCell (q := ⟨g, 5, none⟩) rfl _).setCell (q := ⟨g, 2, none⟩) rfl _
          have F : Hid (SetP w B g gE nE cE z fz dn C (.returned (.tuple #[])) ((wr.setCell ⟨g, 5, none⟩ (.slice none 0 0)).setCell ⟨g, 2, none⟩ (.slice none 0 0))) := Lib.hid
            ⟨rfl, bx5, own_bar hrow hbz (fun x hx h => by simp [Value.ownBlock] at hx; have := N1.out; omega), bdj.nC, bdj.eok OE.out, (HBW.out.trans (hb2.mono (fun x _ h => Or.inr h))).trans (hbz.mono (fun x _ h => Or.inl h))⟩
          clear hrow hb2 bxj bdj hrE bx5 hbz hbs0 hb2s gB0
          go_wp2_with fail
          go_end0
          rw [HEND.out]
          exact F.out
end Go.Proofs.Ytgpheofdeflhdaa.Dk

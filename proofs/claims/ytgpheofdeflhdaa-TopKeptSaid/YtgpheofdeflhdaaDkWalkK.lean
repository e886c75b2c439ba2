/- The walks of write (of a disk at work) and Write. -/
import Derived.Test.YtgpheofdeflhdaaDkWalkJ
namespace Go.Proofs.Ytgpheofdeflhdaa.Dk
open Go.RowKit Go.Op

theorem workAt_own {W : World} {C g gE gW lE cE lW cW : Nat} {z : Int} {E : List Ext} {L : List Wr} {fz : Int} {dn : Bool} {vb : Value}
    (hb : Boxed W g [.int .i64 z, .slice (some ⟨gE, 0, none⟩) lE cE, .slice (some ⟨gW, 0, none⟩) lW cW, .int .i64 fz, .bool dn, vb]) (hE : lE = E.length) (hL : lW = L.length)
    (rE : W.ownsRow C 86 2 (.slice (some ⟨gE, 0, none⟩) lE cE) lE (eRow E)) (rW : W.ownsRow C 39 3 (.slice (some ⟨gW, 0, none⟩) lW cW) lW (wRow L)) (oE : EOk E) (oW : WOk L) : WorkAt W C g ⟨z, E, L, fz, dn⟩ :=
  ⟨_, _, _, _, _, _, _, hb, hE, extAt_own rE oE, hL, wrsAt_own rW oW, fun a ha => by cases ha; exact (rE.lt gE rfl).1, fun a ha => by cases ha; exact (rW.lt gW rfl).1⟩
theorem wOk_snoc {L : List Wr} (h : WOk L) {n : ByteArray} {s : Int} {d : ByteArray} (h1 : n.size ≤ 140737488355328) (h2 : d.size ≤ 140737488355328) : WOk (L ++ [(n, s, d)]) := fun i hi => by
  by_cases hl : i < L.length
  · have e : (L ++ [(n, s, d)]).getD i default = L.getD i default := by simp [List.getD_eq_getElem?_getD, List.getElem?_append_left hl]
    rw [e]; exact h i hl
  · have hi2 : i = L.length := by simp at hi; omega
    have e : (L ++ [(n, s, d)]).getD i default = (n, s, d) := by subst hi2; simp [List.getD_eq_getElem?_getD]
    rw [e]; exact ⟨h1, h2⟩

def wrE (E : List Ext) (L : List Wr) (fz : Int) (nm : ByteArray) (s : Int) (d : ByteArray) : Int := if findE E nm s = 0 then (if d.size = 64 then (if L.length = 16384 then 8 else if fz = 0 then 10 else 0) else 2) else findE E nm s
def wrD (z : Int) (E : List Ext) (L : List Wr) (fz : Int) (dn : Bool) (nm : ByteArray) (s : Int) (d : ByteArray) : Dsk :=
  if findE E nm s = 0 ∧ d.size = 64 ∧ L.length ≠ 16384 then ⟨z, E, L ++ [(nm, s, d)], if 0 < fz then fz - 1 else fz, if fz = 0 then true else dn⟩ else ⟨z, E, L, fz, dn⟩
def StP (C g : Nat) (W : World) (D : Dsk) (er : Int) (e : Ending) (W' : World) : Prop := e = .returned (.int .i64 er) ∧ WorkAt W' C g D ∧ Below C W W'

set_option maxHeartbeats 8000000 in
set_option maxRecDepth 100000 in
theorem write_any (z : Int) (E : List Ext) (L : List Wr) (fz : Int) (dn : Bool) (C g gE gW : Nat) (nm : ByteArray) (s : Int) (d : ByteArray) (w : World) (hbg : Bg C w g gE gW z E L fz dn) (hC : C ≤ w.heap.size)
    (hs : Sorted E) (hE : E.length ≤ 1000000) (oE : EOk E) (oW : WOk L) (hf0 : -1 ≤ fz) (hf : fz ≤ 9223372036854775807) (h1 : nm.size ≤ 140737488355328) (h2 : d.size ≤ 140737488355328) :
    Calls Try.prog 22 #[.pointer (some ⟨g, 0, none⟩), .string nm, .int .i64 s, .string d] w (StP C g w (wrD z E L fz dn nm s d) (wrE E L fz nm s d)) := by
  obtain ⟨ge, n1, n2, n3, box, rowE, rowW⟩ := hbg
  obtain ⟨lE, hlE⟩ : ∃ lE, lE = E.length := ⟨_, rfl⟩
  obtain ⟨lW, hlW⟩ : ∃ lW, lW = L.length := ⟨_, rfl⟩
  rw [← hlE, ← hlW] at box
  rw [← hlE] at rowE hE
  rw [← hlW] at rowW
  have gE1 := rowE.lt gE rfl
  have gW1 := rowW.lt gW rfl
  have HE := Lib.hid (extAt_own rowE oE)
  have q0 : w.cell? ⟨g, 0, none⟩ = some (.int .i64 z) := box.cell 0 (by simp)
  have q1 : w.cell? ⟨g, 1, none⟩ = some (.slice (some ⟨gE, 0, none⟩) lE (lE + 1)) := box.cell 1 (by simp)
  have q2 : w.cell? ⟨g, 2, none⟩ = some (.slice (some ⟨gW, 0, none⟩) lW (lW + 1)) := box.cell 2 (by simp)
  have q3 : w.cell? ⟨g, 3, none⟩ = some (.int .i64 fz) := box.cell 3 (by simp)
  have q4 : w.cell? ⟨g, 4, none⟩ = some (.bool dn) := box.cell 4 (by simp)
  have BX := Lib.hid box; have RE := Lib.hid rowE; have RW := Lib.hid rowW; have HLE := Lib.hid hlE; have HLW := Lib.hid hlW; have HS := Lib.hid hs; have OE := Lib.hid oE; have OW := Lib.hid oW
  have N1 := Lib.hid n1; have N2 := Lib.hid n2; have N3 := Lib.hid n3; have GE := Lib.hid ge; have GE1 := Lib.hid gE1; have GW1 := Lib.hid gW1; have HC := Lib.hid hC
  obtain ⟨f, hff⟩ : ∃ f, f = findE E nm s := ⟨_, rfl⟩
  obtain ⟨fa, hfa⟩ : ∃ fa, fa = findA E nm s := ⟨_, rfl⟩
  have HF := Lib.hid hff; have HFA := Lib.hid hfa
  have hE9 : lE ≤ 1000000000 := by omega
  clear box rowE rowW hlE hlW hs oE oW n1 n2 n3 ge gE1 gW1 hC
  by_cases c0 : f = 0
  case neg =>
    have F : Hid (f = wrE E L fz nm s d ∧ wrD z E L fz dn nm s d = ⟨z, E, L, fz, dn⟩) := Lib.hid ⟨by unfold wrE; rw [← hff, if_neg c0], by unfold wrD; rw [if_neg (fun h => c0 (hff.trans h.1))]⟩
    have t : (f != 0) = true := by rw [bne_iff_ne]; exact c0
    clear hff hfa c0
    go_enter Try.func22, Try.ntmps22
    go_wp2_with fail
    refine (find_any z (some ⟨gE, 0, none⟩) (some ⟨gW, 0, none⟩) lE (lE + 1) lW (lW + 1) fz dn E nm s _ HLE.out HE.out HS.out hE9).mono ?_
    rw [← HF.out, ← HFA.out]
    rintro e w1 ⟨rfl, b1⟩
    have B1 := Lib.hid b1
    clear b1
    go_wp2_with fail
    go_ret
    exact ⟨ret_int F.out.1, by rw [F.out.2]; exact workAt_own (BX.out.below B1.out) HLE.out HLW.out (Rw.own_below RE.out B1.out) (Rw.own_below RW.out B1.out) OE.out OW.out, B1.out.mono HC.out⟩
  subst c0
  by_cases c1 : d.size = 64
  case neg =>
    have F : Hid (2 = wrE E L fz nm s d ∧ wrD z E L fz dn nm s d = ⟨z, E, L, fz, dn⟩) := Lib.hid ⟨by unfold wrE; rw [← hff, if_pos rfl, if_neg c1], by unfold wrD; rw [if_neg (fun h => c1 h.2.1)]⟩
    have t : ((d.size : Int) != 64) = true := by rw [bne_iff_ne]; omega
    clear hff hfa c1
    go_enter Try.func22, Try.ntmps22
    go_wp2_with fail
    refine (find_any z (some ⟨gE, 0, none⟩) (some ⟨gW, 0, none⟩) lE (lE + 1) lW (lW + 1) fz dn E nm s _ HLE.out HE.out HS.out hE9).mono ?_
    rw [← HF.out, ← HFA.out]
    rintro e w1 ⟨rfl, b1⟩
    have B1 := Lib.hid b1
    clear b1
    go_wp2_with fail
    go_ret
    exact ⟨ret_int F.out.1, by rw [F.out.2]; exact workAt_own (BX.out.below B1.out) HLE.out HLW.out (Rw.own_below RE.out B1.out) (Rw.own_below RW.out B1.out) OE.out OW.out, B1.out.mono HC.out⟩
  have t1 : ((d.size : Int) != 64) = false := by rw [bne_eq_false_iff_eq]; omega
  by_cases c2 : lW = 16384
  case pos =>
    have F : Hid (8 = wrE E L fz nm s d ∧ wrD z E L fz dn nm s d = ⟨z, E, L, fz, dn⟩) := Lib.hid ⟨by unfold wrE; rw [← hff, if_pos rfl, if_pos c1, ← HLW.out, if_pos c2], by unfold wrD; rw [if_neg (fun h => h.2.2 (by rw [← HLW.out]; exact c2))]⟩
    have t2 : ((lW : Int) == 16384) = true := by rw [beq_iff_eq]; omega
    clear hff hfa c1 c2
    go_enter Try.func22, Try.ntmps22
    go_wp2_with fail
    refine (find_any z (some ⟨gE, 0, none⟩) (some ⟨gW, 0, none⟩) lE (lE + 1) lW (lW + 1) fz dn E nm s _ HLE.out HE.out HS.out hE9).mono ?_
    rw [← HF.out, ← HFA.out]
    rintro e w1 ⟨rfl, b1⟩
    have B1 := Lib.hid b1
    have p2 : w1.cell? ⟨g, 2, none⟩ = some (.slice (some ⟨gW, 0, none⟩) lW (lW + 1)) := (BX.out.below b1).cell 2 (by simp)
    clear b1
    go_wp2_with fail
    go_ret
    exact ⟨ret_int F.out.1, by rw [F.out.2]; exact workAt_own (BX.out.below B1.out) HLE.out HLW.out (Rw.own_below RE.out B1.out) (Rw.own_below RW.out B1.out) OE.out OW.out, B1.out.mono HC.out⟩
  have t2 : ((lW : Int) == 16384) = false := by rw [beq_eq_false_iff_ne]; omega
  have hD : wrD z E L fz dn nm s d = ⟨z, E, L ++ [(nm, s, d)], if 0 < fz then fz - 1 else fz, if fz = 0 then true else dn⟩ := by
    unfold wrD; rw [if_pos ⟨hff.symm, c1, by rw [← HLW.out]; exact c2⟩]
  have hEr : wrE E L fz nm s d = if fz = 0 then 10 else 0 := by unfold wrE; rw [← hff, if_pos rfl, if_pos c1, ← HLW.out, if_neg c2]
  have HWL : wRow (L ++ [(nm, s, d)]) = wRow L ++ [.string nm, .int .i64 s, .string d] := by rw [wRow_app]; rfl
  have HWLh := Lib.hid HWL
  have OW2 := Lib.hid (wOk_snoc (s := s) OW.out h1 h2)
  have HLL : Hid (lW + 1 = (L ++ [(nm, s, d)]).length) := Lib.hid (by rw [HLW.out]; simp)
  clear hff hfa c1 HWL
  by_cases c3 : fz = 0
  · subst c3
    rw [if_neg (by omega), if_pos rfl] at hD
    rw [if_pos rfl] at hEr
    have F : Hid (10 = wrE E L 0 nm s d ∧ wrD z E L 0 dn nm s d = ⟨z, E, L ++ [(nm, s, d)], 0, true⟩) := Lib.hid ⟨hEr.symm, hD⟩
    clear hD hEr
    go_enter Try.func22, Try.ntmps22
    go_wp2_with fail
    refine (find_any z (some ⟨gE, 0, none⟩) (some ⟨gW, 0, none⟩) lE (lE + 1) lW (lW + 1) 0 dn E nm s _ HLE.out HE.out HS.out hE9).mono ?_
    rw [← HF.out, ← HFA.out]
    rintro e w1 ⟨rfl, b1⟩
    have B1 := Lib.hid b1
    have BX1 := Lib.hid (BX.out.below b1)
    have p2 : w1.cell? ⟨g, 2, none⟩ = some (.slice (some ⟨gW, 0, none⟩) lW (lW + 1)) := BX1.out.cell 2 (by simp)
    clear b1
    go_wp2_with fail
    refine (wait_any g gW lW (lW + 1) C _ _ _ _ _ (wRow L) nm s d _ BX1.out (Rw.own_below RW.out B1.out) N2.out (Nat.le_refl _) (by omega) (by omega)).mono ?_
    rintro e w2 ⟨rfl, box2, row2, bar2⟩
    have RE2 := Lib.hid (own_bar (Rw.own_below RE.out B1.out) bar2 (fun k hk h => by simp [Value.ownBlock] at hk; have := N1.out; have := N3.out; omega))
    have B2 := Lib.hid ((B1.out.mono HC.out).trans (bar2.below (B := C) (fun k _ h => by have := GE.out; have := GW1.out; omega) (Nat.le_trans HC.out B1.out.size)))
    have BX2 := Lib.hid box2; have RW2 := Lib.hid row2
    have r3 : w2.cell? ⟨g, 3, none⟩ = some (.int .i64 0) := box2.cell 3 (by simp)
    have r4 : w2.cell? ⟨g, 4, none⟩ = some (.bool dn) := box2.cell 4 (by simp)
    have s4 : w2.frozen? ⟨g, 4, none⟩ = false := box2.free 4 (by simp)
    clear box2 row2 bar2
    go_wp2_with fail
    go_ret
    exact ⟨ret_int F.out.1, by rw [F.out.2]; exact workAt_own (BX2.out.set (i := 4) (by simp) (.bool true)) HLE.out HLL.out (own_bar RE2.out ((Bar.refl _ (fun k => k = g)).setCell rfl _) (fun k hk h => by simp [Value.ownBlock] at hk; have := N1.out; omega)) (by rw [HWLh.out]; exact own_bar RW2.out ((Bar.refl _ (fun k => k = g)).setCell rfl _) (fun k hk h => by simp [Value.ownBlock] at hk; have := N2.out; omega)) OE.out OW2.out, B2.out.setCell GE.out _⟩
  rw [if_neg c3] at hD hEr
  by_cases c4 : 0 < fz
  · rw [if_pos c4] at hD
    have F : Hid (0 = wrE E L fz nm s d ∧ wrD z E L fz dn nm s d = ⟨z, E, L ++ [(nm, s, d)], fz - 1, dn⟩) := Lib.hid ⟨hEr.symm, hD⟩
    have t3 : (fz == 0) = false := by rw [beq_eq_false_iff_ne]; exact c3
    have t4 : decide (0 < fz) = true := decide_eq_true c4
    clear hD hEr
    go_enter Try.func22, Try.ntmps22
    go_wp2_with fail
    refine (find_any z (some ⟨gE, 0, none⟩) (some ⟨gW, 0, none⟩) lE (lE + 1) lW (lW + 1) fz dn E nm s _ HLE.out HE.out HS.out hE9).mono ?_
    rw [← HF.out, ← HFA.out]
    rintro e w1 ⟨rfl, b1⟩
    have B1 := Lib.hid b1
    have BX1 := Lib.hid (BX.out.below b1)
    have p2 : w1.cell? ⟨g, 2, none⟩ = some (.slice (some ⟨gW, 0, none⟩) lW (lW + 1)) := BX1.out.cell 2 (by simp)
    clear b1
    go_wp2_with fail
    refine (wait_any g gW lW (lW + 1) C _ _ _ _ _ (wRow L) nm s d _ BX1.out (Rw.own_below RW.out B1.out) N2.out (Nat.le_refl _) (by omega) (by omega)).mono ?_
    rintro e w2 ⟨rfl, box2, row2, bar2⟩
    have RE2 := Lib.hid (own_bar (Rw.own_below RE.out B1.out) bar2 (fun k hk h => by simp [Value.ownBlock] at hk; have := N1.out; have := N3.out; omega))
    have B2 := Lib.hid ((B1.out.mono HC.out).trans (bar2.below (B := C) (fun k _ h => by have := GE.out; have := GW1.out; omega) (Nat.le_trans HC.out B1.out.size)))
    have BX2 := Lib.hid box2; have RW2 := Lib.hid row2
    have r3 : w2.cell? ⟨g, 3, none⟩ = some (.int .i64 fz) := box2.cell 3 (by simp)
    have s3 : w2.frozen? ⟨g, 3, none⟩ = false := box2.free 3 (by simp)
    clear box2 row2 bar2
    go_wp2_with fail
    go_ret
    exact ⟨ret_int F.out.1, by rw [F.out.2]; exact workAt_own (BX2.out.set (i := 3) (by simp) (.int .i64 (fz - 1))) HLE.out HLL.out (own_bar RE2.out ((Bar.refl _ (fun k => k = g)).setCell rfl _) (fun k hk h => by simp [Value.ownBlock] at hk; have := N1.out; omega)) (by rw [HWLh.out]; exact own_bar RW2.out ((Bar.refl _ (fun k => k = g)).setCell rfl _) (fun k hk h => by simp [Value.ownBlock] at hk; have := N2.out; omega)) OE.out OW2.out, B2.out.setCell GE.out _⟩
  · rw [if_neg c4] at hD
    have F : Hid (0 = wrE E L fz nm s d ∧ wrD z E L fz dn nm s d = ⟨z, E, L ++ [(nm, s, d)], fz, dn⟩) := Lib.hid ⟨hEr.symm, hD⟩
    have t3 : (fz == 0) = false := by rw [beq_eq_false_iff_ne]; exact c3
    have t4 : decide (0 < fz) = false := decide_eq_false c4
    clear hD hEr
    go_enter Try.func22, Try.ntmps22
    go_wp2_with fail
    refine (find_any z (some ⟨gE, 0, none⟩) (some ⟨gW, 0, none⟩) lE (lE + 1) lW (lW + 1) fz dn E nm s _ HLE.out HE.out HS.out hE9).mono ?_
    rw [← HF.out, ← HFA.out]
    rintro e w1 ⟨rfl, b1⟩
    have B1 := Lib.hid b1
    have BX1 := Lib.hid (BX.out.below b1)
    have p2 : w1.cell? ⟨g, 2, none⟩ = some (.slice (some ⟨gW, 0, none⟩) lW (lW + 1)) := BX1.out.cell 2 (by simp)
    clear b1
    go_wp2_with fail
    refine (wait_any g gW lW (lW + 1) C _ _ _ _ _ (wRow L) nm s d _ BX1.out (Rw.own_below RW.out B1.out) N2.out (Nat.le_refl _) (by omega) (by omega)).mono ?_
    rintro e w2 ⟨rfl, box2, row2, bar2⟩
    have RE2 := Lib.hid (own_bar (Rw.own_below RE.out B1.out) bar2 (fun k hk h => by simp [Value.ownBlock] at hk; have := N1.out; have := N3.out; omega))
    have B2 := Lib.hid ((B1.out.mono HC.out).trans (bar2.below (B := C) (fun k _ h => by have := GE.out; have := GW1.out; omega) (Nat.le_trans HC.out B1.out.size)))
    have BX2 := Lib.hid box2; have RW2 := Lib.hid row2
    have r3 : w2.cell? ⟨g, 3, none⟩ = some (.int .i64 fz) := box2.cell 3 (by simp)
    clear box2 row2 bar2
    go_wp2_with fail
    go_ret
    exact ⟨ret_int F.out.1, by rw [F.out.2]; exact workAt_own BX2.out HLE.out HLL.out RE2.out (by rw [HWLh.out]; exact RW2.out) OE.out OW2.out, B2.out⟩

set_option maxHeartbeats 4000000 in
set_option maxRecDepth 100000 in
theorem writeStep_any (z : Int) (E : List Ext) (L : List Wr) (fz : Int) (dn : Bool) (C g gE gW b1 b2 b3 : Nat) (nm : ByteArray) (s : Int) (d : ByteArray) (w : World) (hbg : Bg C w g gE gW z E L fz dn) (hC : C ≤ w.heap.size)
    (hs : Sorted E) (hE : E.length ≤ 1000000) (oE : EOk E) (oW : WOk L) (hf0 : -1 ≤ fz) (hf : fz ≤ 9223372036854775807) (h1 : nm.size ≤ 140737488355328) (h2 : d.size ≤ 140737488355328)
    (q1 : w.cell? ⟨b1, 0, none⟩ = some (.string nm)) (q2 : w.cell? ⟨b2, 0, none⟩ = some (.int .i64 s)) (q3 : w.cell? ⟨b3, 0, none⟩ = some (.string d)) :
    Calls Try.prog 21 #[.pointer (some ⟨g, 0, none⟩), .pointer (some ⟨b1, 0, none⟩), .pointer (some ⟨b2, 0, none⟩), .pointer (some ⟨b3, 0, none⟩)] w (StP C g w (wrD z E L fz dn nm s d) (wrE E L fz nm s d)) := by
  have HW := Lib.hid (write_any z E L fz dn C g gE gW nm s d w hbg hC hs hE oE oW hf0 hf h1 h2)
  clear hbg hs oE oW
  go_enter Try.func21, Try.ntmps21
  go_wp2_with fail
  refine HW.out.mono ?_
  rintro e w1 ⟨rfl, h3, h4⟩
  have H3 := Lib.hid h3; have H4 := Lib.hid h4
  clear h3 h4 q1 q2 q3
  go_wp2_with fail
  go_ret
  exact ⟨rfl, H3.out, H4.out⟩
end Go.Proofs.Ytgpheofdeflhdaa.Dk

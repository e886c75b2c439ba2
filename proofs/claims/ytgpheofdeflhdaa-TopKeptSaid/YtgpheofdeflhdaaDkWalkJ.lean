/- The walk of change. -/
import Derived.Test.YtgpheofdeflhdaaDkWalkI
namespace Go.Proofs.Ytgpheofdeflhdaa.Dk
open Go.RowKit Go.Op

/-- a disk at work, as begin makes it -/
structure Bg (B : Nat) (W : World) (g gE gW : Nat) (z : Int) (E : List Ext) (L : List Wr) (fz : Int) (dn : Bool) : Prop where
  ge : B ≤ g
  n1 : g ≠ gE
  n2 : g ≠ gW
  n3 : gE ≠ gW
  box : Boxed W g [.int .i64 z, .slice (some ⟨gE, 0, none⟩) E.length (E.length + 1), .slice (some ⟨gW, 0, none⟩) L.length (L.length + 1), .int .i64 fz, .bool dn, .slice none 0 0]
  rowE : W.ownsRow B 86 2 (.slice (some ⟨gE, 0, none⟩) E.length (E.length + 1)) E.length (eRow E)
  rowW : W.ownsRow B 39 3 (.slice (some ⟨gW, 0, none⟩) L.length (L.length + 1)) L.length (wRow L)
/-- a disk value, and what it reads as; its rows lie above C -/
def DiskAt (w : World) (C : Nat) (v : Value) (D : Dsk) : Prop := ∃ (pE : Option Addr) (nE cE : Nat) (pW : Option Addr) (nW cW : Nat), v = .agg #[.int .i64 D.size, .slice pE nE cE, .slice pW nW cW, .int .i64 D.fuse, .bool D.down] ∧ nE = D.E.length ∧ ExtAt w pE D.E ∧ nW = D.W.length ∧ WrsAt w pW D.W ∧ (∀ a, pE = some a → C ≤ a.block) ∧ (∀ a, pW = some a → C ≤ a.block)
theorem DiskAt.below {w w' : World} {C : Nat} {v : Value} {D : Dsk} (h : DiskAt w C v D) (hb : Below w.heap.size w w') : DiskAt w' C v D := by
  obtain ⟨pE, nE, cE, pW, nW, cW, e, h1, h2, h3, h4, h5, h6⟩ := h
  exact ⟨pE, nE, cE, pW, nW, cW, e, h1, h2.below hb, h3, h4.below hb, h5, h6⟩
/-- a work block, and what it reads as; its rows lie above C -/
def WorkAt (w : World) (C g : Nat) (D : Dsk) : Prop := ∃ (pE : Option Addr) (nE cE : Nat) (pW : Option Addr) (nW cW : Nat) (vb : Value), Boxed w g [.int .i64 D.size, .slice pE nE cE, .slice pW nW cW, .int .i64 D.fuse, .bool D.down, vb] ∧ nE = D.E.length ∧ ExtAt w pE D.E ∧ nW = D.W.length ∧ WrsAt w pW D.W ∧ (∀ a, pE = some a → C ≤ a.block) ∧ (∀ a, pW = some a → C ≤ a.block)
theorem ExtAt.bar {w w' : World} {p : Option Addr} {E : List Ext} {q : Nat → Prop} (h : ExtAt w p E) (hb : Bar w w' q) (hp : ∀ a, p = some a → ¬ q a.block) : ExtAt w' p E := fun i hi => by
  obtain ⟨g, o, e, hg, c, d, hs⟩ := h i hi
  exact ⟨g, o, e, Nat.lt_of_lt_of_le hg hb.size, (hb.cell (a := ⟨g, o + i * 2, none⟩) hg (hp ⟨g, o, none⟩ e)).trans c, (hb.cell (a := ⟨g, o + i * 2 + 1, none⟩) hg (hp ⟨g, o, none⟩ e)).trans d, hs⟩
theorem WrsAt.bar {w w' : World} {p : Option Addr} {L : List Wr} {q : Nat → Prop} (h : WrsAt w p L) (hb : Bar w w' q) (hp : ∀ a, p = some a → ¬ q a.block) : WrsAt w' p L := fun i hi => by
  obtain ⟨g, o, e, hg, c, d, f, hs⟩ := h i hi
  exact ⟨g, o, e, Nat.lt_of_lt_of_le hg hb.size, (hb.cell (a := ⟨g, o + i * 3, none⟩) hg (hp ⟨g, o, none⟩ e)).trans c, (hb.cell (a := ⟨g, o + i * 3 + 1, none⟩) hg (hp ⟨g, o, none⟩ e)).trans d, (hb.cell (a := ⟨g, o + i * 3 + 2, none⟩) hg (hp ⟨g, o, none⟩ e)).trans f, hs⟩
/-- a disk and an error are answered -/
def DkP (w : World) (D : Dsk) (er : Int) (e : Ending) (w' : World) : Prop := ∃ v, e = .returned (.tuple #[v, .int .i64 er]) ∧ DiskAt w' w.heap.size v D ∧ Below w.heap.size w w'
theorem DkP.mk {w w' : World} {D : Dsk} {er er' : Int} {v : Value} (h : er = er') (hd : DiskAt w' w.heap.size v D) (hb : Below w.heap.size w w') : DkP w D er' (.returned (.tuple #[v, .int .i64 er])) w' := ⟨v, by rw [h], hd, hb⟩
def Dsk0 : Dsk := ⟨0, [], [], 0, false⟩

def chgD (z : Int) (E : List Ext) (L : List Wr) (fz : Int) (dn : Bool) (D : Dsk) : Dsk := if readyE z E L fz dn = 2 then Dsk0 else if readyE z E L fz dn = 0 then D else ⟨z, E, L, fz, dn⟩
def chgE (z : Int) (E : List Ext) (L : List Wr) (fz : Int) (dn : Bool) (er : Int) : Int := if readyE z E L fz dn = 2 then 2 else if readyE z E L fz dn = 0 then er else readyE z E L fz dn
theorem chg_eq (z : Int) (E : List Ext) (L : List Wr) (fz : Int) (dn : Bool) (D : Dsk) (er : Int) : (chgD z E L fz dn D, chgE z E L fz dn er) = if readyE z E L fz dn = 2 then (Dsk0, 2) else if readyE z E L fz dn = 0 then (D, er) else (⟨z, E, L, fz, dn⟩, readyE z E L fz dn) := by
  unfold chgD chgE
  split
  · rfl
  · split <;> rfl

set_option maxHeartbeats 8000000 in
set_option maxRecDepth 100000 in
theorem change_any (z : Int) (pE pW : Option Addr) (nE cE nW cW : Nat) (fz : Int) (dn : Bool) (E : List Ext) (L : List Wr) (f : Nat) (caps : Array Value) (D' : Dsk) (er : Int) (w : World) (hn : nE = E.length) (h : ExtAt w pE E) (hE : nE ≤ 9223372036854775807) (hnW : nW = L.length) (hW : WrsAt w pW L) (hLl : nW ≤ 9223372036854775807)
    (hcf : ∀ args W, (callFunc f args).run Try.prog W = .ok (.enter f args) W)
    (hst : readyE z E L fz dn = 0 → ∀ C W g gE gW, w.heap.size ≤ C → Below w.heap.size w W → C ≤ W.heap.size → Bg C W g gE gW z E L fz dn → Calls Try.prog f (#[.pointer (some ⟨g, 0, none⟩)] ++ caps) W fun e W' => e = .returned (.int .i64 er) ∧ WorkAt W' C g D' ∧ Below C W W')
    (Dr : Dsk) (err : Int) (hD : (Dr, err) = if readyE z E L fz dn = 2 then (Dsk0, 2) else if readyE z E L fz dn = 0 then (D', er) else (⟨z, E, L, fz, dn⟩, readyE z E L fz dn)) :
    Calls Try.prog 18 #[.agg #[.int .i64 z, .slice pE nE cE, .slice pW nW cW, .int .i64 fz, .bool dn], .func (.func f) #[] caps] w (DkP w Dr err) := by
  have hbx : Below w.heap.size w (w.alloc (.cells #[.int .i64 z, .slice pE nE cE, .slice pW nW cW, .int .i64 fz, .bool dn] 31)) := (Below.refl _ _).alloc (Nat.le_refl _) _
  have hbx2 := hbx.alloc (by simp) (.cells #[.int .i64 0, .slice none 0 0, .slice none 0 0, .int .i64 0, .bool false] 31)
  obtain ⟨r, hr⟩ : ∃ r, r = readyE z E L fz dn := ⟨_, rfl⟩
  rw [← hr] at hst hD
  have HR := Lib.hid hr
  have hDb := (Boxed.new w #[.int .i64 z, .slice pE nE cE, .slice pW nW cW, .int .i64 fz, .bool dn] 31).below ((Below.refl _ _).alloc (Nat.le_refl _) (.cells #[.int .i64 0, .slice none 0 0, .slice none 0 0, .int .i64 0, .bool false] 31))
  have hRb := Boxed.new (w.alloc (.cells #[.int .i64 z, .slice pE nE cE, .slice pW nW cW, .int .i64 fz, .bool dn] 31)) #[.int .i64 0, .slice none 0 0, .slice none 0 0, .int .i64 0, .bool false] 31
  have hz1 : ((w.alloc (.cells #[.int .i64 z, .slice pE nE cE, .slice pW nW cW, .int .i64 fz, .bool dn] 31))).heap.size = w.heap.size + 1 := by simp
  rw [hz1] at hRb
  have HE := Lib.hid (h.below hbx2); have HN := Lib.hid hn; have HW := Lib.hid (hW.below hbx2); have HNW := Lib.hid hnW
  have HDB := Lib.hid hDb; have HRB := Lib.hid hRb; have HB := Lib.hid hbx2; have HST := Lib.hid hst
  have OKE := Lib.hid h.ok; have OKW := Lib.hid hW.ok
  clear h hn hW hnW hbx hDb hRb hz1 hst hbx2
  by_cases h2 : r = 2
  · subst h2
    rw [if_pos rfl] at hD
    simp only [Prod.mk.injEq] at hD
    obtain ⟨rfl, rfl⟩ := hD
    clear hr
    go_enter Try.func18, Try.ntmps18
    go_wp2_with fail
    refine (ready_any z pE pW nE cE nW cW fz dn E L _ HN.out HE.out hE HNW.out HW.out hLl).mono ?_
    rw [← HR.out]
    rintro e w1 ⟨rfl, b1⟩
    have B := Lib.hid (HB.out.trans (b1.mono HB.out.size))
    have e1 := HRB.out.below b1
    have p0 : w1.cell? ⟨w.heap.size + 1, 0, none⟩ = some (.int .i64 0) := e1.cell 0 (by simp)
    have p1 : w1.cell? ⟨w.heap.size + 1, 1, none⟩ = some (.slice none 0 0) := e1.cell 1 (by simp)
    have p2 : w1.cell? ⟨w.heap.size + 1, 2, none⟩ = some (.slice none 0 0) := e1.cell 2 (by simp)
    have p3 : w1.cell? ⟨w.heap.size + 1, 3, none⟩ = some (.int .i64 0) := e1.cell 3 (by simp)
    have p4 : w1.cell? ⟨w.heap.size + 1, 4, none⟩ = some (.bool false) := e1.cell 4 (by simp)
    have f0 : w1.frozen? ⟨w.heap.size + 1, 0, none⟩ = false := e1.free 0 (by simp)
    have f1 : w1.frozen? ⟨w.heap.size + 1, 1, none⟩ = false := e1.free 1 (by simp)
    have f2 : w1.frozen? ⟨w.heap.size + 1, 2, none⟩ = false := e1.free 2 (by simp)
    have f3 : w1.frozen? ⟨w.heap.size + 1, 3, none⟩ = false := e1.free 3 (by simp)
    have f4 : w1.frozen? ⟨w.heap.size + 1, 4, none⟩ = false := e1.free 4 (by simp)
    clear b1 e1
    go_wp2_with fail
    (try simp only [Exit.inBlock, Exit.then])
    refine bodyPost_ret (v := .tuple #[.agg #[.int .i64 0, .slice none 0 0, .slice none 0 0, .int .i64 0, .bool false], .int .i64 2]) ?_ rfl (DkP.mk rfl ⟨none, 0, 0, none, 0, 0, rfl, rfl, extAt_nil _ _, rfl, wrsAt_nil _ _, fun _ h => (by cases h), fun _ h => (by cases h)⟩ ?_)
    · rw [results_cell_tmp rfl]
      go_simp
    · exact ((((B.out.setCell (Nat.le_succ _) _).setCell (Nat.le_succ _) _).setCell (Nat.le_succ _) _).setCell (Nat.le_succ _) _).setCell (Nat.le_succ _) _
  rw [if_neg h2] at hD
  by_cases h0 : r = 0
  · subst h0
    rw [if_pos rfl] at hD
    simp only [Prod.mk.injEq] at hD
    obtain ⟨rfl, rfl⟩ := hD
    obtain ⟨hc, hdn⟩ := ready_good hr.symm
    have hg := chk_good hc
    have hEb := exR_length hg.1 hg.2.2.2.1
    have hE9 : nE ≤ 1000000 := by rw [HN.out]; omega
    have hW9 : nW ≤ 1000000 := by rw [HNW.out]; have := wtR_length hg.2.2.2.2; omega
    clear hr h2 hc hdn hg hEb
    go_enter Try.func18, Try.ntmps18
    go_wp2_with fail
    refine (ready_any z pE pW nE cE nW cW fz dn E L _ HN.out HE.out hE HNW.out HW.out hLl).mono ?_
    rw [← HR.out]
    rintro e w1 ⟨rfl, b1⟩
    have hb := HDB.out.below b1
    have q0 : w1.cell? ⟨w.heap.size, 0, none⟩ = some (.int .i64 z) := hb.cell 0 (by simp)
    have q1 : w1.cell? ⟨w.heap.size, 1, none⟩ = some (.slice pE nE cE) := hb.cell 1 (by simp)
    have q2 : w1.cell? ⟨w.heap.size, 2, none⟩ = some (.slice pW nW cW) := hb.cell 2 (by simp)
    have q3 : w1.cell? ⟨w.heap.size, 3, none⟩ = some (.int .i64 fz) := hb.cell 3 (by simp)
    have q4 : w1.cell? ⟨w.heap.size, 4, none⟩ = some (.bool dn) := hb.cell 4 (by simp)
    have B := Lib.hid (HB.out.trans (b1.mono HB.out.size))
    have HE1 := Lib.hid (HE.out.below b1); have HW1 := Lib.hid (HW.out.below b1)
    have R1 := Lib.hid (HRB.out.below b1)
    have HSZ : Hid (w.heap.size + 1 < w1.heap.size) := Lib.hid (HRB.out.below b1).lt
    clear b1 hb
    go_wp2_with fail
    refine (begin_any z pE pW nE cE nW cW fz dn E L _ HN.out HE1.out hE9 HNW.out HW1.out hW9).mono ?_
    rintro e w2 ⟨g, gE, gW, rfl, ge, n1, n2, n3, box, rowE, rowW, b2⟩
    have BG := Lib.hid (Bg.mk (B := w1.heap.size) ge n1 n2 n3 box rowE rowW)
    have B2 := Lib.hid (B.out.trans (b2.mono (by have := HSZ.out; omega)))
    have R2 := Lib.hid (R1.out.below b2)
    have HGE : Hid (w1.heap.size ≤ g) := Lib.hid ge
    have HB2 := Lib.hid b2
    clear ge n1 n2 n3 box rowE rowW b2 q0 q1 q2 q3 q4
    go_wp2_with fail
    refine (HST.out trivial w1.heap.size _ g gE gW (by have := HSZ.out; omega) B2.out HB2.out.size BG.out).mono ?_
    rintro e w3 ⟨rfl, ⟨pE2, nE2, cE2, pW2, nW2, cW2, vb, box2, hl1, hx1, hl2, hx2, hy1, hy2⟩, b3⟩
    have B3 := Lib.hid (B2.out.trans (b3.mono (by have := HSZ.out; omega)))
    have hR := R1.out.below (HB2.out.trans b3)
    have p0 : w3.cell? ⟨w.heap.size + 1, 0, none⟩ = some (.int .i64 0) := hR.cell 0 (by simp)
    have p1 : w3.cell? ⟨w.heap.size + 1, 1, none⟩ = some (.slice none 0 0) := hR.cell 1 (by simp)
    have p2 : w3.cell? ⟨w.heap.size + 1, 2, none⟩ = some (.slice none 0 0) := hR.cell 2 (by simp)
    have p3 : w3.cell? ⟨w.heap.size + 1, 3, none⟩ = some (.int .i64 0) := hR.cell 3 (by simp)
    have p4 : w3.cell? ⟨w.heap.size + 1, 4, none⟩ = some (.bool false) := hR.cell 4 (by simp)
    have f0 : w3.frozen? ⟨w.heap.size + 1, 0, none⟩ = false := hR.free 0 (by simp)
    have f1 : w3.frozen? ⟨w.heap.size + 1, 1, none⟩ = false := hR.free 1 (by simp)
    have f2 : w3.frozen? ⟨w.heap.size + 1, 2, none⟩ = false := hR.free 2 (by simp)
    have f3 : w3.frozen? ⟨w.heap.size + 1, 3, none⟩ = false := hR.free 3 (by simp)
    have f4 : w3.frozen? ⟨w.heap.size + 1, 4, none⟩ = false := hR.free 4 (by simp)
    have q0 : w3.cell? ⟨g, 0, none⟩ = some (.int .i64 Dr.size) := box2.cell 0 (by simp)
    have q1 : w3.cell? ⟨g, 1, none⟩ = some (.slice pE2 nE2 cE2) := box2.cell 1 (by simp)
    have q2 : w3.cell? ⟨g, 2, none⟩ = some (.slice pW2 nW2 cW2) := box2.cell 2 (by simp)
    have q3 : w3.cell? ⟨g, 3, none⟩ = some (.int .i64 Dr.fuse) := box2.cell 3 (by simp)
    have q4 : w3.cell? ⟨g, 4, none⟩ = some (.bool Dr.down) := box2.cell 4 (by simp)
    obtain ⟨WF, hWF⟩ : ∃ WF, WF = ((((w3.setCell ⟨w.heap.size + 1, 0, none⟩ (.int .i64 Dr.size)).setCell ⟨w.heap.size + 1, 1, none⟩ (.slice pE2 nE2 cE2)).setCell ⟨w.heap.size + 1, 2, none⟩ (.slice pW2 nW2 cW2)).setCell ⟨w.heap.size + 1, 3, none⟩ (.int .i64 Dr.fuse)).setCell ⟨w.heap.size + 1, 4, none⟩ (.bool Dr.down) := ⟨_, rfl⟩
    have hbar : Bar w3 WF (fun k => k = w.heap.size + 1) := by
      rw [hWF]
      exact (((((Bar.refl w3 (fun k => k = w.heap.size + 1)).setCell rfl _).setCell rfl _).setCell rfl _).setCell rfl _).setCell rfl _
    have hDA : DiskAt WF w.heap.size (.agg #[.int .i64 Dr.size, .slice pE2 nE2 cE2, .slice pW2 nW2 cW2, .int .i64 Dr.fuse, .bool Dr.down]) Dr :=
      ⟨pE2, nE2, cE2, pW2, nW2, cW2, rfl, hl1, hx1.bar hbar (fun a ha h => by have := hy1 a ha; have := HSZ.out; omega), hl2, hx2.bar hbar (fun a ha h => by have := hy2 a ha; have := HSZ.out; omega), fun a ha => by have := hy1 a ha; have := HSZ.out; omega, fun a ha => by have := hy2 a ha; have := HSZ.out; omega⟩
    have F : Hid (DkP w Dr err (.returned (.tuple #[.agg #[.int .i64 Dr.size, .slice pE2 nE2 cE2, .slice pW2 nW2 cW2, .int .i64 Dr.fuse, .bool Dr.down], .int .i64 err])) WF) := Lib.hid (DkP.mk rfl hDA (B3.out.trans (hbar.below (fun k _ h => by omega) B3.out.size)))
    have HWF := Lib.hid hWF
    clear hl1 hx1 hl2 hx2 hy1 hy2 b3 hR box2 hWF hbar hDA
    go_wp2_with fail
    (try simp only [Exit.inBlock, Exit.then])
    refine bodyPost_ret (v := .tuple #[.agg #[.int .i64 Dr.size, .slice pE2 nE2 cE2, .slice pW2 nW2 cW2, .int .i64 Dr.fuse, .bool Dr.down], .int .i64 err]) ?_ rfl ?_
    · rw [results_cell_tmp rfl]
      go_simp
    · rw [← HWF.out]
      exact F.out
  · rw [if_neg h0] at hD
    simp only [Prod.mk.injEq] at hD
    obtain ⟨rfl, rfl⟩ := hD
    have hc : chkB z E L fz = true := by
      cases hc : chkB z E L fz with
      | true => rfl
      | false => exact absurd (by rw [hr]; unfold readyE; rw [hc]; rfl) h2
    have hg := chk_good hc
    have hEb := exR_length hg.1 hg.2.2.2.1
    have hE9 : nE ≤ 1000000 := by rw [HN.out]; omega
    have hW9 : nW ≤ 1000000 := by rw [HNW.out]; have := wtR_length hg.2.2.2.2; omega
    have t1 : (err == 2) = false := by rw [beq_eq_false_iff_ne]; exact h2
    have t2 : (err == 0) = false := by rw [beq_eq_false_iff_ne]; exact h0
    clear hr h2 h0 hc hg hEb
    go_enter Try.func18, Try.ntmps18
    go_wp2_with fail
    refine (ready_any z pE pW nE cE nW cW fz dn E L _ HN.out HE.out hE HNW.out HW.out hLl).mono ?_
    rw [← HR.out]
    rintro e w1 ⟨rfl, b1⟩
    have hb := HDB.out.below b1
    have q0 : w1.cell? ⟨w.heap.size, 0, none⟩ = some (.int .i64 z) := hb.cell 0 (by simp)
    have q1 : w1.cell? ⟨w.heap.size, 1, none⟩ = some (.slice pE nE cE) := hb.cell 1 (by simp)
    have q2 : w1.cell? ⟨w.heap.size, 2, none⟩ = some (.slice pW nW cW) := hb.cell 2 (by simp)
    have q3 : w1.cell? ⟨w.heap.size, 3, none⟩ = some (.int .i64 fz) := hb.cell 3 (by simp)
    have q4 : w1.cell? ⟨w.heap.size, 4, none⟩ = some (.bool dn) := hb.cell 4 (by simp)
    have B := Lib.hid (HB.out.trans (b1.mono HB.out.size))
    have HE1 := Lib.hid (HE.out.below b1); have HW1 := Lib.hid (HW.out.below b1)
    have R1 := Lib.hid (HRB.out.below b1)
    have HSZ : Hid (w.heap.size + 1 < w1.heap.size) := Lib.hid (HRB.out.below b1).lt
    clear b1 hb
    go_wp2_with fail
    refine (begin_any z pE pW nE cE nW cW fz dn E L _ HN.out HE1.out hE9 HNW.out HW1.out hW9).mono ?_
    rintro e w3 ⟨g, gE, gW, rfl, ge, n1, n2, n3, box2, rowE, rowW, b3⟩
    have B3 := Lib.hid (B.out.trans (b3.mono (by have := HSZ.out; omega)))
    have hR := R1.out.below b3
    have p0 : w3.cell? ⟨w.heap.size + 1, 0, none⟩ = some (.int .i64 0) := hR.cell 0 (by simp)
    have p1 : w3.cell? ⟨w.heap.size + 1, 1, none⟩ = some (.slice none 0 0) := hR.cell 1 (by simp)
    have p2 : w3.cell? ⟨w.heap.size + 1, 2, none⟩ = some (.slice none 0 0) := hR.cell 2 (by simp)
    have p3 : w3.cell? ⟨w.heap.size + 1, 3, none⟩ = some (.int .i64 0) := hR.cell 3 (by simp)
    have p4 : w3.cell? ⟨w.heap.size + 1, 4, none⟩ = some (.bool false) := hR.cell 4 (by simp)
    have f0 : w3.frozen? ⟨w.heap.size + 1, 0, none⟩ = false := hR.free 0 (by simp)
    have f1 : w3.frozen? ⟨w.heap.size + 1, 1, none⟩ = false := hR.free 1 (by simp)
    have f2 : w3.frozen? ⟨w.heap.size + 1, 2, none⟩ = false := hR.free 2 (by simp)
    have f3 : w3.frozen? ⟨w.heap.size + 1, 3, none⟩ = false := hR.free 3 (by simp)
    have f4 : w3.frozen? ⟨w.heap.size + 1, 4, none⟩ = false := hR.free 4 (by simp)
    obtain ⟨lE, hlE⟩ : ∃ lE, lE = E.length := ⟨_, rfl⟩
    obtain ⟨lW, hlW⟩ : ∃ lW, lW = L.length := ⟨_, rfl⟩
    rw [← hlE, ← hlW] at box2
    rw [← hlE] at rowE
    rw [← hlW] at rowW
    have c0 : w3.cell? ⟨g, 0, none⟩ = some (.int .i64 z) := box2.cell 0 (by simp)
    have c1 : w3.cell? ⟨g, 1, none⟩ = some (.slice (some ⟨gE, 0, none⟩) lE (lE + 1)) := box2.cell 1 (by simp)
    have c2 : w3.cell? ⟨g, 2, none⟩ = some (.slice (some ⟨gW, 0, none⟩) lW (lW + 1)) := box2.cell 2 (by simp)
    have c3 : w3.cell? ⟨g, 3, none⟩ = some (.int .i64 fz) := box2.cell 3 (by simp)
    have c4 : w3.cell? ⟨g, 4, none⟩ = some (.bool dn) := box2.cell 4 (by simp)
    obtain ⟨WF, hWF⟩ : ∃ WF, WF = ((((w3.setCell ⟨w.heap.size + 1, 0, none⟩ (.int .i64 z)).setCell ⟨w.heap.size + 1, 1, none⟩ (.slice (some ⟨gE, 0, none⟩) lE (lE + 1))).setCell ⟨w.heap.size + 1, 2, none⟩ (.slice (some ⟨gW, 0, none⟩) lW (lW + 1))).setCell ⟨w.heap.size + 1, 3, none⟩ (.int .i64 fz)).setCell ⟨w.heap.size + 1, 4, none⟩ (.bool dn) := ⟨_, rfl⟩
    have hbar : Bar w3 WF (fun k => k = w.heap.size + 1) := by
      rw [hWF]
      exact (((((Bar.refl w3 (fun k => k = w.heap.size + 1)).setCell rfl _).setCell rfl _).setCell rfl _).setCell rfl _).setCell rfl _
    have gE1 := (rowE.lt gE rfl).1
    have gW1 := (rowW.lt gW rfl).1
    have hDA : DiskAt WF w.heap.size (.agg #[.int .i64 z, .slice (some ⟨gE, 0, none⟩) lE (lE + 1), .slice (some ⟨gW, 0, none⟩) lW (lW + 1), .int .i64 fz, .bool dn]) ⟨z, E, L, fz, dn⟩ :=
      ⟨_, _, _, _, _, _, rfl, hlE, (extAt_own rowE OKE.out).bar hbar (fun a ha h => by cases ha; have := HSZ.out; simp only at h; omega), hlW, (wrsAt_own rowW OKW.out).bar hbar (fun a ha h => by cases ha; have := HSZ.out; simp only at h; omega), fun a ha => by cases ha; have := HSZ.out; show w.heap.size ≤ gE; omega, fun a ha => by cases ha; have := HSZ.out; show w.heap.size ≤ gW; omega⟩
    have F : Hid (DkP w ⟨z, E, L, fz, dn⟩ err (.returned (.tuple #[.agg #[.int .i64 z, .slice (some ⟨gE, 0, none⟩) lE (lE + 1), .slice (some ⟨gW, 0, none⟩) lW (lW + 1), .int .i64 fz, .bool dn], .int .i64 err])) WF) := Lib.hid (DkP.mk rfl hDA (B3.out.trans (hbar.below (fun k _ h => by omega) B3.out.size)))
    have HWF := Lib.hid hWF
    clear hWF hbar hDA gE1 gW1 box2 rowE rowW hlE hlW b3 hR ge n1 n2 n3 q0 q1 q2 q3 q4
    go_wp2_with fail
    (try simp only [Exit.inBlock, Exit.then])
    refine bodyPost_ret (v := .tuple #[.agg #[.int .i64 z, .slice (some ⟨gE, 0, none⟩) lE (lE + 1), .slice (some ⟨gW, 0, none⟩) lW (lW + 1), .int .i64 fz, .bool dn], .int .i64 err]) ?_ rfl ?_
    · rw [results_cell_tmp rfl]
      go_simp
    · rw [← HWF.out]
      exact F.out
end Go.Proofs.Ytgpheofdeflhdaa.Dk

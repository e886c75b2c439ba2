/- The walk of drop (of a disk at work). -/
import Derived.Test.YtejmbbhbimgheaaDkWalkR
import Derived.Test.YtejmbbhbimgheaaDkWalkS
import Derived.Test.YtejmbbhbimgheaaDkWalkK
import Derived.Conc.MuLone
namespace Go.Proofs.Ytejmbbhbimgheaa.Dk
open Go.RowKit Go.Op

set_option maxHeartbeats 4000000 in
set_option maxRecDepth 100000 in
theorem drop1_any (P : ByteArray → Bool) (f b : Nat) (caps : Array Value) (x y : ByteArray) (w : World) (q : w.cell? ⟨b, 0, none⟩ = some (.func (.func f) #[] caps)) (hb : b < w.heap.size)
    (hcf : ∀ args W, (callFunc f args).run Try.prog W = .ok (.enter f args) W)
    (hst : ∀ W, Below w.heap.size w W → Calls Try.prog f (#[.string x] ++ caps) W fun e W' => e = .returned (.bool (P x)) ∧ Below W.heap.size W W') :
    Calls Try.prog 77 #[.agg #[.string x, .string y], .pointer (some ⟨b, 0, none⟩)] w fun e W' => e = .returned (.bool (P x)) ∧ Below w.heap.size w W' := by
  have hbx : Below w.heap.size w (w.alloc (.cells #[.string x, .string y] 58)) := (Below.refl _ _).alloc (Nat.le_refl _) _
  have HS := Lib.hid (hst _ hbx)
  have HB := Lib.hid hbx
  clear hst hbx
  go_enter Try.func77, Try.ntmps77
  go_wp2_with fail
  refine HS.out.mono ?_
  rintro e w1 ⟨rfl, b1⟩
  have B1 := Lib.hid (HB.out.trans (b1.mono HB.out.size))
  clear b1
  go_wp2_with fail
  go_ret
  exact ⟨rfl, B1.out⟩
set_option maxHeartbeats 4000000 in
set_option maxRecDepth 100000 in
theorem drop2_any (P : ByteArray → Bool) (f b : Nat) (caps : Array Value) (x : ByteArray) (s : Int) (y : ByteArray) (w : World) (q : w.cell? ⟨b, 0, none⟩ = some (.func (.func f) #[] caps)) (hb : b < w.heap.size)
    (hcf : ∀ args W, (callFunc f args).run Try.prog W = .ok (.enter f args) W)
    (hst : ∀ W, Below w.heap.size w W → Calls Try.prog f (#[.string x] ++ caps) W fun e W' => e = .returned (.bool (P x)) ∧ Below W.heap.size W W') :
    Calls Try.prog 79 #[.agg #[.string x, .int .i64 s, .string y], .pointer (some ⟨b, 0, none⟩)] w fun e W' => e = .returned (.bool (P x)) ∧ Below w.heap.size w W' := by
  have hbx : Below w.heap.size w (w.alloc (.cells #[.string x, .int .i64 s, .string y] 63)) := (Below.refl _ _).alloc (Nat.le_refl _) _
  have HS := Lib.hid (hst _ hbx)
  have HB := Lib.hid hbx
  clear hst hbx
  go_enter Try.func79, Try.ntmps79
  go_wp2_with fail
  refine HS.out.mono ?_
  rintro e w1 ⟨rfl, b1⟩
  have B1 := Lib.hid (HB.out.trans (b1.mono HB.out.size))
  clear b1
  go_wp2_with fail
  go_ret
  exact ⟨rfl, B1.out⟩

def keptEn (P : ByteArray → Bool) (E : List Ext) : List Ext := keptE (fun x => P x.1) E
def keptWn (P : ByteArray → Bool) (L : List Wr) : List Wr := keptW (fun x => P x.1) L
set_option maxHeartbeats 8000000 in
set_option maxRecDepth 100000 in
theorem drop_any (P : ByteArray → Bool) (z : Int) (E : List Ext) (L : List Wr) (fz : Int) (dn : Bool) (B g gE gW nE cE nW cW : Nat) (vb : Value) (f : Nat) (caps : Array Value) (w : World) (hnE : nE = E.length) (hnW : nW = L.length)
    (hb : Boxed w g [.int .i64 z, .slice (some ⟨gE, 0, none⟩) nE cE, .slice (some ⟨gW, 0, none⟩) nW cW, .int .i64 fz, .bool dn, vb]) (n1 : g ≠ gE) (n2 : g ≠ gW) (n3 : gE ≠ gW)
    (hE : w.ownsRow B 58 2 (.slice (some ⟨gE, 0, none⟩) nE cE) nE (eRow E)) (hW : w.ownsRow B 63 3 (.slice (some ⟨gW, 0, none⟩) nW cW) nW (wRow L)) (hcE : nE ≤ cE ∧ cE ≤ 1000000000) (hcW : nW ≤ cW ∧ cW ≤ 1000000000) (oE : EOk E) (oW : WOk L)
    (hcf : ∀ args W, (callFunc f args).run Try.prog W = .ok (.enter f args) W)
    (hst : ∀ W, Bar w W (fun k => k = g ∨ k = gE ∨ k = gW) → ∀ x : ByteArray, x.size ≤ 140737488355328 → Calls Try.prog f (#[.string x] ++ caps) W fun e W' => e = .returned (.bool (P x)) ∧ Below W.heap.size W W') :
    Calls Try.prog 64 #[.pointer (some ⟨g, 0, none⟩), .func (.func f) #[] caps] w fun e w' => e = .returned (.tuple #[]) ∧
      Boxed w' g [.int .i64 z, .slice (some ⟨gE, 0, none⟩) (keptEn P E).length cE, .slice (some ⟨gW, 0, none⟩) (keptWn P L).length cW, .int .i64 fz, .bool dn, vb] ∧
      w'.ownsRow B 58 2 (.slice (some ⟨gE, 0, none⟩) (keptEn P E).length cE) (keptEn P E).length (eRow (keptEn P E)) ∧ w'.ownsRow B 63 3 (.slice (some ⟨gW, 0, none⟩) (keptWn P L).length cW) (keptWn P L).length (wRow (keptWn P L)) ∧ Bar w w' (fun k => k = g ∨ k = gE ∨ k = gW) := by
  obtain ⟨W0, hW0⟩ : ∃ W0, W0 = w.alloc (.cells #[.func (.func f) #[] caps] 52) := ⟨_, rfl⟩
  have t0 : Below w.heap.size w W0 := by rw [hW0]; exact (Below.refl _ _).alloc (Nat.le_refl _) _
  have u0 : Boxed W0 w.heap.size [.func (.func f) #[] caps] := by rw [hW0]; exact Boxed.new w #[.func (.func f) #[] caps] 52
  have u1 := hb.below t0
  have gE1 := (hE.lt gE rfl).2
  have gW1 := (hW.lt gW rfl).2
  have g1 := hb.lt
  have hcf1 : ∀ args W, (callFunc 77 args).run Try.prog W = .ok (.enter 77 args) W := fun args W => MuLone.run_callFunc_enter (P := Try.prog) Try.func77 (by kernel_rfl) rfl args W
  have hcf2 : ∀ args W, (callFunc 79 args).run Try.prog W = .ok (.enter 79 args) W := fun args W => MuLone.run_callFunc_enter (P := Try.prog) Try.func79 (by kernel_rfl) rfl args W
  have oE2 := eOk_mem.1 oE
  have oW2 := wOk_mem.1 oW
  have HD1 := Lib.hid (deleteE_any E (fun x => P x.1) B gE nE cE 77 #[.pointer (some ⟨w.heap.size, 0, none⟩)] W0 hnE (Rw.own_below hE t0) hcE.1 hcE.2 oE hcf1 (by
    intro W hbar i hi
    have hbx := u0.bar hbar (by omega)
    have hm : E.getD i default ∈ E := by rw [List.getD_eq_getElem?_getD, List.getElem?_eq_getElem hi]; exact List.getElem_mem hi
    refine drop1_any P f w.heap.size caps _ _ W (hbx.cell 0 (by simp)) hbx.lt hcf (fun W' hb' => hst W' ?_ _ (oE2 _ hm).1)
    exact ((Bar.of_below t0 _).trans (hbar.mono (fun k _ h => Or.inr (Or.inl h)))).trans (Bar.of_below hb' _)))
  obtain ⟨E2, hE2⟩ : ∃ E2, E2 = keptEn P E := ⟨_, rfl⟩
  obtain ⟨lE, hlE⟩ : ∃ lE, lE = E2.length := ⟨_, rfl⟩
  have e2 : keptE (fun x => P x.1) E = E2 := hE2.symm
  rw [e2] at HD1
  have HD2 : Hid (∀ w1, Bar W0 w1 (fun k => k = gE) → w1.ownsRow B 58 2 (.slice (some ⟨gE, 0, none⟩) lE cE) lE (eRow E2) →
      Boxed (w1.setCell ⟨g, 1, none⟩ (.slice (some ⟨gE, 0, none⟩) lE cE)) g [.int .i64 z, .slice (some ⟨gE, 0, none⟩) lE cE, .slice (some ⟨gW, 0, none⟩) nW cW, .int .i64 fz, .bool dn, vb] ∧
      (w1.setCell ⟨g, 1, none⟩ (.slice (some ⟨gE, 0, none⟩) lE cE)).ownsRow B 58 2 (.slice (some ⟨gE, 0, none⟩) lE cE) lE (eRow E2) ∧
      Calls Try.prog 78 #[.slice (some ⟨gW, 0, none⟩) nW cW, .func (.func 79) #[] #[.pointer (some ⟨w.heap.size, 0, none⟩)]] (w1.setCell ⟨g, 1, none⟩ (.slice (some ⟨gE, 0, none⟩) lE cE)) (DelWP (w1.setCell ⟨g, 1, none⟩ (.slice (some ⟨gE, 0, none⟩) lE cE)) B gW cW (keptWn P L))) := Lib.hid (by
    intro w1 hbar hrow
    have hb1 := (u1.bar hbar n1)
    have hbar2 : Bar W0 (w1.setCell ⟨g, 1, none⟩ (.slice (some ⟨gE, 0, none⟩) lE cE)) (fun k => k = g ∨ k = gE) := (hbar.mono (q := fun k => k = g ∨ k = gE) (fun k _ h => Or.inr h)).setCell (q := ⟨g, 1, none⟩) (Or.inl rfl) _
    have hs := hbar2.size
    refine ⟨hb1.set (i := 1) (by simp) _, own_bar hrow ((Bar.refl _ (fun k => k = g)).setCell rfl _) (fun k hk h => by simp [Value.ownBlock] at hk; omega), ?_⟩
    refine deleteW_any L (fun x => P x.1) B gW nW cW 79 #[.pointer (some ⟨w.heap.size, 0, none⟩)] _ hnW (own_bar (Rw.own_below hW t0) hbar2 (fun k hk h => by simp [Value.ownBlock] at hk; omega)) hcW.1 hcW.2 oW hcf2 ?_
    intro W hbarW i hi
    have hbx := (u0.bar hbar2 (by omega)).bar hbarW (by omega)
    have hm : L.getD i default ∈ L := by rw [List.getD_eq_getElem?_getD, List.getElem?_eq_getElem hi]; exact List.getElem_mem hi
    refine drop2_any P f w.heap.size caps _ _ _ W (hbx.cell 0 (by simp)) hbx.lt hcf (fun W' hb' => hst W' ?_ _ (oW2 _ hm).1)
    exact (((Bar.of_below t0 _).trans (hbar2.mono (fun k _ h => h.elim Or.inl (fun h => Or.inr (Or.inl h))))).trans (hbarW.mono (fun k _ h => Or.inr (Or.inr h)))).trans (Bar.of_below hb' _))
  have q1 : (w.alloc (.cells #[.func (.func f) #[] caps] 52)).cell? ⟨g, 1, none⟩ = some (.slice (some ⟨gE, 0, none⟩) nE cE) := by rw [← hW0]; exact u1.cell 1 (by simp)
  have U1 := Lib.hid u1; have T0 := Lib.hid t0; have HW0 := Lib.hid hW0; have N1 := Lib.hid n1; have N2 := Lib.hid n2; have N3 := Lib.hid n3
  have HLE := Lib.hid hlE; have G1 := Lib.hid g1
  obtain ⟨L2, hL2⟩ : ∃ L2, L2 = keptWn P L := ⟨_, rfl⟩
  obtain ⟨lW, hlW⟩ : ∃ lW, lW = L2.length := ⟨_, rfl⟩
  rw [← hL2] at HD2
  rw [← hE2, ← hL2, ← hlE, ← hlW]
  have HLW := Lib.hid hlW
  clear t0 u0 u1 gE1 gW1 g1 hcf1 hcf2 oE2 oW2 hE2 hlE e2 hW0 n1 n2 n3 hb hE hW hst hcf oE oW hcE hcW hnE hnW hL2 hlW
  go_enter Try.func64, Try.ntmps64
  go_wp2_with fail
  rw [← HW0.out]
  refine HD1.out.mono ?_
  unfold DelP
  rw [← HLE.out]
  rintro e w1 ⟨rfl, hr1, hb1⟩
  have h2 := HD2.out w1 hb1 hr1
  have c1 : w1.cell? ⟨g, 1, none⟩ = some (.slice (some ⟨gE, 0, none⟩) nE cE) := (U1.out.bar hb1 N1.out).cell 1 (by simp)
  have f1 : w1.frozen? ⟨g, 1, none⟩ = false := (U1.out.bar hb1 N1.out).free 1 (by simp)
  obtain ⟨w2, hw2⟩ : ∃ w2, w2 = w1.setCell ⟨g, 1, none⟩ (.slice (some ⟨gE, 0, none⟩) lE cE) := ⟨_, rfl⟩
  rw [← hw2] at h2
  have B2 : Hid (Bar w w2 (fun k => k = g ∨ k = gE ∨ k = gW)) := Lib.hid (by
    rw [hw2]
    exact ((Bar.of_below T0.out (fun k => k = g ∨ k = gE ∨ k = gW)).trans (hb1.mono (fun k _ h => Or.inr (Or.inl h)))).setCell (q := ⟨g, 1, none⟩) (Or.inl rfl) _)
  have H2 := Lib.hid h2; have HW2 := Lib.hid hw2
  have c2 : (w1.setCell ⟨g, 1, none⟩ (.slice (some ⟨gE, 0, none⟩) lE cE)).cell? ⟨g, 2, none⟩ = some (.slice (some ⟨gW, 0, none⟩) nW cW) := by rw [← hw2]; exact h2.1.cell 2 (by simp)
  clear h2 hb1 hr1 hw2
  go_wp2_with fail
  rw [← HW2.out]
  refine H2.out.2.2.mono ?_
  unfold DelWP
  rw [← HLW.out]
  rintro e w3 ⟨rfl, hr3, hb3⟩
  have b3 := H2.out.1.bar hb3 N2.out
  have c3 : w3.cell? ⟨g, 2, none⟩ = some (.slice (some ⟨gW, 0, none⟩) nW cW) := b3.cell 2 (by simp)
  have f3 : w3.frozen? ⟨g, 2, none⟩ = false := b3.free 2 (by simp)
  have R3 := Lib.hid hr3; have B3 := Lib.hid b3; have BB := Lib.hid (B2.out.trans (hb3.mono (fun k _ h => Or.inr (Or.inr h))))
  have RE := Lib.hid (own_bar H2.out.2.1 hb3 (fun k hk h => by simp [Value.ownBlock] at hk; have := N3.out; omega))
  clear hr3 hb3 b3 c2 c1 f1 q1
  go_wp2_with fail
  go_end0
  have hbg : Bar w3 (w3.setCell ⟨g, 2, none⟩ (.slice (some ⟨gW, 0, none⟩) lW cW)) (fun k => k = g) := (Bar.refl _ (fun k => k = g)).setCell rfl _
  exact ⟨rfl, B3.out.set (i := 2) (by simp) _, own_bar RE.out hbg (fun k hk h => by simp [Value.ownBlock] at hk; have := N1.out; omega), own_bar R3.out hbg (fun k hk h => by simp [Value.ownBlock] at hk; have := N2.out; omega), BB.out.setCell (q := ⟨g, 2, none⟩) (Or.inl rfl) _⟩
end Go.Proofs.Ytejmbbhbimgheaa.Dk

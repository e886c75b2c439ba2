/- The walk of New. -/
import Derived.Test.YtgpheofdeflhdaaDkWalkL
import Derived.Test.YtgpheofdeflhdaaDkWalkN
namespace Go.Proofs.Ytgpheofdeflhdaa.Dk
open Go.RowKit Go.Op

set_option maxHeartbeats 4000000 in
set_option maxRecDepth 100000 in
theorem newStep_any (z : Int) (E : List Ext) (L : List Wr) (fz : Int) (dn : Bool) (C g gE gW b1 b2 : Nat) (nm : ByteArray) (s : Int) (w : World) (hbg : Bg C w g gE gW z E L fz dn) (hC : C ≤ w.heap.size)
    (hs : Sorted E) (hE : E.length ≤ 1000000) (oE : EOk E) (oW : WOk L) (z1 : z ≤ 16384) (hR : (sumN E : Int) ≤ z) (h1 : nm.size ≤ 140737488355328)
    (q1 : w.cell? ⟨b1, 0, none⟩ = some (.string nm)) (q2 : w.cell? ⟨b2, 0, none⟩ = some (.int .i64 s)) :
    Calls Try.prog 19 #[.pointer (some ⟨g, 0, none⟩), .pointer (some ⟨b1, 0, none⟩), .pointer (some ⟨b2, 0, none⟩)] w (StP C g w (adD z E L fz dn nm s) (adE z E nm s)) := by
  have HW := Lib.hid (add_any z E L fz dn C g gE gW nm s w hbg hC hs hE oE oW z1 hR h1)
  clear hbg hs oE oW hR
  go_enter Try.func19, Try.ntmps19
  go_wp2_with fail
  refine HW.out.mono ?_
  rintro e w1 ⟨rfl, h3, h4⟩
  have H3 := Lib.hid h3; have H4 := Lib.hid h4
  clear h3 h4 q1 q2
  go_wp2_with fail
  go_ret
  exact ⟨rfl, H3.out, H4.out⟩

set_option maxHeartbeats 8000000 in
set_option maxRecDepth 100000 in
theorem New_any (z : Int) (pE pW : Option Addr) (nE cE nW cW : Nat) (fz : Int) (dn : Bool) (E : List Ext) (L : List Wr) (nm : ByteArray) (s : Int) (w : World) (hn : nE = E.length) (h : ExtAt w pE E) (hE : nE ≤ 9223372036854775807) (hnW : nW = L.length) (hW : WrsAt w pW L) (hLl : nW ≤ 9223372036854775807)
    (h1 : nm.size ≤ 140737488355328) :
    Calls Try.prog 7 #[.agg #[.int .i64 z, .slice pE nE cE, .slice pW nW cW, .int .i64 fz, .bool dn], .string nm, .int .i64 s] w (DkP w (chgD z E L fz dn (adD z E L fz dn nm s)) (chgE z E L fz dn (adE z E nm s))) := by
  obtain ⟨A1, hA1⟩ : ∃ A1, A1 = (w.alloc (.cells #[.int .i64 z, .slice pE nE cE, .slice pW nW cW, .int .i64 fz, .bool dn] 31)) := ⟨_, rfl⟩
  obtain ⟨A2, hA2⟩ : ∃ A2, A2 = A1.alloc (.cells #[.string nm] 9) := ⟨_, rfl⟩
  obtain ⟨A3, hA3⟩ : ∃ A3, A3 = A2.alloc (.cells #[.int .i64 s] 3) := ⟨_, rfl⟩
  obtain ⟨A5, hA5⟩ : ∃ A5, A5 = A3.alloc (.cells #[.int .i64 0, .slice none 0 0, .slice none 0 0, .int .i64 0, .bool false] 31) := ⟨_, rfl⟩
  have s1 : A1.heap.size = w.heap.size + 1 := by rw [hA1]; simp
  have s2 : A2.heap.size = w.heap.size + 1 + 1 := by rw [hA2]; simp [s1]
  have s3 : A3.heap.size = w.heap.size + 1 + 1 + 1 := by rw [hA3]; simp [s2]
  have s5 : A5.heap.size = w.heap.size + 1 + 1 + 1 + 1 := by rw [hA5]; simp [s3]
  have b1 : Below w.heap.size w A1 := by rw [hA1]; exact (Below.refl _ _).alloc (Nat.le_refl _) _
  have b2 : Below A1.heap.size A1 A2 := by rw [hA2]; exact (Below.refl _ _).alloc (Nat.le_refl _) _
  have b3 : Below A2.heap.size A2 A3 := by rw [hA3]; exact (Below.refl _ _).alloc (Nat.le_refl _) _
  have b5 : Below A3.heap.size A3 A5 := by rw [hA5]; exact (Below.refl _ _).alloc (Nat.le_refl _) _
  have x1 : Boxed A5 (w.heap.size + 1) [.string nm] := by
    have := Boxed.new A1 #[.string nm] 9
    rw [← hA2, s1] at this
    exact (this.below b3).below b5
  have x2 : Boxed A5 (w.heap.size + 1 + 1) [.int .i64 s] := by
    have := Boxed.new A2 #[.int .i64 s] 3
    rw [← hA3, s2] at this
    exact this.below b5
  have x4 : Boxed A5 (w.heap.size + 1 + 1 + 1) [.int .i64 0, .slice none 0 0, .slice none 0 0, .int .i64 0, .bool false] := by
    have := Boxed.new A3 #[.int .i64 0, .slice none 0 0, .slice none 0 0, .int .i64 0, .bool false] 31
    rw [← hA5, s3] at this
    exact this
  have bb : Below w.heap.size w A5 := b1.trans ((b2.mono (by omega)).trans ((b3.mono (by omega)).trans (b5.mono (by omega))))
  have okE := h.ok; have okW := hW.ok
  have hst : readyE z E L fz dn = 0 → ∀ C W g gE gW, A5.heap.size ≤ C → Below A5.heap.size A5 W → C ≤ W.heap.size → Bg C W g gE gW z E L fz dn → Calls Try.prog 19 (#[.pointer (some ⟨g, 0, none⟩)] ++ #[.pointer (some ⟨w.heap.size + 1, 0, none⟩), .pointer (some ⟨w.heap.size + 1 + 1, 0, none⟩)]) W fun e W' => e = .returned (.int .i64 (adE z E nm s)) ∧ WorkAt W' C g (adD z E L fz dn nm s) ∧ Below C W W' := by
    intro hr C W g gE gW hC hb hCW hbg
    obtain ⟨l1, l2, _, _⟩ := lim_of hr
    obtain ⟨hc, _⟩ := ready_good hr
    have hg := chk_good hc
    exact newStep_any z E L fz dn C g gE gW _ _ nm s W hbg hCW l1 l2 okE okW hg.2.1 (exR_sum hg.1 hg.2.2.2.1) h1 ((x1.below hb).cell 0 (by simp)) ((x2.below hb).cell 0 (by simp))
  have hcf : ∀ args W, (callFunc 19 args).run Try.prog W = .ok (.enter 19 args) W := fun args W => MuLone.run_callFunc_enter (P := Try.prog) Try.func19 (by kernel_rfl) rfl args W
  obtain ⟨Dr, hDr⟩ : ∃ Dr, Dr = chgD z E L fz dn (adD z E L fz dn nm s) := ⟨_, rfl⟩
  obtain ⟨err, herr⟩ : ∃ err, err = chgE z E L fz dn (adE z E nm s) := ⟨_, rfl⟩
  have HCH := Lib.hid (change_any z pE pW nE cE nW cW fz dn E L 19 _ (adD z E L fz dn nm s) (adE z E nm s) A5 hn (h.below bb) hE hnW (hW.below bb) hLl hcf hst Dr err (by rw [hDr, herr]; exact chg_eq _ _ _ _ _ _ _))
  rw [← hDr, ← herr]
  have X4 := Lib.hid x4; have BB := Lib.hid bb; have S5 := Lib.hid s5
  have HA := Lib.hid hA1; have HA2 := Lib.hid hA2; have HA3 := Lib.hid hA3; have HA5 := Lib.hid hA5
  clear hn h hnW hW okE okW hst hcf hDr herr x1 x2 x4 bb b1 b2 b3 b5 s1 s2 s3 s5 hA1 hA2 hA3 hA5
  go_enter Try.func7, Try.ntmps7
  go_wp2_with fail
  rw [← HA.out, ← HA2.out, ← HA3.out, ← HA5.out]
  refine HCH.out.mono ?_
  rintro e w3 ⟨v, rfl, ⟨pE2, nE2, cE2, pW2, nW2, cW2, rfl, hl1, hx1, hl2, hx2, hy1, hy2⟩, b3⟩
  have hR := X4.out.below b3
  have p0 : w3.cell? ⟨w.heap.size + 1 + 1 + 1, 0, none⟩ = some (.int .i64 0) := hR.cell 0 (by simp)
  have p1 : w3.cell? ⟨w.heap.size + 1 + 1 + 1, 1, none⟩ = some (.slice none 0 0) := hR.cell 1 (by simp)
  have p2 : w3.cell? ⟨w.heap.size + 1 + 1 + 1, 2, none⟩ = some (.slice none 0 0) := hR.cell 2 (by simp)
  have p3 : w3.cell? ⟨w.heap.size + 1 + 1 + 1, 3, none⟩ = some (.int .i64 0) := hR.cell 3 (by simp)
  have p4 : w3.cell? ⟨w.heap.size + 1 + 1 + 1, 4, none⟩ = some (.bool false) := hR.cell 4 (by simp)
  have f0 : w3.frozen? ⟨w.heap.size + 1 + 1 + 1, 0, none⟩ = false := hR.free 0 (by simp)
  have f1 : w3.frozen? ⟨w.heap.size + 1 + 1 + 1, 1, none⟩ = false := hR.free 1 (by simp)
  have f2 : w3.frozen? ⟨w.heap.size + 1 + 1 + 1, 2, none⟩ = false := hR.free 2 (by simp)
  have f3 : w3.frozen? ⟨w.heap.size + 1 + 1 + 1, 3, none⟩ = false := hR.free 3 (by simp)
  have f4 : w3.frozen? ⟨w.heap.size + 1 + 1 + 1, 4, none⟩ = false := hR.free 4 (by simp)
  obtain ⟨WF, hWF⟩ : ∃ WF, WF = ((((w3.setCell ⟨w.heap.size + 1 + 1 + 1, 0, none⟩ (.int .i64 Dr.size)).setCell ⟨w.heap.size + 1 + 1 + 1, 1, none⟩ (.slice pE2 nE2 cE2)).setCell ⟨w.heap.size + 1 + 1 + 1, 2, none⟩ (.slice pW2 nW2 cW2)).setCell ⟨w.heap.size + 1 + 1 + 1, 3, none⟩ (.int .i64 Dr.fuse)).setCell ⟨w.heap.size + 1 + 1 + 1, 4, none⟩ (.bool Dr.down) := ⟨_, rfl⟩
  have hbar : Bar w3 WF (fun k => k = w.heap.size + 1 + 1 + 1) := by
    rw [hWF]
    exact (((((Bar.refl w3 (fun k => k = w.heap.size + 1 + 1 + 1)).setCell rfl _).setCell rfl _).setCell rfl _).setCell rfl _).setCell rfl _
  have hDA : DiskAt WF w.heap.size (.agg #[.int .i64 Dr.size, .slice pE2 nE2 cE2, .slice pW2 nW2 cW2, .int .i64 Dr.fuse, .bool Dr.down]) Dr :=
    ⟨pE2, nE2, cE2, pW2, nW2, cW2, rfl, hl1, hx1.bar hbar (fun a ha h => by have := hy1 a ha; have := S5.out; omega), hl2, hx2.bar hbar (fun a ha h => by have := hy2 a ha; have := S5.out; omega), fun a ha => by have := hy1 a ha; have := S5.out; omega, fun a ha => by have := hy2 a ha; have := S5.out; omega⟩
  have hb3 : Below w.heap.size w w3 := BB.out.trans (b3.mono BB.out.size)
  have F : Hid (DkP w Dr err (.returned (.tuple #[.agg #[.int .i64 Dr.size, .slice pE2 nE2 cE2, .slice pW2 nW2 cW2, .int .i64 Dr.fuse, .bool Dr.down], .int .i64 err])) WF) := Lib.hid (DkP.mk rfl hDA (hb3.trans (hbar.below (fun k _ h => by omega) hb3.size)))
  have HWF := Lib.hid hWF
  clear hl1 hx1 hl2 hx2 hy1 hy2 b3 hb3 hR hWF hbar hDA HA HA2 HA3 HA5
  go_wp2_with fail
  (try simp only [Exit.inBlock, Exit.then])
  refine bodyPost_ret (v := .tuple #[.agg #[.int .i64 Dr.size, .slice pE2 nE2 cE2, .slice pW2 nW2 cW2, .int .i64 Dr.fuse, .bool Dr.down], .int .i64 err]) ?_ rfl ?_
  · rw [results_cell_tmp rfl]
    go_simp
  · rw [← HWF.out]
    exact F.out
end Go.Proofs.Ytgpheofdeflhdaa.Dk

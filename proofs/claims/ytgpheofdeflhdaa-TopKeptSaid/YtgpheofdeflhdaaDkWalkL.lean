/- The walk of Write. -/
import Derived.Test.YtgpheofdeflhdaaDkWalkK
import Derived.Conc.MuLone
namespace Go.Proofs.Ytgpheofdeflhdaa.Dk
open Go.RowKit Go.Op

theorem lim_of {z : Int} {E : List Ext} {L : List Wr} {fz : Int} {dn : Bool} (h : readyE z E L fz dn = 0) : Sorted E ∧ E.length ≤ 1000000 ∧ L.length ≤ 16384 ∧ -1 ≤ fz := by
  obtain ⟨hc, _⟩ := ready_good h
  have hg := chk_good hc
  have hEb := exR_length hg.1 hg.2.2.2.1
  exact ⟨exR_sorted hg.2.2.2.1, by omega, wtR_length hg.2.2.2.2, hg.2.2.1⟩

set_option maxHeartbeats 8000000 in
set_option maxRecDepth 100000 in
theorem Write_any (z : Int) (pE pW : Option Addr) (nE cE nW cW : Nat) (fz : Int) (dn : Bool) (E : List Ext) (L : List Wr) (nm : ByteArray) (s : Int) (d : ByteArray) (w : World) (hn : nE = E.length) (h : ExtAt w pE E) (hE : nE ≤ 9223372036854775807) (hnW : nW = L.length) (hW : WrsAt w pW L) (hLl : nW ≤ 9223372036854775807)
    (hf : fz ≤ 9223372036854775807) (h1 : nm.size ≤ 140737488355328) (h2 : d.size ≤ 140737488355328) :
    Calls Try.prog 8 #[.agg #[.int .i64 z, .slice pE nE cE, .slice pW nW cW, .int .i64 fz, .bool dn], .string nm, .int .i64 s, .string d] w (DkP w (chgD z E L fz dn (wrD z E L fz dn nm s d)) (chgE z E L fz dn (wrE E L fz nm s d))) := by
  obtain ⟨A1, hA1⟩ : ∃ A1, A1 = (w.alloc (.cells #[.int .i64 z, .slice pE nE cE, .slice pW nW cW, .int .i64 fz, .bool dn] 31)) := ⟨_, rfl⟩
  obtain ⟨A2, hA2⟩ : ∃ A2, A2 = A1.alloc (.cells #[.string nm] 9) := ⟨_, rfl⟩
  obtain ⟨A3, hA3⟩ : ∃ A3, A3 = A2.alloc (.cells #[.int .i64 s] 3) := ⟨_, rfl⟩
  obtain ⟨A4, hA4⟩ : ∃ A4, A4 = A3.alloc (.cells #[.string d] 9) := ⟨_, rfl⟩
  obtain ⟨A5, hA5⟩ : ∃ A5, A5 = A4.alloc (.cells #[.int .i64 0, .slice none 0 0, .slice none 0 0, .int .i64 0, .bool false] 31) := ⟨_, rfl⟩
  have s1 : A1.heap.size = w.heap.size + 1 := by rw [hA1]; simp
  have s2 : A2.heap.size = w.heap.size + 1 + 1 := by rw [hA2]; simp [s1]
  have s3 : A3.heap.size = w.heap.size + 1 + 1 + 1 := by rw [hA3]; simp [s2]
  have s4 : A4.heap.size = w.heap.size + 1 + 1 + 1 + 1 := by rw [hA4]; simp [s3]
  have s5 : A5.heap.size = w.heap.size + 1 + 1 + 1 + 1 + 1 := by rw [hA5]; simp [s4]
  have b1 : Below w.heap.size w A1 := by rw [hA1]; exact (Below.refl _ _).alloc (Nat.le_refl _) _
  have b2 : Below A1.heap.size A1 A2 := by rw [hA2]; exact (Below.refl _ _).alloc (Nat.le_refl _) _
  have b3 : Below A2.heap.size A2 A3 := by rw [hA3]; exact (Below.refl _ _).alloc (Nat.le_refl _) _
  have b4 : Below A3.heap.size A3 A4 := by rw [hA4]; exact (Below.refl _ _).alloc (Nat.le_refl _) _
  have b5 : Below A4.heap.size A4 A5 := by rw [hA5]; exact (Below.refl _ _).alloc (Nat.le_refl _) _
  have x1 : Boxed A5 (w.heap.size + 1) [.string nm] := by
    have := Boxed.new A1 #[.string nm] 9
    rw [← hA2, s1] at this
    exact ((this.below b3).below b4).below b5
  have x2 : Boxed A5 (w.heap.size + 1 + 1) [.int .i64 s] := by
    have := Boxed.new A2 #[.int .i64 s] 3
    rw [← hA3, s2] at this
    exact (this.below b4).below b5
  have x3 : Boxed A5 (w.heap.size + 1 + 1 + 1) [.string d] := by
    have := Boxed.new A3 #[.string d] 9
    rw [← hA4, s3] at this
    exact this.below b5
  have x4 : Boxed A5 (w.heap.size + 1 + 1 + 1 + 1) [.int .i64 0, .slice none 0 0, .slice none 0 0, .int .i64 0, .bool false] := by
    have := Boxed.new A4 #[.int .i64 0, .slice none 0 0, .slice none 0 0, .int .i64 0, .bool false] 31
    rw [← hA5, s4] at this
    exact this
  have bb : Below w.heap.size w A5 := b1.trans ((b2.mono (by omega)).trans ((b3.mono (by omega)).trans ((b4.mono (by omega)).trans (b5.mono (by omega)))))
  have okE := h.ok; have okW := hW.ok
  have hst : readyE z E L fz dn = 0 → ∀ C W g gE gW, A5.heap.size ≤ C → Below A5.heap.size A5 W → C ≤ W.heap.size → Bg C W g gE gW z E L fz dn → Calls Try.prog 21 (#[.pointer (some ⟨g, 0, none⟩)] ++ #[.pointer (some ⟨w.heap.size + 1, 0, none⟩), .pointer (some ⟨w.heap.size + 1 + 1, 0, none⟩), .pointer (some ⟨w.heap.size + 1 + 1 + 1, 0, none⟩)]) W fun e W' => e = .returned (.int .i64 (wrE E L fz nm s d)) ∧ WorkAt W' C g (wrD z E L fz dn nm s d) ∧ Below C W W' := by
    intro hr C W g gE gW hC hb hCW hbg
    obtain ⟨l1, l2, _, l4⟩ := lim_of hr
    exact writeStep_any z E L fz dn C g gE gW _ _ _ nm s d W hbg hCW l1 l2 okE okW l4 hf h1 h2 ((x1.below hb).cell 0 (by simp)) ((x2.below hb).cell 0 (by simp)) ((x3.below hb).cell 0 (by simp))
  have hcf : ∀ args W, (callFunc 21 args).run Try.prog W = .ok (.enter 21 args) W := fun args W => MuLone.run_callFunc_enter (P := Try.prog) Try.func21 (by kernel_rfl) rfl args W
  obtain ⟨Dr, hDr⟩ : ∃ Dr, Dr = chgD z E L fz dn (wrD z E L fz dn nm s d) := ⟨_, rfl⟩
  obtain ⟨err, herr⟩ : ∃ err, err = chgE z E L fz dn (wrE E L fz nm s d) := ⟨_, rfl⟩
  have HCH := Lib.hid (change_any z pE pW nE cE nW cW fz dn E L 21 _ (wrD z E L fz dn nm s d) (wrE E L fz nm s d) A5 hn (h.below bb) hE hnW (hW.below bb) hLl hcf hst Dr err (by rw [hDr, herr]; exact chg_eq _ _ _ _ _ _ _))
  rw [← hDr, ← herr]
  have X4 := Lib.hid x4; have BB := Lib.hid bb; have S5 := Lib.hid s5
  have HA := Lib.hid hA1; have HA2 := Lib.hid hA2; have HA3 := Lib.hid hA3; have HA4 := Lib.hid hA4; have HA5 := Lib.hid hA5
  clear hn h hnW hW okE okW hst hcf hDr herr x1 x2 x3 x4 bb b1 b2 b3 b4 b5 s1 s2 s3 s4 s5 hA1 hA2 hA3 hA4 hA5
  go_enter Try.func8, Try.ntmps8
  go_wp2_with fail
  rw [← HA.out, ← HA2.out, ← HA3.out, ← HA4.out, ← HA5.out]
  refine HCH.out.mono ?_
  rintro e w3 ⟨v, rfl, ⟨pE2, nE2, cE2, pW2, nW2, cW2, rfl, hl1, hx1, hl2, hx2, hy1, hy2⟩, b3⟩
  have hR := X4.out.below b3
  have p0 : w3.cell? ⟨w.heap.size + 1 + 1 + 1 + 1, 0, none⟩ = some (.int .i64 0) := hR.cell 0 (by simp)
  have p1 : w3.cell? ⟨w.heap.size + 1 + 1 + 1 + 1, 1, none⟩ = some (.slice none 0 0) := hR.cell 1 (by simp)
  have p2 : w3.cell? ⟨w.heap.size + 1 + 1 + 1 + 1, 2, none⟩ = some (.slice none 0 0) := hR.cell 2 (by simp)
  have p3 : w3.cell? ⟨w.heap.size + 1 + 1 + 1 + 1, 3, none⟩ = some (.int .i64 0) := hR.cell 3 (by simp)
  have p4 : w3.cell? ⟨w.heap.size + 1 + 1 + 1 + 1, 4, none⟩ = some (.bool false) := hR.cell 4 (by simp)
  have f0 : w3.frozen? ⟨w.heap.size + 1 + 1 + 1 + 1, 0, none⟩ = false := hR.free 0 (by simp)
  have f1 : w3.frozen? ⟨w.heap.size + 1 + 1 + 1 + 1, 1, none⟩ = false := hR.free 1 (by simp)
  have f2 : w3.frozen? ⟨w.heap.size + 1 + 1 + 1 + 1, 2, none⟩ = false := hR.free 2 (by simp)
  have f3 : w3.frozen? ⟨w.heap.size + 1 + 1 + 1 + 1, 3, none⟩ = false := hR.free 3 (by simp)
  have f4 : w3.frozen? ⟨w.heap.size + 1 + 1 + 1 + 1, 4, none⟩ = false := hR.free 4 (by simp)
  obtain ⟨WF, hWF⟩ : ∃ WF, WF = ((((w3.setCell ⟨w.heap.size + 1 + 1 + 1 + 1, 0, none⟩ (.int .i64 Dr.size)).setCell ⟨w.heap.size + 1 + 1 + 1 + 1, 1, none⟩ (.slice pE2 nE2 cE2)).setCell ⟨w.heap.size + 1 + 1 + 1 + 1, 2, none⟩ (.slice pW2 nW2 cW2)).setCell ⟨w.heap.size + 1 + 1 + 1 + 1, 3, none⟩ (.int .i64 Dr.fuse)).setCell ⟨w.heap.size + 1 + 1 + 1 + 1, 4, none⟩ (.bool Dr.down) := ⟨_, rfl⟩
  have hbar : Bar w3 WF (fun k => k = w.heap.size + 1 + 1 + 1 + 1) := by
    rw [hWF]
    exact (((((Bar.refl w3 (fun k => k = w.heap.size + 1 + 1 + 1 + 1)).setCell rfl _).setCell rfl _).setCell rfl _).setCell rfl _).setCell rfl _
  have hDA : DiskAt WF w.heap.size (.agg #[.int .i64 Dr.size, .slice pE2 nE2 cE2, .slice pW2 nW2 cW2, .int .i64 Dr.fuse, .bool Dr.down]) Dr :=
    ⟨pE2, nE2, cE2, pW2, nW2, cW2, rfl, hl1, hx1.bar hbar (fun a ha h => by have := hy1 a ha; have := S5.out; omega), hl2, hx2.bar hbar (fun a ha h => by have := hy2 a ha; have := S5.out; omega), fun a ha => by have := hy1 a ha; have := S5.out; omega, fun a ha => by have := hy2 a ha; have := S5.out; omega⟩
  have hb3 : Below w.heap.size w w3 := BB.out.trans (b3.mono BB.out.size)
  have F : Hid (DkP w Dr err (.returned (.tuple #[.agg #[.int .i64 Dr.size, .slice pE2 nE2 cE2, .slice pW2 nW2 cW2, .int .i64 Dr.fuse, .bool Dr.down], .int .i64 err])) WF) := Lib.hid (DkP.mk rfl hDA (hb3.trans (hbar.below (fun k _ h => by omega) hb3.size)))
  have HWF := Lib.hid hWF
  clear hl1 hx1 hl2 hx2 hy1 hy2 b3 hb3 hR hWF hbar hDA HA HA2 HA3 HA4 HA5
  go_wp2_with fail
  (try simp only [Exit.inBlock, Exit.then])
  refine bodyPost_ret (v := .tuple #[.agg #[.int .i64 Dr.size, .slice pE2 nE2 cE2, .slice pW2 nW2 cW2, .int .i64 Dr.fuse, .bool Dr.down], .int .i64 err]) ?_ rfl ?_
  · rw [results_cell_tmp rfl]
    go_simp
  · rw [← HWF.out]
    exact F.out
end Go.Proofs.Ytgpheofdeflhdaa.Dk

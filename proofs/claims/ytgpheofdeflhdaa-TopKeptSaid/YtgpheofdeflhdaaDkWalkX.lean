/- The walk of Sync. -/
import Derived.Test.YtgpheofdeflhdaaDkWalkL
import Derived.Test.YtgpheofdeflhdaaDkWalkW
import Derived.Conc.MuLone
namespace Go.Proofs.Ytgpheofdeflhdaa.Dk
open Go.RowKit Go.Op

theorem wtR_all {E : List Ext} {L : List Wr} (h : wtR E L = true) : L.all (wrOk E) = true := by
  unfold wtR at h
  rw [Bool.and_eq_true] at h
  exact h.2
theorem all_ready {z : Int} {E : List Ext} {L : List Wr} {fz : Int} {dn : Bool} (h : readyE z E L fz dn = 0) : L.all (wrOk E) = true := wtR_all (chk_good (ready_good h).1).2.2.2.2
def synD (z : Int) (E : List Ext) (L : List Wr) (fz : Int) (dn : Bool) : Dsk := ⟨z, setlE (fun _ => true) 0 L E, [], fz, dn⟩
theorem sync11_any (i : Nat) (w : World) : Calls Try.prog 25 #[.int .i64 i] w fun e w' => e = .returned (.bool true) ∧ Below w.heap.size w w' := by
  go_enter Try.func25, Try.ntmps25
  go_wp2
  go_ret
  exact ⟨rfl, Below.refl _ _⟩
set_option maxHeartbeats 4000000 in
set_option maxRecDepth 100000 in
theorem syncStep_any (z : Int) (E : List Ext) (L : List Wr) (fz : Int) (dn : Bool) (C g gE gW : Nat) (w : World) (hbg : Bg C w g gE gW z E L fz dn) (hC : C ≤ w.heap.size)
    (hs : Sorted E) (hE : E.length ≤ 1000000) (hL : L.length ≤ 1000000) (oE : EOk E) (oW : WOk L) (hok : L.all (wrOk E) = true) :
    Calls Try.prog 23 #[.pointer (some ⟨g, 0, none⟩)] w (StP C g w (synD z E L fz dn) 0) := by
  obtain ⟨ge, n1, n2, _, box, rowE, rowW⟩ := hbg
  have hcf : ∀ args W, (callFunc 25 args).run Try.prog W = .ok (.enter 25 args) W := fun args W => MuLone.run_callFunc_enter (P := Try.prog) Try.func25 (by kernel_rfl) rfl args W
  have gE1 := rowE.lt gE rfl
  have HS := Lib.hid (settle_any (fun _ => true) z E L fz dn C g gE gW E.length (E.length + 1) L.length (L.length + 1) _ 25 #[] w rfl rfl box n1 n2 rowE rowW hE hL oE oW hs hok hcf (fun W _ i _ => sync11_any i W))
  have GE := Lib.hid ge; have GE1 := Lib.hid gE1; have HC := Lib.hid hC
  clear ge n1 n2 box rowE rowW hcf oE oW hs hok gE1 hC
  go_enter Try.func23, Try.ntmps23
  go_wp2_with fail
  refine HS.out.mono ?_
  rintro e w1 ⟨rfl, bx, row, hl, ok, hbar⟩
  have F : Hid (StP C g w (synD z E L fz dn) 0 (.returned (.int .i64 0)) w1) := Lib.hid ⟨rfl, ⟨_, _, _, none, 0, 0, _, bx, hl.symm, extAt_own row ok, rfl, wrsAt_nil _ _, fun a ha => by cases ha; exact (row.lt gE rfl).1, fun a ha => by cases ha⟩, hbar.below (fun k _ h => by have := GE.out; have := GE1.out; omega) HC.out⟩
  clear bx row hl ok hbar
  go_wp2_with fail
  go_ret
  exact F.out

set_option maxHeartbeats 8000000 in
set_option maxRecDepth 100000 in
theorem Sync_any (z : Int) (pE pW : Option Addr) (nE cE nW cW : Nat) (fz : Int) (dn : Bool) (E : List Ext) (L : List Wr)  (w : World) (hn : nE = E.length) (h : ExtAt w pE E) (hE : nE ≤ 9223372036854775807) (hnW : nW = L.length) (hW : WrsAt w pW L) (hLl : nW ≤ 9223372036854775807) :
    Calls Try.prog 9 #[.agg #[.int .i64 z, .slice pE nE cE, .slice pW nW cW, .int .i64 fz, .bool dn]] w (DkP w (chgD z E L fz dn (synD z E L fz dn)) (chgE z E L fz dn (0))) := by
  obtain ⟨A1, hA1⟩ : ∃ A1, A1 = (w.alloc (.cells #[.int .i64 z, .slice pE nE cE, .slice pW nW cW, .int .i64 fz, .bool dn] 31)) := ⟨_, rfl⟩
  obtain ⟨A2, hA2⟩ : ∃ A2, A2 = A1.alloc (.cells #[.int .i64 0, .slice none 0 0, .slice none 0 0, .int .i64 0, .bool false] 31) := ⟨_, rfl⟩
  have s1 : A1.heap.size = w.heap.size + 1 := by rw [hA1]; simp
  have s2 : A2.heap.size = w.heap.size + 1 + 1 := by rw [hA2]; simp [s1]
  have b1 : Below w.heap.size w A1 := by rw [hA1]; exact (Below.refl _ _).alloc (Nat.le_refl _) _
  have b2 : Below A1.heap.size A1 A2 := by rw [hA2]; exact (Below.refl _ _).alloc (Nat.le_refl _) _
  have x1 : Boxed A2 (w.heap.size + 1) [.int .i64 0, .slice none 0 0, .slice none 0 0, .int .i64 0, .bool false] := by
    have := Boxed.new A1 #[.int .i64 0, .slice none 0 0, .slice none 0 0, .int .i64 0, .bool false] 31
    rw [← hA2, s1] at this
    exact this
  have bb : Below w.heap.size w A2 := b1.trans (b2.mono (by omega))
  have okE := h.ok; have okW := hW.ok
  have hst : readyE z E L fz dn = 0 → ∀ C W g gE gW, A2.heap.size ≤ C → Below A2.heap.size A2 W → C ≤ W.heap.size → Bg C W g gE gW z E L fz dn → Calls Try.prog 23 (#[.pointer (some ⟨g, 0, none⟩)] ++ #[]) W fun e W' => e = .returned (.int .i64 (0)) ∧ WorkAt W' C g (synD z E L fz dn) ∧ Below C W W' := by
    intro hr C W g gE gW hC hb hCW hbg
    obtain ⟨l1, l2, l3, l4⟩ := lim_of hr
    exact syncStep_any z E L fz dn C g gE gW W hbg hCW l1 l2 (by omega) okE okW (all_ready hr)
  have hcf : ∀ args W, (callFunc 23 args).run Try.prog W = .ok (.enter 23 args) W := fun args W => MuLone.run_callFunc_enter (P := Try.prog) Try.func23 (by kernel_rfl) rfl args W
  obtain ⟨Dr, hDr⟩ : ∃ Dr, Dr = chgD z E L fz dn (synD z E L fz dn) := ⟨_, rfl⟩
  obtain ⟨err, herr⟩ : ∃ err, err = chgE z E L fz dn (0) := ⟨_, rfl⟩
  have HCH := Lib.hid (change_any z pE pW nE cE nW cW fz dn E L 23 _ (synD z E L fz dn) (0) A2 hn (h.below bb) hE hnW (hW.below bb) hLl hcf hst Dr err (by rw [hDr, herr]; exact chg_eq _ _ _ _ _ _ _))
  rw [← hDr, ← herr]
  have X4 := Lib.hid x1; have BB := Lib.hid bb; have S5 := Lib.hid s2
  have HA1 := Lib.hid hA1; have HA2 := Lib.hid hA2
  clear hn h hnW hW okE okW hst hcf hDr herr x1 bb b1 s1 hA1 b2 s2 hA2
  go_enter Try.func9, Try.ntmps9
  go_wp2_with fail
  rw [← HA1.out, ← HA2.out]
  refine HCH.out.mono ?_
  rintro e w3 ⟨v, rfl, ⟨pE2, nE2, cE2, pW2, nW2, cW2, rfl, hl1, hx1, hl2, hx2, hy1, hy2⟩, b3⟩
  have hR := X4.out.below b3
  have p0 : w3.cell? ⟨w.heap.size + 1, 0, none⟩ = some (.int .i64 0) := hR.cell 0 (by simp)
  have p1 : w3.cell? ⟨w.heap.size + 1, 1, none⟩ = some (.slice none 0 0) := hR.cell 1 (by simp)
  have p2 : w3.cell? ⟨w.heap.size + 1, 2, none⟩ = some (.slice none 0 0) := hR.cell 2 (by simp)
  have p3 : w3.cell? ⟨w.heap.size + 1, 3, none⟩ = some (.int .i64 0) := hR.cell 3 (by simp)
  have p4 : w3.cell? ⟨w.heap.size + 1, 4, none⟩ = some (.bool false) := hR.cell 4 (by simp)
  have f0 : w3.frozen? ⟨w.heap.size + 1, 0, none⟩ = false := hR.free 0 (by simp)
  have f1 : w3.frozen? ⟨w.heap.size + 1, 1, none⟩ = false := hR.free 1 (by simp)
  have f2 : w3.frozen? ⟨w.heap.size + 1, 2, none⟩ = false := hR.free 2 (by simp)
  have f3 : w3.frozen? ⟨w.heap.size + 1, 3, none⟩ = false := hR.free 3 (by simp)
  have f4 : w3.frozen? ⟨w.heap.size + 1, 4, none⟩ = false := hR.free 4 (by simp)
  obtain ⟨WF, hWF⟩ : ∃ WF, WF = (((((w3.setCell ⟨w.heap.size + 1, 0, none⟩ (.int .i64 Dr.size)).setCell ⟨w.heap.size + 1, 1, none⟩ (.slice pE2 nE2 cE2)).setCell ⟨w.heap.size + 1, 2, none⟩ (.slice pW2 nW2 cW2)).setCell ⟨w.heap.size + 1, 3, none⟩ (.int .i64 Dr.fuse)).setCell ⟨w.heap.size + 1, 4, none⟩ (.bool Dr.down)) := ⟨_, rfl⟩
  have hbar : Bar w3 WF (fun k => k = w.heap.size + 1) := by
    rw [hWF]
    exact (((((Bar.refl w3 (fun k => k = w.heap.size + 1)).setCell rfl _).setCell rfl _).setCell rfl _).setCell rfl _).setCell rfl _
  have hDA : DiskAt WF w.heap.size (.agg #[.int .i64 Dr.size, .slice pE2 nE2 cE2, .slice pW2 nW2 cW2, .int .i64 Dr.fuse, .bool Dr.down]) Dr :=
    ⟨pE2, nE2, cE2, pW2, nW2, cW2, rfl, hl1, hx1.bar hbar (fun a ha h => by have := hy1 a ha; have := S5.out; omega), hl2, hx2.bar hbar (fun a ha h => by have := hy2 a ha; have := S5.out; omega), fun a ha => by have := hy1 a ha; have := S5.out; omega, fun a ha => by have := hy2 a ha; have := S5.out; omega⟩
  have hb3 : Below w.heap.size w w3 := BB.out.trans (b3.mono BB.out.size)
  have F : Hid (DkP w Dr err (.returned (.tuple #[.agg #[.int .i64 Dr.size, .slice pE2 nE2 cE2, .slice pW2 nW2 cW2, .int .i64 Dr.fuse, .bool Dr.down], .int .i64 err])) WF) := Lib.hid (DkP.mk rfl hDA (hb3.trans (hbar.below (fun k _ h => by omega) hb3.size)))
  have HWF := Lib.hid hWF
  clear hl1 hx1 hl2 hx2 hy1 hy2 b3 hb3 hR hWF hbar hDA HA1 HA2
  go_wp2_with fail
  (try simp only [Exit.inBlock, Exit.then])
  refine bodyPost_ret (v := .tuple #[.agg #[.int .i64 Dr.size, .slice pE2 nE2 cE2, .slice pW2 nW2 cW2, .int .i64 Dr.fuse, .bool Dr.down], .int .i64 err]) ?_ rfl ?_
  · rw [results_cell_tmp rfl]
    go_simp
  · rw [← HWF.out]
    exact F.out
end Go.Proofs.Ytgpheofdeflhdaa.Dk

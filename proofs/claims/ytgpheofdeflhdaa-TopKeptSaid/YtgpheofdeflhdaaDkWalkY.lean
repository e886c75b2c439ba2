/- The walk of Crash. -/
import Derived.Test.YtgpheofdeflhdaaDkWalkX
import Derived.Test.YtgpheofdeflhdaaRd
namespace Go.Proofs.Ytgpheofdeflhdaa.Dk
open Go.RowKit Go.Op

def bools (K : List Bool) : List Value := K.map Value.bool
theorem bools_getD (K : List Bool) (i : Nat) (h : i < K.length) : (bools K).getD i (.bool false) = .bool (K.getD i false) := by
  simp [bools, List.getD_eq_getElem?_getD, List.getElem?_eq_getElem h]
def kpK (K : List Bool) (i : Nat) : Bool := K.getD i false
set_option maxHeartbeats 4000000 in
set_option maxRecDepth 100000 in
theorem crash1_any (K : List Bool) (pK : Option Addr) (nK cK i b : Nat) (w : World) (hn : nK = K.length) (hK : Rw.Rd w pK (bools K)) (q : w.cell? ⟨b, 0, none⟩ = some (.slice pK nK cK)) (hi : i ≤ 1000000000) :
    Calls Try.prog 27 #[.int .i64 i, .pointer (some ⟨b, 0, none⟩)] w fun e w' => e = .returned (.bool (kpK K i)) ∧ Below w.heap.size w w' := by
  by_cases hlt : i < nK
  · obtain ⟨a, rfl, hl, hc⟩ := hK i (by simp [bools]; omega)
    rw [bools_getD K i (by omega)] at hc
    obtain ⟨v, hv⟩ : ∃ v, v = K.getD i false := ⟨_, rfl⟩
    have F : Hid (v = kpK K i) := Lib.hid hv
    rw [← hv] at hc
    have t1 : decide ((i : Int) < (nK : Int)) = true := decide_eq_true (by omega)
    have m0 : (0 : Int) ≤ (i : Int) := by omega
    have m1 : (i : Int) < (nK : Int) := by omega
    clear hv hn hK
    go_enter Try.func27, Try.ntmps27
    go_wp2_with fail
    go_ret
    exact ⟨ret_bool F.out, Below.refl _ _⟩
  · have F : Hid (false = kpK K i) := Lib.hid (by
      unfold kpK
      rw [List.getD_eq_getElem?_getD, List.getElem?_eq_none (by omega)]
      rfl)
    have t1 : decide ((i : Int) < (nK : Int)) = false := decide_eq_false (by omega)
    clear hn hK
    go_enter Try.func27, Try.ntmps27
    go_wp2_with fail
    go_ret
    exact ⟨ret_bool F.out, Below.refl _ _⟩

def craD (z : Int) (E : List Ext) (L : List Wr) (fz : Int) (K : List Bool) : Dsk := if chkE z E L fz = 0 then ⟨z, setlE (kpK K) 0 L E, [], -1, false⟩ else Dsk0
set_option maxHeartbeats 8000000 in
set_option maxRecDepth 100000 in
theorem Crash_any (z : Int) (pE pW : Option Addr) (nE cE nW cW : Nat) (fz : Int) (dn : Bool) (E : List Ext) (L : List Wr) (K : List Bool) (pK : Option Addr) (nK cK : Nat) (w : World) (hn : nE = E.length) (h : ExtAt w pE E) (hE : nE ≤ 9223372036854775807) (hnW : nW = L.length) (hW : WrsAt w pW L) (hLl : nW ≤ 9223372036854775807)
    (hnK : nK = K.length) (hK : Rw.Rd w pK (bools K)) :
    Calls Try.prog 10 #[.agg #[.int .i64 z, .slice pE nE cE, .slice pW nW cW, .int .i64 fz, .bool dn], .slice pK nK cK] w (DkP w (craD z E L fz K) (chkE z E L fz)) := by
  obtain ⟨A1, hA1⟩ : ∃ A1, A1 = (w.alloc (.cells #[.int .i64 z, .slice pE nE cE, .slice pW nW cW, .int .i64 fz, .bool dn] 31)) := ⟨_, rfl⟩
  obtain ⟨A2, hA2⟩ : ∃ A2, A2 = A1.alloc (.cells #[.slice pK nK cK] 24) := ⟨_, rfl⟩
  obtain ⟨A3, hA3⟩ : ∃ A3, A3 = A2.alloc (.cells #[.int .i64 0, .slice none 0 0, .slice none 0 0, .int .i64 0, .bool false] 31) := ⟨_, rfl⟩
  have s1 : A1.heap.size = w.heap.size + 1 := by rw [hA1]; simp
  have s2 : A2.heap.size = w.heap.size + 1 + 1 := by rw [hA2]; simp [s1]
  have s3 : A3.heap.size = w.heap.size + 1 + 1 + 1 := by rw [hA3]; simp [s2]
  have b1 : Below w.heap.size w A1 := by rw [hA1]; exact (Below.refl _ _).alloc (Nat.le_refl _) _
  have b2 : Below A1.heap.size A1 A2 := by rw [hA2]; exact (Below.refl _ _).alloc (Nat.le_refl _) _
  have b3 : Below A2.heap.size A2 A3 := by rw [hA3]; exact (Below.refl _ _).alloc (Nat.le_refl _) _
  have x0 : Boxed A3 w.heap.size [.int .i64 z, .slice pE nE cE, .slice pW nW cW, .int .i64 fz, .bool dn] := by
    have := Boxed.new w #[.int .i64 z, .slice pE nE cE, .slice pW nW cW, .int .i64 fz, .bool dn] 31
    rw [← hA1] at this
    exact (this.below b2).below b3
  have x1 : Boxed A3 (w.heap.size + 1) [.slice pK nK cK] := by
    have := Boxed.new A1 #[.slice pK nK cK] 24
    rw [← hA2, s1] at this
    exact this.below b3
  have x2 : Boxed A3 (w.heap.size + 1 + 1) [.int .i64 0, .slice none 0 0, .slice none 0 0, .int .i64 0, .bool false] := by
    have := Boxed.new A2 #[.int .i64 0, .slice none 0 0, .slice none 0 0, .int .i64 0, .bool false] 31
    rw [← hA3, s2] at this
    exact this
  have bb : Below w.heap.size w A3 := b1.trans ((b2.mono (by omega)).trans (b3.mono (by omega)))
  obtain ⟨r, hr⟩ : ∃ r, r = chkE z E L fz := ⟨_, rfl⟩
  have HCK := Lib.hid (check_any z pE pW nE cE nW cW fz dn E L A3 hn (h.below bb) hE hnW (hW.below bb) hLl)
  rw [← hr] at HCK ⊢
  have q0 : A3.cell? ⟨w.heap.size, 0, none⟩ = some (.int .i64 z) := x0.cell 0 (by simp)
  have HX0 := Lib.hid x0; have HX1 := Lib.hid x1; have HX2 := Lib.hid x2; have BB := Lib.hid bb; have S3 := Lib.hid s3
  have HE := Lib.hid (h.below bb); have HN := Lib.hid hn; have HW := Lib.hid (hW.below bb); have HNW := Lib.hid hnW; have HKK := Lib.hid (hK.below bb); have HNK := Lib.hid hnK
  have OKE := Lib.hid h.ok; have OKW := Lib.hid hW.ok
  have HA1 := Lib.hid hA1; have HA2 := Lib.hid hA2; have HA3 := Lib.hid hA3
  by_cases h2 : r = 0
  case neg =>
    have hr2 : r = 2 := by
      rw [hr] at h2 ⊢
      unfold chkE at h2 ⊢
      split
      · rename_i h3; rw [if_pos h3] at h2; exact absurd rfl h2
      · rfl
    subst hr2
    have FD : Hid (craD z E L fz K = Dsk0) := Lib.hid (by unfold craD; rw [← hr, if_neg h2])
    clear hn h hnW hW hnK hK x0 x1 x2 bb b1 b2 b3 s1 s2 s3 hA1 hA2 hA3 hr h2 q0
    go_enter Try.func10, Try.ntmps10
    go_wp2_with fail
    rw [← HA1.out, ← HA2.out, ← HA3.out]
    refine HCK.out.mono ?_
    rintro e w1 ⟨rfl, b1⟩
    have B := Lib.hid (BB.out.trans (b1.mono BB.out.size))
    have e1 := HX2.out.below b1
    have p0 : w1.cell? ⟨w.heap.size + 1 + 1, 0, none⟩ = some (.int .i64 0) := e1.cell 0 (by simp)
    have p1 : w1.cell? ⟨w.heap.size + 1 + 1, 1, none⟩ = some (.slice none 0 0) := e1.cell 1 (by simp)
    have p2 : w1.cell? ⟨w.heap.size + 1 + 1, 2, none⟩ = some (.slice none 0 0) := e1.cell 2 (by simp)
    have p3 : w1.cell? ⟨w.heap.size + 1 + 1, 3, none⟩ = some (.int .i64 0) := e1.cell 3 (by simp)
    have p4 : w1.cell? ⟨w.heap.size + 1 + 1, 4, none⟩ = some (.bool false) := e1.cell 4 (by simp)
    have f0 : w1.frozen? ⟨w.heap.size + 1 + 1, 0, none⟩ = false := e1.free 0 (by simp)
    have f1 : w1.frozen? ⟨w.heap.size + 1 + 1, 1, none⟩ = false := e1.free 1 (by simp)
    have f2 : w1.frozen? ⟨w.heap.size + 1 + 1, 2, none⟩ = false := e1.free 2 (by simp)
    have f3 : w1.frozen? ⟨w.heap.size + 1 + 1, 3, none⟩ = false := e1.free 3 (by simp)
    have f4 : w1.frozen? ⟨w.heap.size + 1 + 1, 4, none⟩ = false := e1.free 4 (by simp)
    clear b1 e1
    go_wp2_with fail
    (try simp only [Exit.inBlock, Exit.then])
    refine bodyPost_ret (v := .tuple #[.agg #[.int .i64 0, .slice none 0 0, .slice none 0 0, .int .i64 0, .bool false], .int .i64 2]) ?_ rfl ?_
    · rw [results_cell_tmp rfl]
      go_simp
    · rw [FD.out]
      refine DkP.mk rfl ⟨none, 0, 0, none, 0, 0, rfl, rfl, extAt_nil _ _, rfl, wrsAt_nil _ _, fun _ h => (by cases h), fun _ h => (by cases h)⟩ ?_
      have hle : w.heap.size ≤ w.heap.size + 1 + 1 := by omega
      exact ((((B.out.setCell hle _).setCell hle _).setCell hle _).setCell hle _).setCell hle _
  case pos =>
    subst h2
    have hc : chkB z E L fz = true := by
      cases hc : chkB z E L fz with
      | true => rfl
      | false => have := chk_bad hc; rw [← this] at hr; omega
    have hg := chk_good hc
    have hEb := exR_length hg.1 hg.2.2.2.1
    have hs := exR_sorted hg.2.2.2.1
    have hall := wtR_all hg.2.2.2.2
    have hE9 : nE ≤ 1000000 := by rw [hn]; omega
    have hW9 : nW ≤ 1000000 := by rw [hnW]; have := wtR_length hg.2.2.2.2; omega
    have FD : Hid (craD z E L fz K = ⟨z, setlE (kpK K) 0 L E, [], -1, false⟩) := Lib.hid (by unfold craD; rw [← hr, if_pos rfl])
    have HS := Lib.hid hs; have HALL := Lib.hid hall
    have q1 : A3.cell? ⟨w.heap.size, 1, none⟩ = some (.slice pE nE cE) := x0.cell 1 (by simp)
    clear hn h hnW hW hnK hK x0 x1 x2 bb b1 b2 b3 s1 s2 s3 hA1 hA2 hA3 hr hc hg hEb hs hall q0 q1
    go_enter Try.func10, Try.ntmps10
    go_wp2_with fail
    rw [← HA1.out, ← HA2.out, ← HA3.out]
    refine HCK.out.mono ?_
    rintro e w1 ⟨rfl, b1⟩
    have hb := HX0.out.below b1
    have q0 : w1.cell? ⟨w.heap.size, 0, none⟩ = some (.int .i64 z) := hb.cell 0 (by simp)
    have q1 : w1.cell? ⟨w.heap.size, 1, none⟩ = some (.slice pE nE cE) := hb.cell 1 (by simp)
    have q2 : w1.cell? ⟨w.heap.size, 2, none⟩ = some (.slice pW nW cW) := hb.cell 2 (by simp)
    have q3 : w1.cell? ⟨w.heap.size, 3, none⟩ = some (.int .i64 fz) := hb.cell 3 (by simp)
    have q4 : w1.cell? ⟨w.heap.size, 4, none⟩ = some (.bool dn) := hb.cell 4 (by simp)
    have B1 := Lib.hid (BB.out.trans (b1.mono BB.out.size))
    have HE1 := Lib.hid (HE.out.below b1); have HW1 := Lib.hid (HW.out.below b1); have HK1 := Lib.hid (HKK.out.below b1)
    have X1 := Lib.hid (HX1.out.below b1); have X2 := Lib.hid (HX2.out.below b1)
    have HSZ : Hid (w.heap.size + 1 + 1 < w1.heap.size) := Lib.hid (HX2.out.below b1).lt
    clear b1 hb
    go_wp2_with fail
    refine (begin_any z pE pW nE cE nW cW fz dn E L _ HN.out HE1.out hE9 HNW.out HW1.out hW9).mono ?_
    rintro e w2 ⟨g, gE, gW, rfl, ge, n1, n2, n3, box, rowE, rowW, b2⟩
    have gE1 := rowE.lt gE rfl
    have hsz2 := b2.size
    have hsz1 := HSZ.out
    have B2 := Lib.hid (B1.out.trans (b2.mono (by omega)))
    have K2 := HK1.out.below b2
    have X12 := X1.out.below b2
    have X22 := X2.out.below b2
    have hcf : ∀ args W, (callFunc 27 args).run Try.prog W = .ok (.enter 27 args) W := fun args W => MuLone.run_callFunc_enter (P := Try.prog) Try.func27 (by kernel_rfl) rfl args W
    have HST := Lib.hid (settle_any (kpK K) z E L fz dn w1.heap.size g gE gW E.length (E.length + 1) L.length (L.length + 1) _ 27 #[.pointer (some ⟨w.heap.size + 1, 0, none⟩)] w2 rfl rfl box n1 n2 rowE rowW (by rw [← HN.out]; exact hE9) (by rw [← HNW.out]; exact hW9) OKE.out OKW.out HS.out HALL.out hcf (by
      intro W hbar i hi
      refine crash1_any K pK nK cK i (w.heap.size + 1) W HNK.out ?_ ((X12.bar hbar (by omega)).cell 0 (by simp)) (by have := HNW.out; omega)
      intro j hj
      obtain ⟨a, e, hl, hcell⟩ := HK1.out j hj
      exact ⟨a, e, by have := hbar.size; omega, by
        have h1 := b2.cell (p := a.add j) (by rw [Rw.add_block]; exact hl)
        rw [hbar.cell (a := a.add j) (by rw [Rw.add_block]; omega) (by rw [Rw.add_block]; omega), h1]; exact hcell⟩))
    have GE := Lib.hid ge; have GE1 := Lib.hid gE1; have N1 := Lib.hid n1; have X23 := Lib.hid X22; have HB2 := Lib.hid b2
    clear ge n1 n2 n3 box rowE rowW b2 gE1 hsz2 hsz1 K2 X12 X22 hcf q0 q1 q2 q3 q4
    go_wp2_with fail
    refine HST.out.mono ?_
    rintro e w3 ⟨rfl, bx, row, hl, ok, hbar⟩
    obtain ⟨lE, hlE⟩ : ∃ lE, lE = E.length := ⟨_, rfl⟩
    rw [← hlE] at bx row hl
    have hR := X23.out.bar hbar (by have := HSZ.out; have := GE.out; have := GE1.out; omega)
    have p0 : w3.cell? ⟨w.heap.size + 1 + 1, 0, none⟩ = some (.int .i64 0) := hR.cell 0 (by simp)
    have p1 : w3.cell? ⟨w.heap.size + 1 + 1, 1, none⟩ = some (.slice none 0 0) := hR.cell 1 (by simp)
    have p2 : w3.cell? ⟨w.heap.size + 1 + 1, 2, none⟩ = some (.slice none 0 0) := hR.cell 2 (by simp)
    have p3 : w3.cell? ⟨w.heap.size + 1 + 1, 3, none⟩ = some (.int .i64 0) := hR.cell 3 (by simp)
    have p4 : w3.cell? ⟨w.heap.size + 1 + 1, 4, none⟩ = some (.bool false) := hR.cell 4 (by simp)
    have f0 : w3.frozen? ⟨w.heap.size + 1 + 1, 0, none⟩ = false := hR.free 0 (by simp)
    have f1 : w3.frozen? ⟨w.heap.size + 1 + 1, 1, none⟩ = false := hR.free 1 (by simp)
    have f2 : w3.frozen? ⟨w.heap.size + 1 + 1, 2, none⟩ = false := hR.free 2 (by simp)
    have f3 : w3.frozen? ⟨w.heap.size + 1 + 1, 3, none⟩ = false := hR.free 3 (by simp)
    have f4 : w3.frozen? ⟨w.heap.size + 1 + 1, 4, none⟩ = false := hR.free 4 (by simp)
    have c0 : w3.cell? ⟨g, 0, none⟩ = some (.int .i64 z) := bx.cell 0 (by simp)
    have c1 : w3.cell? ⟨g, 1, none⟩ = some (.slice (some ⟨gE, 0, none⟩) lE (lE + 1)) := bx.cell 1 (by simp)
    have c2 : w3.cell? ⟨g, 2, none⟩ = some (.slice none 0 0) := bx.cell 2 (by simp)
    have c3 : w3.cell? ⟨g, 3, none⟩ = some (.int .i64 fz) := bx.cell 3 (by simp)
    have c4 : w3.cell? ⟨g, 4, none⟩ = some (.bool dn) := bx.cell 4 (by simp)
    have g3 : w3.frozen? ⟨g, 3, none⟩ = false := bx.free 3 (by simp)
    have g4 : w3.frozen? ⟨g, 4, none⟩ = false := bx.free 4 (by simp)
    have hne : ¬ (g = w.heap.size + 1 + 1) := by have := HSZ.out; have := GE.out; omega
    have hne2 : ¬ (w.heap.size + 1 + 1 = g) := by have := HSZ.out; have := GE.out; omega
    obtain ⟨WF, hWF⟩ : ∃ WF, WF = (((((((w3.setCell ⟨g, 4, none⟩ (.bool false)).setCell ⟨g, 3, none⟩ (.int .i64 (-1))).setCell ⟨w.heap.size + 1 + 1, 0, none⟩ (.int .i64 z)).setCell ⟨w.heap.size + 1 + 1, 1, none⟩ (.slice (some ⟨gE, 0, none⟩) lE (lE + 1))).setCell ⟨w.heap.size + 1 + 1, 2, none⟩ (.slice none 0 0)).setCell ⟨w.heap.size + 1 + 1, 3, none⟩ (.int .i64 (-1))).setCell ⟨w.heap.size + 1 + 1, 4, none⟩ (.bool false)) := ⟨_, rfl⟩
    have hbz : Bar w3 WF (fun k => k = g ∨ k = w.heap.size + 1 + 1) := by
      rw [hWF]
      exact (((((((Bar.refl w3 (fun k => k = g ∨ k = w.heap.size + 1 + 1)).setCell (q := ⟨g, 4, none⟩) (Or.inl rfl) _).setCell (q := ⟨g, 3, none⟩) (Or.inl rfl) _).setCell (q := ⟨w.heap.size + 1 + 1, 0, none⟩) (Or.inr rfl) _).setCell (q := ⟨w.heap.size + 1 + 1, 1, none⟩) (Or.inr rfl) _).setCell (q := ⟨w.heap.size + 1 + 1, 2, none⟩) (Or.inr rfl) _).setCell (q := ⟨w.heap.size + 1 + 1, 3, none⟩) (Or.inr rfl) _).setCell (q := ⟨w.heap.size + 1 + 1, 4, none⟩) (Or.inr rfl) _
    have rowF := own_bar row hbz (fun k hk h => by simp [Value.ownBlock] at hk; have := N1.out; have := HSZ.out; have := GE1.out; omega)
    have hsz3 := hbar.size
    have hw1 := HSZ.out
    have hw2 := HB2.out.size
    have hbb : Below w.heap.size w w3 := (B1.out.trans (HB2.out.mono (by omega))).trans (hbar.below (fun k _ h => by have := GE.out; have := GE1.out; omega) (by omega))
    have F : Hid (DkP w (craD z E L fz K) 0 (.returned (.tuple #[.agg #[.int .i64 z, .slice (some ⟨gE, 0, none⟩) lE (lE + 1), .slice none 0 0, .int .i64 (-1), .bool false], .int .i64 0])) WF) := Lib.hid (by
      rw [FD.out]
      exact DkP.mk rfl ⟨_, _, _, none, 0, 0, rfl, hl.symm, extAt_own rowF ok, rfl, wrsAt_nil _ _, fun a ha => by cases ha; have := GE1.out; show w.heap.size ≤ gE; omega, fun a ha => by cases ha⟩ (hbb.trans (hbz.below (fun k _ h => by have := GE.out; omega) (by omega))))
    have HWF := Lib.hid hWF
    clear hWF hbz rowF hbb hsz3 hw1 hw2 hR bx row hl ok hbar hlE
    go_wp2_with fail
    (try simp only [Exit.inBlock, Exit.then])
    refine bodyPost_ret (v := .tuple #[.agg #[.int .i64 z, .slice (some ⟨gE, 0, none⟩) lE (lE + 1), .slice none 0 0, .int .i64 (-1), .bool false], .int .i64 0]) ?_ rfl ?_
    · rw [results_cell_tmp rfl]
      go_simp
    · rw [← HWF.out]
      exact F.out
end Go.Proofs.Ytgpheofdeflhdaa.Dk

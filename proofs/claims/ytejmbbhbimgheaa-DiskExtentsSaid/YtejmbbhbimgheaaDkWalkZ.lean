/- The walk of free (of a disk at work). -/
import Derived.Test.YtejmbbhbimgheaaDkWalkU
import Derived.Test.YtejmbbhbimgheaaDkTold
import Derived.Test.YtejmbbhbimgheaaRd
namespace Go.Proofs.Ytejmbbhbimgheaa.Dk
open Go.RowKit Go.Op

def strs (N : List ByteArray) : List Value := N.map Value.string
theorem strs_getD (N : List ByteArray) (i : Nat) (h : i < N.length) : (strs N).getD i (.bool false) = .string (N.getD i default) := by
  simp [strs, List.getD_eq_getElem?_getD, List.getElem?_eq_getElem h]
/-- names that may be freed, behind others -/
def frOk (E : List Ext) : List ByteArray → List ByteArray → Bool
  | _, [] => true
  | s, x :: r => isAt E x && (decide (cnt s x = 0) && frOk E (s ++ [x]) r)
def frP (N : List ByteArray) (x : ByteArray) : Bool := decide (0 < cnt N x)
def freE (E : List Ext) (N : List ByteArray) : Int := if frOk E [] N = true then 0 else 3
def freD (z : Int) (E : List Ext) (L : List Wr) (fz : Int) (dn : Bool) (N : List ByteArray) : Dsk := if frOk E [] N = true then ⟨z, keptEn (frP N) E, keptWn (frP N) L, fz, dn⟩ else ⟨z, E, L, fz, dn⟩
theorem frOk_from (E : List Ext) (N : List ByteArray) (k : Nat) (h : k < N.length) : frOk E (N.take k) (N.drop k) = (isAt E (N.getD k default) && (decide (cnt (N.take k) (N.getD k default) = 0) && frOk E (N.take (k + 1)) (N.drop (k + 1)))) := by
  have e : N.getD k default = N[k] := by simp [List.getD_eq_getElem?_getD, List.getElem?_eq_getElem h]
  rw [List.drop_eq_getElem_cons h, List.take_succ_eq_append_getElem h, e]
  rfl
theorem take_snoc (N : List ByteArray) (k : Nat) (h : k < N.length) : N.take (k + 1) = N.take k ++ [N.getD k default] := by
  rw [List.take_succ_eq_append_getElem h]; simp [List.getD_eq_getElem?_getD, List.getElem?_eq_getElem h]

set_option maxHeartbeats 4000000 in
set_option maxRecDepth 100000 in
theorem free1_any (N : List ByteArray) (T M n : Nat) (x : ByteArray) (w : World) (q : w.cell? ⟨T, 0, none⟩ = some (.map (some M))) (ht : ToldAt w M n N) (hx : x.size ≤ 140737488355328) :
    Calls Try.prog 65 #[.string x, .pointer (some ⟨T, 0, none⟩)] w fun e w' => e = .returned (.bool (frP N x)) ∧ Below w.heap.size w w' := by
  have hl := told_look ht x (by unfold maxLen; omega)
  obtain ⟨c, hc⟩ : ∃ c, c = cnt N x := ⟨_, rfl⟩
  rw [← hc] at hl
  have F : Hid (decide (0 < c) = frP N x) := Lib.hid (by unfold frP; rw [hc])
  clear ht hc
  go_enter Try.func65, Try.ntmps65
  go_wp2_with fail
  go_ret
  exact ⟨ret_bool F.out, Below.refl _ _⟩

set_option maxHeartbeats 8000000 in
set_option maxRecDepth 100000 in
theorem free_any (z : Int) (E : List Ext) (L : List Wr) (fz : Int) (dn : Bool) (C g gE gW : Nat) (N : List ByteArray) (pN : Option Addr) (nN cN : Nat) (w : World) (hbg : Bg C w g gE gW z E L fz dn) (hC : C ≤ w.heap.size)
    (hs : Sorted E) (hE : E.length ≤ 1000000) (hL : L.length ≤ 1000000) (oE : EOk E) (oW : WOk L) (hnN : nN = N.length) (hN : Rw.Rd w pN (strs N)) (hNs : ∀ i, i < N.length → (N.getD i default).size ≤ 140737488355328) (hNl : nN ≤ 140737488355328) :
    Calls Try.prog 39 #[.pointer (some ⟨g, 0, none⟩), .slice pN nN cN] w (StP C g w (freD z E L fz dn N) (freE E N)) := by
  obtain ⟨ge, n1, n2, n3, box, rowE, rowW⟩ := hbg
  obtain ⟨lE, hlE⟩ : ∃ lE, lE = E.length := ⟨_, rfl⟩
  obtain ⟨lW, hlW⟩ : ∃ lW, lW = L.length := ⟨_, rfl⟩
  rw [← hlE, ← hlW] at box
  rw [← hlE] at rowE hE
  rw [← hlW] at rowW hL
  have gE1 := rowE.lt gE rfl
  have gW1 := rowW.lt gW rfl
  have g1 := box.lt
  obtain ⟨M, hM⟩ : ∃ M, M = w.heap.size := ⟨_, rfl⟩
  obtain ⟨A1, hA1⟩ : ∃ A1, A1 = w.alloc (.map #[] 0) := ⟨_, rfl⟩
  obtain ⟨A2, hA2⟩ : ∃ A2, A2 = A1.alloc (.cells #[.map (some M)] 84) := ⟨_, rfl⟩
  have s1 : A1.heap.size = M + 1 := by rw [hA1, hM]; simp
  have s2 : A2.heap.size = M + 1 + 1 := by rw [hA2]; simp [s1]
  have b1 : Below w.heap.size w A1 := by rw [hA1]; exact (Below.refl _ _).alloc (Nat.le_refl _) _
  have b2 : Below A1.heap.size A1 A2 := by rw [hA2]; exact (Below.refl _ _).alloc (Nat.le_refl _) _
  have bb : Below w.heap.size w A2 := b1.trans (b2.mono (by omega))
  have tb : Boxed A2 (M + 1) [.map (some M)] := by
    have := Boxed.new A1 #[.map (some M)] 84
    rw [← hA2, s1] at this
    exact this
  have td : ToldAt A2 M 0 [] := by
    have := told_new w
    rw [← hA1, ← hM] at this
    exact this.below b2
  have HA : Hid ((w.alloc (.map #[] 0)).alloc (.cells #[.map (some w.heap.size)] 84) = A2) := Lib.hid (by rw [hA2, hA1, hM])
  have BX := Lib.hid (box.below bb); have RE := Lib.hid (Rw.own_below rowE bb); have RW := Lib.hid (Rw.own_below rowW bb); have HLE := Lib.hid hlE; have HLW := Lib.hid hlW; have HS := Lib.hid hs; have OE := Lib.hid oE; have OW := Lib.hid oW
  have N1 := Lib.hid n1; have N2 := Lib.hid n2; have N3 := Lib.hid n3; have GE := Lib.hid ge; have GE1 := Lib.hid gE1; have GW1 := Lib.hid gW1; have G1 := Lib.hid g1; have HC := Lib.hid hC
  have HN := Lib.hid hN; have HNN := Lib.hid hnN; have HNS := Lib.hid hNs; have TB := Lib.hid tb; have TD := Lib.hid td; have BB := Lib.hid bb; have S2 := Lib.hid s2; have HM := Lib.hid hM
  have hmm := fun W => run_makeMapN W (nN : Int)
  clear ge n1 n2 n3 box rowE rowW hlE hlW gE1 gW1 g1 hM hA1 hA2 s1 s2 b1 b2 bb tb td hs oE oW hC hnN hN hNs
  go_enter Try.func39, Try.ntmps39
  go_wp2_with fail
  rw [HA.out]
  have hMw := HM.out
  rw [← hMw]
  clear hMw
  go_loopw [7, 8, 9, 15] (fun _ _ _ i wr => ∃ (k : Nat), k ≤ nN ∧ i = .int .i64 k ∧ ToldAt wr M k (N.take k) ∧ frOk E [] N = frOk E (N.take k) (N.drop k) ∧ Bar A2 wr (fun j => j = M)) (fun _ _ _ i _ => nN - (intOf i).toNat)
  case atStart => exact ⟨0, by omega, rfl, TD.out, rfl, Bar.refl _ _⟩
  case round =>
    obtain ⟨k, hk, rfl, htd, hfr, hbar⟩ := hrel
    have hMw := HM.out
    have hs2 := S2.out
    have gl1 := G1.out
    have gl2 := GE1.out
    have gl3 := GW1.out
    have hbs := hbar.size
    have bxr := BX.out.bar hbar (by omega)
    have tbr := TB.out.bar hbar (by omega)
    have rEr := own_bar RE.out hbar (fun x hx h => by simp [Value.ownBlock] at hx; omega)
    have rWr := own_bar RW.out hbar (fun x hx h => by simp [Value.ownBlock] at hx; omega)
    have hCw : Below C w wr := (BB.out.mono HC.out).trans (hbar.below (fun j _ h => by have := HC.out; omega) (by have := HC.out; omega))
    by_cases hlt : k < nN
    · have hkN : k < N.length := by rw [← HNN.out]; exact hlt
      obtain ⟨a, rfl, hal, hac⟩ := HN.out k (by simp [strs]; exact hkN)
      rw [strs_getD N k hkN] at hac
      have hxs := HNS.out k hkN
      have hfk := frOk_from E N k hkN
      have htk := take_snoc N k hkN
      obtain ⟨x, hx⟩ : ∃ x, x = N.getD k default := ⟨_, rfl⟩
      rw [← hx] at hac hxs hfk htk
      have hacr : wr.cell? (a.add k) = some (.string x) := by
        rw [hbar.cell (a := a.add k) (by rw [Rw.add_block]; omega) (by rw [Rw.add_block]; omega), BB.out.cell (p := a.add k) (by rw [Rw.add_block]; exact hal)]
        exact hac
      obtain ⟨c, hc⟩ : ∃ c, c = cnt (N.take k) x := ⟨_, rfl⟩
      have hlen : (N.take k).length ≤ 140737488355328 := by rw [List.length_take]; omega
      have hcb := told_wf (N.take k) x hlen
      have hlook := told_look htd x (by unfold maxLen; omega)
      rw [← hc] at hlook hfk hcb
      obtain ⟨w2, hput, htd2, hbar2⟩ := told_put htd x (by unfold maxLen; omega) (by unfold maxLen; omega) hlen ((c : Int) + 1) (by rw [hc])
      rw [← htk] at htd2
      have hwr : IntKind.i64.wrap ((c : Int) + 1) = (c : Int) + 1 := IntWalk.i64_in _ (by omega)
      have hc2 : cnt (N.take (k + 1)) x = c + 1 := by rw [htk, cnt_snoc, if_pos rfl, hc]
      have bx2 := bxr.bar hbar2 (by omega)
      have tb2 := tbr.bar hbar2 (by omega)
      have rE2 := own_bar rEr hbar2 (fun j hj h => by simp [Value.ownBlock] at hj; omega)
      have rW2 := own_bar rWr hbar2 (fun j hj h => by simp [Value.ownBlock] at hj; omega)
      have hCw2 := hCw.trans (hbar2.below (B := C) (fun j _ h => by have := HC.out; omega) (by have := HC.out; omega))
      have hb2 := hbar.trans hbar2
      have q0 : wr.cell? ⟨M + 1, 0, none⟩ = some (.map (some M)) := tbr.cell 0 (by simp)
      have c0 : w2.cell? ⟨g, 0, none⟩ = some (.int .i64 z) := bx2.cell 0 (by simp)
      have c1 : w2.cell? ⟨g, 1, none⟩ = some (.slice (some ⟨gE, 0, none⟩) lE (lE + 1)) := bx2.cell 1 (by simp)
      have c2 : w2.cell? ⟨g, 2, none⟩ = some (.slice (some ⟨gW, 0, none⟩) lW (lW + 1)) := bx2.cell 2 (by simp)
      have c3 : w2.cell? ⟨g, 3, none⟩ = some (.int .i64 fz) := bx2.cell 3 (by simp)
      have c4 : w2.cell? ⟨g, 4, none⟩ = some (.bool dn) := bx2.cell 4 (by simp)
      have m0 : (0 : Int) ≤ (k : Int) := by omega
      have m1 : (k : Int) < (nN : Int) := by omega
      have HPL := Lib.hid (place_any z (some ⟨gE, 0, none⟩) (some ⟨gW, 0, none⟩) lE (lE + 1) lW (lW + 1) fz dn E x w2 HLE.out (extAt_own rE2 OE.out) HS.out (by omega))
      obtain ⟨bo, hbo⟩ : ∃ bo, bo = isAt E x := ⟨_, rfl⟩
      obtain ⟨po, hpo⟩ : ∃ po, po = pos E x := ⟨_, rfl⟩
      rw [← hbo] at hfk
      rw [← hbo, ← hpo] at HPL
      have HFK := Lib.hid (hfr.trans hfk); have HC2 := Lib.hid hc2; have BX2 := Lib.hid bx2; have TB2 := Lib.hid tb2; have RE2 := Lib.hid rE2; have RW2 := Lib.hid rW2; have HCW2 := Lib.hid hCw2; have HB2 := Lib.hid hb2; have TD2 := Lib.hid htd2; have HXS := Lib.hid hxs
      clear hbo hpo hx hc hcb hlen htk hfk hfr htd hbar bxr tbr rEr rWr hCw hac hal hxs hc2 hb2 bx2 tb2 rE2 rW2 hCw2 htd2 hbar2 hMw hs2 hbs gl1 gl2 gl3
      go_wp2_with fail
      refine HPL.out.mono ?_
      rintro e w3 ⟨rfl, b3⟩
      have hCw3 := HCW2.out.trans (b3.mono (by have := HCW2.out.size; have := HC.out; omega))
      have hback : Hid (∀ er, er = freE E N → frOk E [] N = false → StP C g w (freD z E L fz dn N) (freE E N) (.returned (.int .i64 er)) w3) := Lib.hid (by
        intro er her hf
        have hD : freD z E L fz dn N = ⟨z, E, L, fz, dn⟩ := by unfold freD; rw [hf]; rfl
        rw [hD, ← her]
        exact ⟨rfl, workAt_own (BX2.out.below b3) HLE.out HLW.out (Rw.own_below RE2.out b3) (Rw.own_below RW2.out b3) OE.out OW.out, hCw3⟩)
      cases bo with
      | false =>
        have F : Hid (StP C g w (freD z E L fz dn N) (freE E N) (.returned (.int .i64 3)) w3) := Lib.hid (hback.out 3 (by unfold freE; rw [HFK.out]; rfl) (by rw [HFK.out]; rfl))
        clear hback b3 hCw3
        go_wp2_with fail
        go_ret
        exact F.out
      | true =>
        have hlook3 := told_look (TD2.out.below b3) x (by unfold maxLen; have := HXS.out; omega)
        rw [HC2.out, show (((c + 1 : Nat) : Int)) = (c : Int) + 1 from rfl] at hlook3
        have t3 : w3.cell? ⟨M + 1, 0, none⟩ = some (.map (some M)) := (TB2.out.below b3).cell 0 (by simp)
        by_cases hc0 : c = 0
        · have F : Hid (frOk E [] N = frOk E (N.take (k + 1)) (N.drop (k + 1))) := Lib.hid (by rw [HFK.out, hc0]; rfl)
          have TD3 := Lib.hid (TD2.out.below b3); have HB3 := Lib.hid (HB2.out.trans (Bar.of_below b3 _))
          have t1 : decide ((1 : Int) < (c : Int) + 1) = false := decide_eq_false (by omega)
          clear hback b3 hCw3 hc0
          go_wp2_with fail
          go_roundw
          case rel => exact ⟨k + 1, by omega, by go_num, TD3.out, F.out, HB3.out⟩
          case measure => simp [intOf]; omega
        · have hf : frOk E [] N = false := by rw [HFK.out, decide_eq_false hc0]; rfl
          have F : Hid (StP C g w (freD z E L fz dn N) (freE E N) (.returned (.int .i64 3)) w3) := Lib.hid (hback.out 3 (by unfold freE; rw [hf]; rfl) hf)
          have t1 : decide ((1 : Int) < (c : Int) + 1) = true := decide_eq_true (by omega)
          clear hback b3 hCw3 hc0 hf
          go_wp2_with fail
          go_ret
          exact F.out
    · obtain rfl : nN = k := by omega
      have hfull : N.take nN = N := List.take_of_length_le (by rw [← HNN.out]; exact Nat.le_refl _)
      have hfr2 : frOk E [] N = true := by rw [hfr, HNN.out, List.drop_length]; rfl
      rw [hfull] at htd
      have hcf : ∀ args W, (callFunc 65 args).run Try.prog W = .ok (.enter 65 args) W := fun args W => MuLone.run_callFunc_enter (P := Try.prog) Try.func65 (by kernel_rfl) rfl args W
      have HDR := Lib.hid (drop_any (frP N) z E L fz dn C g gE gW lE (lE + 1) lW (lW + 1) _ 65 #[.pointer (some ⟨M + 1, 0, none⟩)] wr HLE.out HLW.out bxr N1.out N2.out N3.out rEr rWr ⟨by omega, by omega⟩ ⟨by omega, by omega⟩ OE.out OW.out hcf (by
        intro W hb x hx
        exact free1_any N (M + 1) M nN x W ((tbr.bar hb (by omega)).cell 0 (by simp)) (htd.bar hb (by omega)) hx))
      have hD : freD z E L fz dn N = ⟨z, keptEn (frP N) E, keptWn (frP N) L, fz, dn⟩ := by unfold freD; rw [if_pos hfr2]
      have hEr : freE E N = 0 := by unfold freE; rw [if_pos hfr2]
      have okE : EOk (keptEn (frP N) E) := eOk_mem.2 (fun x hx => eOk_mem.1 OE.out x (List.mem_filter.1 hx).1)
      have okW : WOk (keptWn (frP N) L) := wOk_mem.2 (fun x hx => wOk_mem.1 OW.out x (List.mem_filter.1 hx).1)
      have HD := Lib.hid hD; have HER := Lib.hid hEr; have OKE := Lib.hid okE; have OKW := Lib.hid okW; have HCW := Lib.hid hCw
      have hsz : C ≤ wr.heap.size := by have := HC.out; omega
      have HSZ := Lib.hid hsz
      have hge := GE.out
      have HGG : Hid (C ≤ g ∧ C ≤ gE ∧ C ≤ gW) := Lib.hid ⟨hge, gl2.1, gl3.1⟩
      clear hfull hfr2 htd hcf hD hEr okE okW hCw hsz hge hfr hbar bxr tbr rEr rWr hMw hs2 hbs gl1 gl2 gl3
      go_wp2_with fail
      refine HDR.out.mono ?_
      rintro e w3 ⟨rfl, bx, r1, r2, hb3⟩
      have F : Hid (StP C g w (freD z E L fz dn N) (freE E N) (.returned (.int .i64 0)) w3) := Lib.hid (by
        rw [HD.out, HER.out]
        exact ⟨rfl, workAt_own bx rfl rfl r1 r2 OKE.out OKW.out, HCW.out.trans (hb3.below (fun k _ h => by have := HGG.out; omega) HSZ.out)⟩)
      clear bx r1 r2 hb3
      go_wp2_with fail
      go_ret
      exact F.out
end Go.Proofs.Ytejmbbhbimgheaa.Dk

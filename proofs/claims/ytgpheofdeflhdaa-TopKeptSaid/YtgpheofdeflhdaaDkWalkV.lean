/- The walk of body (of a disk at work). -/
import Derived.Test.YtgpheofdeflhdaaDkBody
import Derived.Test.YtgpheofdeflhdaaDkWalkR
namespace Go.Proofs.Ytgpheofdeflhdaa.Dk
open Go.RowKit Go.Op

theorem pos_names {E C : List Ext} (hl : C.length = E.length) (h : ∀ i, i < E.length → (C.getD i default).1 = (E.getD i default).1) (b : ByteArray) : pos C b = pos E b := by
  refine pos_of (by rw [hl]; exact pos_le _ _) (fun i hi => ?_) (fun hk => ?_)
  · rw [h i (Nat.lt_of_lt_of_le hi (pos_le _ _))]; exact pos_below E b i hi
  · rw [hl] at hk
    rw [h _ hk]; exact pos_at E b hk

def BodyP (w : World) (B gB n k : Nat) (E C : List Ext) (e : Ending) (w' : World) : Prop := ∃ b c cs, e = .returned (.slice (some ⟨b, 0, none⟩) (C.getD k default).2.size c) ∧ cs.getD k default = .slice (some ⟨b, 0, none⟩) (C.getD k default).2.size c ∧ Bods w' B gB n E C cs ∧ Bar w w' (fun k => k = gB) ∧ (C.getD k default).2.size ≤ c

set_option maxHeartbeats 4000000 in
set_option maxRecDepth 100000 in
theorem body_any (z : Int) (E C : List Ext) (fz : Int) (dn : Bool) (B g gE gB nE cE : Nat) (pW : Option Addr) (nW cW : Nat) (cs : List Value) (nm : ByteArray) (w : World) (hn : nE = E.length) (hE9 : nE ≤ 1000000000)
    (hb : Boxed w g [.int .i64 z, .slice (some ⟨gE, 0, none⟩) nE cE, .slice pW nW cW, .int .i64 fz, .bool dn, .slice (some ⟨gB, 0, none⟩) nE nE]) (HE : ExtAt w (some ⟨gE, 0, none⟩) E) (hs : Sorted E)
    (hbd : Bods w B gB nE E C cs) (hgB : g ≠ gB) (hB : B ≤ w.heap.size) (hat : isAt E nm = true) :
    Calls Try.prog 47 #[.pointer (some ⟨g, 0, none⟩), .string nm] w (BodyP w B gB nE (pos E nm) E C) := by
  obtain ⟨k, hk⟩ : ∃ k, k = pos E nm := ⟨_, rfl⟩
  have hkn : k < nE := by rw [hk, hn]; exact isAt_lt hat
  rw [← hk]
  have hlen := hbd.len
  have helt : (cs.getD k default) = cs[k]'(by omega) := by simp [List.getD_eq_getElem?_getD, List.getElem?_eq_getElem (show k < cs.length by omega)]
  have HCELL : Hid (∀ (W : World) (v : Value), W.ownsRow gB 36 1 (.slice (some ⟨gB, 0, none⟩) nE nE) nE cs → cs.getD k default = v → W.cell? ⟨gB, k, none⟩ = some v) := Lib.hid (by
    intro W v hr hv
    have := hr.cells (g := gB) rfl k v (by rw [← hv, helt]; exact List.getElem?_eq_getElem _)
    simp only [Addr.add_lit, Nat.zero_add] at this
    exact this)
  have HBX := Lib.hid hb; have HEE := Lib.hid HE; have HS := Lib.hid hs; have HBD := Lib.hid hbd; have HG := Lib.hid hgB; have HN := Lib.hid hn; have HK := Lib.hid hk; have HAT := Lib.hid hat; have HBB := Lib.hid hB
  have m0 : (0 : Int) ≤ (k : Int) := by omega
  have m1 : (k : Int) < (nE : Int) := by omega
  have q0 : w.cell? ⟨g, 0, none⟩ = some (.int .i64 z) := hb.cell 0 (by simp)
  have q1 : w.cell? ⟨g, 1, none⟩ = some (.slice (some ⟨gE, 0, none⟩) nE cE) := hb.cell 1 (by simp)
  have q2 : w.cell? ⟨g, 2, none⟩ = some (.slice pW nW cW) := hb.cell 2 (by simp)
  have q3 : w.cell? ⟨g, 3, none⟩ = some (.int .i64 fz) := hb.cell 3 (by simp)
  have q4 : w.cell? ⟨g, 4, none⟩ = some (.bool dn) := hb.cell 4 (by simp)
  have hbody := hbd.body k hkn
  clear hb HE hs hbd hgB hn hk hat hB helt hlen
  rcases hbody with ⟨hv, hy⟩ | ⟨b, c, hv, _, hby, hyc⟩
  · have HV := Lib.hid hv; have HY := Lib.hid hy
    have hnil : ∀ W, (binOp .eql 36 (.slice none 0 0) (.slice none 0 0)).run Try.prog W = .ok (.bool true) W := fun W => run_eql_slice_nil W 36 5 none 0 0 Try.underlying36
    clear hv hy
    go_enter Try.func47, Try.ntmps47
    go_wp2_with fail
    refine (place_any z (some ⟨gE, 0, none⟩) pW nE cE nW cW fz dn E nm _ HN.out HEE.out HS.out hE9).mono ?_
    rw [← HK.out, HAT.out]
    rintro e w1 ⟨rfl, b1⟩
    have bx1 := HBX.out.below b1
    have bd1 := HBD.out.below b1
    have c1 : w1.cell? ⟨g, 1, none⟩ = some (.slice (some ⟨gE, 0, none⟩) nE cE) := bx1.cell 1 (by simp)
    have c5 : w1.cell? ⟨g, 5, none⟩ = some (.slice (some ⟨gB, 0, none⟩) nE nE) := bx1.cell 5 (by simp)
    have ck := HCELL.out w1 _ bd1.row HV.out
    have fk : w1.frozen? ⟨gB, k, none⟩ = false := own_free bd1.row k
    obtain ⟨g0, o0, hge, hg0, d0, d1, z1, z2⟩ := (HEE.out.below b1) k (by rw [← HN.out]; exact hkn)
    cases hge
    obtain ⟨y, hy⟩ : ∃ y, y = (E.getD k default).2 := ⟨_, rfl⟩
    rw [← hy] at d1 z2
    simp only [Nat.zero_add] at d0 d1
    have hmk : ∀ W : World, (convert 9 36 (.string y)).run Try.prog W = .ok (.slice (some ⟨W.heap.size, 0, none⟩) y.size (grownCap W y.size 0 5)) (Row.madeOf W y) := fun W => Row.run_make W y
    have hmk2 : ∀ (W : World) (v : Value), W.cell? ⟨gB, k, none⟩ = some v → gB < W.heap.size → (Row.madeOf W y).cell? ⟨gB, k, none⟩ = some v ∧ ((W.frozen? ⟨gB, k, none⟩ = false) → (Row.madeOf W y).frozen? ⟨gB, k, none⟩ = false) := fun W v h1 h2 =>
      ⟨by rw [(Row.madeOf_below W y).cell (p := ⟨gB, k, none⟩) h2]; exact h1, fun h => by rw [(Row.madeOf_below W y).frozen (p := ⟨gB, k, none⟩) h2]; exact h⟩
    have hgl := (bd1.row.lt gB rfl).2
    have r1 := (hmk2 w1.drew _ ck hgl).1
    have r2 := (hmk2 w1.drew _ ck hgl).2 fk
    have r5 : (Row.madeOf w1.drew y).cell? ⟨g, 5, none⟩ = some (.slice (some ⟨gB, 0, none⟩) nE nE) := by rw [(Row.madeOf_below w1.drew y).cell (p := ⟨g, 5, none⟩) bx1.lt]; exact c5
    have BX1 := Lib.hid bx1; have BD1 := Lib.hid bd1; have B1 := Lib.hid b1; have HYY := Lib.hid hy
    clear hy b1 bx1 bd1 d0 z1 hmk2 hgl
    go_wp2_with fail
    go_region
    obtain ⟨w2, hw2⟩ : ∃ w2, w2 = (Row.madeOf w1.drew y).setCell ⟨gB, k, none⟩ (.slice (some ⟨w1.heap.size, 0, none⟩) y.size (grownCap w1.drew y.size 0 5)) := ⟨_, rfl⟩
    have hbm : B ≤ w1.heap.size := Nat.le_trans HBB.out B1.out.size
    obtain ⟨bd2, bar2⟩ := Bods.make (BD1.out.below (Below.drew (Below.refl _ _))) k hkn HV.out hbm y HYY.out _ (grownCap_ge _ _ _ _) w2 hw2
    have hCk : (C.getD k default).2 = y := by rw [HY.out, HYY.out]
    have hsz := bd2.len
    rw [List.length_set] at hsz
    have hgk : (cs.set k (.slice (some ⟨w1.drew.heap.size, 0, none⟩) y.size (grownCap w1.drew y.size 0 5))).getD k default = .slice (some ⟨w1.heap.size, 0, none⟩) y.size (grownCap w1.drew y.size 0 5) := by
      rw [getD_setV _ _ _ _ (by omega), if_pos rfl]; rfl
    have hbar : Bar w w2 (fun k => k = gB) := (Bar.of_below B1.out _).trans ((Bar.of_below (Below.drew (Below.refl _ _)) _).trans bar2)
    have x5 : w2.cell? ⟨g, 5, none⟩ = some (.slice (some ⟨gB, 0, none⟩) nE nE) := (HBX.out.bar hbar HG.out).cell 5 (by simp)
    have xk : w2.cell? ⟨gB, k, none⟩ = some (.slice (some ⟨w1.heap.size, 0, none⟩) y.size (grownCap w1.drew y.size 0 5)) := by
      rw [hw2]; exact World.cell?_setCell_same' _ _ _ (by rw [r1]; rfl)
    rw [← hw2]
    have F : Hid (BodyP w B gB nE k E C (.returned (.slice (some ⟨w1.heap.size, 0, none⟩) y.size (grownCap w1.drew y.size 0 5))) w2) := Lib.hid ⟨_, _, _, by rw [hCk], by rw [hCk]; exact hgk, bd2, hbar, by rw [hCk]; exact grownCap_ge _ _ _ _⟩
    clear hw2 bd2 bar2 hCk hsz hgk hbar r1 r2 r5 c1 c5 ck fk
    go_wp2_with fail
    go_ret
    exact F.out
  · have HV := Lib.hid hv
    have hnil : ∀ W, (binOp .eql 36 (.slice (some ⟨b, 0, none⟩) (C.getD k default).2.size c) (.slice none 0 0)).run Try.prog W = .ok (.bool false) W := fun W => run_eql_slice_nil W 36 5 (some ⟨b, 0, none⟩) _ _ Try.underlying36
    obtain ⟨y, hy⟩ : ∃ y, y = (C.getD k default).2 := ⟨_, rfl⟩
    rw [← hy] at HV hnil
    have HY := Lib.hid hy
    clear hv hby hy
    go_enter Try.func47, Try.ntmps47
    go_wp2_with fail
    refine (place_any z (some ⟨gE, 0, none⟩) pW nE cE nW cW fz dn E nm _ HN.out HEE.out HS.out hE9).mono ?_
    rw [← HK.out, HAT.out]
    rintro e w1 ⟨rfl, b1⟩
    have bx1 := HBX.out.below b1
    have bd1 := HBD.out.below b1
    have c5 : w1.cell? ⟨g, 5, none⟩ = some (.slice (some ⟨gB, 0, none⟩) nE nE) := bx1.cell 5 (by simp)
    have ck := HCELL.out w1 _ bd1.row HV.out
    have F : Hid (BodyP w B gB nE k E C (.returned (.slice (some ⟨b, 0, none⟩) y.size c)) w1) := Lib.hid ⟨_, _, cs, by rw [HY.out], by rw [← HY.out]; exact HV.out, bd1, Bar.of_below b1 _, hyc⟩
    clear b1 bx1 bd1
    go_wp2_with fail
    go_ret
    exact F.out
end Go.Proofs.Ytgpheofdeflhdaa.Dk

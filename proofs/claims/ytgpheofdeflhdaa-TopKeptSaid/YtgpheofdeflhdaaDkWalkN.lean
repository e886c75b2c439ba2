/- The walk of add. -/
import Derived.Test.YtgpheofdeflhdaaDkWalkM
import Derived.Test.YtgpheofdeflhdaaDkWalkK
import Derived.Test.YtgpheofdeflhdaaBytesRow
namespace Go.Proofs.Ytgpheofdeflhdaa.Dk
open Go.RowKit Go.Op

def zer (n : Nat) : ByteArray := ⟨(List.replicate n (0 : UInt8)).toArray⟩
theorem zer_size (n : Nat) : (zer n).size = n := by unfold zer; simp [ByteArray.size]
def adE (z : Int) (E : List Ext) (nm : ByteArray) (s : Int) : Int := if named nm && decide (1 ≤ s) then (if isAt E nm = true then 4 else if z - sumN E < s then 8 else 0) else 1
def adD (z : Int) (E : List Ext) (L : List Wr) (fz : Int) (dn : Bool) (nm : ByteArray) (s : Int) : Dsk := if adE z E nm s = 0 then ⟨z, insE E (pos E nm) nm (zer (s.toNat * 64)), L, fz, dn⟩ else ⟨z, E, L, fz, dn⟩
theorem zeros_made (w : World) (n : Nat) (M : Array Value) (hM : M = madeCells #[Value.int .u8 0] n) : Row.Bytes (w.alloc (.cells M 5)) w.heap.size (List.replicate n 0) := by
  have hg := heap_alloc_new w (.cells M 5)
  refine ⟨by simp, fun j hj => ?_, fun j hj => ?_⟩
  · rw [List.length_replicate] at hj
    rw [cell_of_row _ _ j _ 5 (0, 0) hg, ← Array.getElem?_toList, hM, toList_madeCells_one]
    simp [hj, List.getD_eq_getElem?_getD]
  · unfold World.frozen?
    rw [hg]
    simp
theorem eOk_mem {E : List Ext} : EOk E ↔ ∀ x ∈ E, x.1.size ≤ 140737488355328 ∧ x.2.size ≤ 140737488355328 := by
  constructor
  · intro h x hx
    obtain ⟨i, hi, rfl⟩ := List.mem_iff_getElem.1 hx
    have := h i hi
    simpa [List.getD_eq_getElem?_getD, List.getElem?_eq_getElem hi] using this
  · intro h i hi
    have := h _ (List.getElem_mem hi)
    simpa [List.getD_eq_getElem?_getD, List.getElem?_eq_getElem hi] using this
theorem eOk_ins {E : List Ext} {k : Nat} {x y : ByteArray} (h : EOk E) (h1 : x.size ≤ 140737488355328) (h2 : y.size ≤ 140737488355328) : EOk (insE E k x y) := by
  rw [eOk_mem] at h ⊢
  intro u hu
  unfold insE at hu
  simp only [List.mem_append, List.mem_singleton] at hu
  rcases hu with (hu | rfl) | hu
  · exact h u (List.mem_of_mem_take hu)
  · exact ⟨h1, h2⟩
  · exact h u (List.mem_of_mem_drop hu)

set_option maxHeartbeats 8000000 in
set_option maxRecDepth 100000 in
theorem add_any (z : Int) (E : List Ext) (L : List Wr) (fz : Int) (dn : Bool) (C g gE gW : Nat) (nm : ByteArray) (s : Int) (w : World) (hbg : Bg C w g gE gW z E L fz dn) (hC : C ≤ w.heap.size)
    (hs : Sorted E) (hE : E.length ≤ 1000000) (oE : EOk E) (oW : WOk L) (z1 : z ≤ 16384) (hR : (sumN E : Int) ≤ z) (h1 : nm.size ≤ 140737488355328) :
    Calls Try.prog 20 #[.pointer (some ⟨g, 0, none⟩), .string nm, .int .i64 s] w (StP C g w (adD z E L fz dn nm s) (adE z E nm s)) := by
  obtain ⟨ge, n1, n2, n3, box, rowE, rowW⟩ := hbg
  obtain ⟨lE, hlE⟩ : ∃ lE, lE = E.length := ⟨_, rfl⟩
  obtain ⟨lW, hlW⟩ : ∃ lW, lW = L.length := ⟨_, rfl⟩
  rw [← hlE, ← hlW] at box
  rw [← hlE] at rowE hE
  rw [← hlW] at rowW
  have gE1 := rowE.lt gE rfl
  have gW1 := rowW.lt gW rfl
  have HE := Lib.hid (extAt_own rowE oE)
  have q0 : w.cell? ⟨g, 0, none⟩ = some (.int .i64 z) := box.cell 0 (by simp)
  have q1 : w.cell? ⟨g, 1, none⟩ = some (.slice (some ⟨gE, 0, none⟩) lE (lE + 1)) := box.cell 1 (by simp)
  have q2 : w.cell? ⟨g, 2, none⟩ = some (.slice (some ⟨gW, 0, none⟩) lW (lW + 1)) := box.cell 2 (by simp)
  have q3 : w.cell? ⟨g, 3, none⟩ = some (.int .i64 fz) := box.cell 3 (by simp)
  have q4 : w.cell? ⟨g, 4, none⟩ = some (.bool dn) := box.cell 4 (by simp)
  have BX := Lib.hid box; have RE := Lib.hid rowE; have RW := Lib.hid rowW; have HLE := Lib.hid hlE; have HLW := Lib.hid hlW; have HS := Lib.hid hs; have OE := Lib.hid oE; have OW := Lib.hid oW
  have N1 := Lib.hid n1; have N2 := Lib.hid n2; have N3 := Lib.hid n3; have GE := Lib.hid ge; have GE1 := Lib.hid gE1; have GW1 := Lib.hid gW1; have HC := Lib.hid hC; have HRM := Lib.hid hR
  have hE9 : lE ≤ 1000000000 := by omega
  have hW0 : Hid (WorkAt w C g ⟨z, E, L, fz, dn⟩) := Lib.hid (workAt_own box hlE hlW rowE rowW oE oW)
  clear box rowE rowW hlE hlW hs oE oW n1 n2 n3 ge gE1 gW1 hC hR
  cases cn : named nm with
  | false =>
    have F : Hid (1 = adE z E nm s ∧ adD z E L fz dn nm s = ⟨z, E, L, fz, dn⟩) := Lib.hid ⟨by unfold adE; rw [cn]; rfl, by unfold adD adE; rw [cn]; rfl⟩
    have CN := Lib.hid cn
    clear cn
    go_enter Try.func20, Try.ntmps20
    go_wp2_with fail
    refine (isName_any nm _ (by omega)).mono ?_
    rw [CN.out]
    rintro e w1 ⟨rfl, rfl⟩
    go_wp2_with fail
    go_ret
    exact ⟨ret_int F.out.1, by rw [F.out.2]; exact hW0.out, Below.refl _ _⟩
  | true =>
  have CN := Lib.hid cn
  by_cases c1 : 1 ≤ s
  case neg =>
    have F : Hid (1 = adE z E nm s ∧ adD z E L fz dn nm s = ⟨z, E, L, fz, dn⟩) := Lib.hid ⟨by unfold adE; rw [cn, decide_eq_false c1]; rfl, by unfold adD adE; rw [cn, decide_eq_false c1]; rfl⟩
    have t1 : decide (s < 1) = true := decide_eq_true (by omega)
    clear cn c1
    go_enter Try.func20, Try.ntmps20
    go_wp2_with fail
    refine (isName_any nm _ (by omega)).mono ?_
    rw [CN.out]
    rintro e w1 ⟨rfl, rfl⟩
    go_wp2_with fail
    go_ret
    exact ⟨ret_int F.out.1, by rw [F.out.2]; exact hW0.out, Below.refl _ _⟩
  have t1 : decide (s < 1) = false := decide_eq_false (by omega)
  have hA : adE z E nm s = if isAt E nm = true then 4 else if z - sumN E < s then 8 else 0 := by unfold adE; rw [cn, decide_eq_true c1]; rfl
  clear cn
  cases ci : isAt E nm with
  | true =>
    have CI := Lib.hid ci
    rw [ci, if_pos rfl] at hA
    have F : Hid (4 = adE z E nm s ∧ adD z E L fz dn nm s = ⟨z, E, L, fz, dn⟩) := Lib.hid ⟨hA.symm, by unfold adD; rw [hA]; rfl⟩
    clear ci hA c1
    go_enter Try.func20, Try.ntmps20
    go_wp2_with fail
    refine (isName_any nm _ (by omega)).mono ?_
    rw [CN.out]
    rintro e w1 ⟨rfl, rfl⟩
    go_wp2_with fail
    refine (place_any z (some ⟨gE, 0, none⟩) (some ⟨gW, 0, none⟩) lE (lE + 1) lW (lW + 1) fz dn E nm _ HLE.out HE.out HS.out hE9).mono ?_
    rw [CI.out]
    rintro e w1 ⟨rfl, b1⟩
    have B1 := Lib.hid b1
    clear b1
    go_wp2_with fail
    go_ret
    exact ⟨ret_int F.out.1, by rw [F.out.2]; exact workAt_own (BX.out.below B1.out) HLE.out HLW.out (Rw.own_below RE.out B1.out) (Rw.own_below RW.out B1.out) OE.out OW.out, B1.out.mono HC.out⟩
  | false =>
  have CI := Lib.hid ci
  rw [ci, if_neg (by simp)] at hA
  obtain ⟨r, hr⟩ : ∃ r, r = z - sumN E := ⟨_, rfl⟩
  rw [← hr] at hA
  have HRR := Lib.hid hr
  clear ci
  by_cases c2 : r < s
  case pos =>
    rw [if_pos c2] at hA
    have F : Hid (8 = adE z E nm s ∧ adD z E L fz dn nm s = ⟨z, E, L, fz, dn⟩) := Lib.hid ⟨hA.symm, by unfold adD; rw [hA]; rfl⟩
    have t2 : decide (r < s) = true := decide_eq_true c2
    clear hA c1 c2 hr
    go_enter Try.func20, Try.ntmps20
    go_wp2_with fail
    refine (isName_any nm _ (by omega)).mono ?_
    rw [CN.out]
    rintro e w1 ⟨rfl, rfl⟩
    go_wp2_with fail
    refine (place_any z (some ⟨gE, 0, none⟩) (some ⟨gW, 0, none⟩) lE (lE + 1) lW (lW + 1) fz dn E nm _ HLE.out HE.out HS.out hE9).mono ?_
    rw [CI.out]
    rintro e w1 ⟨rfl, b1⟩
    have B1 := Lib.hid b1
    have x1 := BX.out.below b1
    have p0 : w1.cell? ⟨g, 0, none⟩ = some (.int .i64 z) := x1.cell 0 (by simp)
    have p1 : w1.cell? ⟨g, 1, none⟩ = some (.slice (some ⟨gE, 0, none⟩) lE (lE + 1)) := x1.cell 1 (by simp)
    have p2 : w1.cell? ⟨g, 2, none⟩ = some (.slice (some ⟨gW, 0, none⟩) lW (lW + 1)) := x1.cell 2 (by simp)
    have p3 : w1.cell? ⟨g, 3, none⟩ = some (.int .i64 fz) := x1.cell 3 (by simp)
    have p4 : w1.cell? ⟨g, 4, none⟩ = some (.bool dn) := x1.cell 4 (by simp)
    clear b1 x1
    go_wp2_with fail
    refine (room_any z (some ⟨gE, 0, none⟩) (some ⟨gW, 0, none⟩) lE (lE + 1) lW (lW + 1) fz dn E _ HLE.out (HE.out.below B1.out) hE9 z1 HRM.out).mono ?_
    rw [← HRR.out]
    rintro e w2 ⟨rfl, b2⟩
    have B2 := Lib.hid (B1.out.trans (b2.mono B1.out.size))
    clear b2
    go_wp2_with fail
    go_ret
    exact ⟨ret_int F.out.1, by rw [F.out.2]; exact workAt_own (BX.out.below B2.out) HLE.out HLW.out (Rw.own_below RE.out B2.out) (Rw.own_below RW.out B2.out) OE.out OW.out, B2.out.mono HC.out⟩
  rw [if_neg c2] at hA
  have t2 : decide (r < s) = false := decide_eq_false c2
  obtain ⟨m, rfl⟩ : ∃ m : Nat, s = (m : Int) := ⟨s.toNat, by omega⟩
  have hm : m ≤ 16384 := by omega
  obtain ⟨n, hn⟩ : ∃ n, n = m * 64 := ⟨_, rfl⟩
  have F : Hid (0 = adE z E nm (m : Int) ∧ adD z E L fz dn nm (m : Int) = ⟨z, insE E (pos E nm) nm (zer n), L, fz, dn⟩) := Lib.hid ⟨hA.symm, by unfold adD; rw [hA, hn]; rfl⟩
  obtain ⟨i0, hi0, hz0, hz1, hz2⟩ := info_parts Cln.info_u8
  obtain ⟨M, hM⟩ : ∃ M, M = madeCells #[Value.int .u8 0] n := ⟨_, rfl⟩
  have hmk : ∀ W : World, (Instr.makeSlice 36 (.int .i64 ((m : Int) * 64)) (.int .i64 ((m : Int) * 64))).run Try.prog W = .ok (.slice (some ⟨W.heap.size, 0, none⟩) n n) (W.alloc (.cells M 5)) := by
    intro W
    have h := run_make (P := Try.prog) W 36 5 i0 (.int .u8 0) Try.underlying36 hi0 hz0 .i64 .i64 ((m : Int) * 64) ((m : Int) * 64) (by omega) (by omega) (by rw [hz2]; omega) (by omega)
    rw [h, hz1]
    have e : ((m : Int) * 64).toNat = n := by omega
    rw [e, Nat.mul_one, hM]
    rfl
  have hw1 : IntKind.i64.wrap ((m : Int) * 64) = (m : Int) * 64 := IntWalk.i64_in _ (by omega)
  have HM := Lib.hid hM
  have hnb : n ≤ 1048576 := by omega
  have OE2 := Lib.hid (eOk_ins (k := pos E nm) OE.out h1 (y := zer n) (by rw [zer_size]; omega))
  have HLI : Hid (lE + 1 = (insE E (pos E nm) nm (zer n)).length) := Lib.hid (by rw [insE_length _ _ _ _ (pos_le _ _), HLE.out])
  clear hA c1 c2 hr hi0 hz0 hz1 hz2 hM hn
  go_enter Try.func20, Try.ntmps20
  go_wp2_with fail
  refine (isName_any nm _ (by omega)).mono ?_
  rw [CN.out]
  rintro e w1 ⟨rfl, rfl⟩
  go_wp2_with fail
  refine (place_any z (some ⟨gE, 0, none⟩) (some ⟨gW, 0, none⟩) lE (lE + 1) lW (lW + 1) fz dn E nm _ HLE.out HE.out HS.out hE9).mono ?_
  rw [CI.out]
  rintro e w1 ⟨rfl, b1⟩
  have B1 := Lib.hid b1
  have x1 := BX.out.below b1
  have p0 : w1.cell? ⟨g, 0, none⟩ = some (.int .i64 z) := x1.cell 0 (by simp)
  have p1 : w1.cell? ⟨g, 1, none⟩ = some (.slice (some ⟨gE, 0, none⟩) lE (lE + 1)) := x1.cell 1 (by simp)
  have p2 : w1.cell? ⟨g, 2, none⟩ = some (.slice (some ⟨gW, 0, none⟩) lW (lW + 1)) := x1.cell 2 (by simp)
  have p3 : w1.cell? ⟨g, 3, none⟩ = some (.int .i64 fz) := x1.cell 3 (by simp)
  have p4 : w1.cell? ⟨g, 4, none⟩ = some (.bool dn) := x1.cell 4 (by simp)
  clear b1 x1
  go_wp2_with fail
  refine (room_any z (some ⟨gE, 0, none⟩) (some ⟨gW, 0, none⟩) lE (lE + 1) lW (lW + 1) fz dn E _ HLE.out (HE.out.below B1.out) hE9 z1 HRM.out).mono ?_
  rw [← HRR.out]
  rintro e w2 ⟨rfl, b2⟩
  obtain ⟨A3, hA3⟩ : ∃ A3, A3 = w2.alloc (.cells M 5) := ⟨_, rfl⟩
  have b3 : Below w2.heap.size w2 A3 := by rw [hA3]; exact (Below.refl _ _).alloc (Nat.le_refl _) _
  have b4 : Below w.heap.size w A3 := B1.out.trans ((b2.mono B1.out.size).trans (b3.mono (Nat.le_trans B1.out.size b2.size)))
  obtain ⟨BB, hBB⟩ : ∃ BB : World → Prop, BB = fun W => Below w.heap.size w W ∧ Row.Bytes W w2.heap.size (List.replicate n 0) := ⟨_, rfl⟩
  have hL : ∀ W W' : World, BB W → Below W.heap.size W W' → BB W' := by
    intro W W' h hb
    rw [hBB] at h ⊢
    exact ⟨h.1.trans (hb.mono h.1.size), h.2.below hb⟩
  have hD : ∀ W, BB W → BB W.drew := fun W h => hL W _ h (Below.drew (Below.refl _ W))
  have hE : ∀ W, BB W → Below w.heap.size w W := by
    intro W h; rw [hBB] at h; exact h.1
  have hCV : ∀ W, BB W → (convert 36 9 (.slice (some ⟨w2.heap.size, 0, none⟩) n n)).run Try.prog W = .ok (.string (zer n)) W := by
    intro W h
    rw [hBB] at h
    have := Row.run_back h.2 n
    rw [List.length_replicate] at this
    exact this
  have h0 : BB A3 := by rw [hBB]; exact ⟨b4, by rw [hA3]; exact zeros_made w2 n M HM.out⟩
  have HL := Lib.hid hL; have HD := Lib.hid hD; have HEE := Lib.hid hE; have HCV := Lib.hid hCV; have H0 := Lib.hid h0; have HA3 := Lib.hid hA3
  have hcv0 := hCV _ (hD _ h0)
  obtain ⟨zz, hzz⟩ : ∃ zz, zz = zer n := ⟨_, rfl⟩
  have HZZ := Lib.hid hzz
  rw [← hzz] at hcv0 HCV F OE2 HLI
  clear hBB hL hD hE hCV h0 hA3 b2 b3 b4 p0 p1 p2 p3 p4 hzz
  go_wp2_with fail
  rw [← HA3.out]
  go_region_law (first
    | (go_simp; go_at_call 30; ((with_reducible refine (Cln.clone_any nm _ (by omega)).mono ?_)); rintro e w' ⟨rfl, hb⟩; have hw := HL.out _ _ (by repeat (first | exact H0.out | assumption | apply HD.out)) hb; have hcv := HCV.out _ hw; clear hb)
    | (go_simp; go_at_call 45; refine (insert_any z E fz dn C g gE lE (lE + 1) (some ⟨gW, 0, none⟩) lW (lW + 1) _ nm zz _ HLE.out (BX.out.below (HEE.out _ hw)) (Rw.own_below RE.out (HEE.out _ hw)) N1.out (Nat.le_refl _) (by omega) HS.out OE.out).mono ?_; rintro e w4 ⟨rfl, k1, k2, k3⟩
       have r1 := own_bar (Rw.own_below RW.out (HEE.out _ hw)) k3 (fun k hk h => by simp [Value.ownBlock] at hk; have := N2.out; have := N3.out; omega)
       have r2 := ((HEE.out _ hw).mono HC.out).trans (k3.below (B := C) (fun k _ h => by have := GE.out; have := GE1.out; omega) (Nat.le_trans HC.out (HEE.out _ hw).size))
       have K1 := Lib.hid k1; have K2 := Lib.hid k2; have R1 := Lib.hid r1; have R2 := Lib.hid r2
       clear k1 k2 k3 r1 r2))
  all_goals go_wp2_with fail
  all_goals go_ret
  all_goals exact ⟨ret_int F.out.1, by rw [F.out.2]; exact workAt_own K1.out HLI.out HLW.out K2.out R1.out OE2.out OW.out, R2.out⟩
end Go.Proofs.Ytgpheofdeflhdaa.Dk

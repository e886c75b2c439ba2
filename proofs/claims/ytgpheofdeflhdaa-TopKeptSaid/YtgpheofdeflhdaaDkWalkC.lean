/- The walks of waitsRight, Check, ready. -/
import Derived.Test.YtgpheofdeflhdaaDkWalkB
namespace Go.Proofs.Ytgpheofdeflhdaa.Dk
open Go.RowKit Go.Op

def wrOk (E : List Ext) (x : Wr) : Bool := (decide (0 ≤ x.2.1) && decide (x.2.1 < (lookN E x.1 : Nat))) && decide (x.2.2.size = 64)
def wtR (E : List Ext) (L : List Wr) : Bool := decide (L.length ≤ 16384) && L.all (wrOk E)
theorem lookN_none {E : List Ext} (h : ∀ x ∈ E, named x.1 = true) : lookN E ⟨#[]⟩ = 0 := by
  unfold lookN
  cases hi : isAt E ⟨#[]⟩ with
  | false => rfl
  | true =>
    have hl := isAt_lt hi
    unfold isAt at hi
    rw [Bool.and_eq_true] at hi
    have e := of_decide_eq_true hi.2
    have hm : E.getD (pos E ⟨#[]⟩) default ∈ E := by rw [List.getD_eq_getElem?_getD, List.getElem?_eq_getElem hl]; exact List.getElem_mem hl
    have := h _ hm
    rw [e] at this
    exact absurd this (by decide)
theorem exR_named : ∀ {a : ByteArray} {l : Int} {E : List Ext}, exR a l E = true → ∀ x ∈ E, named x.1 = true
  | _, _, [], _, x, hx => absurd hx (by simp)
  | a, l, y :: r, h, x, hx => by
    simp only [exR, Bool.and_eq_true] at h
    rcases List.mem_cons.1 hx with rfl | hx
    · exact h.1.1.1
    · exact exR_named h.2 x hx
theorem drop_wr (L : List Wr) (k : Nat) (h : k < L.length) : L.drop k = L.getD k default :: L.drop (k + 1) := by
  rw [List.drop_eq_getElem_cons h]
  simp [List.getD_eq_getElem?_getD, List.getElem?_eq_getElem h]
theorem lookN_small (E : List Ext) (b : ByteArray) (h : ∀ i, i < E.length → (E.getD i default).2.size ≤ 140737488355328) : lookN E b ≤ 140737488355328 := by
  unfold lookN
  split
  · rename_i hi
    exact Nat.le_trans (Nat.div_le_self _ _) (h _ (isAt_lt hi))
  · omega

set_option maxHeartbeats 8000000 in
set_option maxRecDepth 100000 in
theorem waitsRight_any (z : Int) (pE pW : Option Addr) (nE cE nW cW : Nat) (fz : Int) (dn : Bool) (E : List Ext) (L : List Wr) (w : World) (hn : nE = E.length) (h : ExtAt w pE E) (hE : nE ≤ 1000000000) (hs : Sorted E) (hnm : ∀ x ∈ E, named x.1 = true)
    (hnW : nW = L.length) (hW : WrsAt w pW L) (hLl : nW ≤ 9223372036854775807) :
    Calls Try.prog 41 #[.agg #[.int .i64 z, .slice pE nE cE, .slice pW nW cW, .int .i64 fz, .bool dn]] w fun e w' => e = .returned (.bool (wtR E L)) ∧ Below w.heap.size w w' := by
  have hbx : Below w.heap.size w (w.alloc (.cells #[.int .i64 z, .slice pE nE cE, .slice pW nW cW, .int .i64 fz, .bool dn] 31)) := (Below.refl _ _).alloc (Nat.le_refl _) _
  have hls := lookN_small E (h := fun i hi => by obtain ⟨_, _, _, _, _, _, _, q⟩ := h i hi; exact q)
  have HE := Lib.hid (h.below hbx); have HN := Lib.hid hn; have HBX := Lib.hid hbx; have HW := Lib.hid (hW.below hbx); have HNW := Lib.hid hnW; have HS := Lib.hid hs; have HLS := Lib.hid hls
  have hl0 := lookN_none hnm
  have HL0 := Lib.hid hl0
  have HB := Lib.hid (Boxed.new w #[.int .i64 z, .slice pE nE cE, .slice pW nW cW, .int .i64 fz, .bool dn] 31)
  clear h hn hW hnW hs hnm hl0 hls
  by_cases hbig : 16384 < nW
  · have F : Hid (false = wtR E L) := Lib.hid (by unfold wtR; rw [← HNW.out, decide_eq_false (by omega)]; rfl)
    go_enter Try.func41, Try.ntmps41
    go_wp2_with fail
    go_ret
    exact ⟨ret_bool F.out, hbx⟩
  have hW16 : nW ≤ 16384 := by omega
  have F0 : Hid (wtR E L = L.all (wrOk E)) := Lib.hid (by unfold wtR; rw [← HNW.out, decide_eq_true hW16]; rfl)
  clear hbig hLl hbx
  obtain ⟨W0, hW0⟩ : ∃ W0, W0 = (w.alloc (.cells #[.int .i64 z, .slice pE nE cE, .slice pW nW cW, .int .i64 fz, .bool dn] 31)) := ⟨_, rfl⟩
  go_enter Try.func41, Try.ntmps41
  go_wp2_with fail
  rw [← hW0] at HE HBX HB HW ⊢
  clear hW0
  go_loopw [3, 4, 6, 14] (fun a l _ i wr => ∃ (k : Nat) (s : ByteArray) (m : Nat), k ≤ nW ∧ i = .int .i64 k ∧ a = .string s ∧ l = .int .i64 m ∧ m = lookN E s ∧ L.all (wrOk E) = (L.drop k).all (wrOk E) ∧ Below W0.heap.size W0 wr) (fun _ _ _ i _ => nW - (intOf i).toNat)
  case atStart => exact ⟨0, ⟨#[]⟩, 0, by omega, rfl, rfl, rfl, HL0.out.symm, rfl, Below.refl _ _⟩
  case round =>
    obtain ⟨k, s, m, hk, rfl, rfl, rfl, hm, hx, hbl⟩ := hrel
    have hbW := hbl.size
    by_cases hlt : k < nW
    · obtain ⟨g, o, rfl, hg, d0, d1, d2, hz1, hz2⟩ := (HW.out.below hbl) k (by rw [← HNW.out]; exact hlt)
      have hd := drop_wr L k (by rw [← HNW.out]; exact hlt)
      obtain ⟨x, hxx⟩ : ∃ x, x = (L.getD k default).1 := ⟨_, rfl⟩
      obtain ⟨c, hcc⟩ : ∃ c, c = (L.getD k default).2.1 := ⟨_, rfl⟩
      obtain ⟨y, hy⟩ : ∃ y, y = (L.getD k default).2.2 := ⟨_, rfl⟩
      have hxy : L.getD k default = (x, c, y) := by rw [hxx, hcc, hy]
      rw [← hxx] at d0 hz1; rw [← hcc] at d1; rw [← hy] at d2 hz2
      rw [hxy] at hd
      rw [hd] at hx
      have hx2 : L.all (wrOk E) = (((decide (0 ≤ c) && decide (c < (lookN E x : Nat))) && decide (y.size = 64)) && (L.drop (k + 1)).all (wrOk E)) := by rw [hx]; rfl
      have HX := Lib.hid hx2
      have HB1 := Lib.hid (hbl.alloc hbW (.cells #[.string x, .int .i64 c, .string y] 39))
      have HO := Lib.hid (Boxed.new wr #[.string x, .int .i64 c, .string y] 39)
      have HMM := Lib.hid hm
      clear hx hx2 hd hxy hxx hcc hy hbl hm
      have hO0 : ∀ i, i < 3 → (wr.alloc (.cells #[.string x, .int .i64 c, .string y] 39)).cell? ⟨wr.heap.size, i, none⟩ = some (#[Value.string x, .int .i64 c, .string y].toList.getD i (.bool false)) := fun i hi => HO.out.cell i (by simpa using hi)
      by_cases hsame : x = s
      · subst hsame
        have t1 : (x.toList == x.toList) = true := by simp
        obtain ⟨M, hMe⟩ : ∃ M, M = m := ⟨_, rfl⟩
        rw [← hMe]
        have HMx : Hid (M = lookN E x) := Lib.hid (by rw [hMe]; exact HMM.out)
        have hMb : M ≤ 140737488355328 := by rw [HMx.out]; exact HLS.out x
        clear hMe hO0 HMM
        by_cases c1 : 0 ≤ c
        case neg =>
          have F : Hid (false = wtR E L) := Lib.hid (by rw [F0.out, HX.out, decide_eq_false c1]; rfl)
          have t2 : decide (c < 0) = true := decide_eq_true (by omega)
          clear c1
          go_wp2_with fail
          go_ret
          exact ⟨ret_bool F.out, HBX.out.trans (HB1.out.mono HBX.out.size)⟩
        have t2 : decide (c < 0) = false := decide_eq_false (by omega)
        by_cases c2 : c < (M : Int)
        case neg =>
          have F : Hid (false = wtR E L) := Lib.hid (by rw [F0.out, HX.out, ← HMx.out, decide_eq_false c2]; simp)
          have t3 : decide ((M : Int) ≤ c) = true := decide_eq_true (by omega)
          clear c2
          go_wp2_with fail
          go_ret
          exact ⟨ret_bool F.out, HBX.out.trans (HB1.out.mono HBX.out.size)⟩
        have t3 : decide ((M : Int) ≤ c) = false := decide_eq_false (by omega)
        by_cases c3 : y.size = 64
        case neg =>
          have F : Hid (false = wtR E L) := Lib.hid (by rw [F0.out, HX.out, decide_eq_false c3]; simp)
          have t4 : ((y.size : Int) != 64) = true := by rw [bne_iff_ne]; omega
          clear c3
          go_wp2_with fail
          go_ret
          exact ⟨ret_bool F.out, HBX.out.trans (HB1.out.mono HBX.out.size)⟩
        have t4 : ((y.size : Int) != 64) = false := by rw [bne_eq_false_iff_eq]; omega
        have HX4 : Hid (L.all (wrOk E) = (L.drop (k + 1)).all (wrOk E)) := Lib.hid (by rw [HX.out, ← HMx.out, decide_eq_true c1, decide_eq_true c2, decide_eq_true c3]; simp)
        clear c1 c2 c3
        go_wp2_with fail
        go_roundw
        case rel => exact ⟨k + 1, x, M, by omega, by go_num, rfl, rfl, HMx.out, HX4.out, HB1.out⟩
        case measure => simp [intOf]; omega
      · have t1 : (x.toList == s.toList) = false := by rw [beq_eq_false_iff_ne]; exact fun e => hsame (toList_inj e)
        obtain ⟨M, hMe⟩ : ∃ M, M = lookN E x := ⟨_, rfl⟩
        have HMx := Lib.hid hMe
        have hMb : M ≤ 140737488355328 := by rw [hMe]; exact HLS.out x
        clear hsame hMe HMM
        go_wp2_with fail
        obtain ⟨W1, hW1⟩ : ∃ W1, W1 = wr.alloc (.cells #[.string x, .int .i64 c, .string y] 39) := ⟨_, rfl⟩
        have hz1' : W1.heap.size = wr.heap.size + 1 := by rw [hW1]; simp
        rw [← hW1] at HB1 HO hO0 ⊢
        clear hW1
        obtain ⟨BB, hBB⟩ : ∃ BB : World → Prop, BB = fun W => Below W1.heap.size W1 W := ⟨_, rfl⟩
        have hD1 := HB.out.below HB1.out
        have hK : ∀ W, BB W → BB W ∧ W.cell? ⟨w.heap.size, 0, none⟩ = some (.int .i64 z) ∧ W.cell? ⟨w.heap.size, 1, none⟩ = some (.slice pE nE cE) ∧ W.cell? ⟨w.heap.size, 2, none⟩ = some (.slice (some ⟨g, o, none⟩) nW cW) ∧ W.cell? ⟨w.heap.size, 3, none⟩ = some (.int .i64 fz) ∧ W.cell? ⟨w.heap.size, 4, none⟩ = some (.bool dn) ∧ W.cell? ⟨wr.heap.size, 0, none⟩ = some (.string x) ∧ W.cell? ⟨wr.heap.size, 1, none⟩ = some (.int .i64 c) ∧ W.cell? ⟨wr.heap.size, 2, none⟩ = some (.string y) := by
          intro W h
          refine ⟨h, ?_⟩
          rw [hBB] at h
          have e1 := hD1.below h
          have e2 := HO.out.below h
          exact ⟨e1.cell 0 (by simp), e1.cell 1 (by simp), e1.cell 2 (by simp), e1.cell 3 (by simp), e1.cell 4 (by simp), e2.cell 0 (by simp), e2.cell 1 (by simp), e2.cell 2 (by simp)⟩
        have hL : ∀ W W' : World, BB W → Below W.heap.size W W' → BB W' := by
          intro W W' h hb
          rw [hBB] at h ⊢
          exact h.trans (hb.mono h.size)
        have hD : ∀ W, BB W → BB W.drew := fun W h => hL W _ h (Below.drew (Below.refl _ W))
        have hE1 : ∀ W, BB W → ExtAt W pE E ∧ Below W0.heap.size W0 W := by
          intro W h
          rw [hBB] at h
          have hz := HB1.out.trans (h.mono HB1.out.size)
          exact ⟨HE.out.below hz, hz⟩
        have h0 : BB W1 := by rw [hBB]; exact Below.refl _ _
        have HK := Lib.hid hK; have HL := Lib.hid hL; have HD := Lib.hid hD; have HE1 := Lib.hid hE1; have H0 := Lib.hid h0
        clear hBB hK hL hD hE1 h0 hD1 hO0
        go_region_held3 (fun W => BB W ∧ W.cell? ⟨w.heap.size, 0, none⟩ = some (.int .i64 z) ∧ W.cell? ⟨w.heap.size, 1, none⟩ = some (.slice pE nE cE) ∧ W.cell? ⟨w.heap.size, 2, none⟩ = some (.slice (some ⟨g, o, none⟩) nW cW) ∧ W.cell? ⟨w.heap.size, 3, none⟩ = some (.int .i64 fz) ∧ W.cell? ⟨w.heap.size, 4, none⟩ = some (.bool dn) ∧ W.cell? ⟨wr.heap.size, 0, none⟩ = some (.string x) ∧ W.cell? ⟨wr.heap.size, 1, none⟩ = some (.int .i64 c) ∧ W.cell? ⟨wr.heap.size, 2, none⟩ = some (.string y)) ((refine HK.out _ ?_; repeat (first | exact H0.out | assumption | apply HD.out))) ((go_at_call 53; ((with_reducible refine (manyOf_any z pE (some ⟨g, o, none⟩) nE cE nW cW fz dn E x _ HN.out (HE1.out _ (by repeat (first | exact H0.out | assumption | apply HD.out))).1 HS.out hE).mono ?_)); rw [← HMx.out]; rintro e w' ⟨rfl, hb⟩; have hw := HL.out _ _ (by repeat (first | exact H0.out | assumption | apply HD.out)) hb; clear hb))
        have hq := HK.out _ hw
        have u0 := hq.2.2.2.2.2.2.1; have u1 := hq.2.2.2.2.2.2.2.1; have u2 := hq.2.2.2.2.2.2.2.2
        have HBt := Lib.hid (HE1.out _ hw).2
        clear hq hw d0 d1 d2
        by_cases c1 : 0 ≤ c
        case neg =>
          have F : Hid (false = wtR E L) := Lib.hid (by rw [F0.out, HX.out, decide_eq_false c1]; rfl)
          have t2 : decide (c < 0) = true := decide_eq_true (by omega)
          clear c1
          go_wp2_with fail
          go_ret
          exact ⟨ret_bool F.out, HBX.out.trans (HBt.out.mono HBX.out.size)⟩
        have t2 : decide (c < 0) = false := decide_eq_false (by omega)
        by_cases c2 : c < (M : Int)
        case neg =>
          have F : Hid (false = wtR E L) := Lib.hid (by rw [F0.out, HX.out, ← HMx.out, decide_eq_false c2]; simp)
          have t3 : decide ((M : Int) ≤ c) = true := decide_eq_true (by omega)
          clear c2
          go_wp2_with fail
          go_ret
          exact ⟨ret_bool F.out, HBX.out.trans (HBt.out.mono HBX.out.size)⟩
        have t3 : decide ((M : Int) ≤ c) = false := decide_eq_false (by omega)
        by_cases c3 : y.size = 64
        case neg =>
          have F : Hid (false = wtR E L) := Lib.hid (by rw [F0.out, HX.out, decide_eq_false c3]; simp)
          have t4 : ((y.size : Int) != 64) = true := by rw [bne_iff_ne]; omega
          clear c3
          go_wp2_with fail
          go_ret
          exact ⟨ret_bool F.out, HBX.out.trans (HBt.out.mono HBX.out.size)⟩
        have t4 : ((y.size : Int) != 64) = false := by rw [bne_eq_false_iff_eq]; omega
        have HX4 : Hid (L.all (wrOk E) = (L.drop (k + 1)).all (wrOk E)) := Lib.hid (by rw [HX.out, ← HMx.out, decide_eq_true c1, decide_eq_true c2, decide_eq_true c3]; simp)
        clear c1 c2 c3
        go_wp2_with fail
        go_roundw
        case rel => exact ⟨k + 1, x, M, by omega, by go_num, rfl, rfl, HMx.out, HX4.out, HBt.out⟩
        case measure => simp [intOf]; omega
    · obtain rfl : k = nW := by omega
      have F : Hid (true = wtR E L) := Lib.hid (by rw [F0.out, hx, List.drop_eq_nil_of_le (by rw [← HNW.out]; exact Nat.le_refl _)]; rfl)
      have HBL := Lib.hid hbl
      clear hx hbl hm
      go_wp2_with fail
      go_ret
      exact ⟨ret_bool F.out, HBX.out.trans (HBL.out.mono HBX.out.size)⟩
end Go.Proofs.Ytgpheofdeflhdaa.Dk

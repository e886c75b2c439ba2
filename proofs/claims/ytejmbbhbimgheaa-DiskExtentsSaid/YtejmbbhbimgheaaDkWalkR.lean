/- The walk of slices.DeleteFunc over extents. -/
import Derived.Test.YtejmbbhbimgheaaDkWalkP
import Derived.Test.YtejmbbhbimgheaaDkDel
import Derived.Test.YtejmbbhbimgheaaDkWalkN
namespace Go.Proofs.Ytejmbbhbimgheaa.Dk
open Go.RowKit Go.Op

def keptE (P : Ext → Bool) (E : List Ext) : List Ext := E.filter fun x => !P x
theorem keptE_all {P : Ext → Bool} {E : List Ext} (h : ixE P E = -1) : keptE P E = E := by
  unfold ixE at h
  split at h
  · omega
  · rename_i hi
    unfold keptE
    rw [List.filter_eq_self]
    intro x hx
    have e : E.findIdx P = E.length := by have := List.findIdx_le_length (p := P) (xs := E); omega
    have := List.findIdx_eq_length.1 e x hx
    simp [this]
theorem keptE_to {P : Ext → Bool} {E : List Ext} {k : Nat} (h : ixE P E = (k : Int)) : k < E.length ∧ keptE P (E.take k) = E.take k ∧ P (E.getD k default) = true := by
  unfold ixE at h
  split at h
  · rename_i hi
    have hk : E.findIdx P = k := by omega
    rw [hk] at hi
    have h2 := (List.findIdx_eq hi).1 hk
    refine ⟨hi, ?_, by simp [List.getD_eq_getElem?_getD, List.getElem?_eq_getElem hi]; exact h2.1⟩
    unfold keptE
    rw [List.filter_eq_self]
    intro x hx
    obtain ⟨i, hil, rfl⟩ := List.mem_iff_getElem.1 hx
    rw [List.length_take] at hil
    have := h2.2 i (by omega)
    rw [List.getElem_take]
    simp [this]
  · omega
theorem keptE_snoc {P : Ext → Bool} {E : List Ext} {j : Nat} (h : j < E.length) : keptE P (E.take (j + 1)) = keptE P (E.take j) ++ (if P (E.getD j default) = true then [] else [E.getD j default]) := by
  unfold keptE
  have e : E.getD j default = E[j] := by simp [List.getD_eq_getElem?_getD, List.getElem?_eq_getElem h]
  rw [List.take_succ_eq_append_getElem h, List.filter_append, e]
  congr 1
  cases hp : P E[j] <;> simp [hp]
theorem getD_drop {R E : List Ext} {j k : Nat} (h : R.drop j = E.drop j) (hk : j ≤ k) : R.getD k default = E.getD k default := by
  have h1 : (R.drop j)[k - j]? = (E.drop j)[k - j]? := by rw [h]
  rw [List.getElem?_drop, List.getElem?_drop, show j + (k - j) = k by omega] at h1
  rw [List.getD_eq_getElem?_getD, List.getD_eq_getElem?_getD, h1]

theorem own_free {w : World} {B : Nat} {e : TypeId} {s g n cap : Nat} {xs : List Value} (h : w.ownsRow B e s (.slice (some ⟨g, 0, none⟩) n cap) n xs) (o : Nat) : w.frozen? ⟨g, o, none⟩ = false := by
  rcases h.2 with ⟨h2, _⟩ | ⟨g', cap', cur, hv, hg, hh, _⟩
  · cases h2
  · cases hv
    unfold World.frozen?
    rw [hh]
    simp
def DelP (w : World) (B gE c : Nat) (R : List Ext) (e : Ending) (w' : World) : Prop := e = .returned (.slice (some ⟨gE, 0, none⟩) R.length c) ∧ w'.ownsRow B 58 2 (.slice (some ⟨gE, 0, none⟩) R.length c) R.length (eRow R) ∧ Bar w w' (fun k => k = gE)

set_option maxHeartbeats 4000000 in
set_option maxRecDepth 100000 in
theorem deleteE_any (E : List Ext) (P : Ext → Bool) (B gE n c f : Nat) (caps : Array Value) (w : World) (hn : n = E.length) (hr : w.ownsRow B 58 2 (.slice (some ⟨gE, 0, none⟩) n c) n (eRow E)) (hc : n ≤ c) (hE : c ≤ 1000000000) (oE : EOk E)
    (hcf : ∀ args W, (callFunc f args).run Try.prog W = .ok (.enter f args) W)
    (hst : ∀ W, Bar w W (fun k => k = gE) → ∀ i, i < E.length → Calls Try.prog f (#[.agg #[.string (E.getD i default).1, .string (E.getD i default).2]] ++ caps) W fun e W' => e = .returned (.bool (P (E.getD i default))) ∧ Below W.heap.size W W') :
    Calls Try.prog 76 #[.slice (some ⟨gE, 0, none⟩) n c, .func (.func f) #[] caps] w (DelP w B gE c (keptE P E)) := by
  have HIX := Lib.hid (indexE_any E P (some ⟨gE, 0, none⟩) n c f caps w hn (extAt_own hr oE) (by omega) hcf (fun W hb i hi => hst W (Bar.of_below hb _) i hi))
  have HN := Lib.hid hn; have HR := Lib.hid hr; have HST := Lib.hid hst; have OE := Lib.hid oE
  obtain ⟨ix, hix⟩ : ∃ ix, ix = ixE P E := ⟨_, rfl⟩
  rw [← hix] at HIX
  clear hn hr hst oE
  by_cases h0 : ix = -1
  · subst h0
    have F : Hid (keptE P E = E) := Lib.hid (keptE_all hix.symm)
    clear hix
    go_enter Try.func76, Try.ntmps76
    go_wp2_with fail
    refine HIX.out.mono ?_
    rintro e w1 ⟨rfl, b1⟩
    have B1 := Lib.hid b1
    clear b1
    go_wp2_with fail
    go_ret
    rw [F.out]
    have FX : Hid (DelP w B gE c E (.returned (.slice (some ⟨gE, 0, none⟩) n c)) w1) := Lib.hid (by
      unfold DelP
      rw [← HN.out]
      exact ⟨rfl, Rw.own_below HR.out B1.out, Bar.of_below B1.out _⟩)
    exact FX.out
  obtain ⟨k, hk⟩ : ∃ k : Nat, ix = (k : Int) := by
    unfold ixE at hix
    split at hix
    · exact ⟨_, hix⟩
    · exact absurd hix h0
  subst hk
  obtain ⟨k1, k2, k3⟩ := keptE_to hix.symm
  have hkn : k < n := by rw [HN.out]; exact k1
  have t0 : ((k : Int) == -1) = false := by rw [beq_eq_false_iff_ne]; omega
  have hw0 : IntKind.i64.wrap ((k : Int) + 1) = (k : Int) + 1 := IntWalk.i64_in _ (by omega)
  have K2 : Hid (keptE P (E.take (k + 1)) = E.take k) := Lib.hid (by rw [keptE_snoc k1, k2, k3]; simp)
  clear hix h0 k2 k3
  go_enter Try.func76, Try.ntmps76
  go_wp2_with fail
  refine HIX.out.mono ?_
  rintro e w1 ⟨rfl, b1⟩
  have B1 := Lib.hid b1
  clear b1 HIX
  go_wp2_with fail
  go_loopw [5, 6, 7] (fun s5 s6 _ wr => ∃ (i j : Nat) (R : List Ext), i < j ∧ j ≤ n ∧ s5 = .int .i64 i ∧ s6 = .int .i64 j ∧ R.length = n ∧ R.take i = keptE P (E.take j) ∧ R.drop j = E.drop j ∧ EOk R ∧ wr.ownsRow B 58 2 (.slice (some ⟨gE, 0, none⟩) n c) n (eRow R) ∧ Bar w wr (fun k => k = gE)) (fun _ s6 _ _ => n - (intOf s6).toNat)
  case atStart => exact ⟨k, k + 1, E, by omega, by omega, rfl, by go_num, HN.out.symm, K2.out.symm, rfl, OE.out, Rw.own_below HR.out B1.out, Bar.of_below B1.out _⟩
  case round =>
    obtain ⟨i, j, R, hij, hj, rfl, rfl, hRl, hRt, hRd, oR, hrow, hbar⟩ := hrel
    have hgE := (hrow.lt gE rfl).2
    by_cases hlt : j < n
    · obtain ⟨g0, o0, hge, hg0, d0, d1, z1, z2⟩ := (extAt_own hrow oR) j (by omega)
      cases hge
      have hRE : R.getD j default = E.getD j default := getD_drop hRd (Nat.le_refl _)
      have hjE : j < E.length := by rw [← HN.out]; exact hlt
      obtain ⟨W1, hW1⟩ : ∃ W1, W1 = wr.alloc (.cells #[.string (R.getD j default).1, .string (R.getD j default).2] 58) := ⟨_, rfl⟩
      have t1 : Below wr.heap.size wr W1 := by rw [hW1]; exact (Below.refl _ _).alloc (Nat.le_refl _) _
      have bx := Boxed.new wr #[.string (R.getD j default).1, .string (R.getD j default).2] 58
      rw [← hW1] at bx
      have hcall := HST.out W1 (hbar.trans (Bar.of_below t1 _)) j hjE
      have hsn := keptE_snoc (P := P) hjE
      rw [← hRE] at hcall hsn
      have hrow1 := Rw.own_below hrow t1
      have hbar1 := hbar.trans (Bar.of_below t1 _)
      obtain ⟨x, hx⟩ : ∃ x, x = (R.getD j default).1 := ⟨_, rfl⟩
      obtain ⟨y, hy⟩ : ∃ y, y = (R.getD j default).2 := ⟨_, rfl⟩
      have hxy : R.getD j default = (x, y) := by rw [hx, hy]
      obtain ⟨b, hb⟩ : ∃ b, b = P (R.getD j default) := ⟨_, rfl⟩
      rw [← hb, ← hx, ← hy] at hcall
      rw [← hb, hxy] at hsn
      rw [← hx, ← hy] at bx hW1
      rw [← hx] at d0 z1
      rw [← hy] at d1 z2
      have HC := Lib.hid hcall; have HSN := Lib.hid hsn; have BX := Lib.hid bx; have HRW := Lib.hid hrow1; have HBR := Lib.hid hbar1; have HW1 := Lib.hid hW1; have HRL := Lib.hid hRl; have HRT := Lib.hid hRt; have HRD := Lib.hid hRd; have ORR := Lib.hid oR
      have q0 : W1.cell? ⟨wr.heap.size, 0, none⟩ = some (.string x) := bx.cell 0 (by simp)
      have q1 : W1.cell? ⟨wr.heap.size, 1, none⟩ = some (.string y) := bx.cell 1 (by simp)
      simp only [Nat.zero_add] at d0 d1
      have m0 : (0 : Int) ≤ (j : Int) := by omega
      have m1 : (j : Int) < (n : Int) := by omega
      clear hcall hsn bx hrow1 hbar1 hW1 hRl hRt hRd oR hrow hbar t1 hx hy hxy hb hRE
      go_wp2_with fail
      rw [← HW1.out]
      refine HC.out.mono ?_
      rintro e w2 ⟨rfl, b2⟩
      have row2 := Rw.own_below HRW.out b2
      have bar2 := HBR.out.trans (Bar.of_below b2 _)
      have bx2 := BX.out.below b2
      have hdr : R.drop (j + 1) = E.drop (j + 1) := by
        have := congrArg (List.drop 1) HRD.out
        simpa [List.drop_drop, Nat.add_comm] using this
      have HDR := Lib.hid hdr
      cases b with
      | true =>
        have RW2 := Lib.hid row2; have BR2 := Lib.hid bar2
        clear row2 bar2 bx2 b2 hdr d0 d1 q0 q1 m0 m1 HW1 HC
        go_wp2_with fail
        go_roundw
        case rel => exact ⟨i, j + 1, R, by omega, by omega, rfl, by go_num, HRL.out, by rw [HSN.out]; simpa using HRT.out, HDR.out, ORR.out, RW2.out, BR2.out⟩
        case measure => simp [intOf]; omega
      | false =>
        have hin : i < R.length := by rw [HRL.out]; omega
        have hg2 := eRow_get R i hin
        have c0 := row2.cells (g := gE) rfl (i * 2) _ hg2.1
        have c1 := row2.cells (g := gE) rfl (i * 2 + 1) _ hg2.2
        simp only [Addr.add_lit, Nat.zero_add] at c0 c1
        have fr : ∀ o, w2.frozen? ⟨gE, o, none⟩ = false := own_free row2
        have f0 := fr (i * 2); have f1 := fr (i * 2 + 1)
        have p0 : w2.cell? ⟨wr.heap.size, 0, none⟩ = some (.string x) := bx2.cell 0 (by simp)
        have p1 : w2.cell? ⟨wr.heap.size, 1, none⟩ = some (.string y) := bx2.cell 1 (by simp)
        have row3 := own_set (own_set row2 (i * 2) (.string x)) (i * 2 + 1) (.string y)
        rw [eRow_set R i x y hin] at row3
        have bar3 := (bar2.setCell (q := ⟨gE, i * 2, none⟩) rfl (.string x)).setCell (q := ⟨gE, i * 2 + 1, none⟩) rfl (.string y)
        have RW3 := Lib.hid row3; have BR3 := Lib.hid bar3
        have i0 : (0 : Int) ≤ (i : Int) := by omega
        have i1 : (i : Int) < (n : Int) := by omega
        have OR2 : Hid (EOk (R.set i (x, y))) := Lib.hid (by
          rw [eOk_mem]
          intro u hu
          rcases List.mem_or_eq_of_mem_set hu with h | rfl
          · exact (eOk_mem.1 ORR.out) u h
          · exact ⟨z1, z2⟩)
        have T2 : Hid ((R.set i (x, y)).take (i + 1) = keptE P (E.take (j + 1))) := Lib.hid (by
          rw [HSN.out, ← HRT.out, List.take_succ_eq_append_getElem (by rw [List.length_set]; exact hin), List.getElem_set_self, List.take_set_of_le (Nat.le_refl _)]
          rfl)
        have D2 : Hid ((R.set i (x, y)).drop (j + 1) = E.drop (j + 1)) := Lib.hid (by rw [List.drop_set_of_lt (by omega)]; exact HDR.out)
        clear row2 bar2 bx2 b2 hdr d0 d1 q0 q1 m0 m1 HW1 HC fr row3 bar3 hg2
        go_wp2_with fail
        go_roundw
        case rel => exact ⟨i + 1, j + 1, R.set i (x, y), by omega, by omega, by go_num, by go_num, by rw [List.length_set]; exact HRL.out, T2.out, D2.out, OR2.out, RW3.out, BR3.out⟩
        case measure => simp [intOf]; omega
    · obtain rfl : n = j := by omega
      have hfull : E.take n = E := List.take_of_length_le (by rw [← HN.out]; exact Nat.le_refl _)
      rw [hfull] at hRt
      have hl := hrow.1
      obtain ⟨cur, hbg, hg, hcm, hcs, htk⟩ : ∃ cur, B ≤ gE ∧ wr.heap[gE]? = some (.cells cur 58 (0, 0)) ∧ c ≤ maxLen ∧ cur.size = c * 2 ∧ cur.toList.take (n * 2) = eRow R := by
        rcases hrow.2 with ⟨h, _⟩ | ⟨g', cap, cur, hv, h1, h2, _, h4, h5, h6⟩
        · cases h
        · cases hv; exact ⟨cur, h1, h2, h4, h5, h6⟩
      obtain ⟨Z, hZ, hcl⟩ := run_clearK (P := Try.prog) wr 22 58 (.agg #[.string ⟨#[]⟩, .string ⟨#[]⟩]) 2 Try.underlying22 (fun _ => rfl) rfl (by simp [Value.cells, Value.oneCell']) gE (i * 2) (n - i) (c - i) (by omega) cur 58 hg (by rw [hcs]; omega)
      obtain ⟨cur2, hc2⟩ : ∃ cur2, cur2 = (cur.toList.take (i * 2) ++ Z ++ cur.toList.drop (i * 2 + Z.length)).toArray := ⟨_, rfl⟩
      rw [← hc2] at hcl
      have hcl' : cur.toList.length = c * 2 := by rw [Array.length_toList]; exact hcs
      have hil : i = (keptE P E).length := by rw [← hRt, List.length_take, hRl]; omega
      have hz2 : cur2.size = c * 2 := by rw [hc2]; simp [hcs, hZ]; omega
      have htk2 : cur2.toList.take (i * 2) = eRow (keptE P E) := by
        rw [hc2, List.toList_toArray, List.append_assoc, List.take_append_of_le_length (by rw [List.length_take, hcl']; omega), List.take_take, Nat.min_self, ← hRt, ← (eRow_split R i).1, ← htk, List.take_take]
        congr 1
        omega
      have F : Hid (DelP w B gE c (keptE P E) (.returned (.slice (some ⟨gE, 0, none⟩) i c)) (wr.setRow gE cur2)) := Lib.hid (by
        unfold DelP
        rw [← hil]
        exact ⟨rfl, ⟨by rw [eRow_length, ← hil], .inr ⟨gE, c, cur2, rfl, hbg, setRow_heap wr gE cur _ 58 (0, 0) hg, by omega, hcm, hz2, htk2⟩⟩, hbar.trans ⟨rfl, rfl, rfl, by simp, fun k _ hp => setRow_other wr gE k cur2 hp⟩⟩)
      have e1 : ¬ (c = i) := by omega
      have e2 : i ≤ n := by omega
      have e3 : i ≤ c := by omega
      clear hfull hRt hRd oR hrow hbar hl hbg hg hcm hcs htk hZ hc2 hcl' hil hz2 htk2
      go_wp2
      go_ret
      exact F.out
end Go.Proofs.Ytejmbbhbimgheaa.Dk

/- The walk of begin. -/
import Derived.Test.YtgpheofdeflhdaaDkWalkH
namespace Go.Proofs.Ytgpheofdeflhdaa.Dk
open Go.RowKit Go.Op

def bgP (w : World) (E : List Ext) (L : List Wr) (z : Int) (fz : Int) (dn : Bool) (e : Ending) (w' : World) : Prop := ∃ g gE gW, e = .returned (.pointer (some ⟨g, 0, none⟩)) ∧ w.heap.size ≤ g ∧ g ≠ gE ∧ g ≠ gW ∧ gE ≠ gW ∧
  Boxed w' g [.int .i64 z, .slice (some ⟨gE, 0, none⟩) E.length (E.length + 1), .slice (some ⟨gW, 0, none⟩) L.length (L.length + 1), .int .i64 fz, .bool dn, .slice none 0 0] ∧
  w'.ownsRow w.heap.size 86 2 (.slice (some ⟨gE, 0, none⟩) E.length (E.length + 1)) E.length (eRow E) ∧
  w'.ownsRow w.heap.size 39 3 (.slice (some ⟨gW, 0, none⟩) L.length (L.length + 1)) L.length (wRow L) ∧ Below w.heap.size w w'

theorem take_ext (E : List Ext) (k : Nat) (h : k < E.length) : eRow (E.take (k + 1)) = eRow (E.take k) ++ [.string (E.getD k default).1, .string (E.getD k default).2] := by
  rw [List.take_succ_eq_append_getElem h, eRow_app]
  simp [eRow, List.getD_eq_getElem?_getD, List.getElem?_eq_getElem h]
theorem take_wr (E : List Wr) (k : Nat) (h : k < E.length) : wRow (E.take (k + 1)) = wRow (E.take k) ++ [.string (E.getD k default).1, .int .i64 (E.getD k default).2.1, .string (E.getD k default).2.2] := by
  rw [List.take_succ_eq_append_getElem h, wRow_app]
  simp [wRow, List.getD_eq_getElem?_getD, List.getElem?_eq_getElem h]
set_option maxHeartbeats 8000000 in
set_option maxRecDepth 100000 in
theorem begin_any (z : Int) (pE pW : Option Addr) (nE cE nW cW : Nat) (fz : Int) (dn : Bool) (E : List Ext) (L : List Wr) (w : World) (hn : nE = E.length) (h : ExtAt w pE E) (hE : nE ≤ 1000000) (hnW : nW = L.length) (hW : WrsAt w pW L) (hLl : nW ≤ 1000000) :
    Calls Try.prog 26 #[.agg #[.int .i64 z, .slice pE nE cE, .slice pW nW cW, .int .i64 fz, .bool dn]] w (bgP w E L z fz dn) := by
  obtain ⟨i0, hi0, hz0, hz1, hz2⟩ := info_parts info_ext
  obtain ⟨i1, hi1, hy0, hy1, hy2⟩ := info_parts info_wr
  obtain ⟨M, hM⟩ : ∃ M, M = madeCells (Value.agg #[.string ⟨#[]⟩, .string ⟨#[]⟩]).cells (((nE : Int) + 1).toNat * i0.size) := ⟨_, rfl⟩
  have hMs : M.size = (nE + 1) * 2 := by rw [hM, size_madeCells, hz1]; omega
  have hmk : ∀ W : World, (Instr.makeSlice 29 (.int .i64 0) (.int .i64 ((nE : Int) + 1))).run Try.prog W = .ok (.slice (some ⟨W.heap.size, 0, none⟩) 0 (nE + 1)) (W.alloc (.cells M 86)) := by
    intro W
    have h := run_make (P := Try.prog) W 29 86 i0 _ Try.underlying29 hi0 hz0 .i64 .i64 0 ((nE : Int) + 1) (by omega) (by omega) (by rw [hz2]; omega) (by omega)
    rw [← hM] at h
    rw [h]
    congr 1
  obtain ⟨M2, hM2⟩ : ∃ M2, M2 = madeCells (Value.agg #[.string ⟨#[]⟩, .int .i64 0, .string ⟨#[]⟩]).cells (((nW : Int) + 1).toNat * i1.size) := ⟨_, rfl⟩
  have hMs2 : M2.size = (nW + 1) * 3 := by rw [hM2, size_madeCells, hy1]; omega
  have hmk2 : ∀ W : World, (Instr.makeSlice 23 (.int .i64 0) (.int .i64 ((nW : Int) + 1))).run Try.prog W = .ok (.slice (some ⟨W.heap.size, 0, none⟩) 0 (nW + 1)) (W.alloc (.cells M2 39)) := by
    intro W
    have h := run_make (P := Try.prog) W 23 39 i1 _ Try.underlying23 hi1 hy0 .i64 .i64 0 ((nW : Int) + 1) (by omega) (by omega) (by rw [hy2]; omega) (by omega)
    rw [← hM2] at h
    rw [h]
    congr 1
  obtain ⟨A1, hA1⟩ : ∃ A1, A1 = (w.alloc (.cells #[.int .i64 z, .slice pE nE cE, .slice pW nW cW, .int .i64 fz, .bool dn] 31)) := ⟨_, rfl⟩
  obtain ⟨C6, hC6⟩ : ∃ C6 : Array Value, C6 = #[.int .i64 z, .slice (some ⟨w.heap.size + 1 + 1, 0, none⟩) 0 (nE + 1), .slice pW nW cW, .int .i64 fz, .bool dn, .slice none 0 0] := ⟨_, rfl⟩
  obtain ⟨A2, hA2⟩ : ∃ A2, A2 = A1.alloc (.cells C6 66) := ⟨_, rfl⟩
  obtain ⟨W0, hW0⟩ : ∃ W0, W0 = A2.alloc (.cells M 86) := ⟨_, rfl⟩
  have s1 : A1.heap.size = w.heap.size + 1 := by rw [hA1]; simp
  have s2 : A2.heap.size = w.heap.size + 1 + 1 := by rw [hA2]; simp [s1]
  have b1 : Below A1.heap.size A1 A2 := by rw [hA2]; exact (Below.refl _ _).alloc (Nat.le_refl _) _
  have b2 : Below A2.heap.size A2 W0 := by rw [hW0]; exact (Below.refl _ _).alloc (Nat.le_refl _) _
  have b0 : Below w.heap.size w A1 := by rw [hA1]; exact (Below.refl _ _).alloc (Nat.le_refl _) _
  have bb : Below w.heap.size w W0 := b0.trans ((b1.mono (by omega)).trans (b2.mono (by omega)))
  have xD : Boxed W0 w.heap.size #[.int .i64 z, .slice pE nE cE, .slice pW nW cW, .int .i64 fz, .bool dn].toList := by
    have := Boxed.new w #[.int .i64 z, .slice pE nE cE, .slice pW nW cW, .int .i64 fz, .bool dn] 31
    rw [← hA1] at this
    exact (this.below b1).below b2
  have xG : Boxed W0 (w.heap.size + 1) C6.toList := by
    have := Boxed.new A1 C6 66
    rw [← hA2, s1] at this
    exact this.below b2
  have xR : W0.ownsRow w.heap.size 86 2 (.slice (some ⟨w.heap.size + 1 + 1, 0, none⟩) 0 (nE + 1)) 0 [] := by
    have := World.ownsRow_made A2 (e := 86) (base := w.heap.size) (size := 2) M (nE + 1) (by omega) (by unfold maxLen; omega) hMs
    rw [← hW0, s2] at this
    exact this
  rw [hC6] at xG
  have HXD := Lib.hid xD; have HXG := Lib.hid xG; have HXR := Lib.hid xR; have HBB := Lib.hid bb
  have HE := Lib.hid h; have HW := Lib.hid hW
  have HMS2 := Lib.hid hMs2
  have HW0 := Lib.hid hW0; have HA2 := Lib.hid hA2; have HA1 := Lib.hid hA1; have HC6 := Lib.hid hC6
  clear xD xG xR b0 b1 b2 bb s1 s2 hM2 hMs2 hW0 hA2 hA1 hC6
  have HN := Lib.hid hn; have HNW := Lib.hid hnW; have HMS := Lib.hid hMs
  have HI := Lib.hid hi0; have HZ := Lib.hid hz1; have HI1 := Lib.hid hi1; have HY0 := Lib.hid hy0; have HY1 := Lib.hid hy1; have HY2 := Lib.hid hy2
  clear hn hnW hM hMs hi0 hz0 hz1 hz2 hi1 hy0 hy1 hy2 h hW
  go_enter Try.func26, Try.ntmps26
  go_wp2_with fail
  rw [← HA1.out, ← HC6.out, ← HA2.out, ← HW0.out]
  clear HW0 HA2 HA1 HC6 hmk
  go_loopw [5, 23] (fun _ i wr => ∃ (k : Nat), k ≤ nE ∧ i = .int .i64 k ∧ Boxed wr (w.heap.size + 1) [.int .i64 z, .slice (some ⟨w.heap.size + 1 + 1, 0, none⟩) k (nE + 1), .slice pW nW cW, .int .i64 fz, .bool dn, .slice none 0 0] ∧ wr.ownsRow w.heap.size 86 2 (.slice (some ⟨w.heap.size + 1 + 1, 0, none⟩) k (nE + 1)) k (eRow (E.take k)) ∧ Bar W0 wr (fun k => k = w.heap.size + 1 ∨ k = w.heap.size + 1 + 1)) (fun _ i _ => nE - (intOf i).toNat)
  case atStart => exact ⟨0, by omega, rfl, HXG.out, HXR.out, Bar.refl _ _⟩
  case round =>
    obtain ⟨k, hk, rfl, hbx, hrow, hbar⟩ := hrel
    have hbw : Below w.heap.size w wr := HBB.out.trans (hbar.below (fun k _ h => by omega) HBB.out.size)
    have hgl := hbx.lt
    by_cases hlt : k < nE
    · obtain ⟨g0, o0, rfl, hg0, d0, d1, z1, z2⟩ := (HE.out.below hbw) k (by rw [← HN.out]; exact hlt)
      have hd := take_ext E k (by rw [← HN.out]; exact hlt)
      obtain ⟨x, hxx⟩ : ∃ x, x = (E.getD k default).1 := ⟨_, rfl⟩
      obtain ⟨y, hy⟩ : ∃ y, y = (E.getD k default).2 := ⟨_, rfl⟩
      rw [← hxx] at d0 z1 hd; rw [← hy] at d1 z2 hd
      have HD2 := Lib.hid hd
      have hx1 : x.size ≤ 281474976710656 := by omega
      have hy1 : y.size ≤ 281474976710656 := by omega
      obtain ⟨W1, hW1⟩ : ∃ W1, W1 = wr.alloc (.cells #[.string x, .string y] 86) := ⟨_, rfl⟩
      have t1 : Below wr.heap.size wr W1 := by rw [hW1]; exact (Below.refl _ _).alloc (Nat.le_refl _) _
      have u1 := hbx.below t1
      have u2 := Rw.own_below hrow t1
      have u3 := Boxed.new wr #[.string x, .string y] 86
      rw [← hW1] at u3
      obtain ⟨BB, hBB⟩ : ∃ BB : World → Prop, BB = fun W => Boxed W (w.heap.size + 1) [.int .i64 z, .slice (some ⟨w.heap.size + 1 + 1, 0, none⟩) k (nE + 1), .slice pW nW cW, .int .i64 fz, .bool dn, .slice none 0 0] ∧ W.ownsRow w.heap.size 86 2 (.slice (some ⟨w.heap.size + 1 + 1, 0, none⟩) k (nE + 1)) k (eRow (E.take k)) ∧ Boxed W wr.heap.size [.string x, .string y] ∧ Below W1.heap.size W1 W := ⟨_, rfl⟩
      have hK : ∀ W, BB W → W.cell? ⟨w.heap.size + 1, 1, none⟩ = some (.slice (some ⟨w.heap.size + 1 + 1, 0, none⟩) k (nE + 1)) ∧ W.cell? ⟨wr.heap.size, 0, none⟩ = some (.string x) ∧ W.cell? ⟨wr.heap.size, 1, none⟩ = some (.string y) ∧ w.heap.size + 1 < W.heap.size ∧ wr.heap.size < W.heap.size := by
        intro W h; rw [hBB] at h; exact ⟨h.1.cell 1 (by simp), h.2.2.1.cell 0 (by simp), h.2.2.1.cell 1 (by simp), h.1.lt, h.2.2.1.lt⟩
      have hF : ∀ W, BB W → Boxed W (w.heap.size + 1) [.int .i64 z, .slice (some ⟨w.heap.size + 1 + 1, 0, none⟩) k (nE + 1), .slice pW nW cW, .int .i64 fz, .bool dn, .slice none 0 0] ∧ Bar W0 W (fun k => k = w.heap.size + 1 ∨ k = w.heap.size + 1 + 1) := by
        intro W h; rw [hBB] at h; exact ⟨h.1, hbar.trans ((Bar.of_below t1 _).trans (Bar.of_below h.2.2.2 _))⟩
      have hR : ∀ W, BB W → W.ownsRow w.heap.size 86 2 (.slice (some ⟨w.heap.size + 1 + 1, 0, none⟩) k (nE + 1)) k (eRow (E.take k)) := by
        intro W h; rw [hBB] at h; exact h.2.1
      have hL : ∀ W W' : World, BB W → Below W.heap.size W W' → BB W' := by
        intro W W' h hb
        rw [hBB] at h ⊢
        exact ⟨h.1.below hb, Rw.own_below h.2.1 hb, h.2.2.1.below hb, h.2.2.2.trans (hb.mono h.2.2.2.size)⟩
      have hD : ∀ W, BB W → BB W.drew := fun W h => hL W _ h (Below.drew (Below.refl _ W))
      have h0 : BB W1 := by rw [hBB]; exact ⟨u1, u2, u3, Below.refl _ _⟩
      have HK := Lib.hid hK; have HL := Lib.hid hL; have HD := Lib.hid hD; have HF := Lib.hid hF; have HR := Lib.hid hR; have H0 := Lib.hid h0
      have HRM : Hid (k + 1 ≤ nE + 1) := Lib.hid (by omega)
      have HW1 := Lib.hid hW1
      obtain ⟨q0, q1, q2, q3, q4⟩ := hK W1 h0
      clear hK hL hD hF hR h0 hxx hy hd hbx hrow hbar hbw t1 u1 u2 u3 hW1 hBB
      go_wp2_with fail
      rw [← HW1.out]
      clear d0 d1 HW1
      go_region_law (first
        | (refine step_push _ (by rfl) _ _ _ (by rfl) w.heap.size 86 i0 2 Try.underlying29 HI.out HZ.out (w.heap.size + 1 + 1) k (nE + 1) (eRow (E.take k)) (by rfl) (HR.out _ (by repeat (first | exact H0.out | assumption | apply HD.out))) [.string x, .string y] (by rfl) (by rfl) (by rfl) HRM.out ?_; intro w1 hown1 hbar
           have hF := HF.out _ hw
           have hbx := hF.1.bar hbar (by omega)
           have hbb := hF.2.trans (hbar.mono (fun k _ h => Or.inr h))
           have c2 : w1.cell? ⟨w.heap.size + 1, 1, none⟩ = some (.slice (some ⟨w.heap.size + 1 + 1, 0, none⟩) k (nE + 1)) := hbx.cell 1 (by simp)
           have f2 : w1.frozen? ⟨w.heap.size + 1, 1, none⟩ = false := hbx.free 1 (by simp)
           have HBX := Lib.hid hbx; have HBB2 := Lib.hid hbb; have HOW := Lib.hid hown1
           clear hF hbar hbx hbb hown1)
        | (go_simp; go_at_call 30; ((with_reducible refine (Cln.clone_any x _ hx1).mono ?_)); rintro e w' ⟨rfl, hb⟩; have hw := HL.out _ _ (by repeat (first | exact H0.out | assumption | apply HD.out)) hb; obtain ⟨q0, q1, q2, q3, q4⟩ := HK.out _ hw; clear hb)
        | (go_simp; go_at_call 30; ((with_reducible refine (Cln.clone_any y _ hy1).mono ?_)); rintro e w' ⟨rfl, hb⟩; have hw := HL.out _ _ (by repeat (first | exact H0.out | assumption | apply HD.out)) hb; obtain ⟨q0, q1, q2, q3, q4⟩ := HK.out _ hw; clear hb))
      all_goals go_wp2_with fail
      all_goals go_roundw
      all_goals (first | (simp [intOf]; done) | (simp [intOf]; omega) | exact ⟨k + 1, by omega, by go_num, HBX.out.set (by simp) _, by rw [HD2.out]; exact own_bar HOW.out ((Bar.refl _ (fun k => k = w.heap.size + 1)).setCell rfl _) (fun k hk h => by simp [Value.ownBlock] at hk; omega), HBB2.out.setCell (Or.inl rfl) _⟩)
    · obtain rfl : nE = k := by omega
      have hfull : E.take nE = E := List.take_of_length_le (by rw [← HN.out]; exact Nat.le_refl _)
      rw [hfull] at hrow
      have xD := HXD.out.bar hbar (by omega)
      have q2 : wr.cell? ⟨w.heap.size, 2, none⟩ = some (.slice pW nW cW) := xD.cell 2 (by simp)
      have p2 : wr.cell? ⟨w.heap.size + 1, 2, none⟩ = some (.slice pW nW cW) := hbx.cell 2 (by simp)
      have f2 : wr.frozen? ⟨w.heap.size + 1, 2, none⟩ = false := hbx.free 2 (by simp)
      have l0 : w.heap.size < wr.heap.size := xD.lt
      have l2 : w.heap.size + 1 + 1 < wr.heap.size := (hrow.lt _ rfl).2
      obtain ⟨S1, hS1⟩ : ∃ S1, S1 = wr.setCell ⟨w.heap.size + 1, 2, none⟩ (.slice (some ⟨wr.heap.size, 0, none⟩) 0 (nW + 1)) := ⟨_, rfl⟩
      obtain ⟨W3, hW3⟩ : ∃ W3, W3 = S1.alloc (.cells M2 39) := ⟨_, rfl⟩
      have s1 : S1.heap.size = wr.heap.size := by rw [hS1]; simp
      have t2 : Bar wr S1 (fun k => k = w.heap.size + 1) := by rw [hS1]; exact (Bar.refl _ (fun k => k = w.heap.size + 1)).setCell rfl _
      have t1 : Below S1.heap.size S1 W3 := by rw [hW3]; exact (Below.refl _ _).alloc (Nat.le_refl _) _
      have v1 : Boxed S1 (w.heap.size + 1) [.int .i64 z, .slice (some ⟨w.heap.size + 1 + 1, 0, none⟩) nE (nE + 1), .slice (some ⟨wr.heap.size, 0, none⟩) 0 (nW + 1), .int .i64 fz, .bool dn, .slice none 0 0] := by rw [hS1]; exact hbx.set (by simp) _
      have u1 := v1.below t1
      have u2 : W3.ownsRow w.heap.size 86 2 (.slice (some ⟨w.heap.size + 1 + 1, 0, none⟩) nE (nE + 1)) nE (eRow E) := Rw.own_below (own_bar hrow t2 (fun k hk h => by simp [Value.ownBlock] at hk; omega)) t1
      have u3 : W3.ownsRow w.heap.size 39 3 (.slice (some ⟨wr.heap.size, 0, none⟩) 0 (nW + 1)) 0 [] := by
        have := World.ownsRow_made S1 (e := 39) (base := w.heap.size) (size := 3) M2 (nW + 1) (by omega) (by unfold maxLen; omega) HMS2.out
        rw [← hW3, s1] at this
        exact this
      have u4 : Below w.heap.size w W3 := hbw.trans ((t2.below (fun k _ h => by omega) (by omega)).trans (t1.mono (by omega)))
      have HS1 := Lib.hid hS1
      have HU1 := Lib.hid u1; have HU2 := Lib.hid u2; have HU3 := Lib.hid u3; have HU4 := Lib.hid u4; have HW3 := Lib.hid hW3
      clear hfull xD t1 t2 u1 u2 u3 u4 v1 s1 hW3 hS1 hbx hrow hbar hbw
      go_wp2_with fail
      rw [← HS1.out, ← HW3.out]
      clear HS1
      obtain ⟨gW, hgW⟩ : ∃ gW, gW = wr.heap.size := ⟨_, rfl⟩
      rw [← hgW] at HU1 HU3 l0 l2 hgl ⊢
      clear HW3 hgW hmk2 q2 p2 f2
      go_loopw [7, 58] (fun _ i wr => ∃ (k : Nat), k ≤ nW ∧ i = .int .i64 k ∧ Boxed wr (w.heap.size + 1) [.int .i64 z, .slice (some ⟨w.heap.size + 1 + 1, 0, none⟩) nE (nE + 1), .slice (some ⟨gW, 0, none⟩) k (nW + 1), .int .i64 fz, .bool dn, .slice none 0 0] ∧ wr.ownsRow w.heap.size 86 2 (.slice (some ⟨w.heap.size + 1 + 1, 0, none⟩) nE (nE + 1)) nE (eRow E) ∧ wr.ownsRow w.heap.size 39 3 (.slice (some ⟨gW, 0, none⟩) k (nW + 1)) k (wRow (L.take k)) ∧ Below w.heap.size w wr) (fun _ i _ => nW - (intOf i).toNat)
      case atStart => exact ⟨0, by omega, rfl, HU1.out, HU2.out, HU3.out, HU4.out⟩
      case round =>
        obtain ⟨k, hk, rfl, hbx, hrow, hrw, hbw⟩ := hrel
        by_cases hlt2 : k < nW
        · obtain ⟨g0, o0, rfl, hg0, d0, d1, d2, z1, z2⟩ := (HW.out.below hbw) k (by rw [← HNW.out]; exact hlt2)
          have hd := take_wr L k (by rw [← HNW.out]; exact hlt2)
          obtain ⟨n, hn⟩ : ∃ n, n = (L.getD k default).1 := ⟨_, rfl⟩
          obtain ⟨s, hs⟩ : ∃ s, s = (L.getD k default).2.1 := ⟨_, rfl⟩
          obtain ⟨d, hdd⟩ : ∃ d, d = (L.getD k default).2.2 := ⟨_, rfl⟩
          rw [← hn] at d0 z1 hd; rw [← hs] at d1 hd; rw [← hdd] at d2 z2 hd
          have t1 : Below wr.heap.size wr (wr.alloc (.cells #[.string n, .int .i64 s, .string d] 39)) := (Below.refl _ _).alloc (Nat.le_refl _) _
          have u1 := hbx.below t1
          have u2 := Rw.own_below hrow t1
          have u3 := Rw.own_below hrw t1
          have u4 := hbw.trans (t1.mono hbw.size)
          have HD2 := Lib.hid hd; have HU1 := Lib.hid u1; have HU2 := Lib.hid u2; have HU3 := Lib.hid u3; have HU4 := Lib.hid u4
          clear hd u1 u2 u3 u4 t1 hbx hrow hrw hbw hn hs hdd
          go_wp2_with fail
          refine (wait_any (w.heap.size + 1) gW k (nW + 1) w.heap.size _ _ _ _ _ (wRow (L.take k)) n s d _ HU1.out HU3.out (by omega) (by omega) (by omega) (by omega)).mono ?_
          rintro e w2 ⟨rfl, hbx2, hrow2, hbar2⟩
          have r1 := own_bar HU2.out hbar2 (fun k hk h => by simp [Value.ownBlock] at hk; omega)
          have r2 := HU4.out.trans (hbar2.below (B := w.heap.size) (fun k _ h => by omega) HU4.out.size)
          have R1 := Lib.hid r1; have R2 := Lib.hid r2; have HB2 := Lib.hid hbx2; have HR2 := Lib.hid hrow2
          clear r1 r2 hbx2 hrow2 hbar2 d0 d1 d2
          go_wp2_with fail
          go_roundw
          all_goals (first | (simp [intOf]; done) | (simp [intOf]; omega) | exact ⟨k + 1, by omega, by go_num, HB2.out, R1.out, by rw [HD2.out]; exact HR2.out, R2.out⟩)
        · obtain rfl : nW = k := by omega
          have hfull : L.take nW = L := List.take_of_length_le (by rw [← HNW.out]; exact Nat.le_refl _)
          rw [hfull] at hrw
          have F : Hid (bgP w E L z fz dn (.returned (.pointer (some ⟨w.heap.size + 1, 0, none⟩))) wr) := Lib.hid ⟨w.heap.size + 1, w.heap.size + 1 + 1, gW, rfl, by omega, by omega, by omega, by omega, by rw [← HN.out, ← HNW.out]; exact hbx, by rw [← HN.out]; exact hrow, by rw [← HNW.out]; exact hrw, hbw⟩
          clear hfull hbx hrow hrw hbw
          go_wp2_with fail
          go_ret
          exact F.out
end Go.Proofs.Ytgpheofdeflhdaa.Dk

/- The walk of insert. -/
import Derived.Test.YtgpheofdeflhdaaDkIns
import Derived.Test.YtgpheofdeflhdaaDkWalkJ
namespace Go.Proofs.Ytgpheofdeflhdaa.Dk
open Go.RowKit Go.Op

theorem eRow_one (E : List Ext) : (eRow E).all (fun u => u.oneCell') = true := by
  rw [List.all_eq_true]
  intro u hu
  simp only [eRow, List.mem_flatMap] at hu
  obtain ⟨x, _, hx⟩ := hu
  simp at hx
  rcases hx with rfl | rfl <;> rfl
/-- with an extent more -/
def insE (E : List Ext) (k : Nat) (x y : ByteArray) : List Ext := E.take k ++ [(x, y)] ++ E.drop k
theorem eRow_split : ∀ (E : List Ext) (k : Nat), (eRow E).take (k * 2) = eRow (E.take k) ∧ (eRow E).drop (k * 2) = eRow (E.drop k)
  | E, 0 => by simp [eRow]
  | [], k + 1 => by simp [eRow]
  | x :: E, k + 1 => by
    have e : eRow (x :: E) = .string x.1 :: .string x.2 :: eRow E := rfl
    have h := eRow_split E k
    rw [e, show (k + 1) * 2 = k * 2 + 1 + 1 by omega]
    simp only [List.take_succ_cons, List.drop_succ_cons]
    rw [h.1, h.2]
    exact ⟨rfl, rfl⟩
theorem eRow_ins (E : List Ext) (k : Nat) (x y : ByteArray) : (eRow E).take (k * 2) ++ [.string x, .string y] ++ (eRow E).drop (k * 2) = eRow (insE E k x y) := by
  unfold insE
  rw [eRow_app, eRow_app, (eRow_split E k).1, (eRow_split E k).2]
  rfl
theorem insE_length (E : List Ext) (k : Nat) (x y : ByteArray) (h : k ≤ E.length) : (insE E k x y).length = E.length + 1 := by
  unfold insE; simp; omega

theorem ins_new (W : World) (B gE n c k : Nat) (E : List Ext) (x y : ByteArray) (hn : n = E.length) (hr : W.ownsRow B 86 2 (.slice (some ⟨gE, 0, none⟩) n c) n (eRow E)) (hroom : n + 1 ≤ c) (hk : k ≤ n) (hc : c ≤ 1000000000) :
    Calls Try.prog 57 #[.slice (some ⟨gE, 0, none⟩) n c, .int .i64 (k : Int), .slice (some ⟨W.heap.size, 0, none⟩) 1 1] (W.alloc (.cells #[.string x, .string y] 86)) (InsP W B gE n c (eRow (insE E k x y))) := by
  have hlt := (hr.lt gE rfl).2
  have hb : Below W.heap.size W (W.alloc (.cells #[.string x, .string y] 86)) := (Below.refl _ _).alloc (Nat.le_refl _) _
  have hr2 := Rw.own_below hr hb
  have hv := Boxed.new W #[.string x, .string y] 86
  have hheap := heap_alloc_new W (.cells #[.string x, .string y] 86)
  by_cases h : k = n
  · subst h
    refine (insEnd_any B gE k c W.heap.size (eRow E) x y _ hr2 hv hroom).mono ?_
    rintro e w' ⟨rfl, h2, h3⟩
    refine ⟨rfl, ?_, (Bar.of_below hb _).trans h3⟩
    have : insE E k x y = E ++ [(x, y)] := by unfold insE; rw [hn]; simp
    rw [this, eRow_app]
    exact h2
  · refine (insMid_any B gE n c W.heap.size k (eRow E) x y _ 86 2 hr2 hv (by omega) hroom (by omega) hc (eRow_one E) (by unfold World.shape?; rw [hheap]; rfl) (by unfold World.frozen?; rw [hheap]; simp)).mono ?_
    rintro e w' ⟨rfl, h2, h3⟩
    refine ⟨rfl, ?_, (Bar.of_below hb _).trans h3⟩
    rw [← eRow_ins]
    exact h2

set_option maxHeartbeats 8000000 in
set_option maxRecDepth 100000 in
theorem insert_any (z : Int) (E : List Ext) (fz : Int) (dn : Bool) (B g gE nE c : Nat) (pW : Option Addr) (nW cW : Nat) (vb : Value) (x y : ByteArray) (w : World) (hn : nE = E.length)
    (hb : Boxed w g [.int .i64 z, .slice (some ⟨gE, 0, none⟩) nE c, .slice pW nW cW, .int .i64 fz, .bool dn, vb]) (hr : w.ownsRow B 86 2 (.slice (some ⟨gE, 0, none⟩) nE c) nE (eRow E)) (hg : g ≠ gE) (hroom : nE + 1 ≤ c) (hc : c ≤ 1000000000) (hs : Sorted E) (oE : EOk E) :
    Calls Try.prog 45 #[.pointer (some ⟨g, 0, none⟩), .agg #[.string x, .string y]] w fun e w' => e = .returned (.tuple #[]) ∧
      Boxed w' g [.int .i64 z, .slice (some ⟨gE, 0, none⟩) (nE + 1) c, .slice pW nW cW, .int .i64 fz, .bool dn, vb] ∧ w'.ownsRow B 86 2 (.slice (some ⟨gE, 0, none⟩) (nE + 1) c) (nE + 1) (eRow (insE E (pos E x) x y)) ∧ Bar w w' (fun k => k = g ∨ k = gE) := by
  obtain ⟨W0, hW0⟩ : ∃ W0, W0 = w.alloc (.cells #[.string x, .string y] 86) := ⟨_, rfl⟩
  have t0 : Below w.heap.size w W0 := by rw [hW0]; exact (Below.refl _ _).alloc (Nat.le_refl _) _
  have u1 := hb.below t0
  have u2 := Rw.own_below hr t0
  have u3 : Boxed W0 w.heap.size [.string x, .string y] := by rw [hW0]; exact Boxed.new w #[.string x, .string y] 86
  obtain ⟨k, hk⟩ : ∃ k, k = pos E x := ⟨_, rfl⟩
  have hkn : k ≤ nE := by rw [hk, hn]; exact pos_le _ _
  obtain ⟨bo, hbo⟩ : ∃ bo, bo = isAt E x := ⟨_, rfl⟩
  obtain ⟨BB, hBB⟩ : ∃ BB : World → Prop, BB = fun W => Boxed W g [.int .i64 z, .slice (some ⟨gE, 0, none⟩) nE c, .slice pW nW cW, .int .i64 fz, .bool dn, vb] ∧ W.ownsRow B 86 2 (.slice (some ⟨gE, 0, none⟩) nE c) nE (eRow E) ∧ Boxed W w.heap.size [.string x, .string y] ∧ Below w.heap.size w W := ⟨_, rfl⟩
  have hK : ∀ W, BB W → BB W ∧ W.cell? ⟨g, 0, none⟩ = some (.int .i64 z) ∧ W.cell? ⟨g, 1, none⟩ = some (.slice (some ⟨gE, 0, none⟩) nE c) ∧ W.cell? ⟨g, 2, none⟩ = some (.slice pW nW cW) ∧ W.cell? ⟨g, 3, none⟩ = some (.int .i64 fz) ∧ W.cell? ⟨g, 4, none⟩ = some (.bool dn) ∧ W.cell? ⟨w.heap.size, 0, none⟩ = some (.string x) ∧ W.cell? ⟨w.heap.size, 1, none⟩ = some (.string y) := by
    intro W h
    refine ⟨h, ?_⟩
    rw [hBB] at h
    exact ⟨h.1.cell 0 (by simp), h.1.cell 1 (by simp), h.1.cell 2 (by simp), h.1.cell 3 (by simp), h.1.cell 4 (by simp), h.2.2.1.cell 0 (by simp), h.2.2.1.cell 1 (by simp)⟩
  have hL : ∀ W W' : World, BB W → Below W.heap.size W W' → BB W' := by
    intro W W' h hb
    rw [hBB] at h ⊢
    exact ⟨h.1.below hb, Rw.own_below h.2.1 hb, h.2.2.1.below hb, h.2.2.2.trans (hb.mono h.2.2.2.size)⟩
  have hD : ∀ W, BB W → BB W.drew := fun W h => hL W _ h (Below.drew (Below.refl _ W))
  have hE : ∀ W, BB W → ExtAt W (some ⟨gE, 0, none⟩) E ∧ W.ownsRow B 86 2 (.slice (some ⟨gE, 0, none⟩) nE c) nE (eRow E) := by
    intro W h; rw [hBB] at h; exact ⟨extAt_own h.2.1 oE, h.2.1⟩
  have hF : ∀ W, BB W → Boxed W g [.int .i64 z, .slice (some ⟨gE, 0, none⟩) nE c, .slice pW nW cW, .int .i64 fz, .bool dn, vb] ∧ Bar w W (fun k => k = g ∨ k = gE) ∧ g < W.heap.size ∧ w.heap.size < W.heap.size := by
    intro W h; rw [hBB] at h; exact ⟨h.1, Bar.of_below h.2.2.2 _, h.1.lt, h.2.2.1.lt⟩
  have h0 : BB W0 := by rw [hBB]; exact ⟨u1, u2, u3, t0⟩
  have HK := Lib.hid hK; have HL := Lib.hid hL; have HD := Lib.hid hD; have HE := Lib.hid hE; have HF := Lib.hid hF; have H0 := Lib.hid h0; have HS := Lib.hid hs; have HN := Lib.hid hn; have HG := Lib.hid hg; have HKK := Lib.hid hk; have HBO := Lib.hid hbo; have HW0 := Lib.hid hW0
  have hnE : nE ≤ 1000000000 := by omega
  rw [← hk]
  clear hBB hK hL hD hE hF h0 u1 u2 u3 t0 hb hr hs oE hn hk hbo hg hW0
  go_enter Try.func45, Try.ntmps45
  go_wp2_with fail
  rw [← HW0.out]
  go_region_held3 (fun W => BB W ∧ W.cell? ⟨g, 0, none⟩ = some (.int .i64 z) ∧ W.cell? ⟨g, 1, none⟩ = some (.slice (some ⟨gE, 0, none⟩) nE c) ∧ W.cell? ⟨g, 2, none⟩ = some (.slice pW nW cW) ∧ W.cell? ⟨g, 3, none⟩ = some (.int .i64 fz) ∧ W.cell? ⟨g, 4, none⟩ = some (.bool dn) ∧ W.cell? ⟨w.heap.size, 0, none⟩ = some (.string x) ∧ W.cell? ⟨w.heap.size, 1, none⟩ = some (.string y)) ((refine HK.out _ ?_; repeat (first | exact H0.out | assumption | apply HD.out))) ((go_at_call 43; ((with_reducible refine (place_any z (some ⟨gE, 0, none⟩) pW nE c nW cW fz dn E x _ HN.out (HE.out _ (by repeat (first | exact H0.out | assumption | apply HD.out))).1 HS.out hnE).mono ?_)); rw [← HKK.out, ← HBO.out]; rintro e w' ⟨rfl, hb⟩; have hw := HL.out _ _ (by repeat (first | exact H0.out | assumption | apply HD.out)) hb; clear hb))
  obtain ⟨_, r0, r1, r2, r3, r4, r5, r6⟩ := HK.out _ hw
  obtain ⟨_, _, l1, l2⟩ := HF.out _ hw
  go_wp2_with fail
  go_region_law (first
    | (go_simp; go_at_call 57; refine (ins_new _ B gE nE c k E x y HN.out (HE.out _ (HD.out _ hw)).2 hroom hkn hc).mono ?_; rintro e w2 ⟨rfl, h2, h3⟩
       have hF := HF.out _ (HD.out _ hw)
       have hbx := hF.1.bar h3 HG.out
       have hbb := hF.2.1.trans (h3.mono (fun k _ h => Or.inr h))
       have c1 : w2.cell? ⟨g, 1, none⟩ = some (.slice (some ⟨gE, 0, none⟩) nE c) := hbx.cell 1 (by simp)
       have f1 : w2.frozen? ⟨g, 1, none⟩ = false := hbx.free 1 (by simp)
       have HBX := Lib.hid hbx; have HBB := Lib.hid hbb; have HOW := Lib.hid h2
       clear hF h2 h3 hbx hbb)
    | fail)
  all_goals go_end0
  all_goals exact ⟨rfl, HBX.out.set (by simp) _, own_bar HOW.out ((Bar.refl _ (fun k => k = g)).setCell rfl _) (fun k hk h => by simp [Value.ownBlock] at hk; exact HG.out (by omega)), HBB.out.setCell (Or.inl rfl) _⟩
end Go.Proofs.Ytgpheofdeflhdaa.Dk

/- What holds between two rounds of put's loop. -/
import Derived.Test.YthkgdjclgphodaaLsPutA
namespace Go.Proofs.Ythkgdjclgphodaa.Ls
open Go.RowKit Rw Nm

def PutI (B g gk gt ck ct b0 bl k i : Nat) (K2 : Keys) (T0 : List Nat) (w : World) (pre : List (Fin k)) (W : World) : Prop :=
  ∃ s : Nat × List Nat, s = (pre.map Fin.val).foldl (putS K2) (i, T0) ∧ (s.1 < k ∧ s.2.length = k ∧ ∀ n, n < k → s.2.getD n 0 < k) ∧ WkO W B g gk gt ck ct bl K2 s.2 ∧ Bx W b0 [.pointer (some ⟨g, 0, none⟩)] ∧ Bx W bl [.int .i64 (s.1 : Nat)] ∧ Below B w W

variable {B g gk gt ck ct b0 bl k i : Nat} {K2 : Keys} {T0 : List Nat} {w : World}
theorem PutI.own {D : Nat} (hB : B ≤ w.heap.size) (hD : B ≤ D) : OwnFrom D (PutI B g gk gt ck ct b0 bl k i K2 T0 w) := by
  rintro pre W W' row ⟨s, e, ok, hO, h0, hl, hb⟩ hg hr
  have hr' : ∀ r, row = some r → ∃ o : Obj, W.heap[r]? = some o ∧ o.isCells = false := fun r e => (hr r e).2
  exact ⟨s, e, ok, hO.kept hg hr', h0.kept (by simp) hg hr', hl.kept (by simp) hg hr', hb.grown hg (Nat.le_trans hB hb.size) (fun k e => Nat.le_trans hD (hr k e).1)⟩
theorem WkO.drewN {W : World} {K : Keys} {T : List Nat} (h : WkO W B g gk gt ck ct bl K T) (n : Nat) : WkO (W.drewN n) B g gk gt ck ct bl K T := h.below (below_drewN (Below.refl _ _) n)
theorem Bx.drewN {W : World} {b : Nat} {cs : List Value} (h : Bx W b cs) (n : Nat) : Bx (W.drewN n) b cs := h.below (below_drewN (Below.refl _ _) n)
theorem PutI.stay {W : World} {pre : List (Fin k)} {x : Fin k} {s : Nat × List Nat} (e : s = (pre.map Fin.val).foldl (putS K2) (i, T0)) (ok : s.1 < k ∧ s.2.length = k ∧ ∀ n, n < k → s.2.getD n 0 < k) (hO : WkO W B g gk gt ck ct bl K2 s.2)
    (h0 : Bx W b0 [.pointer (some ⟨g, 0, none⟩)]) (hl : Bx W bl [.int .i64 (s.1 : Nat)]) (hb : Below B w W) (hbt : bt K2 (s.2.getD x.val 0) s.1 = false) (z : Nat) : PutI B g gk gt ck ct b0 bl k i K2 T0 w (pre ++ [x]) (W.drewN z) := by
  have e2 : putS K2 s x.val = s := by unfold putS; rw [hbt]; simp
  exact ⟨s, by rw [List.map_append, List.foldl_append, ← e]; exact e2.symm, ok, hO.drewN z, h0.drewN z, hl.drewN z, below_drewN hb z⟩
theorem PutI.swap {W : World} {pre : List (Fin k)} {x : Fin k} {s : Nat × List Nat} (e : s = (pre.map Fin.val).foldl (putS K2) (i, T0)) (ok : s.1 < k ∧ s.2.length = k ∧ ∀ n, n < k → s.2.getD n 0 < k) (hO : WkO W B g gk gt ck ct bl K2 s.2)
    (h0 : Bx W b0 [.pointer (some ⟨g, 0, none⟩)]) (hl : Bx W bl [.int .i64 (s.1 : Nat)]) (hb : Below B w W) (hbt : bt K2 (s.2.getD x.val 0) s.1 = true) (h01 : b0 ≠ bl) (h02 : b0 ≠ gt) (hbl : B ≤ bl) (z : Nat) :
    PutI B g gk gt ck ct b0 bl k i K2 T0 w (pre ++ [x]) (((W.drewN z).setCell ⟨gt, x.val, none⟩ (.int .i64 (s.1 : Nat))).setCell ⟨bl, 0, none⟩ (.int .i64 (s.2.getD x.val 0 : Nat))) := by
  have e2 : putS K2 s x.val = (s.2.getD x.val 0, s.2.set x.val s.1) := by unfold putS; rw [hbt]; simp
  have ok2 := PutS_ok (K := K2) ok x.isLt
  have hgt := (hO.wk.tree.lt gt rfl).1
  refine ⟨putS K2 s x.val, by rw [List.map_append, List.foldl_append, ← e]; rfl, ok2, ?_, ?_, ?_, ?_⟩
  · rw [e2]; exact ((hO.drewN z).setNode _ _).setLeaf _
  · exact ((h0.drewN z).other (by show gt ≠ b0; omega) _).other (by show bl ≠ b0; omega) _
  · rw [e2]; exact ((hl.drewN z).other (a := ⟨gt, x.val, none⟩) (fun h => hO.o3 h.symm) _).set (i := 0) (by simp) _
  · exact ((below_drewN hb z).setCell (p := ⟨gt, x.val, none⟩) hgt _).setCell (p := ⟨bl, 0, none⟩) hbl _
theorem keeps_drewN (W : World) (n : Nat) : KeepsOthers W (W.drewN n) := ⟨Nat.le_refl _, fun _ _ h _ => h⟩
end Go.Proofs.Ythkgdjclgphodaa.Ls

/- The walk of settle (of a disk at work). -/
import Derived.Test.YtgpheofdeflhdaaDkWalkV
import Derived.Test.YtgpheofdeflhdaaDkWalkN
namespace Go.Proofs.Ytgpheofdeflhdaa.Dk
open Go.RowKit Go.Op

theorem wrOk_at {E : List Ext} {L : List Wr} (h : L.all (wrOk E) = true) (i : Nat) (hi : i < L.length) : isAt E (L.getD i default).1 = true ∧ 0 ≤ (L.getD i default).2.1 ∧ ((L.getD i default).2.1.toNat + 1) * 64 ≤ (E.getD (pos E (L.getD i default).1) default).2.size ∧ (L.getD i default).2.2.size = 64 := by
  have hm : L.getD i default ∈ L := by rw [List.getD_eq_getElem?_getD, List.getElem?_eq_getElem hi]; exact List.getElem_mem hi
  have h1 := List.all_eq_true.1 h _ hm
  simp only [wrOk, Bool.and_eq_true, decide_eq_true_eq] at h1
  obtain ⟨⟨h2, h3⟩, h4⟩ := h1
  unfold lookN at h3
  split at h3
  · rename_i h5
    refine ⟨h5, h2, ?_, h4⟩
    unfold many at h3
    omega
  · omega
theorem setlE_from (kp : Nat → Bool) (L : List Wr) (k : Nat) (hk : k < L.length) (C : List Ext) : setlE kp k (L.drop k) C = setlE kp (k + 1) (L.drop (k + 1)) (if kp k = true then doneE C (L.getD k default) else C) := by
  rw [List.drop_eq_getElem_cons hk]
  simp only [setlE]
  have : L.getD k default = L[k] := by simp [List.getD_eq_getElem?_getD, List.getElem?_eq_getElem hk]
  rw [this]
theorem setlE_end (kp : Nat → Bool) (k : Nat) (C : List Ext) : setlE kp k [] C = C := rfl

def SetP (w : World) (B g gE nE cE : Nat) (z : Int) (fz : Int) (dn : Bool) (C : List Ext) (e : Ending) (w' : World) : Prop :=
  e = .returned (.tuple #[]) ∧ Boxed w' g [.int .i64 z, .slice (some ⟨gE, 0, none⟩) nE cE, .slice none 0 0, .int .i64 fz, .bool dn, .slice none 0 0] ∧
    w'.ownsRow B 86 2 (.slice (some ⟨gE, 0, none⟩) nE cE) nE (eRow C) ∧ C.length = nE ∧ EOk C ∧ Bar w w' (fun k => k = g ∨ k = gE)

theorem info_rows : (Try.prog.info? 36).map (fun i => (i.zero, i.size, i.bytes)) = some (some (.slice none 0 0), 1, 24) := by kernel_rfl
theorem bods_new (w : World) (n : Nat) (E : List Ext) (hn : n = E.length) (hm : n ≤ maxLen) (M : Array Value) (hM : M = madeCells #[Value.slice none 0 0] n) : Bods (w.alloc (.cells M 36)) (w.heap.size + 1) w.heap.size n E E (List.replicate n (.slice none 0 0)) := by
  have hMl : M.toList = List.replicate n (.slice none 0 0) := by rw [hM, toList_madeCells_one]
  have hMs : M.size = n := by rw [← Array.length_toList, hMl, List.length_replicate]
  refine ⟨by rw [List.length_replicate], hn.symm, hn.symm, Nat.lt_succ_self _, ⟨by rw [List.length_replicate]; omega, .inr ⟨w.heap.size, n, M, rfl, Nat.le_refl _, heap_alloc_new w _, Nat.le_refl _, hm, by rw [hMs]; omega, by rw [hMl, Nat.mul_one, List.take_of_length_le (by rw [List.length_replicate]; exact Nat.le_refl _)]⟩⟩, ?_, ?_, fun _ _ => rfl, fun _ _ => rfl⟩
  · intro i hi
    refine .inl ⟨?_, rfl⟩
    simp [List.getD_eq_getElem?_getD, hi]
  · intro i j hi hj hij b hb
    simp [List.getD_eq_getElem?_getD, hi, Value.ownBlock] at hb
theorem Bods.eok {w : World} {B gB n : Nat} {E C : List Ext} {cs : List Value} (h : Bods w B gB n E C cs) (o : EOk E) : EOk C := fun i hi => by
  rw [h.nC] at hi
  have := o i (by rw [h.nE]; exact hi)
  rw [h.names i hi, h.sizes i hi]
  exact this
theorem mid_row (C E : List Ext) (j : Nat) (h : C.length = E.length) (hj : j < C.length) (hn : (C.getD j default).1 = (E.getD j default).1) : (eRow (C.take j ++ E.drop j)).set (j * 2 + 1) (.string (C.getD j default).2) = eRow (C.take (j + 1) ++ E.drop (j + 1)) := by
  have hE : E.drop j = E.getD j default :: E.drop (j + 1) := drop_ext E j (by omega)
  have hC : C.take (j + 1) = C.take j ++ [C.getD j default] := by
    rw [List.take_succ_eq_append_getElem hj]; simp [List.getD_eq_getElem?_getD, List.getElem?_eq_getElem hj]
  have hl : (eRow (C.take j)).length = j * 2 := by rw [eRow_length, List.length_take]; omega
  rw [hE, hC, List.append_assoc, eRow_app, eRow_app, List.set_append_right _ _ (by omega), hl, show j * 2 + 1 - j * 2 = 1 by omega]
  have e : ∀ (v : Ext) (R : List Ext), eRow (v :: R) = .string v.1 :: .string v.2 :: eRow R := fun _ _ => rfl
  rw [e, List.set_cons_succ, List.set_cons_zero, List.singleton_append, e, hn]

end Go.Proofs.Ytgpheofdeflhdaa.Dk

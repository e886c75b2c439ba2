/- An extent called otherwise: what becomes of the lists. No function of the program in sight. -/
import Derived.Test.YtgpheofdeflhdaaDkWalkU
namespace Go.Proofs.Ytgpheofdeflhdaa.Dk
open Go.RowKit Go.Op

theorem getD_getE (E : List Ext) (i : Nat) (h : i < E.length) : E.getD i default = E[i] := by simp [List.getD_eq_getElem?_getD, List.getElem?_eq_getElem h]
theorem sorted_pair {E : List Ext} : Sorted E ↔ E.Pairwise (fun x y => nlt x.1 y.1 = true) := by
  rw [List.pairwise_iff_getElem]
  constructor
  · intro h i j hi hj hij
    have := h i j hij hj
    rw [getD_getE E i hi, getD_getE E j hj] at this
    exact this
  · intro h i j hij hj
    have hi : i < E.length := by omega
    rw [getD_getE E i hi, getD_getE E j hj]
    exact h i j hi hj hij
theorem Sorted.sub {E F : List Ext} (h : Sorted E) (hs : F.Sublist E) : Sorted F := sorted_pair.2 ((sorted_pair.1 h).sublist hs)
theorem pos_self {E : List Ext} (hs : Sorted E) {i : Nat} (hi : i < E.length) : pos E (E.getD i default).1 = i :=
  pos_of (by omega) (fun j hj => hs j i hj hi) (fun _ => nlt_irrefl _)
theorem isAt_mem {E : List Ext} (hs : Sorted E) {b : ByteArray} : isAt E b = true ↔ ∃ x ∈ E, x.1 = b := by
  constructor
  · intro h
    have hl := isAt_lt h
    unfold isAt at h
    rw [Bool.and_eq_true] at h
    have e := of_decide_eq_true h.2
    refine ⟨E.getD (pos E b) default, ?_, e⟩
    rw [getD_getE E _ hl]
    exact List.getElem_mem hl
  · rintro ⟨x, hx, rfl⟩
    obtain ⟨i, hi, rfl⟩ := List.mem_iff_getElem.1 hx
    have hp := pos_self hs hi
    rw [getD_getE E i hi] at hp
    unfold isAt
    rw [hp, decide_eq_true hi, getD_getE E i hi, decide_eq_true rfl]
    rfl
def nmEq (to x : ByteArray) : Bool := x.toList == to.toList
theorem nmEq_iff {to x : ByteArray} : nmEq to x = true ↔ x = to := by
  unfold nmEq
  rw [beq_iff_eq]
  exact ⟨toList_inj, fun h => by rw [h]⟩
/-- what is written to it is called otherwise, too -/
def renW (fr to : ByteArray) (x : Wr) : Wr := if (x.1.toList == fr.toList) = true then (to, x.2) else x
def mvE1 (E : List Ext) (to : ByteArray) : List Ext := keptEn (nmEq to) E
def mvE2 (E : List Ext) (fr to : ByteArray) : List Ext := (mvE1 E to).take (pos (mvE1 E to) fr) ++ (mvE1 E to).drop (pos (mvE1 E to) fr + 1)
def mvE3 (E : List Ext) (fr to : ByteArray) : List Ext := insE (mvE2 E fr to) (pos (mvE2 E fr to) to) to ((mvE1 E to).getD (pos (mvE1 E to) fr) default).2
def mvL (L : List Wr) (fr to : ByteArray) : List Wr := (keptWn (nmEq to) L).map (renW fr to)
def movE (E : List Ext) (fr to : ByteArray) : Int := if named to = true then (if isAt E fr = true then 0 else 3) else 1
def movD (z : Int) (E : List Ext) (L : List Wr) (fz : Int) (dn : Bool) (fr to : ByteArray) : Dsk := if named to = true ∧ isAt E fr = true ∧ nmEq to fr = false then ⟨z, mvE3 E fr to, mvL L fr to, fz, dn⟩ else ⟨z, E, L, fz, dn⟩
theorem mvE1_sub (E : List Ext) (to : ByteArray) : (mvE1 E to).Sublist E := List.filter_sublist
theorem mvE1_at {E : List Ext} (hs : Sorted E) {fr to : ByteArray} (h : isAt E fr = true) (hne : nmEq to fr = false) : isAt (mvE1 E to) fr = true := by
  rw [isAt_mem (hs.sub (mvE1_sub E to))]
  obtain ⟨x, hx, rfl⟩ := (isAt_mem hs).1 h
  exact ⟨x, List.mem_filter.2 ⟨hx, by simp only [hne]; rfl⟩, rfl⟩
theorem mvE2_sub (E : List Ext) (fr to : ByteArray) : (mvE2 E fr to).Sublist (mvE1 E to) := by
  unfold mvE2
  rw [← List.eraseIdx_eq_take_drop_succ]
  exact List.eraseIdx_sublist _ _
theorem eOk_sub {E F : List Ext} (h : EOk E) (hs : F.Sublist E) : EOk F := eOk_mem.2 (fun x hx => eOk_mem.1 h x (hs.subset hx))
theorem wOk_sub {E F : List Wr} (h : WOk E) (hs : F.Sublist E) : WOk F := wOk_mem.2 (fun x hx => wOk_mem.1 h x (hs.subset hx))
theorem wRow_mid (L : List Wr) (fr to : ByteArray) (k : Nat) (hk : k < L.length) (h : ((L.getD k default).1.toList == fr.toList) = true) : (wRow ((L.take k).map (renW fr to) ++ L.drop k)).set (k * 3) (.string to) = wRow ((L.take (k + 1)).map (renW fr to) ++ L.drop (k + 1)) := by
  have hg : L.getD k default = L[k] := by simp [List.getD_eq_getElem?_getD, List.getElem?_eq_getElem hk]
  have hl : (wRow ((L.take k).map (renW fr to))).length = k * 3 := by rw [wRow_length, List.length_map, List.length_take]; omega
  rw [hg] at h
  have hr : renW fr to L[k] = (to, L[k].2) := by unfold renW; rw [if_pos h]
  rw [List.drop_eq_getElem_cons hk, List.take_succ_eq_append_getElem hk, List.map_append, wRow_app, List.set_append_right _ _ (by omega), hl, Nat.sub_self, List.append_assoc, wRow_app]
  congr 1
  simp only [List.map_cons, List.map_nil, hr]
  rfl
theorem wRow_same (L : List Wr) (fr to : ByteArray) (k : Nat) (hk : k < L.length) (h : ((L.getD k default).1.toList == fr.toList) = false) : wRow ((L.take k).map (renW fr to) ++ L.drop k) = wRow ((L.take (k + 1)).map (renW fr to) ++ L.drop (k + 1)) := by
  have hg : L.getD k default = L[k] := by simp [List.getD_eq_getElem?_getD, List.getElem?_eq_getElem hk]
  rw [hg] at h
  have hr : renW fr to L[k] = L[k] := by unfold renW; rw [if_neg (by rw [h]; simp)]
  rw [List.drop_eq_getElem_cons hk, List.take_succ_eq_append_getElem hk, List.map_append, List.append_assoc]
  simp only [List.map_cons, List.map_nil, hr, List.singleton_append]
theorem renW_ok {L : List Wr} {fr to : ByteArray} (h : WOk L) (ht : to.size ≤ 140737488355328) (k : Nat) : WOk ((L.take k).map (renW fr to) ++ L.drop k) := by
  rw [wOk_mem] at h ⊢
  intro x hx
  rw [List.mem_append, List.mem_map] at hx
  rcases hx with ⟨y, hy, rfl⟩ | hx
  · have := h y (List.mem_of_mem_take hy)
    unfold renW
    split
    · exact ⟨ht, this.2⟩
    · exact this
  · exact h x (List.mem_of_mem_drop hx)
end Go.Proofs.Ytgpheofdeflhdaa.Dk

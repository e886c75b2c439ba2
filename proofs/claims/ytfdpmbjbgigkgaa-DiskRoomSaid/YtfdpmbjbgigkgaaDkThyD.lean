/- What there is behind a move. No program in sight. -/
import Derived.Test.YtfdpmbjbgigkgaaDkThyC
namespace Go.Proofs.Ytfdpmbjbgigkgaa.Dk
open Go.RowKit Go.Op

theorem nmEq_ne {to x : ByteArray} : nmEq to x = false ↔ x ≠ to := by
  rw [← Bool.not_eq_true, Ne, nmEq_iff]
theorem sumN_split (E : List Ext) (p : Nat) (hp : p < E.length) : sumN E = sumN (E.take p ++ E.drop (p + 1)) + many (E.getD p default).2 := by
  have h : sumN E = sumN (E.take p) + sumN (E.drop p) := by rw [← sumN_app, List.take_append_drop]
  rw [h, drop_ext E p hp, sumN_app]
  simp only [sumN]
  omega
theorem mem_erase {E : List Ext} (hs : Sorted E) {p : Nat} (hp : p < E.length) (u : Ext) : u ∈ E.take p ++ E.drop (p + 1) ↔ u ∈ E ∧ u.1 ≠ (E.getD p default).1 := by
  have hE : E = E.take p ++ (E.getD p default :: E.drop (p + 1)) := by rw [← drop_ext E p hp, List.take_append_drop]
  have hpw := sorted_pair.1 hs
  rw [hE, List.pairwise_append, List.pairwise_cons] at hpw
  obtain ⟨_, ⟨h2, _⟩, h3⟩ := hpw
  rw [List.mem_append]
  constructor
  · rintro (h | h)
    · have := h3 u h (E.getD p default) (List.mem_cons_self ..)
      exact ⟨List.mem_of_mem_take h, nlt_ne this⟩
    · have := h2 u h
      exact ⟨List.mem_of_mem_drop h, fun e => nlt_ne this e.symm⟩
  · rintro ⟨h, hne⟩
    rw [hE, List.mem_append, List.mem_cons] at h
    rcases h with h | rfl | h
    · exact .inl h
    · exact absurd rfl hne
    · exact .inr h

section
variable {E : List Ext} {fr to : ByteArray}
theorem mv_facts (hs : Sorted E) (hat : isAt E fr = true) (hne : fr ≠ to) :
    Sorted (mvE3 E fr to) ∧ (sumN (mvE3 E fr to) ≤ sumN E) ∧ (∀ u, u ∈ mvE3 E fr to ↔ u = (to, (E.getD (pos E fr) default).2) ∨ (u ∈ E ∧ u.1 ≠ to ∧ u.1 ≠ fr)) := by
  have hq := nmEq_ne.2 hne
  have hs1 := hs.sub (mvE1_sub E to)
  have hat1 := mvE1_at hs hat hq
  have hp := isAt_lt hat1
  have hm1 : ∀ u, u ∈ mvE1 E to ↔ u ∈ E ∧ u.1 ≠ to := by
    intro u
    unfold mvE1 keptEn keptE
    rw [List.mem_filter]
    simp only [Bool.not_eq_eq_eq_not, Bool.not_true, nmEq_ne]
  have hn1 : ((mvE1 E to).getD (pos (mvE1 E to) fr) default).1 = fr := by
    unfold isAt at hat1
    rw [Bool.and_eq_true] at hat1
    exact of_decide_eq_true hat1.2
  have hd : (mvE1 E to).getD (pos (mvE1 E to) fr) default = (fr, (E.getD (pos E fr) default).2) := by
    have h1 : ((mvE1 E to).getD (pos (mvE1 E to) fr) default) ∈ mvE1 E to := by rw [getD_getE _ _ hp]; exact List.getElem_mem hp
    have h2 := ((hm1 _).1 h1).1
    have h3 : lk E fr = some ((mvE1 E to).getD (pos (mvE1 E to) fr) default).2 := (lk_iff hs).2 (by
      have e : (fr, ((mvE1 E to).getD (pos (mvE1 E to) fr) default).2) = (mvE1 E to).getD (pos (mvE1 E to) fr) default := Prod.ext hn1.symm rfl
      rw [e]
      exact h2)
    have h4 : lk E fr = some (E.getD (pos E fr) default).2 := by unfold lk; rw [if_pos hat]
    rw [h3] at h4
    injection h4 with h4
    exact Prod.ext hn1 h4
  have hm2 : ∀ u, u ∈ mvE2 E fr to ↔ u ∈ E ∧ u.1 ≠ to ∧ u.1 ≠ fr := by
    intro u
    unfold mvE2
    rw [mem_erase hs1 hp, hn1, hm1]
    exact ⟨fun h => ⟨h.1.1, h.1.2, h.2⟩, fun h => ⟨⟨h.1, h.2.1⟩, h.2.2⟩⟩
  have hs2 := hs1.sub (mvE2_sub E fr to)
  have hna : isAt (mvE2 E fr to) to = false := by
    cases hi : isAt (mvE2 E fr to) to with
    | false => rfl
    | true =>
      obtain ⟨x, hx, e⟩ := (isAt_mem hs2).1 hi
      exact absurd e ((hm2 x).1 hx).2.1
  refine ⟨sorted_ins hs2 hna _, ?_, fun u => ?_⟩
  · unfold mvE3
    rw [insE_sum]
    have := sumN_split (mvE1 E to) _ hp
    have h5 : sumN (mvE1 E to) ≤ sumN E := sumN_filter _ E
    unfold mvE2
    omega
  · unfold mvE3
    rw [insE_mem, hm2, hd]
theorem mv_lk (hs : Sorted E) (hat : isAt E fr = true) (hne : fr ≠ to) (c : ByteArray) : lk (mvE3 E fr to) c = if c = to then lk E fr else if c = fr then none else lk E c := by
  obtain ⟨h1, _, h3⟩ := mv_facts hs hat hne
  have hf : lk E fr = some (E.getD (pos E fr) default).2 := by unfold lk; rw [if_pos hat]
  by_cases e : c = to
  · rw [if_pos e, e, hf]
    exact (lk_iff h1).2 ((h3 _).2 (.inl rfl))
  · rw [if_neg e]
    by_cases e2 : c = fr
    · rw [if_pos e2, lk_none]
      cases hi : isAt (mvE3 E fr to) c with
      | false => rfl
      | true =>
        obtain ⟨x, hx, e3⟩ := (isAt_mem h1).1 hi
        rcases (h3 x).1 hx with rfl | h
        · exact absurd e3.symm e
        · exact absurd (e3.trans e2) h.2.2
    · rw [if_neg e2]
      refine lk_ext h1 hs (fun y => ?_)
      rw [h3]
      constructor
      · rintro (h | h)
        · injection h with h _; exact absurd h e
        · exact h.1
      · intro h; exact .inr ⟨h, e, e2⟩
theorem mv_ok (hs : Sorted E) (hat : isAt E fr = true) (hne : fr ≠ to) (hn : named to = true) (hE : E.all okE = true) : (mvE3 E fr to).all okE = true := by
  obtain ⟨_, _, h3⟩ := mv_facts hs hat hne
  rw [List.all_eq_true] at hE ⊢
  intro u hu
  rcases (h3 u).1 hu with rfl | h
  · have hl := isAt_lt hat
    have := hE (E.getD (pos E fr) default) (by rw [getD_getE E _ hl]; exact List.getElem_mem hl)
    unfold okE at this ⊢
    rw [Bool.and_eq_true] at this ⊢
    exact ⟨hn, this.2⟩
  · exact hE u h.1
theorem mvL_mem {L : List Wr} {u : Wr} : u ∈ mvL L fr to ↔ ∃ x ∈ L, x.1 ≠ to ∧ u = renW fr to x := by
  unfold mvL keptWn keptW
  rw [List.mem_map]
  constructor
  · rintro ⟨x, hx, rfl⟩
    rw [List.mem_filter] at hx
    exact ⟨x, hx.1, nmEq_ne.1 (by simpa using hx.2), rfl⟩
  · rintro ⟨x, hx, h, rfl⟩
    exact ⟨x, List.mem_filter.2 ⟨hx, by simp only [nmEq_ne.2 h]; rfl⟩, rfl⟩
theorem renW_eq (x : Wr) : renW fr to x = if x.1 = fr then (to, x.2) else x := by
  unfold renW
  by_cases h : x.1 = fr
  · rw [if_pos (by rw [h]; simp), if_pos h]
  · rw [if_neg (fun e => h (toList_inj (beq_iff_eq.1 e))), if_neg h]
theorem mv_wr {L : List Wr} (hs : Sorted E) (hat : isAt E fr = true) (hne : fr ≠ to) (hL : L.all (wrOk E) = true) : (mvL L fr to).all (wrOk (mvE3 E fr to)) = true := by
  rw [List.all_eq_true] at hL ⊢
  intro u hu
  obtain ⟨x, hx, h1, rfl⟩ := mvL_mem.1 hu
  have hx2 := hL x hx
  rw [renW_eq]
  by_cases e : x.1 = fr
  · rw [if_pos e]
    have h2 := mv_lk hs hat hne to
    rw [if_pos rfl] at h2
    have h3 : lk E fr = lk E x.1 := by rw [e]
    rw [h3] at h2
    rw [show ((to, x.2) : Wr) = (to, x.2.1, x.2.2) from rfl, ← wrOk_lk h2.symm]
    exact hx2
  · rw [if_neg e]
    have h2 := mv_lk hs hat hne x.1
    rw [if_neg h1, if_neg e] at h2
    rw [show x = (x.1, x.2.1, x.2.2) from rfl, ← wrOk_lk h2.symm]
    exact hx2
theorem keptWn_snoc (P : ByteArray → Bool) (L : List Wr) (x : Wr) : keptWn P (L ++ [x]) = keptWn P L ++ (if P x.1 = true then [] else [x]) := by
  unfold keptWn keptW
  rw [List.filter_append]
  cases h : P x.1 <;> simp [h]
theorem seenF_len (L : List Wr) (b : ByteArray) (c : Int) (n : Nat) (h : n = L.length) : seenF L b c n = seenF L b c L.length := by rw [h]
theorem mv_seen (hne : fr ≠ to) (c : Int) (L : List Wr) : seenF (mvL L fr to) to c (mvL L fr to).length = seenF L fr c L.length := by
  refine snoc_ind (P := fun L => seenF (mvL L fr to) to c (mvL L fr to).length = seenF L fr c L.length) rfl ?_ L
  intro L x ih
  rw [List.length_append, List.length_singleton, seenF_snoc]
  unfold mvL at ih ⊢
  rw [keptWn_snoc]
  by_cases e1 : x.1 = to
  · rw [if_pos (nmEq_iff.2 e1), List.append_nil, ih, if_neg (fun hh => hne (hh.2.symm.trans e1))]
  · rw [if_neg (fun hh => e1 (nmEq_iff.1 hh)), List.map_append, List.map_cons, List.map_nil, List.length_append, List.length_singleton, seenF_snoc, renW_eq]
    by_cases e2 : x.1 = fr
    · rw [if_pos e2]
      simp only
      rw [ih]
      by_cases e3 : x.2.1 = c
      · rw [if_pos ⟨e3, trivial⟩, if_pos ⟨e3, e2⟩]
      · rw [if_neg (fun hh => e3 hh.1), if_neg (fun hh => e3 hh.1)]
    · rw [if_neg e2, if_neg (fun hh => e1 hh.2), if_neg (fun hh => e2 hh.2), ih]
end

/-- a move that is refused changes nothing -/
theorem mv_bad {D : Dsk} {fr to : ByteArray} (h : mvE D fr to ≠ 0) : mvE D fr to = 2 ∨ mvD D fr to = D := by
  unfold mvE mvD at *
  rw [chgR_if] at h ⊢
  rw [chg_if]
  split at h
  · rename_i h0; left; rw [if_pos h0]
  · rename_i h0
    rw [if_neg h0]
    split at h
    · rename_i h1
      right
      rw [if_neg h0, if_pos h1]
      unfold movD
      rw [if_neg (fun hh => h (by unfold movE; rw [if_pos hh.1, if_pos hh.2.1]))]
    · rename_i h1
      right
      rw [if_neg h0, if_neg h1]
theorem mv_same {D : Dsk} {b : ByteArray} (h : mvE D b b = 0) : rdy D = 0 ∧ mvD D b b = D := by
  obtain ⟨h0, _⟩ := chgR_zero h
  refine ⟨h0, ?_⟩
  unfold mvD
  rw [chg_ok h0]
  unfold movD
  rw [if_neg]
  rintro ⟨_, _, c⟩
  rw [nmEq_ne] at c
  exact c rfl
theorem mv_eq {D : Dsk} {fr to : ByteArray} (h : mvE D fr to = 0) (hne : fr ≠ to) : rdy D = 0 ∧ isAt D.E fr = true ∧ mvD D fr to = ⟨D.size, mvE3 D.E fr to, mvL D.W fr to, D.fuse, D.down⟩ ∧ rdy (mvD D fr to) = 0 := by
  obtain ⟨h0, h1⟩ := chgR_zero h
  have ha : named to = true ∧ isAt D.E fr = true := by
    unfold movE at h1
    split at h1
    · rename_i hn
      split at h1
      · rename_i hi; exact ⟨hn, hi⟩
      · omega
    · omega
  have e : mvD D fr to = ⟨D.size, mvE3 D.E fr to, mvL D.W fr to, D.fuse, D.down⟩ := by
    unfold mvD
    rw [chg_ok h0]
    unfold movD
    rw [if_pos ⟨ha.1, ha.2, nmEq_ne.2 hne⟩]
  refine ⟨h0, ha.2, e, ?_⟩
  obtain ⟨hc, hd⟩ := ready_good h0
  obtain ⟨g1, g2, g3, g4, g5⟩ := chk_good hc
  obtain ⟨s1, s2, s3⟩ := (exR_spec g1).1 g4
  obtain ⟨k1, k2, _⟩ := mv_facts s1 ha.2 hne
  rw [e]
  refine rdy_of (chk_of g1 g2 g3 ((exR_spec g1).2 ⟨k1, mv_ok s1 ha.2 hne ha.1 s2, by simp only; omega⟩) ?_) hd
  unfold wtR
  simp only
  have hl := wtR_length g5
  have hm := mvL_length D.W fr to
  rw [decide_eq_true (by omega), mv_wr s1 ha.2 hne (wtR_all g5)]
  rfl
theorem rmA_ok {D : Dsk} (h : rdy D = 0) : rmA D = D.size - sumN D.E := by
  show (if rdy D = 0 then D.size - (sumN D.E : Int) else 0) = _
  rw [if_pos h]
/-- what is moved is read there as it was, and no more where it was -/
theorem mv_read {D : Dsk} {fr to : ByteArray} (h : mvE D fr to = 0) (hne : fr ≠ to) (c : Int) :
    rdE (mvD D fr to) to c = rdE D fr c ∧ rdO (mvD D fr to) to c = rdO D fr c ∧ rdE (mvD D fr to) fr c = 3 ∧ rmA D ≤ rmA (mvD D fr to) := by
  obtain ⟨h0, h1, h2, h3⟩ := mv_eq h hne
  have s1 := ((exR_spec (chk_good (ready_good h0).1).1).1 (chk_good (ready_good h0).1).2.2.2.1).1
  have l1 := mv_lk s1 h1 hne to
  rw [if_pos rfl] at l1
  have l2 := mv_lk s1 h1 hne fr
  rw [if_neg hne, if_pos rfl] at l2
  have k2 := (mv_facts s1 h1 hne).2.1
  rw [rdE_ok h3, rdE_ok h0, rdE_ok h3, rdO_ok h3, rdO_ok h0, rmA_ok h0, rmA_ok h3, h2]
  simp only
  have hf := findE_lk l1 c
  refine ⟨hf, ?_, ?_, by omega⟩
  · rw [hf]
    by_cases e : findE D.E fr c = 0
    · rw [if_pos e, if_pos e]
      have a1 := find_lk e
      have a2 := find_lk (hf.trans e)
      rw [l1, a1] at a2
      injection a2 with a2
      unfold seenO
      rw [mv_seen hne, a2]
    · rw [if_neg e, if_neg e]
  · unfold findE
    rw [lk_isAt, l2]
    rfl
end Go.Proofs.Ytfdpmbjbgigkgaa.Dk

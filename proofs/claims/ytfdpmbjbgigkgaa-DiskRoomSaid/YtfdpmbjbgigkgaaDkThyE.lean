/- What there is behind a New, and behind a Free of it. No program in sight. -/
import Derived.Test.YtfdpmbjbgigkgaaDkThyD
namespace Go.Proofs.Ytfdpmbjbgigkgaa.Dk
open Go.RowKit Go.Op

theorem nw_bad {D : Dsk} {nm : ByteArray} {s : Int} (h0 : rdy D = 0) (h : nwE D nm s ≠ 0) : nwD D nm s = D := by
  unfold nwE at h
  rw [chgR_ok h0] at h
  unfold nwD
  rw [chg_ok h0]
  unfold adD
  rw [if_neg h]
theorem many_zer (n : Nat) : many (zer (n * 64)) = n := by unfold many; rw [zer_size]; omega
theorem adE_zero {z : Int} {E : List Ext} {nm : ByteArray} {s : Int} (h : adE z E nm s = 0) : named nm = true ∧ 1 ≤ s ∧ isAt E nm = false ∧ s ≤ z - sumN E := by
  unfold adE at h
  split at h
  · rename_i h1
    rw [Bool.and_eq_true] at h1
    split at h
    · omega
    · rename_i h2
      split at h
      · omega
      · rename_i h3
        exact ⟨h1.1, of_decide_eq_true h1.2, by simpa using h2, by omega⟩
  · omega
theorem nw_eq {D : Dsk} {nm : ByteArray} {s : Int} (h : nwE D nm s = 0) : rdy D = 0 ∧ 1 ≤ s ∧ isAt D.E nm = false ∧ nwD D nm s = ⟨D.size, insE D.E (pos D.E nm) nm (zer (s.toNat * 64)), D.W, D.fuse, D.down⟩ ∧ rdy (nwD D nm s) = 0 ∧ rmA (nwD D nm s) = rmA D - s := by
  obtain ⟨h0, h1⟩ := chgR_zero h
  obtain ⟨a1, a2, a3, a4⟩ := adE_zero h1
  have e : nwD D nm s = ⟨D.size, insE D.E (pos D.E nm) nm (zer (s.toNat * 64)), D.W, D.fuse, D.down⟩ := by
    unfold nwD
    rw [chg_ok h0]
    unfold adD
    rw [if_pos h1]
  obtain ⟨hc, hd⟩ := ready_good h0
  obtain ⟨g1, g2, g3, g4, g5⟩ := chk_good hc
  obtain ⟨s1, s2, s3⟩ := (exR_spec g1).1 g4
  have hsum := insE_sum D.E (pos D.E nm) nm (zer (s.toNat * 64))
  rw [many_zer] at hsum
  have hr : rdy (nwD D nm s) = 0 := by
    rw [e]
    refine rdy_of (chk_of g1 g2 g3 ((exR_spec g1).2 ⟨sorted_ins s1 a3 _, ?_, by simp only; omega⟩) ?_) hd
    · rw [List.all_eq_true] at s2 ⊢
      intro u hu
      rcases insE_mem.1 hu with rfl | hu
      · unfold okE
        simp only
        rw [a1, many_zer, zer_size, decide_eq_true (by omega), decide_eq_true (by omega)]
        rfl
      · exact s2 u hu
    · have ha := wtR_all g5
      unfold wtR
      simp only
      rw [decide_eq_true (wtR_length g5), Bool.true_and, List.all_eq_true]
      rw [List.all_eq_true] at ha
      intro x hx
      have hx2 := ha x hx
      have hne : x.1 ≠ nm := fun e => by
        have := (wrOk_one hx2).1
        rw [e, a3] at this
        cases this
      have hl := lk_ins s1 a3 (zer (s.toNat * 64)) x.1
      rw [if_neg hne] at hl
      rw [show x = (x.1, x.2.1, x.2.2) from rfl, wrOk_lk hl]
      exact hx2
  refine ⟨h0, a2, a3, e, hr, ?_⟩
  rw [rmA_ok hr, rmA_ok h0, e]
  simp only
  omega
theorem cnt_nil (x : ByteArray) : cnt [] x = 0 := rfl
theorem cnt_one (b x : ByteArray) : cnt [b] x = if b = x then 1 else 0 := by
  unfold cnt
  by_cases h : b = x
  · simp [h]
  · simp [h]
theorem frP_one (b x : ByteArray) : frP [b] x = decide (b = x) := by
  unfold frP
  rw [cnt_one]
  by_cases h : b = x
  · simp [h]
  · simp [h]
/-- what was made is freed: all is as it was -/
theorem nw_fr {D : Dsk} {nm : ByteArray} {s : Int} (h : nwE D nm s = 0) : frE (nwD D nm s) [nm] = 0 ∧ frD (nwD D nm s) [nm] = D := by
  obtain ⟨h0, _, a3, e, hr, _⟩ := nw_eq h
  obtain ⟨hc, _⟩ := ready_good h0
  obtain ⟨g1, _, _, g4, g5⟩ := chk_good hc
  obtain ⟨s1, _, _⟩ := (exR_spec g1).1 g4
  have hat : isAt (nwD D nm s).E nm = true := by
    rw [lk_isAt, e]
    simp only
    rw [lk_ins s1 a3, if_pos rfl]
    rfl
  have hok : frOk (nwD D nm s).E [] [nm] = true := by
    simp only [frOk, hat, cnt_nil]
    rfl
  have hkE : keptEn (frP [nm]) (nwD D nm s).E = D.E := by
    rw [e]
    unfold keptEn keptE insE
    have hall : ∀ x ∈ D.E, (!frP [nm] x.1) = true := by
      intro x hx
      rw [frP_one]
      have : nm ≠ x.1 := fun hh => by
        have := (isAt_mem s1).2 ⟨x, hx, hh.symm⟩
        rw [a3] at this
        cases this
      simp [this]
    simp only
    rw [List.filter_append, List.filter_append, List.filter_eq_self.2 (fun x hx => hall x (List.mem_of_mem_take hx)), List.filter_eq_self.2 (fun x hx => hall x (List.mem_of_mem_drop hx))]
    have h3 : List.filter (fun x : Ext => !frP [nm] x.1) [(nm, zer (s.toNat * 64))] = [] := by
      simp [frP_one]
    rw [h3, List.append_nil, List.take_append_drop]
  have hkW : keptWn (frP [nm]) (nwD D nm s).W = D.W := by
    rw [e]
    unfold keptWn keptW
    rw [List.filter_eq_self]
    intro x hx
    have hx2 := List.all_eq_true.1 (wtR_all g5) x hx
    have : nm ≠ x.1 := fun hh => by
      have := (wrOk_one hx2).1
      rw [← hh, a3] at this
      cases this
    simp [frP_one, this]
  unfold frE frD
  rw [chgR_ok hr, chg_ok hr]
  unfold freE freD
  rw [if_pos hok, if_pos hok, hkE, hkW]
  refine ⟨rfl, ?_⟩
  rw [e]
theorem sc_at {D : Dsk} (h0 : rdy D = 0) {k : Nat} (hk : k < D.E.length) : scE D (D.E.getD k default).1 = 0 ∧ scA D (D.E.getD k default).1 = (many (D.E.getD k default).2 : Nat) ∧ 1 ≤ many (D.E.getD k default).2 := by
  obtain ⟨hc, _⟩ := ready_good h0
  obtain ⟨g1, _, _, g4, g5⟩ := chk_good hc
  obtain ⟨s1, s2, _⟩ := (exR_spec g1).1 g4
  have hm : D.E.getD k default ∈ D.E := by rw [getD_getE _ _ hk]; exact List.getElem_mem hk
  have hi := (isAt_mem s1).2 ⟨_, hm, rfl⟩
  have hp := pos_self s1 hk
  refine ⟨?_, ?_, ?_⟩
  · show (if rdy D = 0 then (if isAt D.E _ = true then (0 : Int) else 3) else rdy D) = 0
    rw [if_pos h0, if_pos hi]
  · show (if rdy D = 0 then ((lookN D.E _ : Nat) : Int) else 0) = _
    rw [if_pos h0]
    unfold lookN
    rw [if_pos hi, hp]
  · have := List.all_eq_true.1 s2 _ hm
    unfold okE at this
    simp only [Bool.and_eq_true, decide_eq_true_eq] at this
    exact this.2.1
theorem sumN_take (E : List Ext) (k : Nat) (hk : k < E.length) : sumN (E.take (k + 1)) = sumN (E.take k) + many (E.getD k default).2 := by
  rw [List.take_succ_eq_append_getElem hk, sumN_app, getD_getE E k hk]
  simp only [sumN]
  omega
theorem rm_zero {D : Dsk} (h : rdy D ≠ 0) : rmA D = 0 := by
  show (if rdy D = 0 then D.size - (sumN D.E : Int) else 0) = 0
  rw [if_neg h]
theorem sum_le {D : Dsk} (h0 : rdy D = 0) : (sumN D.E : Int) ≤ D.size ∧ D.size ≤ 16384 := by
  obtain ⟨hc, _⟩ := ready_good h0
  obtain ⟨g1, g2, _, g4, _⟩ := chk_good hc
  exact ⟨((exR_spec g1).1 g4).2.2, g2⟩
end Go.Proofs.Ytfdpmbjbgigkgaa.Dk

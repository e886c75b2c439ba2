/- What is read behind a write, and behind a sync. -/
import Derived.Test.YtejmbbhbimgheaaDkThy
namespace Go.Proofs.Ytejmbbhbimgheaa.Dk
open Go.RowKit Go.Op

theorem rdy_of {D : Dsk} (h : chkB D.size D.E D.W D.fuse = true) (hd : D.down = false) : rdy D = 0 := by
  unfold rdy readyE
  rw [if_pos h, hd]
  rfl
theorem chk_of {D : Dsk} (h1 : 0 ≤ D.size) (h2 : D.size ≤ 16384) (h3 : -1 ≤ D.fuse) (h4 : exR ⟨#[]⟩ D.size D.E = true) (h5 : wtR D.E D.W = true) : chkB D.size D.E D.W D.fuse = true := by
  unfold chkB
  rw [decide_eq_true h1, decide_eq_true h2, decide_eq_true h3, h4, h5]
  rfl
theorem chg_ok {D D' : Dsk} (h : rdy D = 0) : chg D D' = D' := by rw [chg_if, h]; rfl
theorem chgR_ok {D : Dsk} {er : Int} (h : rdy D = 0) : chgR D er = er := by rw [chgR_if, h]; rfl
theorem chgR_zero {D : Dsk} {er : Int} (h : chgR D er = 0) : rdy D = 0 ∧ er = 0 := by
  rw [chgR_if] at h
  split at h
  · omega
  · split at h
    · rename_i h0; exact ⟨h0, h⟩
    · rename_i h0; exact absurd h h0
theorem wrE_zero {E : List Ext} {L : List Wr} {fz : Int} {nm : ByteArray} {s : Int} {d : ByteArray} (h : wrE E L fz nm s d = 0) : findE E nm s = 0 ∧ d.size = 64 ∧ L.length ≠ 16384 ∧ fz ≠ 0 := by
  unfold wrE at h
  split at h
  · rename_i h1
    split at h
    · rename_i h2
      split at h
      · omega
      · rename_i h3
        split at h
        · omega
        · rename_i h4; exact ⟨h1, h2, h3, h4⟩
    · omega
  · rename_i h1; exact absurd h h1
theorem wrOk_find {E : List Ext} {nm : ByteArray} {s : Int} {d : ByteArray} (h : findE E nm s = 0) (hd : d.size = 64) : wrOk E (nm, s, d) = true := by
  obtain ⟨_, h2, h3⟩ := find_good h
  unfold wrOk
  simp only
  rw [decide_eq_true h2, decide_eq_true h3, decide_eq_true hd]
  rfl
/-- with a write more, that there was power for -/
theorem wt_eq {D : Dsk} {nm : ByteArray} {s : Int} {d : ByteArray} (h : wtE D nm s d = 0) : rdy D = 0 ∧ findE D.E nm s = 0 ∧ d.size = 64 ∧ wtD D nm s d = ⟨D.size, D.E, D.W ++ [(nm, s, d)], if 0 < D.fuse then D.fuse - 1 else D.fuse, D.down⟩ ∧ rdy (wtD D nm s d) = 0 := by
  obtain ⟨h0, h1⟩ := chgR_zero h
  obtain ⟨h2, h3, h4, h5⟩ := wrE_zero h1
  have e : wtD D nm s d = ⟨D.size, D.E, D.W ++ [(nm, s, d)], if 0 < D.fuse then D.fuse - 1 else D.fuse, D.down⟩ := by
    unfold wtD
    rw [chg_ok h0]
    unfold wrD
    rw [if_pos ⟨h2, h3, h4⟩, if_neg h5]
  refine ⟨h0, h2, h3, e, ?_⟩
  obtain ⟨hc, hd⟩ := ready_good h0
  obtain ⟨g1, g2, g3, g4, g5⟩ := chk_good hc
  rw [e]
  have hl := wtR_length g5
  refine rdy_of (chk_of g1 g2 ?_ g4 ?_) hd
  · simp only; split <;> omega
  · have ha := wtR_all g5
    unfold wtR
    simp only
    rw [List.length_append, List.length_singleton, decide_eq_true (by omega), List.all_append, ha, List.all_cons, wrOk_find h2 h3]
    rfl
theorem rdE_ok {D : Dsk} (h : rdy D = 0) (b : ByteArray) (c : Int) : rdE D b c = findE D.E b c := by
  show (if rdy D = 0 then findE D.E b c else rdy D) = _
  rw [if_pos h]
theorem rdO_ok {D : Dsk} (h : rdy D = 0) (b : ByteArray) (c : Int) : rdO D b c = if findE D.E b c = 0 then seenO D.W b (D.E.getD (pos D.E b) default).2 c.toNat D.W.length else ⟨#[]⟩ := by
  show (if rdy D = 0 ∧ findE D.E b c = 0 then seenO D.W b (D.E.getD (pos D.E b) default).2 c.toNat D.W.length else (⟨#[]⟩ : ByteArray)) = _
  by_cases h1 : findE D.E b c = 0
  · rw [if_pos (And.intro h h1), if_pos h1]
  · rw [if_neg (fun hh => h1 hh.2), if_neg h1]
theorem wt_read {D : Dsk} {nm : ByteArray} {s : Int} {d : ByteArray} (h : wtE D nm s d = 0) (b : ByteArray) (c : Int) :
    rdE (wtD D nm s d) b c = rdE D b c ∧ (rdO (wtD D nm s d) b c = if (nm = b ∧ s = c) then d else rdO D b c) := by
  obtain ⟨h0, h1, h2, h3, h4⟩ := wt_eq h
  rw [rdE_ok h4, rdE_ok h0, rdO_ok h4, rdO_ok h0, h3]
  simp only
  refine ⟨trivial, ?_⟩
  by_cases hf : findE D.E b c = 0
  · rw [if_pos hf, if_pos hf]
    have hc := (find_good hf).2.1
    unfold seenO
    rw [List.length_append, List.length_singleton, seenF_snoc]
    simp only
    by_cases e : nm = b ∧ s = c
    · rw [if_pos e, if_pos ⟨by omega, e.1⟩]
    · rw [if_neg e, if_neg (fun hh => e ⟨hh.2, by omega⟩)]
  · rw [if_neg hf, if_neg hf, if_neg]
    rintro ⟨rfl, rfl⟩
    exact hf h1
theorem sy_eq {D : Dsk} (h : rdy D = 0) : syE D = 0 ∧ syD D = ⟨D.size, setlE (fun _ => true) 0 D.W D.E, [], D.fuse, D.down⟩ ∧ rdy (syD D) = 0 ∧ Like D.E (syD D).E := by
  have e : syD D = ⟨D.size, setlE (fun _ => true) 0 D.W D.E, [], D.fuse, D.down⟩ := by unfold syD; rw [chg_ok h]; rfl
  obtain ⟨hc, hd⟩ := ready_good h
  obtain ⟨g1, g2, g3, g4, g5⟩ := chk_good hc
  have hl := like_setl (fun _ => true) D.W 0 D.E (wtR_all g5)
  refine ⟨chgR_ok h, e, ?_, by rw [e]; exact hl⟩
  rw [e]
  exact rdy_of (chk_of g1 g2 g3 (by simp only; rw [hl.exR]; exact g4) rfl) hd
theorem sy_read {D : Dsk} (h : rdy D = 0) (b : ByteArray) (c : Int) : rdE (syD D) b c = rdE D b c ∧ rdO (syD D) b c = rdO D b c := by
  obtain ⟨_, h1, h2, h3⟩ := sy_eq h
  have g5 := (chk_good (ready_good h).1).2.2.2.2
  rw [rdE_ok h2, rdE_ok h, rdO_ok h2, rdO_ok h, h3.findE]
  refine ⟨rfl, ?_⟩
  by_cases hf : findE D.E b c = 0
  · rw [if_pos hf, if_pos hf]
    have hb := (find_good hf).1
    rw [← at64_all D.W (wtR_all g5) b c.toNat hb, h1]
    rfl
  · rw [if_neg hf, if_neg hf]
end Go.Proofs.Ytejmbbhbimgheaa.Dk

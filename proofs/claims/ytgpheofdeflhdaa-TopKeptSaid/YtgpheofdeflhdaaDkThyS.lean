/- What a crash keeps of what was synced. No program in sight. -/
import Derived.Test.YtgpheofdeflhdaaDkThyB
namespace Go.Proofs.Ytgpheofdeflhdaa.Dk
open Go.RowKit Go.Op

theorem at64_some {E : List Ext} (kp : Nat → Bool) : ∀ (L : List Wr), L.all (wrOk E) = true → ∀ (b : ByteArray) (c : Nat), isAt E b = true → at64 (setlE kp 0 L E) b c = at64 E b c ∨ ∃ x ∈ L, x.1 = b ∧ x.2.1.toNat = c ∧ at64 (setlE kp 0 L E) b c = x.2.2 := by
  intro L
  refine snoc_ind (P := fun L => L.all (wrOk E) = true → ∀ (b : ByteArray) (c : Nat), isAt E b = true → at64 (setlE kp 0 L E) b c = at64 E b c ∨ ∃ x ∈ L, x.1 = b ∧ x.2.1.toNat = c ∧ at64 (setlE kp 0 L E) b c = x.2.2) ?_ ?_ L
  · intro _ b c _; exact .inl rfl
  · intro L x ih h b c hb
    rw [List.all_append, Bool.and_eq_true, List.all_cons, Bool.and_eq_true] at h
    obtain ⟨h1, h2, _⟩ := h
    have hl := like_setl kp L 0 E h1
    rw [setlE_snoc]
    have hold : at64 (setlE kp 0 L E) b c = at64 E b c ∨ ∃ y ∈ L ++ [x], y.1 = b ∧ y.2.1.toNat = c ∧ at64 (setlE kp 0 L E) b c = y.2.2 := by
      rcases ih h1 b c hb with e | ⟨y, hy, e⟩
      · exact .inl e
      · exact .inr ⟨y, by simp [hy], e⟩
    split
    · rw [at64_done (by rw [hl.wrOk]; exact h2) b c (by rw [hl.isAt]; exact hb)]
      split
      · rename_i e
        exact .inr ⟨x, by simp, e.1, e.2, rfl⟩
      · exact hold
    · exact hold
/-- what may be read of a sector behind a crash -/
structure Safe (D1 Dk : Dsk) (nm : ByteArray) (s : Int) (ms : List ByteArray) : Prop where
  E : Dk.E = D1.E
  ck : ckE Dk = 0
  was : at64 D1.E nm s.toNat ∈ ms
  all : ∀ x ∈ Dk.W, x.1 = nm → x.2.1 = s → x.2.2 ∈ ms
theorem ck_good {D : Dsk} (h : ckE D = 0) : chkB D.size D.E D.W D.fuse = true := by
  cases hc : chkB D.size D.E D.W D.fuse with
  | true => rfl
  | false =>
    have h2 : (2 : Int) = ckE D := chk_bad hc
    omega
theorem ck_of {D : Dsk} (h : chkB D.size D.E D.W D.fuse = true) : ckE D = 0 := by
  show chkE _ _ _ _ = 0
  unfold chkE
  rw [if_pos h]
theorem rdy_ck {D : Dsk} (h : ckE D = 0) : rdy D = if D.down = true then 10 else 0 := by
  show readyE _ _ _ _ _ = _
  unfold readyE
  rw [if_pos (ck_good h)]
/-- a write that is done, or that there is no power for -/
theorem wt_any {D : Dsk} (hc : ckE D = 0) (nm : ByteArray) (s : Int) (d : ByteArray) (h : wtE D nm s d = 0 ∨ wtE D nm s d = 10) :
    (D.down = true ∧ wtE D nm s d = 10 ∧ wtD D nm s d = D) ∨ (D.down = false ∧ wtE D nm s d = 0 ∧ (wtD D nm s d).E = D.E ∧ (wtD D nm s d).W = D.W ++ [(nm, s, d)] ∧ ckE (wtD D nm s d) = 0) ∨
    (D.down = false ∧ wtE D nm s d = 10 ∧ (wtD D nm s d).E = D.E ∧ (wtD D nm s d).W = D.W ++ [(nm, s, d)] ∧ ckE (wtD D nm s d) = 0 ∧ (wtD D nm s d).down = true) := by
  have hr := rdy_ck hc
  cases hd : D.down with
  | true =>
    left
    rw [hd, if_pos rfl] at hr
    refine ⟨rfl, ?_, ?_⟩
    · unfold wtE; rw [chgR_if, hr]; rfl
    · unfold wtD; rw [chg_if, hr]; rfl
  | false =>
    right
    rw [hd] at hr
    have h0 : rdy D = 0 := hr
    have he : wtE D nm s d = wrE D.E D.W D.fuse nm s d := by unfold wtE; rw [chgR_ok h0]
    have hw : findE D.E nm s = 0 ∧ d.size = 64 ∧ D.W.length ≠ 16384 ∧ (wrE D.E D.W D.fuse nm s d = if D.fuse = 0 then 10 else 0) := by
      rw [he] at h
      unfold wrE at h ⊢
      split at h
      · rename_i h1
        rw [if_pos h1]
        split at h
        · rename_i h2
          rw [if_pos h2]
          split at h
          · omega
          · rename_i h3
            rw [if_neg h3]
            exact ⟨h1, h2, h3, rfl⟩
        · omega
      · rename_i h1
        have : findE D.E nm s = 0 ∨ findE D.E nm s = 1 ∨ findE D.E nm s = 3 := by
          unfold findE
          split
          · split
            · exact .inl rfl
            · exact .inr (.inl rfl)
          · exact .inr (.inr rfl)
        omega
    obtain ⟨h1, h2, h3, h4⟩ := hw
    have e : wtD D nm s d = ⟨D.size, D.E, D.W ++ [(nm, s, d)], if 0 < D.fuse then D.fuse - 1 else D.fuse, if D.fuse = 0 then true else D.down⟩ := by
      unfold wtD
      rw [chg_ok h0]
      unfold wrD
      rw [if_pos ⟨h1, h2, h3⟩]
    have hck : ckE (wtD D nm s d) = 0 := by
      obtain ⟨g1, g2, g3, g4, g5⟩ := chk_good (ck_good hc)
      have hl := wtR_length g5
      rw [e]
      refine ck_of (chk_of g1 g2 ?_ g4 ?_)
      · simp only; split <;> omega
      · have ha := wtR_all g5
        unfold wtR
        simp only
        rw [List.length_append, List.length_singleton, decide_eq_true (by omega), List.all_append, ha, List.all_cons, wrOk_find h1 h2]
        rfl
    by_cases hf : D.fuse = 0
    · right
      rw [if_pos hf] at h4
      exact ⟨rfl, he.trans h4, by rw [e], by rw [e], hck, by rw [e]; simp [hf]⟩
    · left
      rw [if_neg hf] at h4
      exact ⟨rfl, he.trans h4, by rw [e], by rw [e], hck⟩
theorem Safe.more {D1 Dk De : Dsk} {nm : ByteArray} {s : Int} {ms : List ByteArray} (h : Safe D1 Dk nm s ms) {x : ByteArray} {sx : Int} {y : ByteArray} (hE : De.E = Dk.E) (hc : ckE De = 0) (hW : De.W = Dk.W ++ [(x, sx, y)]) :
    Safe D1 De nm s (ms ++ [y]) ∧ (¬ (x = nm ∧ sx = s) → Safe D1 De nm s ms) := by
  refine ⟨⟨hE.trans h.E, hc, by simp [h.was], fun u hu h1 h2 => ?_⟩, fun hne => ⟨hE.trans h.E, hc, h.was, fun u hu h1 h2 => ?_⟩⟩
  · rw [hW, List.mem_append, List.mem_singleton] at hu
    rcases hu with hu | rfl
    · simp [h.all u hu h1 h2]
    · simp
  · rw [hW, List.mem_append, List.mem_singleton] at hu
    rcases hu with hu | rfl
    · exact h.all u hu h1 h2
    · exact absurd ⟨h1, h2⟩ hne
theorem Safe.crash {D1 Dk : Dsk} {nm : ByteArray} {s : Int} {ms : List ByteArray} (h : Safe D1 Dk nm s ms) (hf : findE D1.E nm s = 0) (K : List Bool) :
    rdE (crD Dk K) nm s = 0 ∧ rdO (crD Dk K) nm s ∈ ms ∧ (crD Dk K).down = false ∧ (crD Dk K).fuse = -1 ∧ ckE (crD Dk K) = 0 := by
  have e : crD Dk K = ⟨Dk.size, setlE (kpK K) 0 Dk.W Dk.E, [], -1, false⟩ := by
    exact if_pos h.ck
  obtain ⟨g1, g2, g3, g4, g5⟩ := chk_good (ck_good h.ck)
  have hl := like_setl (kpK K) Dk.W 0 Dk.E (wtR_all g5)
  have hck : ckE (crD Dk K) = 0 := by
    rw [e]
    exact ck_of (chk_of g1 g2 (by simp) (by simp only; rw [hl.exR]; exact g4) rfl)
  have hr : rdy (crD Dk K) = 0 := by rw [rdy_ck hck, e]; rfl
  have hf2 : findE (crD Dk K).E nm s = 0 := by rw [e]; simp only; rw [hl.findE, h.E]; exact hf
  refine ⟨by rw [rdE_ok hr]; exact hf2, ?_, by rw [e], by rw [e], hck⟩
  rw [rdO_ok hr, if_pos hf2, e]
  simp only
  show at64 (setlE (kpK K) 0 Dk.W Dk.E) nm s.toNat ∈ ms
  obtain ⟨hi, hs0, _⟩ := find_good hf
  rcases at64_some (kpK K) Dk.W (wtR_all g5) nm s.toNat (by rw [h.E]; exact hi) with e1 | ⟨x, hx, e2, e3, e4⟩
  · rw [e1, h.E]; exact h.was
  · rw [e4]
    have hx0 := (wrOk_one (List.all_eq_true.1 (wtR_all g5) x hx)).2.1
    exact h.all x hx e2 (by omega)
/-- synced, and read: so it begins -/
theorem Safe.start {D : Dsk} {nm : ByteArray} {s : Int} (h : rdy D = 0) (hf : rdE (syD D) nm s = 0) : Safe (syD D) (syD D) nm s [rdO (syD D) nm s] ∧ findE (syD D).E nm s = 0 := by
  obtain ⟨_, h1, h2, _⟩ := sy_eq h
  rw [rdE_ok h2] at hf
  refine ⟨⟨rfl, ck_of (ready_good h2).1, ?_, ?_⟩, hf⟩
  · rw [rdO_ok h2, if_pos hf, h1]
    simp only [List.mem_singleton]
    rfl
  · rw [h1]; intro x hx; simp at hx
end Go.Proofs.Ytgpheofdeflhdaa.Dk

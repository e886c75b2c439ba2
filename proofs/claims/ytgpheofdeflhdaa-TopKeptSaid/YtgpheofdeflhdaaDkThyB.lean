/- What is read, written and settled: no program in sight. What is read behind a write, and behind a sync. -/
import Derived.Test.YtgpheofdeflhdaaDkModel
namespace Go.Proofs.Ytgpheofdeflhdaa.Dk
open Go.RowKit Go.Op

/-- a sector of an extent's bytes -/
def sect (y : ByteArray) (c : Nat) : ByteArray := y.extract (c * 64) ((c + 1) * 64)
theorem sect_list (y : ByteArray) (c : Nat) : (sect y c).data.toList = (y.data.toList.drop (c * 64)).take 64 := by
  unfold sect
  rw [ByteArray.data_extract, Array.toList_extract]
  simp only [List.extract_eq_take_drop]
  congr 1
  omega
theorem bytes_ext {a b : ByteArray} (h : a.data.toList = b.data.toList) : a = b := ByteArray.ext (Array.toList_inj.1 h)
theorem over_get (l : List UInt8) (o : Nat) (d : List UInt8) (h : o + d.length ≤ l.length) (j : Nat) : (over l o d)[j]? = if o ≤ j ∧ j < o + d.length then d[j - o]? else l[j]? := by
  unfold over
  by_cases h1 : j < o
  · rw [if_neg (by omega), List.append_assoc, List.getElem?_append_left (by rw [List.length_take]; omega), List.getElem?_take, if_pos h1]
  · by_cases h2 : j < o + d.length
    · rw [if_pos (by omega), List.getElem?_append_left (by simp; omega), List.getElem?_append_right (by rw [List.length_take]; omega), List.length_take, Nat.min_eq_left (by omega)]
    · rw [if_neg (by omega), List.getElem?_append_right (by simp; omega), List.getElem?_drop]
      congr 1
      simp only [List.length_append, List.length_take]
      omega
theorem size_list (d : ByteArray) : d.data.toList.length = d.size := (Lib.size_eq d).symm
theorem sect_patch (y : ByteArray) (s : Int) (d : ByteArray) (c : Nat) (hd : d.size = 64) (hs : (s.toNat + 1) * 64 ≤ y.size) : sect (patch y s d) c = if s.toNat = c then d else sect y c := by
  have hl : s.toNat * 64 + d.data.toList.length ≤ y.data.toList.length := by rw [size_list, size_list, hd]; omega
  have hdl : d.data.toList.length = 64 := by rw [size_list]; exact hd
  apply bytes_ext
  rw [sect_list]
  unfold patch
  rw [List.toList_toArray]
  by_cases e : s.toNat = c
  · rw [if_pos e]
    subst e
    apply List.ext_getElem?
    intro j
    rw [List.getElem?_take]
    split
    · rename_i hj
      rw [List.getElem?_drop, over_get _ _ _ hl, if_pos (by omega)]
      congr 1; omega
    · rw [List.getElem?_eq_none (by omega)]
  · rw [if_neg e, sect_list]
    apply List.ext_getElem?
    intro j
    rw [List.getElem?_take, List.getElem?_take]
    split
    · rename_i hj
      rw [List.getElem?_drop, List.getElem?_drop, over_get _ _ _ hl, if_neg]
      rw [hdl]
      intro hh
      have : s.toNat < c ∨ c < s.toNat := by omega
      rcases this with h | h <;> omega
    · rfl

/-- two lists of extents are called alike, and are as long -/
structure Like (E C : List Ext) : Prop where
  len : C.length = E.length
  name : ∀ i, i < E.length → (C.getD i default).1 = (E.getD i default).1
  size : ∀ i, i < E.length → (C.getD i default).2.size = (E.getD i default).2.size
theorem Like.refl (E : List Ext) : Like E E := ⟨rfl, fun _ _ => rfl, fun _ _ => rfl⟩
theorem Like.pos {E C : List Ext} (h : Like E C) (b : ByteArray) : pos C b = pos E b := pos_names h.len h.name b
theorem Like.isAt {E C : List Ext} (h : Like E C) (b : ByteArray) : isAt C b = isAt E b := by
  unfold Dk.isAt
  rw [h.pos, h.len]
  by_cases hp : Dk.pos E b < E.length
  · rw [h.name _ hp]
  · rw [decide_eq_false hp, Bool.false_and, Bool.false_and]
theorem Like.lookN {E C : List Ext} (h : Like E C) (b : ByteArray) : lookN C b = lookN E b := by
  unfold Dk.lookN
  rw [h.isAt]
  split
  · rename_i hi
    unfold many
    rw [h.pos, h.size _ (isAt_lt hi)]
  · rfl
theorem Like.findE {E C : List Ext} (h : Like E C) (b : ByteArray) (c : Int) : findE C b c = findE E b c := by
  unfold Dk.findE
  rw [h.isAt, h.lookN]
theorem Like.tail {x y : Ext} {E C : List Ext} (h : Like (x :: E) (y :: C)) : Like E C :=
  ⟨by simpa using h.len, fun i hi => by simpa using h.name (i + 1) (by simpa using hi), fun i hi => by simpa using h.size (i + 1) (by simpa using hi)⟩
theorem Like.exR : ∀ {E C : List Ext} (_ : Like E C) (a : ByteArray) (l : Int), exR a l C = exR a l E
  | [], [], _, _, _ => rfl
  | [], _ :: _, h, _, _ => by have := h.len; simp at this
  | _ :: _, [], h, _, _ => by have := h.len; simp at this
  | x :: E, y :: C, h, a, l => by
    have h1 := h.name 0 (by simp)
    have h2 := h.size 0 (by simp)
    simp only [List.getD_cons_zero] at h1 h2
    simp only [Dk.exR, many, h1, h2]
    rw [h.tail.exR]
    rfl
theorem Like.wrOk {E C : List Ext} (h : Like E C) (x : Wr) : wrOk C x = wrOk E x := by
  unfold Dk.wrOk
  rw [h.lookN]
theorem Like.trans {A B C : List Ext} (h : Like A B) (k : Like B C) : Like A C :=
  ⟨k.len.trans h.len, fun i hi => (k.name i (by rw [h.len]; exact hi)).trans (h.name i hi), fun i hi => (k.size i (by rw [h.len]; exact hi)).trans (h.size i hi)⟩
theorem wrOk_one {E : List Ext} {x : Wr} (h : wrOk E x = true) : isAt E x.1 = true ∧ 0 ≤ x.2.1 ∧ (x.2.1.toNat + 1) * 64 ≤ (E.getD (pos E x.1) default).2.size ∧ x.2.2.size = 64 := by
  have := wrOk_at (E := E) (L := [x]) (by simp [h]) 0 (by simp)
  simpa using this
theorem like_done {C : List Ext} {x : Wr} (h : wrOk C x = true) : Like C (doneE C x) := by
  obtain ⟨h1, h2, h3, h4⟩ := wrOk_one h
  have hp := isAt_lt h1
  unfold doneE
  refine ⟨by rw [List.length_set], fun i hi => ?_, fun i hi => ?_⟩
  · rw [getD_setE _ _ _ _ hp]
    split
    · rename_i e; rw [← e]
    · rfl
  · rw [getD_setE _ _ _ _ hp]
    split
    · rename_i e; rw [← e]; exact patch_size _ _ _ (by omega)
    · rfl
theorem like_setl (kp : Nat → Bool) : ∀ (L : List Wr) (i : Nat) (C : List Ext), L.all (wrOk C) = true → Like C (setlE kp i L C)
  | [], _, C, _ => Like.refl C
  | x :: L, i, C, h => by
    rw [List.all_cons, Bool.and_eq_true] at h
    simp only [setlE]
    cases hk : kp i with
    | false => simpa using like_setl kp L (i + 1) C h.2
    | true =>
      have hl := like_done h.1
      have h2 : L.all (wrOk (doneE C x)) = true := by
        rw [List.all_eq_true] at h ⊢
        intro y hy
        rw [hl.wrOk]; exact h.2 y hy
      simpa using hl.trans (like_setl kp L (i + 1) _ h2)

/-- what an extent has at a sector -/
def at64 (C : List Ext) (b : ByteArray) (c : Nat) : ByteArray := sect (C.getD (pos C b) default).2 c
theorem at64_done {C : List Ext} {x : Wr} (h : wrOk C x = true) (b : ByteArray) (c : Nat) (hb : isAt C b = true) : at64 (doneE C x) b c = if x.1 = b ∧ x.2.1.toNat = c then x.2.2 else at64 C b c := by
  obtain ⟨h1, h2, h3, h4⟩ := wrOk_one h
  have hp := isAt_lt h1
  have hl := like_done h
  unfold at64
  rw [hl.pos]
  unfold doneE
  rw [getD_setE _ _ _ _ hp]
  have hn : ∀ d : ByteArray, isAt C d = true → (C.getD (pos C d) default).1 = d := by
    intro d hd
    unfold isAt at hd
    rw [Bool.and_eq_true] at hd
    exact of_decide_eq_true hd.2
  by_cases e : x.1 = b
  · subst e
    rw [if_pos rfl]
    simp only
    rw [sect_patch _ _ _ _ h4 h3]
    by_cases e2 : x.2.1.toNat = c
    · simp [e2]
    · simp [e2]
  · rw [if_neg (fun hh => e (by rw [← hn x.1 h1, ← hn b hb, hh])), if_neg (fun hh => e hh.1)]
theorem Like.sorted {E C : List Ext} (h : Like E C) (hs : Sorted E) : Sorted C := fun i j hij hj => by
  rw [h.len] at hj
  rw [h.name i (by omega), h.name j hj]
  exact hs i j hij hj

theorem setlE_snoc (kp : Nat → Bool) : ∀ (L : List Wr) (i : Nat) (C : List Ext) (x : Wr), setlE kp i (L ++ [x]) C = if kp (i + L.length) = true then doneE (setlE kp i L C) x else setlE kp i L C
  | [], i, C, x => by simp [setlE]
  | y :: L, i, C, x => by
    simp only [List.cons_append, setlE, List.length_cons]
    rw [setlE_snoc kp L (i + 1) _ x, show i + 1 + L.length = i + (L.length + 1) by omega]
theorem seenF_snoc (L : List Wr) (x : Wr) (b : ByteArray) (c : Int) : seenF (L ++ [x]) b c (L.length + 1) = if x.2.1 = c ∧ x.1 = b then some x.2.2 else seenF L b c L.length := by
  have h : ∀ j, j ≤ L.length → seenF (L ++ [x]) b c j = seenF L b c j := by
    intro j
    induction j with
    | zero => intro _; rfl
    | succ j ih =>
      intro hj
      have e : (L ++ [x]).getD j default = L.getD j default := by simp [List.getD_eq_getElem?_getD, List.getElem?_append_left (show j < L.length by omega)]
      simp only [seenF]
      rw [e, ih (by omega)]
  have e : (L ++ [x]).getD L.length default = x := by simp [List.getD_eq_getElem?_getD]
  rw [← h L.length (Nat.le_refl _)]
  show (if _ then _ else _) = _
  rw [e]
theorem snoc_ind {P : List Wr → Prop} (h0 : P []) (h1 : ∀ L x, P L → P (L ++ [x])) (L : List Wr) : P L := by
  have h : ∀ M : List Wr, P M.reverse := by
    intro M
    induction M with
    | nil => exact h0
    | cons x M ih => rw [List.reverse_cons]; exact h1 _ _ ih
  have := h L.reverse
  rwa [List.reverse_reverse] at this
/-- settled, all has what was seen of it -/
theorem at64_all {E : List Ext} : ∀ (L : List Wr), L.all (wrOk E) = true → ∀ (b : ByteArray) (c : Nat), isAt E b = true → at64 (setlE (fun _ => true) 0 L E) b c = seenO L b (E.getD (pos E b) default).2 c L.length := by
  intro L
  refine snoc_ind (P := fun L => L.all (wrOk E) = true → ∀ (b : ByteArray) (c : Nat), isAt E b = true → at64 (setlE (fun _ => true) 0 L E) b c = seenO L b (E.getD (pos E b) default).2 c L.length) ?_ ?_ L
  · intro _ b c _; rfl
  · intro L x ih h b c hb
    rw [List.all_append, Bool.and_eq_true, List.all_cons, Bool.and_eq_true] at h
    obtain ⟨h1, h2, _⟩ := h
    have hl := like_setl (fun _ => true) L 0 E h1
    rw [setlE_snoc, if_pos rfl, at64_done (by rw [hl.wrOk]; exact h2) b c (by rw [hl.isAt]; exact hb), ih h1 b c hb]
    have hc0 := (wrOk_one h2).2.1
    unfold seenO
    rw [List.length_append, List.length_singleton, seenF_snoc]
    by_cases e : x.1 = b ∧ x.2.1.toNat = c
    · rw [if_pos e, if_pos ⟨by omega, e.1⟩]
    · rw [if_neg e, if_neg (fun hh => e ⟨hh.2, by omega⟩)]
end Go.Proofs.Ytgpheofdeflhdaa.Dk
namespace Go.Proofs.Ytgpheofdeflhdaa.Dk
open Go.RowKit Go.Op

theorem rdy_of {D : Dsk} (h : chkB D.size D.E D.W D.fuse = true) (hd : D.down = false) : rdy D = 0 := by
  unfold rdy readyE
  rw [if_pos h, hd]
  rfl
theorem chk_of {D : Dsk} (h1 : 0 ≤ D.size) (h2 : D.size ≤ 16384) (h3 : -1 ≤ D.fuse) (h4 : exR ⟨#[]⟩ D.size D.E = true) (h5 : wtR D.E D.W = true) : chkB D.size D.E D.W D.fuse = true := by
  unfold chkB
  rw [decide_eq_true h1, decide_eq_true h2, decide_eq_true h3, h4, h5]
  rfl
theorem chg_ok {D D' : Dsk} (h : rdy D = 0) : chg D D' = D' := by rw [chg_if, h]; rfl
theorem chgR_ok {D : Dsk} {er : Int} (h : rdy D = 0) : chgR D er = er := by rw [chgR_if, h]; rfl
theorem chgR_zero {D : Dsk} {er : Int} (h : chgR D er = 0) : rdy D = 0 ∧ er = 0 := by
  rw [chgR_if] at h
  split at h
  · omega
  · split at h
    · rename_i h0; exact ⟨h0, h⟩
    · rename_i h0; exact absurd h h0
theorem wrE_zero {E : List Ext} {L : List Wr} {fz : Int} {nm : ByteArray} {s : Int} {d : ByteArray} (h : wrE E L fz nm s d = 0) : findE E nm s = 0 ∧ d.size = 64 ∧ L.length ≠ 16384 ∧ fz ≠ 0 := by
  unfold wrE at h
  split at h
  · rename_i h1
    split at h
    · rename_i h2
      split at h
      · omega
      · rename_i h3
        split at h
        · omega
        · rename_i h4; exact ⟨h1, h2, h3, h4⟩
    · omega
  · rename_i h1; exact absurd h h1
theorem wrOk_find {E : List Ext} {nm : ByteArray} {s : Int} {d : ByteArray} (h : findE E nm s = 0) (hd : d.size = 64) : wrOk E (nm, s, d) = true := by
  obtain ⟨_, h2, h3⟩ := find_good h
  unfold wrOk
  simp only
  rw [decide_eq_true h2, decide_eq_true h3, decide_eq_true hd]
  rfl
/-- with a write more, that there was power for -/
theorem wt_eq {D : Dsk} {nm : ByteArray} {s : Int} {d : ByteArray} (h : wtE D nm s d = 0) : rdy D = 0 ∧ findE D.E nm s = 0 ∧ d.size = 64 ∧ wtD D nm s d = ⟨D.size, D.E, D.W ++ [(nm, s, d)], if 0 < D.fuse then D.fuse - 1 else D.fuse, D.down⟩ ∧ rdy (wtD D nm s d) = 0 := by
  obtain ⟨h0, h1⟩ := chgR_zero h
  obtain ⟨h2, h3, h4, h5⟩ := wrE_zero h1
  have e : wtD D nm s d = ⟨D.size, D.E, D.W ++ [(nm, s, d)], if 0 < D.fuse then D.fuse - 1 else D.fuse, D.down⟩ := by
    unfold wtD
    rw [chg_ok h0]
    unfold wrD
    rw [if_pos ⟨h2, h3, h4⟩, if_neg h5]
  refine ⟨h0, h2, h3, e, ?_⟩
  obtain ⟨hc, hd⟩ := ready_good h0
  obtain ⟨g1, g2, g3, g4, g5⟩ := chk_good hc
  rw [e]
  have hl := wtR_length g5
  refine rdy_of (chk_of g1 g2 ?_ g4 ?_) hd
  · simp only; split <;> omega
  · have ha := wtR_all g5
    unfold wtR
    simp only
    rw [List.length_append, List.length_singleton, decide_eq_true (by omega), List.all_append, ha, List.all_cons, wrOk_find h2 h3]
    rfl
theorem rdE_ok {D : Dsk} (h : rdy D = 0) (b : ByteArray) (c : Int) : rdE D b c = findE D.E b c := by
  show (if rdy D = 0 then findE D.E b c else rdy D) = _
  rw [if_pos h]
theorem rdO_ok {D : Dsk} (h : rdy D = 0) (b : ByteArray) (c : Int) : rdO D b c = if findE D.E b c = 0 then seenO D.W b (D.E.getD (pos D.E b) default).2 c.toNat D.W.length else ⟨#[]⟩ := by
  show (if rdy D = 0 ∧ findE D.E b c = 0 then seenO D.W b (D.E.getD (pos D.E b) default).2 c.toNat D.W.length else (⟨#[]⟩ : ByteArray)) = _
  by_cases h1 : findE D.E b c = 0
  · rw [if_pos (And.intro h h1), if_pos h1]
  · rw [if_neg (fun hh => h1 hh.2), if_neg h1]
theorem wt_read {D : Dsk} {nm : ByteArray} {s : Int} {d : ByteArray} (h : wtE D nm s d = 0) (b : ByteArray) (c : Int) :
    rdE (wtD D nm s d) b c = rdE D b c ∧ (rdO (wtD D nm s d) b c = if (nm = b ∧ s = c) then d else rdO D b c) := by
  obtain ⟨h0, h1, h2, h3, h4⟩ := wt_eq h
  rw [rdE_ok h4, rdE_ok h0, rdO_ok h4, rdO_ok h0, h3]
  simp only
  refine ⟨trivial, ?_⟩
  by_cases hf : findE D.E b c = 0
  · rw [if_pos hf, if_pos hf]
    have hc := (find_good hf).2.1
    unfold seenO
    rw [List.length_append, List.length_singleton, seenF_snoc]
    simp only
    by_cases e : nm = b ∧ s = c
    · rw [if_pos e, if_pos ⟨by omega, e.1⟩]
    · rw [if_neg e, if_neg (fun hh => e ⟨hh.2, by omega⟩)]
  · rw [if_neg hf, if_neg hf, if_neg]
    rintro ⟨rfl, rfl⟩
    exact hf h1
theorem sy_eq {D : Dsk} (h : rdy D = 0) : syE D = 0 ∧ syD D = ⟨D.size, setlE (fun _ => true) 0 D.W D.E, [], D.fuse, D.down⟩ ∧ rdy (syD D) = 0 ∧ Like D.E (syD D).E := by
  have e : syD D = ⟨D.size, setlE (fun _ => true) 0 D.W D.E, [], D.fuse, D.down⟩ := by unfold syD; rw [chg_ok h]; rfl
  obtain ⟨hc, hd⟩ := ready_good h
  obtain ⟨g1, g2, g3, g4, g5⟩ := chk_good hc
  have hl := like_setl (fun _ => true) D.W 0 D.E (wtR_all g5)
  refine ⟨chgR_ok h, e, ?_, by rw [e]; exact hl⟩
  rw [e]
  exact rdy_of (chk_of g1 g2 g3 (by simp only; rw [hl.exR]; exact g4) rfl) hd
theorem sy_read {D : Dsk} (h : rdy D = 0) (b : ByteArray) (c : Int) : rdE (syD D) b c = rdE D b c ∧ rdO (syD D) b c = rdO D b c := by
  obtain ⟨_, h1, h2, h3⟩ := sy_eq h
  have g5 := (chk_good (ready_good h).1).2.2.2.2
  rw [rdE_ok h2, rdE_ok h, rdO_ok h2, rdO_ok h, h3.findE]
  refine ⟨rfl, ?_⟩
  by_cases hf : findE D.E b c = 0
  · rw [if_pos hf, if_pos hf]
    have hb := (find_good hf).1
    rw [← at64_all D.W (wtR_all g5) b c.toNat hb, h1]
    rfl
  · rw [if_neg hf, if_neg hf]
end Go.Proofs.Ytgpheofdeflhdaa.Dk

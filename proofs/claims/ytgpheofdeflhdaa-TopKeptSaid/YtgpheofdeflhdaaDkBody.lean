/- Bytes of extents while they are written. -/
import Derived.Test.YtgpheofdeflhdaaDkDel
import Derived.Lib.LazyBuf
import Derived.Test.YtgpheofdeflhdaaBytesRow
namespace Go.Proofs.Ytgpheofdeflhdaa.Dk
open Go.RowKit Go.Op

def strVals (d : ByteArray) : List Value := d.data.toList.map fun x => Value.int .u8 (x.toNat : Int)
theorem strVals_length (d : ByteArray) : (strVals d).length = d.size := by
  unfold strVals; rw [List.length_map, ← Lib.size_eq]
theorem Bar.setCells {a : World} {p : Nat → Prop} {b : Nat} (hb : p b) : ∀ (vs : List Value) (o : Nat) (w : World), Bar a w p → Bar a (w.setCells b o vs) p
  | [], _, _, h => h
  | v :: r, o, _, h => Bar.setCells hb r (o + 1) _ (h.setCell (q := ⟨b, o, none⟩) hb v)
theorem Bytes.bar {w w' : World} {p : Nat → Prop} {g : Nat} {l : List UInt8} (h : Row.Bytes w g l) (hb : Bar w w' p) (hp : ¬ p g) : Row.Bytes w' g l :=
  ⟨Nat.lt_of_lt_of_le h.lt hb.size, fun j hj => by rw [hb.cell (a := ⟨g, j, none⟩) h.lt hp]; exact h.cell j hj, fun j hj => by rw [hb.frozen (a := ⟨g, j, none⟩) h.lt hp]; exact h.free j hj⟩
/-- bytes from a place on are others -/
def over (l : List UInt8) (o : Nat) (d : List UInt8) : List UInt8 := l.take o ++ d ++ l.drop (o + d.length)
theorem over_length (l : List UInt8) (o : Nat) (d : List UInt8) (h : o + d.length ≤ l.length) : (over l o d).length = l.length := by
  unfold over; simp; omega
theorem over_getD (l : List UInt8) (o : Nat) (d : List UInt8) (h : o + d.length ≤ l.length) (j : Nat) : (over l o d).getD j 0 = if o ≤ j ∧ j < o + d.length then d.getD (j - o) 0 else l.getD j 0 := by
  unfold over
  simp only [List.getD_eq_getElem?_getD]
  by_cases h1 : j < o
  · rw [if_neg (by omega), List.append_assoc, List.getElem?_append_left (by rw [List.length_take]; omega), List.getElem?_take, if_pos h1]
  · by_cases h2 : j < o + d.length
    · rw [if_pos (by omega), List.getElem?_append_left (by simp; omega), List.getElem?_append_right (by rw [List.length_take]; omega), List.length_take, Nat.min_eq_left (by omega)]
    · rw [if_neg (by omega), List.getElem?_append_right (by simp; omega), List.getElem?_drop]
      congr 2
      simp only [List.length_append, List.length_take]
      omega
theorem Bytes.copy {w : World} {g : Nat} {l : List UInt8} (h : Row.Bytes w g l) (o : Nat) (d : ByteArray) (hfit : o + d.size ≤ l.length) : Row.Bytes (w.setCells g o (strVals d)) g (over l o d.data.toList) := by
  have hd : d.data.toList.length = d.size := (Lib.size_eq d).symm
  have hb : Bar w (w.setCells g o (strVals d)) (fun k => k = g) := Bar.setCells (p := fun k => k = g) rfl _ _ _ (Bar.refl _ _)
  refine ⟨Nat.lt_of_lt_of_le h.lt hb.size, fun j hj => ?_, fun j hj => ?_⟩
  · rw [over_length _ _ _ (by rw [hd]; exact hfit)] at hj
    rw [over_getD _ _ _ (by rw [hd]; exact hfit), hd]
    by_cases hin : o ≤ j ∧ j < o + d.size
    · rw [if_pos hin]
      have := World.cell?_setCells_in g (strVals d) o w (fun i hi => by rw [strVals_length] at hi; rw [h.cell (o + i) (by omega)]; rfl) (j - o) (by rw [strVals_length]; omega)
      rw [show o + (j - o) = j by omega] at this
      rw [this]
      have hjd : j - o < d.data.toList.length := by omega
      simp [strVals, List.getD_eq_getElem?_getD, List.getElem?_eq_getElem hjd]
    · rw [if_neg hin, World.cell?_setCells_out g _ _ _ _ (fun _ _ => by rw [strVals_length]; show j < o ∨ o + d.size ≤ j; omega)]
      exact h.cell j hj
  · rw [over_length _ _ _ (by rw [hd]; exact hfit)] at hj
    rw [World.frozen?_setCells]; exact h.free j hj

/-- a sector of an extent's bytes is another one -/
def patch (y : ByteArray) (s : Int) (d : ByteArray) : ByteArray := ⟨(over y.data.toList (s.toNat * 64) d.data.toList).toArray⟩
theorem patch_size (y : ByteArray) (s : Int) (d : ByteArray) (h : s.toNat * 64 + d.size ≤ y.size) : (patch y s d).size = y.size := by
  unfold patch
  show (over _ _ _).toArray.size = _
  rw [List.size_toArray, over_length _ _ _ (by rw [← Lib.size_eq, ← Lib.size_eq]; exact h), ← Lib.size_eq]
/-- a write is done -/
def doneE (C : List Ext) (x : Wr) : List Ext := C.set (pos C x.1) ((C.getD (pos C x.1) default).1, patch (C.getD (pos C x.1) default).2 x.2.1 x.2.2)
/-- those that are kept are done, the eldest first -/
def setlE (kp : Nat → Bool) : Nat → List Wr → List Ext → List Ext
  | _, [], C => C
  | i, x :: L, C => setlE kp (i + 1) L (if kp i = true then doneE C x else C)

/-- one extent's bytes at work, or none yet -/
def BodAt (w : World) (B : Nat) (x y : Ext) (v : Value) : Prop := (v = .slice none 0 0 ∧ y = x) ∨ ∃ b c, v = .slice (some ⟨b, 0, none⟩) y.2.size c ∧ B ≤ b ∧ Row.Bytes w b y.2.data.toList ∧ y.2.size ≤ c
structure Bods (w : World) (B gB n : Nat) (E C : List Ext) (cs : List Value) : Prop where
  len : cs.length = n
  nE : E.length = n
  nC : C.length = n
  lt : gB < B
  row : w.ownsRow gB 36 1 (.slice (some ⟨gB, 0, none⟩) n n) n cs
  body : ∀ i, i < n → BodAt w B (E.getD i default) (C.getD i default) (cs.getD i default)
  apart : ∀ i j, i < n → j < n → i ≠ j → ∀ b, (cs.getD i default).ownBlock = some b → (cs.getD j default).ownBlock ≠ some b
  names : ∀ i, i < n → (C.getD i default).1 = (E.getD i default).1
  sizes : ∀ i, i < n → (C.getD i default).2.size = (E.getD i default).2.size
theorem BodAt.bar {w w' : World} {B : Nat} {x y : Ext} {v : Value} {p : Nat → Prop} (h : BodAt w B x y v) (hb : Bar w w' p) (hp : ∀ b, v.ownBlock = some b → B ≤ b → ¬ p b) : BodAt w' B x y v := by
  rcases h with h | ⟨b, c, rfl, h1, h2, h3⟩
  · exact .inl h
  · exact .inr ⟨b, c, rfl, h1, Bytes.bar h2 hb (hp b rfl h1), h3⟩
/-- blocks below that of the bodies' row turn, or its row does not: all stay -/
theorem Bods.bar {w w' : World} {B gB n : Nat} {E C : List Ext} {cs : List Value} {p : Nat → Prop} (h : Bods w B gB n E C cs) (hb : Bar w w' p) (hp : ∀ k, p k → k < B ∧ k ≠ gB) : Bods w' B gB n E C cs :=
  ⟨h.len, h.nE, h.nC, h.lt, own_bar h.row hb (fun g hg hpg => by simp [Value.ownBlock] at hg; exact (hp g hpg).2 hg.symm),
   fun i hi => (h.body i hi).bar hb (fun b _ hB hpb => by have := (hp b hpb).1; omega), h.apart, h.names, h.sizes⟩
theorem Bods.below {w w' : World} {B gB n : Nat} {E C : List Ext} {cs : List Value} (h : Bods w B gB n E C cs) (hb : Below w.heap.size w w') : Bods w' B gB n E C cs :=
  h.bar (Bar.of_below hb (fun _ => False)) (fun _ h => h.elim)
theorem getD_setV (cs : List Value) (i j : Nat) (v : Value) (hi : i < cs.length) : (cs.set i v).getD j default = if i = j then v else cs.getD j default := by
  simp only [List.getD_eq_getElem?_getD, List.getElem?_set]
  by_cases h : i = j
  · subst h; simp [hi]
  · simp [h]
theorem getD_setE (cs : List Ext) (i j : Nat) (v : Ext) (hi : i < cs.length) : (cs.set i v).getD j default = if i = j then v else cs.getD j default := by
  simp only [List.getD_eq_getElem?_getD, List.getElem?_set]
  by_cases h : i = j
  · subst h; simp [hi]
  · simp [h]
/-- a body is made -/
theorem Bods.make {w : World} {B gB n : Nat} {E C : List Ext} {cs : List Value} (h : Bods w B gB n E C cs) (i : Nat) (hi : i < n) (hv : cs.getD i default = .slice none 0 0) (hB : B ≤ w.heap.size) (y : ByteArray) (hy : y = (E.getD i default).2) (c : Nat) (hc : y.size ≤ c) (w' : World) (hw' : w' = (Row.madeOf w y).setCell ⟨gB, i, none⟩ (.slice (some ⟨w.heap.size, 0, none⟩) y.size c)) :
    Bods w' B gB n E C (cs.set i (.slice (some ⟨w.heap.size, 0, none⟩) y.size c)) ∧ Bar w w' (fun k => k = gB) := by
  have hml := Row.madeOf_below w y
  have hbar : Bar w w' (fun k => k = gB) := by rw [hw']; exact (Bar.of_below hml (fun k => k = gB)).setCell (q := ⟨gB, i, none⟩) rfl _
  have hlen := h.len
  have hold := h.body i hi
  have hCi : C.getD i default = E.getD i default := by
    rcases hold with ⟨_, h2⟩ | ⟨b, c, h2, _⟩
    · exact h2
    · rw [hv] at h2; cases h2
  have hglt := (h.row.lt gB rfl).2
  have hown : ∀ j b, j < n → (cs.getD j default).ownBlock = some b → b < w.heap.size := by
    intro j b hj hb
    rcases h.body j hj with ⟨h2, _⟩ | ⟨b', c', h2, _, h3, _⟩
    · rw [h2] at hb; cases hb
    · rw [h2] at hb; simp [Value.ownBlock] at hb; have := h3.lt; omega
  refine ⟨⟨by rw [List.length_set]; exact hlen, h.nE, h.nC, h.lt, ?_, ?_, ?_, h.names, h.sizes⟩, hbar⟩
  · rw [hw']
    have := own_set (Rw.own_below h.row hml) i (.slice (some ⟨w.heap.size, 0, none⟩) y.size c)
    exact this
  · intro j hj
    rw [getD_setV _ _ _ _ (by omega)]
    by_cases e : i = j
    · subst e
      rw [if_pos rfl]
      refine .inr ⟨w.heap.size, c, by rw [hCi, ← hy], hB, ?_, by rw [hCi, ← hy]; exact hc⟩
      rw [hCi, ← hy]
      have := Row.madeOf_bytes w y
      rw [hw']
      exact Bytes.bar this ((Bar.refl _ (fun k => k = gB)).setCell rfl _) (by omega)
    · rw [if_neg e]
      exact (h.body j hj).bar hbar (fun b _ hb hpb => by have := h.lt; omega)
  · intro j k hj hk hjk b hb
    rw [getD_setV _ _ _ _ (by omega)] at hb ⊢
    by_cases e1 : i = j
    · rw [if_pos e1] at hb
      rw [if_neg (by omega)]
      intro hc
      have := hown k b hk hc
      simp [Value.ownBlock] at hb
      omega
    · rw [if_neg e1] at hb
      by_cases e2 : i = k
      · rw [if_pos e2]
        intro hc
        have := hown j b hj hb
        simp [Value.ownBlock] at hc
        omega
      · rw [if_neg e2]
        exact h.apart j k hj hk hjk b hb
/-- a body is written to -/
theorem Bods.write {w : World} {B gB n : Nat} {E C : List Ext} {cs : List Value} (h : Bods w B gB n E C cs) (i : Nat) (hi : i < n) (b c : Nat) (hv : cs.getD i default = .slice (some ⟨b, 0, none⟩) (C.getD i default).2.size c) (s : Int) (d : ByteArray) (hfit : s.toNat * 64 + d.size ≤ (C.getD i default).2.size) (w' : World) (hw' : w' = w.setCells b (s.toNat * 64) (strVals d)) :
    Bods w' B gB n E (C.set i ((C.getD i default).1, patch (C.getD i default).2 s d)) cs ∧ Bar w w' (fun k => k = b) ∧ B ≤ b ∧ Row.Bytes w b (C.getD i default).2.data.toList := by
  have hbb := h.body i hi
  obtain ⟨hB, hby, hcc⟩ : B ≤ b ∧ Row.Bytes w b (C.getD i default).2.data.toList ∧ (C.getD i default).2.size ≤ c := by
    rcases hbb with ⟨h2, _⟩ | ⟨b', c', h2, h3, h4, h5⟩
    · rw [h2] at hv; cases hv
    · rw [h2] at hv; cases hv; exact ⟨h3, h4, h5⟩
  have hbar : Bar w w' (fun k => k = b) := by rw [hw']; exact Bar.setCells (p := fun k => k = b) rfl _ _ _ (Bar.refl _ _)
  have hps := patch_size _ s d hfit
  refine ⟨⟨h.len, h.nE, by rw [List.length_set]; exact h.nC, h.lt, own_bar h.row hbar (fun g hg hpg => by simp [Value.ownBlock] at hg; have := h.lt; omega), ?_, h.apart, ?_, ?_⟩, hbar, hB, hby⟩
  · intro j hj
    rw [getD_setE _ _ _ _ (by rw [h.nC]; exact hi)]
    by_cases e : i = j
    · subst e
      rw [if_pos rfl]
      refine .inr ⟨b, c, by rw [hv]; simp only; rw [hps], hB, ?_, by simp only; rw [hps]; exact hcc⟩
      rw [hw']
      have := Bytes.copy hby (s.toNat * 64) d (by rw [← Lib.size_eq]; exact hfit)
      unfold patch
      exact this
    · rw [if_neg e]
      exact (h.body j hj).bar hbar (fun b' hb' _ hpb => h.apart i j hi hj e b (by rw [hv]; rfl) (by rw [hb', hpb]))
  · intro j hj
    rw [getD_setE _ _ _ _ (by rw [h.nC]; exact hi)]
    by_cases e : i = j
    · subst e; rw [if_pos rfl]; exact h.names i hj
    · rw [if_neg e]; exact h.names j hj
  · intro j hj
    rw [getD_setE _ _ _ _ (by rw [h.nC]; exact hi)]
    by_cases e : i = j
    · subst e; rw [if_pos rfl]; simp only; rw [hps]; exact h.sizes i hj
    · rw [if_neg e]; exact h.sizes j hj
end Go.Proofs.Ytgpheofdeflhdaa.Dk

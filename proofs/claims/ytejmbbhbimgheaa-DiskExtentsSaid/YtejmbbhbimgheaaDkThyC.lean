/- What there is by a name: extents made, dropped, moved. No program in sight. -/
import Derived.Test.YtejmbbhbimgheaaDkThyB
namespace Go.Proofs.Ytejmbbhbimgheaa.Dk
open Go.RowKit Go.Op

/-- the bytes of the extent of a name, if there is one -/
def lk (E : List Ext) (b : ByteArray) : Option ByteArray := if isAt E b = true then some (E.getD (pos E b) default).2 else none
theorem lk_iff {E : List Ext} (hs : Sorted E) {b y : ByteArray} : lk E b = some y ↔ (b, y) ∈ E := by
  unfold lk
  constructor
  · intro h
    split at h
    · rename_i hi
      have hl := isAt_lt hi
      have hn : (E.getD (pos E b) default).1 = b := by
        unfold isAt at hi
        rw [Bool.and_eq_true] at hi
        exact of_decide_eq_true hi.2
      have e : (b, y) = E.getD (pos E b) default := by
        injection h with h
        rw [← h]
        exact Prod.ext hn.symm rfl
      rw [e, getD_getE E _ hl]
      exact List.getElem_mem hl
    · cases h
  · intro h
    have hi := (isAt_mem hs).2 ⟨_, h, rfl⟩
    rw [if_pos hi]
    obtain ⟨i, hil, he⟩ := List.mem_iff_getElem.1 h
    have hp := pos_self hs hil
    rw [getD_getE E i hil, he] at hp
    simp only at hp
    rw [hp, getD_getE E i hil, he]
theorem lk_isAt (E : List Ext) (b : ByteArray) : isAt E b = (lk E b).isSome := by
  unfold lk
  cases isAt E b <;> simp
theorem lk_lookN (E : List Ext) (b : ByteArray) : lookN E b = ((lk E b).map many).getD 0 := by
  unfold lk lookN
  cases isAt E b <;> simp
theorem lk_none {E : List Ext} {b : ByteArray} : lk E b = none ↔ isAt E b = false := by
  rw [lk_isAt]
  cases lk E b <;> simp
theorem lk_ext {E F : List Ext} (hE : Sorted E) (hF : Sorted F) {b b' : ByteArray} (h : ∀ y, (b, y) ∈ E ↔ (b', y) ∈ F) : lk E b = lk F b' := by
  cases he : lk E b with
  | some y => exact ((lk_iff hF).2 ((h y).1 ((lk_iff hE).1 he))).symm
  | none =>
    cases hf : lk F b' with
    | none => rfl
    | some y =>
      rw [(lk_iff hE).2 ((h y).2 ((lk_iff hF).1 hf))] at he
      cases he
theorem findE_lk {E F : List Ext} {b b' : ByteArray} (h : lk E b = lk F b') (c : Int) : findE E b c = findE F b' c := by
  unfold findE
  rw [lk_isAt, lk_isAt, lk_lookN, lk_lookN, h]
theorem find_lk {E : List Ext} {b : ByteArray} {c : Int} (h : findE E b c = 0) : lk E b = some (E.getD (pos E b) default).2 := by
  unfold lk
  rw [if_pos (find_good h).1]
theorem wrOk_lk {E F : List Ext} {b b' : ByteArray} (h : lk E b = lk F b') (s : Int) (d : ByteArray) : wrOk E (b, s, d) = wrOk F (b', s, d) := by
  unfold wrOk
  simp only
  rw [lk_lookN, lk_lookN, h]

/-- an extent that is right -/
def okE (x : Ext) : Bool := named x.1 && (decide (1 ≤ many x.2) && decide (x.2.size % 64 = 0))
theorem sumN_app : ∀ (E F : List Ext), sumN (E ++ F) = sumN E + sumN F
  | [], F => by simp [sumN]
  | x :: E, F => by
    simp only [List.cons_append, sumN]
    rw [sumN_app E F]; omega
theorem exR_iff : ∀ {a : ByteArray} {l : Int} {E : List Ext}, 0 ≤ l → (exR a l E = true ↔ rising a E ∧ E.all okE = true ∧ (sumN E : Int) ≤ l)
  | a, l, [], hl => by simp [exR, rising, sumN]; exact hl
  | a, l, x :: E, hl => by
    have hm : 0 ≤ (many x.2 : Int) := by omega
    simp only [exR, rising, sumN, List.all_cons, okE, Bool.and_eq_true, decide_eq_true_eq]
    constructor
    · rintro ⟨⟨⟨h1, h2⟩, ⟨h3, h4⟩, h5⟩, h6⟩
      obtain ⟨g1, g2, g3⟩ := (exR_iff (by omega)).1 h6
      exact ⟨⟨h2, g1⟩, ⟨⟨h1, h3, h5⟩, g2⟩, by omega⟩
    · rintro ⟨⟨h2, g1⟩, ⟨⟨h1, h3, h5⟩, g2⟩, h⟩
      have hs : 0 ≤ (sumN E : Int) := by omega
      exact ⟨⟨⟨h1, h2⟩, ⟨h3, by omega⟩, h5⟩, (exR_iff (by omega)).2 ⟨g1, g2, by omega⟩⟩
theorem nlt_empty {b : ByteArray} (h : named b = true) : nlt ⟨#[]⟩ b = true := by
  unfold named at h
  rw [Bool.and_eq_true] at h
  have h1 : 1 ≤ b.size := of_decide_eq_true h.1
  obtain ⟨⟨l⟩⟩ := b
  cases l with
  | nil => simp [ByteArray.size] at h1
  | cons x l => unfold nlt; rw [toList_data, toList_data]; rfl
theorem sorted_rising : ∀ {a : ByteArray} {E : List Ext}, Sorted E → (∀ x ∈ E, nlt a x.1 = true) → rising a E
  | _, [], _, _ => trivial
  | a, x :: E, hs, h => by
    refine ⟨h x (by simp), sorted_rising (hs.sub (List.sublist_cons_self _ _)) (fun y hy => ?_)⟩
    obtain ⟨i, hi, rfl⟩ := List.mem_iff_getElem.1 hy
    have := hs 0 (i + 1) (by omega) (by simp; exact hi)
    simpa [List.getD_eq_getElem?_getD, List.getElem?_eq_getElem hi] using this
theorem exR_spec {z : Int} {E : List Ext} (hz : 0 ≤ z) : exR ⟨#[]⟩ z E = true ↔ Sorted E ∧ E.all okE = true ∧ (sumN E : Int) ≤ z := by
  rw [exR_iff hz]
  constructor
  · rintro ⟨h1, h2, h3⟩; exact ⟨rising_sorted h1, h2, h3⟩
  · rintro ⟨h1, h2, h3⟩
    refine ⟨sorted_rising h1 (fun x hx => ?_), h2, h3⟩
    have := List.all_eq_true.1 h2 x hx
    unfold okE at this
    rw [Bool.and_eq_true] at this
    exact nlt_empty this.1
theorem insE_mem {E : List Ext} {k : Nat} {x y : ByteArray} {u : Ext} : u ∈ insE E k x y ↔ u = (x, y) ∨ u ∈ E := by
  unfold insE
  simp only [List.mem_append, List.mem_singleton]
  constructor
  · rintro ((h | h) | h)
    · exact .inr (List.mem_of_mem_take h)
    · exact .inl h
    · exact .inr (List.mem_of_mem_drop h)
  · rintro (h | h)
    · exact .inl (.inr h)
    · rw [← List.take_append_drop k E, List.mem_append] at h
      exact h.elim (fun h => .inl (.inl h)) .inr
theorem insE_sum (E : List Ext) (k : Nat) (x y : ByteArray) : sumN (insE E k x y) = many y + sumN E := by
  have h : sumN E = sumN (E.take k) + sumN (E.drop k) := by rw [← sumN_app, List.take_append_drop]
  unfold insE
  rw [sumN_app, sumN_app, h]
  simp only [sumN]
  omega
theorem sorted_ins {E : List Ext} (hs : Sorted E) {b : ByteArray} (hb : isAt E b = false) (y : ByteArray) : Sorted (insE E (pos E b) b y) := by
  rw [sorted_pair] at hs ⊢
  unfold insE
  have hp := pos_le E b
  rw [List.pairwise_append, List.pairwise_append]
  have h1 : ∀ u ∈ E.take (pos E b), nlt u.1 b = true := by
    intro u hu
    obtain ⟨i, hi, rfl⟩ := List.mem_iff_getElem.1 hu
    rw [List.length_take] at hi
    rw [List.getElem_take]
    have := pos_below E b i (by omega)
    rw [getD_getE E i (by omega)] at this
    exact this
  have h2 : ∀ u ∈ E.drop (pos E b), nlt b u.1 = true := by
    intro u hu
    obtain ⟨i, hi, rfl⟩ := List.mem_iff_getElem.1 hu
    rw [List.length_drop] at hi
    rw [List.getElem_drop]
    have hn := pos_from (sorted_pair.2 hs) b (pos E b + i) (by omega) (by omega)
    rw [getD_getE E _ (by omega)] at hn
    cases hc : nlt b (E[pos E b + i]'(by omega)).1 with
    | true => rfl
    | false =>
      have e := nlt_total hn hc
      have : isAt E b = true := (isAt_mem (sorted_pair.2 hs)).2 ⟨_, List.getElem_mem _, e⟩
      rw [hb] at this
      cases this
  have hh : (E.take (pos E b) ++ E.drop (pos E b)).Pairwise (fun x y => nlt x.1 y.1 = true) := by rw [List.take_append_drop]; exact hs
  rw [List.pairwise_append] at hh
  refine ⟨⟨hh.1, List.pairwise_singleton _ _, ?_⟩, hh.2.1, ?_⟩
  · intro u hu v hv
    rw [List.mem_singleton] at hv
    rw [hv]; exact h1 u hu
  · intro u hu v hv
    rw [List.mem_append, List.mem_singleton] at hu
    rcases hu with hu | rfl
    · exact hh.2.2 u hu v hv
    · exact h2 v hv
theorem lk_ins {E : List Ext} (hs : Sorted E) {b : ByteArray} (hb : isAt E b = false) (y c : ByteArray) : lk (insE E (pos E b) b y) c = if c = b then some y else lk E c := by
  have hs2 := sorted_ins hs hb y
  by_cases e : c = b
  · rw [if_pos e, e]
    exact (lk_iff hs2).2 (insE_mem.2 (.inl rfl))
  · rw [if_neg e]
    refine lk_ext hs2 hs (fun u => ?_)
    rw [insE_mem]
    constructor
    · rintro (h | h)
      · injection h with h _; exact absurd h e
      · exact h
    · exact .inr
theorem lk_kept {E : List Ext} (hs : Sorted E) (P : ByteArray → Bool) (c : ByteArray) : lk (keptEn P E) c = if P c = true then none else lk E c := by
  have hs2 : Sorted (keptEn P E) := hs.sub List.filter_sublist
  have hm : ∀ u : Ext, u ∈ keptEn P E ↔ u ∈ E ∧ P u.1 = false := by
    intro u
    unfold keptEn keptE
    rw [List.mem_filter]
    simp
  cases hc : P c with
  | true =>
    rw [if_pos rfl, lk_none]
    cases hi : isAt (keptEn P E) c with
    | false => rfl
    | true =>
      obtain ⟨x, hx, rfl⟩ := (isAt_mem hs2).1 hi
      rw [((hm x).1 hx).2] at hc
      cases hc
  | false =>
    rw [if_neg (by simp)]
    refine lk_ext hs2 hs (fun u => ?_)
    rw [hm]
    exact ⟨fun h => h.1, fun h => ⟨h, hc⟩⟩
theorem sumN_filter (p : Ext → Bool) : ∀ E : List Ext, sumN (E.filter p) ≤ sumN E
  | [] => Nat.le_refl _
  | x :: E => by
    have := sumN_filter p E
    rw [List.filter_cons]
    split
    · simp only [sumN]; omega
    · simp only [sumN]; omega
end Go.Proofs.Ytejmbbhbimgheaa.Dk

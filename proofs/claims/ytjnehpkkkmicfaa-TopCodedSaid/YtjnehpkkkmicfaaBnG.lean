/- StM StWI StWP -/
import Derived.Test.YtjnehpkkkmicfaaRows
import Derived.Sort.LotA
import Derived.Sort.WalkA
import Derived.Shelf.SlSortCmp.Insertion
import Derived.Shelf.SlSortCmp.Kit1
import Derived.Deep.LoopGhost
import Derived.Shelf.SlicesQ.Reverse
import Derived.Lib.Hide
import Derived.Shelf.SlSortCmp.KitK
namespace Go.Proofs.Ytjnehpkkkmicfaa.St
open Go.Sort Go.Proofs
/-- compared by a weight alone -/
def cmpK (key : Nat → Nat) (x y : Nat) : Int := if key x < key y then -1 else if key y < key x then 1 else 0
/-- less: by weight, alike ones by what they are -/
def R (key : Nat → Nat) (x y : Nat) : Prop := key x < key y ∨ (key x = key y ∧ x < y)
def rlt (key : Nat → Nat) (x y : Nat) : Bool := decide (key x < key y) || (decide (key x = key y) && decide (x < y))
theorem rlt_iff {key : Nat → Nat} {x y : Nat} : rlt key x y = true ↔ R key x y := by simp [rlt, R]
theorem lt_iff {key : Nat → Nat} {x y : Nat} : ltOf (cmpK key) x y = true ↔ key x < key y := by
  unfold ltOf cmpK
  rw [decide_eq_true_eq]
  split
  · simp; assumption
  · split <;> simp <;> omega
theorem cmp_lt {key : Nat → Nat} {x y : Nat} : cmpK key x y < 0 ↔ key x < key y := by
  have := @lt_iff key x y
  unfold ltOf at this
  rw [decide_eq_true_eq] at this
  exact this
theorem rlt_swo (key : Nat → Nat) : SWO (rlt key) := by
  refine ⟨fun x => ?_, fun x y z h1 h2 => ?_, fun x y z h1 h2 => ?_⟩
  · cases h : rlt key x x with
    | false => rfl
    | true => have := rlt_iff.1 h; unfold R at this; omega
  · have a := rlt_iff.1 h1; have b := rlt_iff.1 h2
    exact rlt_iff.2 (by unfold R at *; omega)
  · cases h : rlt key x z with
    | false => rfl
    | true =>
      have c := rlt_iff.1 h
      have a : ¬ R key x y := fun q => by rw [rlt_iff.2 q] at h1; cases h1
      have b : ¬ R key y z := fun q => by rw [rlt_iff.2 q] at h2; cases h2
      exfalso; unfold R at *; omega
/-- strictly in order on a ≤ i < b -/
def Srt (key : Nat → Nat) (d : Array Nat) (a b : Nat) : Prop := ∀ i j, a ≤ i → i < j → j < b → R key d[i]! d[j]!
/-- numbers that rise -/
def Asc (d : Array Nat) (a b : Nat) : Prop := ∀ i j, a ≤ i → i < j → j < b → d[i]! < d[j]!
/-- what stands ahead of m is less than what stands from m on -/
def Apt (d : Array Nat) (a m b : Nat) : Prop := ∀ i j, a ≤ i → i < m → m ≤ j → j < b → d[i]! < d[j]!
theorem perm_at {d d' : Array Nat} {a b i : Nat} (h : PermIn a b d d') (hb : b ≤ d.size) (h1 : a ≤ i) (h2 : i < b) : ∃ j, a ≤ j ∧ j < b ∧ d'[i]! = d[j]! := by
  have := permIn_all d d' a b (fun x => ∃ j, a ≤ j ∧ j < b ∧ x = d[j]!) hb h (fun i h1 h2 => ⟨i, h1, h2, rfl⟩) i h1 h2
  exact this
theorem perm_out {d d' : Array Nat} {a b i : Nat} (h : PermIn a b d d') (h1 : i < a ∨ b ≤ i) : d'[i]! = d[i]! := h.2.1 i h1
theorem ins_inner {key : Nat → Nat} {a : Nat} : ∀ (j : Nat) (d : Array Nat), j < d.size → (∀ t, a ≤ t → t < j → d[t]! < d[j]!) → insInner (ltOf (cmpK key)) a j d = insInner (rlt key) a j d
  | 0, d, _, _ => rfl
  | j + 1, d, hj, h => by
    by_cases haj : j + 1 > a
    · have e : ltOf (cmpK key) d[j + 1]! d[j]! = rlt key d[j + 1]! d[j]! := by
        have h1 := h j (by omega) (by omega)
        have : (ltOf (cmpK key) d[j + 1]! d[j]! = true) ↔ (rlt key d[j + 1]! d[j]! = true) := by
          rw [lt_iff, rlt_iff]; unfold R; omega
        exact Bool.eq_iff_iff.2 this
      unfold insInner
      rw [e]
      split
      · refine ins_inner j _ (by rw [size_swp]; omega) fun t h1 h2 => ?_
        rw [swp_get d hj (by omega), swp_get d hj (by omega)]
        have := h t h1 (by omega)
        rw [if_neg (by omega), if_neg (by omega), if_pos rfl]
        exact this
      · rfl
    · rw [insInner_stop _ _ _ _ (.inl (by omega)), insInner_stop _ _ _ _ (.inl (by omega))]
theorem inner_perm {key : Nat → Nat} {a b i : Nat} {d : Array Nat} (hib : i < b) (hai : a ≤ i) (hb : b ≤ d.size) (hs : SortedIn (rlt key) a i d) : PermIn a (i + 1) d (insInner (rlt key) a i d) ∧ SortedIn (rlt key) a (i + 1) (insInner (rlt key) a i d) := by
  exact insInner_spec (rlt_swo key) swp_permIn permIn_refl permIn_trans a (i + 1) i (Nat.lt_succ_self _) i d hai (Nat.le_refl _) (by omega) ⟨fun p q hap hpq hqi _ hq => hs p q hap hpq (by omega), fun q h1 h2 => by omega⟩
theorem ins_outer {key : Nat → Nat} {a b : Nat} : ∀ (n i : Nat) (d : Array Nat), b - i = n → a < i → i ≤ b → b ≤ d.size → SortedIn (rlt key) a i d → (∀ s t, a ≤ s → s < i → i ≤ t → t < b → d[s]! < d[t]!) → Asc d i b →
    insOuter (ltOf (cmpK key)) a b i d = insOuter (rlt key) a b i d
  | 0, i, d, hn, _, hib, _, _, _, _ => by
    rw [insOuter, if_neg (by omega), insOuter, if_neg (by omega)]
  | n + 1, i, d, hn, hai, hib, hb, hs, hx, ha => by
    have hlt : i < b := by omega
    rw [insOuter_go _ _ _ _ _ hlt, insOuter_go _ _ _ _ _ hlt, ins_inner i d (by omega) (fun t h1 h2 => hx t i h1 h2 (Nat.le_refl _) hlt)]
    obtain ⟨hp, hq⟩ := inner_perm hlt (by omega) hb hs
    refine ins_outer n (i + 1) _ (by omega) (by omega) (by omega) (by rw [hp.1]; exact hb) hq (fun s t h1 h2 h3 h4 => ?_) (fun s t h1 h2 h3 => ?_)
    · rw [perm_out hp (.inr h3)]
      obtain ⟨u, hu1, hu2, hu⟩ := perm_at hp (by omega) h1 h2
      rw [hu]
      rcases Nat.lt_or_ge u i with h | h
      · exact hx u t hu1 h (by omega) h4
      · exact ha u t (by omega) (by omega) h4
    · rw [perm_out hp (.inr h1), perm_out hp (.inr (by omega))]
      exact ha s t (by omega) h2 h3
theorem srt_of {key : Nat → Nat} {d : Array Nat} {a b : Nat} (hs : SortedIn (rlt key) a b d) (hi : ∀ i j, a ≤ i → i < j → j < b → d[i]! ≠ d[j]!) : Srt key d a b := fun i j h1 h2 h3 => by
  have h := hs i j h1 h2 h3
  have hne := hi i j h1 h2 h3
  have hn : ¬ R key d[j]! d[i]! := fun q => by rw [rlt_iff.2 q] at h; cases h
  unfold R at *; omega
theorem range_at (a b : Nat) (i : Nat) (h : i < b - a) : (List.range' a (b - a))[i]'(by simpa using h) = a + i := by simp
theorem perm_inj {d d' : Array Nat} {a b : Nat} (h : PermIn a b d d') (hb : b ≤ d.size) (hi : ∀ i j, a ≤ i → i < j → j < b → d[i]! ≠ d[j]!) : ∀ i j, a ≤ i → i < j → j < b → d'[i]! ≠ d'[j]! := by
  have h1 := h.2.2
  rw [extract_toList d a b hb, extract_toList d' a b (by rw [h.1]; exact hb)] at h1
  have nd : ((List.range' a (b - a)).map fun i => d[i]!).Nodup := by
    rw [List.Nodup, List.pairwise_iff_getElem]
    intro i j h1 h2 h3
    simp only [List.length_map, List.length_range'] at h1 h2
    rw [List.getElem_map, List.getElem_map, range_at a b i h1, range_at a b j h2]
    exact hi _ _ (by omega) (by omega) (by omega)
  have nd2 := (h1.nodup_iff).2 nd
  rw [List.Nodup, List.pairwise_iff_getElem] at nd2
  intro i j h1 h2 h3
  have := nd2 (i - a) (j - a) (by simp; omega) (by simp; omega) (by omega)
  rw [List.getElem_map, List.getElem_map, range_at a b _ (by omega), range_at a b _ (by omega), show a + (i - a) = i by omega, show a + (j - a) = j by omega] at this
  exact this
/-- the insertions keep the order of what is alike -/
theorem ins_all {key : Nat → Nat} {d : Array Nat} {a b : Nat} (hab : a ≤ b) (hb : b ≤ d.size) (ha : Asc d a b) : PermIn a b d (Sort.insertionSort (ltOf (cmpK key)) d a b) ∧ Srt key (Sort.insertionSort (ltOf (cmpK key)) d a b) a b := by
  have e : Sort.insertionSort (ltOf (cmpK key)) d a b = Sort.insertionSort (rlt key) d a b := by
    unfold Sort.insertionSort
    by_cases h : a < b
    · exact ins_outer (b - (a + 1)) (a + 1) d rfl (by omega) (by omega) hb (fun i j h1 h2 h3 => by omega) (fun s t h1 h2 h3 h4 => ha s t h1 (by omega) h4) (fun s t h1 h2 h3 => ha s t (by omega) h2 h3)
    · rw [insOuter, if_neg (by omega), insOuter, if_neg (by omega)]
  rw [e]
  have := insertionSort_holds (rlt_swo key) d a b hab hb
  exact ⟨this.1, srt_of this.2 (perm_inj this.1 hb fun i j h1 h2 h3 => by have := ha i j h1 h2 h3; omega)⟩
/-! ### ranges exchanged, and turned -/
theorem ext_nat {a b : Array Nat} (hs : a.size = b.size) (h : ∀ t, t < a.size → a[t]! = b[t]!) : a = b :=
  Array.ext hs fun t h1 h2 => by have := h t h1; rwa [getElem!_pos a t h1, getElem!_pos b t h2] at this
def mk (n : Nat) (f : Nat → Nat) : Array Nat := (Array.range n).map f
@[simp] theorem size_mk (n : Nat) (f : Nat → Nat) : (mk n f).size = n := by simp [mk]
theorem mk_at {n : Nat} {f : Nat → Nat} {i : Nat} (h : i < n) : (mk n f)[i]! = f i := by simp [mk, h]
theorem arr_out {d : Array Nat} {i : Nat} (h : d.size ≤ i) : d[i]! = 0 := by simp [h]
def swapR (d : Array Nat) (a b n : Nat) : Array Nat := mk d.size fun t => if a ≤ t ∧ t < a + n then d[t - a + b]! else if b ≤ t ∧ t < b + n then d[t - b + a]! else d[t]!
def Rot (d : Array Nat) (a m b : Nat) : Array Nat := mk d.size fun t => if a ≤ t ∧ t < a + (b - m) then d[t + (m - a)]! else if a + (b - m) ≤ t ∧ t < b then d[t - (b - m)]! else d[t]!
@[simp] theorem size_swapR (d : Array Nat) (a b n : Nat) : (swapR d a b n).size = d.size := by simp [swapR]
@[simp] theorem size_Rot (d : Array Nat) (a m b : Nat) : (Rot d a m b).size = d.size := by simp [Rot]
theorem swapR_at {d : Array Nat} {a b n t : Nat} (h : t < d.size) : (swapR d a b n)[t]! = if a ≤ t ∧ t < a + n then d[t - a + b]! else if b ≤ t ∧ t < b + n then d[t - b + a]! else d[t]! := mk_at h
theorem rot_at {d : Array Nat} {a m b t : Nat} (h : t < d.size) : (Rot d a m b)[t]! = if a ≤ t ∧ t < a + (b - m) then d[t + (m - a)]! else if a + (b - m) ≤ t ∧ t < b then d[t - (b - m)]! else d[t]! := mk_at h
theorem swapR_zero (d : Array Nat) (a b : Nat) : swapR d a b 0 = d := by
  refine ext_nat (by simp) fun t ht => ?_
  rw [size_swapR] at ht
  rw [swapR_at ht, if_neg (by omega), if_neg (by omega)]
theorem swapR_succ {d : Array Nat} {a b n : Nat} (h1 : a + n < b) (h2 : b + n < d.size) : swp (swapR d a b n) (a + n) (b + n) = swapR d a b (n + 1) := by
  refine ext_nat (by simp [size_swp]) fun t ht => ?_
  rw [size_swp, size_swapR] at ht
  rw [swp_get _ (by simp; omega) (by simp; omega), swapR_at ht, swapR_at (by omega), swapR_at (by omega), swapR_at ht]
  by_cases e1 : t = b + n
  · subst e1
    rw [if_pos rfl, if_neg (by omega), if_neg (by omega), if_neg (by omega), if_pos (by omega)]
    congr 1; omega
  · rw [if_neg e1]
    by_cases e2 : t = a + n
    · subst e2
      rw [if_pos rfl, if_neg (by omega), if_neg (by omega), if_pos (by omega)]
      congr 1; omega
    · rw [if_neg e2]
      by_cases c1 : a ≤ t ∧ t < a + n
      · rw [if_pos c1, if_pos (by omega)]
      · rw [if_neg c1, if_neg (show ¬ (a ≤ t ∧ t < a + (n + 1)) by omega)]
        by_cases c2 : b ≤ t ∧ t < b + n
        · rw [if_pos c2, if_pos (show b ≤ t ∧ t < b + (n + 1) by omega)]
        · rw [if_neg c2, if_neg (show ¬ (b ≤ t ∧ t < b + (n + 1)) by omega)]
theorem rot_id {d : Array Nat} {a m b : Nat} (h : a = m ∨ m = b) : Rot d a m b = d := by
  refine ext_nat (by simp) fun t ht => ?_
  rw [size_Rot] at ht
  rw [rot_at ht]
  split
  · congr 1; omega
  · split
    · congr 1; omega
    · rfl
theorem rot_gt {d : Array Nat} {m i j : Nat} (h1 : j < i) (h2 : i ≤ m) (h3 : m + j ≤ d.size) : Rot (swapR d (m - i) m j) (m - (i - j)) m (m + j) = Rot d (m - i) m (m + j) := by
  refine ext_nat (by simp) fun t ht => ?_
  rw [size_Rot, size_swapR] at ht
  rw [rot_at (by simpa using ht), rot_at ht, show m + j - m = j by omega]
  by_cases c1 : m - i ≤ t ∧ t < m - i + j
  · rw [if_pos c1, if_neg (by omega), if_neg (by omega), swapR_at ht, if_pos c1]
    congr 1; omega
  · rw [if_neg c1]
    by_cases c2 : m - i + j ≤ t ∧ t < m + j
    · rw [if_pos c2]
      by_cases c3 : t < m - (i - j) + j
      · rw [if_pos (by omega), swapR_at (by omega), if_neg (by omega), if_pos (by omega)]
        congr 1; omega
      · rw [if_neg (by omega), if_pos (by omega), swapR_at (by omega), if_neg (by omega), if_neg (by omega)]
    · rw [if_neg c2, if_neg (by omega), if_neg (by omega), swapR_at ht, if_neg c1, if_neg (by omega)]
theorem rot_lt {d : Array Nat} {m i j : Nat} (h1 : i < j) (h2 : i ≤ m) (h3 : m + j ≤ d.size) : Rot (swapR d (m - i) (m + j - i) i) (m - i) m (m + (j - i)) = Rot d (m - i) m (m + j) := by
  refine ext_nat (by simp) fun t ht => ?_
  rw [size_Rot, size_swapR] at ht
  rw [rot_at (by simpa using ht), rot_at ht, show m + j - m = j by omega, show m + (j - i) - m = j - i by omega]
  by_cases c1 : m - i ≤ t ∧ t < m - i + j
  · rw [if_pos c1]
    by_cases c2 : t < m - i + (j - i)
    · rw [if_pos (by omega), swapR_at (by omega), if_neg (by omega), if_neg (by omega)]
    · rw [if_neg (by omega), if_pos (by omega), swapR_at (by omega), if_pos (by omega)]
      congr 1; omega
  · rw [if_neg c1]
    by_cases c2 : m - i + j ≤ t ∧ t < m + j
    · rw [if_pos c2, if_neg (by omega), if_neg (by omega), swapR_at ht, if_neg (by omega), if_pos (by omega)]
      congr 1; omega
    · rw [if_neg c2, if_neg (by omega), if_neg (by omega), swapR_at ht, if_neg (by omega), if_neg (by omega)]
theorem rot_eq {d : Array Nat} {m i : Nat} (h2 : i ≤ m) : swapR d (m - i) m i = Rot d (m - i) m (m + i) := by
  refine ext_nat (by simp) fun t ht => ?_
  rw [size_swapR] at ht
  rw [swapR_at ht, rot_at ht, show m + i - m = i by omega]
  by_cases c1 : m - i ≤ t ∧ t < m - i + i
  · rw [if_pos c1, if_pos c1]; congr 1; omega
  · rw [if_neg c1, if_neg c1]
    by_cases c2 : m ≤ t ∧ t < m + i
    · rw [if_pos c2, if_pos (by omega)]; congr 1; omega
    · rw [if_neg c2, if_neg (by omega)]
theorem rot_up {d : Array Nat} {a k : Nat} (h : a ≤ k) (h2 : k + 1 < d.size) : swp (Rot d a (a + 1) (k + 1)) k (k + 1) = Rot d a (a + 1) (k + 2) := by
  refine ext_nat (by simp [size_swp]) fun t ht => ?_
  rw [size_swp, size_Rot] at ht
  rw [swp_get _ (by simp; omega) (by simp; omega), rot_at ht, rot_at (by omega), rot_at (by omega), rot_at ht]
  by_cases e1 : t = k + 1
  · subst e1
    rw [if_pos rfl, if_neg (by omega), if_pos (by omega), if_neg (by omega), if_pos (by omega)]
    congr 1; omega
  · rw [if_neg e1]
    by_cases e2 : t = k
    · subst e2
      rw [if_pos rfl, if_neg (by omega), if_neg (by omega), if_pos (by omega)]
      congr 1; omega
    · rw [if_neg e2]
      by_cases c : a ≤ t ∧ t < k
      · rw [if_pos (by omega), if_pos (by omega)]
      · rw [if_neg (by omega), if_neg (by omega), if_neg (by omega), if_neg (by omega)]
theorem rot_down {d : Array Nat} {k m : Nat} (h0 : 1 ≤ k) (h : k ≤ m) (h2 : m < d.size) : swp (Rot d k m (m + 1)) k (k - 1) = Rot d (k - 1) m (m + 1) := by
  refine ext_nat (by simp [size_swp]) fun t ht => ?_
  rw [size_swp, size_Rot] at ht
  rw [swp_get _ (by simp; omega) (by simp; omega), rot_at ht, rot_at (by omega), rot_at (by omega), rot_at ht]
  by_cases e1 : t = k - 1
  · subst e1
    rw [if_pos rfl, if_pos (by omega), if_pos (by omega)]
    congr 1; omega
  · rw [if_neg e1]
    by_cases e2 : t = k
    · subst e2
      rw [if_pos rfl, if_neg (by omega), if_neg (by omega), if_neg (by omega), if_pos (by omega)]
      congr 1; omega
    · rw [if_neg e2, if_neg (show ¬ (k ≤ t ∧ t < k + (m + 1 - m)) by omega), if_neg (show ¬ (k - 1 ≤ t ∧ t < k - 1 + (m + 1 - m)) by omega)]
      by_cases c : k + (m + 1 - m) ≤ t ∧ t < m + 1
      · rw [if_pos c, if_pos (show k - 1 + (m + 1 - m) ≤ t ∧ t < m + 1 by omega)]
      · rw [if_neg c, if_neg (show ¬ (k - 1 + (m + 1 - m) ≤ t ∧ t < m + 1) by omega)]
theorem rot_perm {d : Array Nat} {a m b : Nat} (h1 : a ≤ m) (h2 : m ≤ b) (h3 : b ≤ d.size) : PermIn a b d (Rot d a m b) := by
  refine ⟨by simp, fun i hi => ?_, ?_⟩
  · by_cases h : i < d.size
    · rw [rot_at h, if_neg (by omega), if_neg (by omega)]
    · rw [arr_out (by simp; omega), arr_out (by omega)]
  · rw [extract_toList d a b h3, extract_toList _ a b (by simpa using h3)]
    have e : (List.range' a (b - a)).map (fun i => (Rot d a m b)[i]!) = ((List.range' a (b - a)).map (fun i => d[i]!)).drop (m - a) ++ ((List.range' a (b - a)).map (fun i => d[i]!)).take (m - a) := by
      apply List.ext_getElem
      · simp; omega
      · intro i g1 g2
        simp only [List.length_map, List.length_range'] at g1
        rw [List.getElem_map, range_at a b i g1, rot_at (by omega)]
        by_cases c : i < b - m
        · rw [if_pos (by omega), List.getElem_append_left (by simp; omega), List.getElem_drop, List.getElem_map, range_at a b _ (by omega)]
          congr 1; omega
        · rw [if_neg (by omega), if_pos (by omega), List.getElem_append_right (by simp; omega), List.getElem_take, List.getElem_map, range_at a b _ (by simp; omega)]
          congr 1; simp; omega
    rw [e]
    exact List.perm_append_comm.trans (by rw [List.take_append_drop])
/-! ### two parts in order as one -/
theorem R.trans {key : Nat → Nat} {x y z : Nat} (h1 : R key x y) (h2 : R key y z) : R key x z := by unfold R at *; omega
theorem R.le {key : Nat → Nat} {x y : Nat} (h : R key x y) : key x ≤ key y := by unfold R at h; omega
theorem R.mk {key : Nat → Nat} {x y : Nat} (h : key x ≤ key y) (h2 : x < y) : R key x y := by unfold R; omega
theorem R.mk2 {key : Nat → Nat} {x y : Nat} (h : key x < key y) : R key x y := .inl h
/-- what is asked of two parts -/
structure Two (key : Nat → Nat) (d : Array Nat) (a m b : Nat) : Prop where
  left : Srt key d a m
  right : Srt key d m b
  apt : Apt d a m b
theorem Srt.le {key : Nat → Nat} {d : Array Nat} {a b i j : Nat} (h : Srt key d a b) (h1 : a ≤ i) (h2 : i ≤ j) (h3 : j < b) : key d[i]! ≤ key d[j]! := by
  by_cases e : i = j
  · subst e; exact Nat.le_refl _
  · exact (h i j h1 (by omega) h3).le
/-- one leaf ahead -/
theorem one_left {key : Nat → Nat} {d : Array Nat} {a b i : Nat} (T : Two key d a (a + 1) b) (hb : b ≤ d.size) (h1 : a + 1 ≤ i) (h2 : i ≤ b) (hl : ∀ t, a + 1 ≤ t → t < i → key d[t]! < key d[a]!) (hr : ∀ t, i ≤ t → t < b → ¬ key d[t]! < key d[a]!) : Srt key (Rot d a (a + 1) i) a b := by
  intro s t g1 g2 g3
  rw [rot_at (by omega), rot_at (by omega)]
  by_cases c1 : t < i - 1
  · rw [if_pos (by omega), if_pos (by omega)]
    exact T.right _ _ (by omega) (by omega) (by omega)
  · by_cases c2 : t = i - 1
    · rw [if_pos (by omega), if_neg (by omega), if_pos (by omega), show t - (i - (a + 1)) = a by omega, show s + (a + 1 - a) = s + 1 by omega]
      exact R.mk2 (hl _ (by omega) (by omega))
    · rw [if_neg (show ¬ (a ≤ t ∧ t < a + (i - (a + 1))) by omega), if_neg (show ¬ (a + (i - (a + 1)) ≤ t ∧ t < i) by omega)]
      have hk : key d[a]! ≤ key d[t]! := by have := hr t (by omega) g3; omega
      by_cases c3 : s < i - 1
      · rw [if_pos (by omega)]
        exact R.trans (R.mk2 (hl (s + (a + 1 - a)) (by omega) (by omega))) (R.mk hk (T.apt a t (Nat.le_refl _) (by omega) (by omega) g3))
      · rw [if_neg (by omega)]
        by_cases c4 : s = i - 1
        · rw [if_pos (by omega), show s - (i - (a + 1)) = a by omega]
          exact R.mk hk (T.apt a t (Nat.le_refl _) (by omega) (by omega) g3)
        · rw [if_neg (by omega)]
          exact T.right s t (by omega) g2 g3
/-- one leaf behind -/
theorem one_right {key : Nat → Nat} {d : Array Nat} {a m i : Nat} (T : Two key d a m (m + 1)) (hb : m + 1 ≤ d.size) (h1 : a ≤ i) (h2 : i ≤ m) (hl : ∀ t, a ≤ t → t < i → ¬ key d[m]! < key d[t]!) (hr : ∀ t, i ≤ t → t < m → key d[m]! < key d[t]!) : Srt key (Rot d i m (m + 1)) a (m + 1) := by
  intro s t g1 g2 g3
  rw [rot_at (by omega), rot_at (by omega)]
  by_cases c1 : t < i
  · rw [if_neg (by omega), if_neg (by omega), if_neg (by omega), if_neg (by omega)]
    exact T.left s t g1 g2 (by omega)
  · by_cases c2 : t = i
    · rw [if_neg (by omega), if_neg (by omega), if_pos (by omega), show t + (m - i) = m by omega]
      exact R.mk (by have := hl s g1 (by omega); omega) (T.apt s m g1 (by omega) (Nat.le_refl _) (by omega))
    · rw [if_neg (show ¬ (i ≤ t ∧ t < i + (m + 1 - m)) by omega), if_pos (show i + (m + 1 - m) ≤ t ∧ t < m + 1 by omega), show t - (m + 1 - m) = t - 1 by omega]
      by_cases c3 : s < i
      · rw [if_neg (by omega), if_neg (by omega)]
        exact T.left s (t - 1) g1 (by omega) (by omega)
      · by_cases c4 : s = i
        · rw [if_pos (by omega), show s + (m - i) = m by omega]
          exact R.mk2 (hr (t - 1) (by omega) (by omega))
        · rw [if_neg (by omega), if_pos (by omega)]
          exact T.left _ _ (by omega) (by omega) (by omega)
/-- what the search tells: as many of the left part stay as are told, and as many come from the right one -/
structure Found (key : Nat → Nat) (d : Array Nat) (a m b s e mid : Nat) : Prop where
  h1 : a ≤ s
  h2 : s ≤ m
  h3 : m ≤ e
  h4 : e ≤ b
  h5 : s + e = mid + m
  h6 : 2 * mid ≤ a + b
  h7 : a + b < 2 * mid + 2
  stay : ∀ i j, a ≤ i → i < s → e ≤ j → j < b → key d[i]! ≤ key d[j]!
  come : ∀ i j, s ≤ i → i < m → m ≤ j → j < e → key d[j]! < key d[i]!
theorem Found.mid {key : Nat → Nat} {d : Array Nat} {a m b s e mid : Nat} (h : Found key d a m b s e mid) (ha : a < m) (hb : m < b) : a < mid ∧ mid < b ∧ s ≤ mid ∧ mid ≤ e := by
  obtain ⟨h1, h2, h3, h4, h5, h6, h7, _, _⟩ := h
  omega
section
variable {key : Nat → Nat} {d : Array Nat} {a m b s e mid : Nat}
theorem Found.at1 (h : Found key d a m b s e mid) (hb : b ≤ d.size) {t : Nat} (ht : t < b) : (Rot d s m e)[t]! = if s ≤ t ∧ t < mid then d[t + (m - s)]! else if mid ≤ t ∧ t < e then d[t - (e - m)]! else d[t]! := by
  have := h.h1; have := h.h2; have := h.h3; have := h.h4; have := h.h5
  rw [rot_at (by omega), show s + (e - m) = mid by omega]
theorem Found.two1 (h : Found key d a m b s e mid) (T : Two key d a m b) (hb : b ≤ d.size) : Two key (Rot d s m e) a s mid := by
  have := h.h1; have := h.h2; have := h.h3; have := h.h4; have := h.h5
  refine ⟨fun i j g1 g2 g3 => ?_, fun i j g1 g2 g3 => ?_, fun i j g1 g2 g3 g4 => ?_⟩
  · rw [h.at1 hb (by omega), h.at1 hb (by omega), if_neg (by omega), if_neg (by omega), if_neg (by omega), if_neg (by omega)]
    exact T.left i j g1 g2 (by omega)
  · rw [h.at1 hb (by omega), h.at1 hb (by omega), if_pos (by omega), if_pos (by omega)]
    exact T.right _ _ (by omega) (by omega) (by omega)
  · rw [h.at1 hb (by omega), h.at1 hb (by omega), if_neg (by omega), if_neg (by omega), if_pos (by omega)]
    exact T.apt _ _ g1 (by omega) (by omega) (by omega)
theorem Found.two2 (h : Found key d a m b s e mid) (T : Two key d a m b) (hb : b ≤ d.size) : Two key (Rot d s m e) mid e b := by
  have := h.h1; have := h.h2; have := h.h3; have := h.h4; have := h.h5
  refine ⟨fun i j g1 g2 g3 => ?_, fun i j g1 g2 g3 => ?_, fun i j g1 g2 g3 g4 => ?_⟩
  · rw [h.at1 hb (by omega), h.at1 hb (by omega), if_neg (by omega), if_pos (by omega), if_neg (by omega), if_pos (by omega)]
    exact T.left _ _ (by omega) (by omega) (by omega)
  · rw [h.at1 hb (by omega), h.at1 hb (by omega), if_neg (by omega), if_neg (by omega), if_neg (by omega), if_neg (by omega)]
    exact T.right _ _ (by omega) (by omega) (by omega)
  · rw [h.at1 hb (by omega), h.at1 hb (by omega), if_neg (by omega), if_pos (by omega), if_neg (by omega), if_neg (by omega)]
    exact T.apt _ _ (by omega) (by omega) (by omega) (by omega)
theorem Found.cross (h : Found key d a m b s e mid) (T : Two key d a m b) (hb : b ≤ d.size) {i j : Nat} (g1 : a ≤ i) (g2 : i < mid) (g3 : mid ≤ j) (g4 : j < b) : R key (Rot d s m e)[i]! (Rot d s m e)[j]! := by
  have := h.h1; have := h.h2; have := h.h3; have := h.h4; have := h.h5
  rw [h.at1 hb (by omega), h.at1 hb (by omega), if_neg (show ¬ (s ≤ j ∧ j < mid) by omega)]
  by_cases c1 : i < s
  · rw [if_neg (by omega), if_neg (by omega)]
    by_cases c2 : j < e
    · rw [if_pos (by omega)]
      exact T.left _ _ g1 (by omega) (by omega)
    · rw [if_neg (by omega)]
      exact R.mk (h.stay i j g1 c1 (by omega) g4) (T.apt i j g1 (by omega) (by omega) g4)
  · rw [if_pos (by omega)]
    by_cases c2 : j < e
    · rw [if_pos (by omega)]
      exact R.mk2 (h.come _ _ (by omega) (by omega) (by omega) (by omega))
    · rw [if_neg (by omega)]
      exact T.right _ _ (by omega) (by omega) (by omega)
theorem Found.perm (h : Found key d a m b s e mid) (hb : b ≤ d.size) : PermIn a b d (Rot d s m e) := by
  have := h.h1; have := h.h2; have := h.h3; have := h.h4
  exact permIn_mono d _ s e a b (by omega) (by omega) hb (rot_perm (by omega) (by omega) (by omega))
end
theorem PermIn.size {d d' : Array Nat} {a b : Nat} (h : PermIn a b d d') : d'.size = d.size := h.1
/-- nothing is to be done: one of the parts is none -/
theorem Two.none {key : Nat → Nat} {d : Array Nat} {a m b : Nat} (T : Two key d a m b) (h : ¬ (a < m ∧ m < b)) : Srt key d a b := fun i j g1 g2 g3 => by
  by_cases c : j < m
  · exact T.left i j g1 g2 c
  · by_cases c2 : m ≤ i
    · exact T.right i j c2 g2 g3
    · omega
theorem Two.keep {key : Nat → Nat} {d d' : Array Nat} {a m b x y : Nat} (T : Two key d a m b) (hm : m ≤ b) (ha : a ≤ m) (h : PermIn x y d d') (hx : y ≤ a ∨ b ≤ x) : Two key d' a m b := by
  refine ⟨fun i j g1 g2 g3 => ?_, fun i j g1 g2 g3 => ?_, fun i j g1 g2 g3 g4 => ?_⟩
  · rw [perm_out h (by omega), perm_out h (by omega)]; exact T.left i j g1 g2 g3
  · rw [perm_out h (by omega), perm_out h (by omega)]; exact T.right i j g1 g2 g3
  · rw [perm_out h (by omega), perm_out h (by omega)]; exact T.apt i j g1 g2 g3 g4
theorem join {key : Nat → Nat} {d d2 d3 : Array Nat} {a mid b : Nat} (ha : a ≤ mid) (hm : mid ≤ b) (hb : b ≤ d.size) (p1 : PermIn a mid d d2) (s1 : Srt key d2 a mid) (p2 : PermIn mid b d2 d3) (s2 : Srt key d3 mid b)
    (hc : ∀ i j, a ≤ i → i < mid → mid ≤ j → j < b → R key d[i]! d[j]!) : PermIn a b d d3 ∧ Srt key d3 a b := by
  refine ⟨permIn_trans _ _ _ a b (permIn_mono _ _ a mid a b (Nat.le_refl _) hm hb p1) (permIn_mono _ _ mid b a b ha (Nat.le_refl _) (by rw [p1.1]; exact hb) p2), fun i j g1 g2 g3 => ?_⟩
  by_cases c : j < mid
  · rw [perm_out p2 (by omega), perm_out p2 (by omega)]; exact s1 i j g1 g2 c
  · by_cases c2 : mid ≤ i
    · exact s2 i j c2 g2 g3
    · rw [perm_out p2 (i := i) (by omega)]
      obtain ⟨i', q1, q2, e1⟩ := perm_at p1 (by omega) g1 (show i < mid by omega)
      obtain ⟨j', q3, q4, e2⟩ := perm_at p2 (by rw [p1.1]; omega) (show mid ≤ j by omega) g3
      rw [e1, e2, perm_out p1 (i := j') (by omega)]
      exact hc i' j' q1 q2 q3 q4
/-! ### blocks -/
structure Seg (key : Nat → Nat) (d : Array Nat) (n : Nat) (cut : Nat → Prop) : Prop where
  srt : ∀ i j, i < j → j < n → (∀ c, i < c → c ≤ j → ¬ cut c) → R key d[i]! d[j]!
  asc : ∀ i j c, i < c → c ≤ j → j < n → cut c → d[i]! < d[j]!
theorem Seg.step {key : Nat → Nat} {d d' : Array Nat} {n a b : Nat} {cut : Nat → Prop} (h : Seg key d n cut) (ha : cut a) (hb : b = n ∨ cut b) (hbn : b ≤ n) (hn : n ≤ d.size) (hp : PermIn a b d d') (hs : Srt key d' a b) : Seg key d' n (fun c => cut c ∧ (c ≤ a ∨ b ≤ c)) := by
  refine ⟨fun i j g1 g2 g3 => ?_, fun i j c g1 g2 g3 g4 => ?_⟩
  · by_cases c1 : i < a
    · by_cases c2 : j < a
      · rw [perm_out hp (by omega), perm_out hp (by omega)]
        exact h.srt i j g1 g2 fun c q1 q2 q3 => g3 c q1 q2 ⟨q3, .inl (by omega)⟩
      · exact absurd ⟨ha, .inl (Nat.le_refl _)⟩ (g3 a c1 (by omega))
    · by_cases c2 : b ≤ i
      · rw [perm_out hp (by omega), perm_out hp (by omega)]
        exact h.srt i j g1 g2 fun c q1 q2 q3 => g3 c q1 q2 ⟨q3, .inr (by omega)⟩
      · by_cases c3 : j < b
        · exact hs i j (by omega) g1 c3
        · rcases hb with hb | hb
          · omega
          · exact absurd ⟨hb, .inr (Nat.le_refl _)⟩ (g3 b (by omega) (by omega))
  · obtain ⟨k1, k2⟩ := g4
    rcases k2 with k2 | k2
    · rw [perm_out hp (i := i) (by omega)]
      by_cases c1 : a ≤ j ∧ j < b
      · obtain ⟨j', q1, q2, e⟩ := perm_at hp (by omega) c1.1 c1.2
        rw [e]
        exact h.asc i j' c g1 (by omega) (by omega) k1
      · rw [perm_out hp (by omega)]
        exact h.asc i j c g1 g2 g3 k1
    · rw [perm_out hp (i := j) (by omega)]
      by_cases c1 : a ≤ i ∧ i < b
      · obtain ⟨i', q1, q2, e⟩ := perm_at hp (by omega) c1.1 c1.2
        rw [e]
        exact h.asc i' j c (by omega) g2 g3 k1
      · rw [perm_out hp (by omega)]
        exact h.asc i j c g1 g2 g3 k1
theorem Seg.congr {key : Nat → Nat} {d : Array Nat} {n : Nat} {c1 c2 : Nat → Prop} (h : Seg key d n c1) (he : ∀ c, 0 < c → c < n → (c1 c ↔ c2 c)) : Seg key d n c2 :=
  ⟨fun i j g1 g2 g3 => h.srt i j g1 g2 fun c q1 q2 q3 => g3 c q1 q2 ((he c (by omega) (by omega)).1 q3), fun i j c g1 g2 g3 g4 => h.asc i j c g1 g2 g3 ((he c (by omega) (by omega)).2 g4)⟩
/-- blocks of `big` up to a, blocks of `bs` behind -/
def cuts (bs big a c : Nat) : Prop := if c ≤ a then big ∣ c else bs ∣ c
theorem no_mult {bs q c : Nat} (h1 : bs * q < c) (h2 : c < bs * q + bs) : ¬ bs ∣ c := fun ⟨t, e⟩ => by
  subst e
  have h1' := Nat.lt_of_mul_lt_mul_left h1
  have h3 : bs * t < bs * (q + 1) := by rw [Nat.mul_add, Nat.mul_one]; exact h2
  have := Nat.lt_of_mul_lt_mul_left h3
  omega
theorem no_mult' {bs a c : Nat} (ha : bs ∣ a) (h1 : a < c) (h2 : c < a + bs) : ¬ bs ∣ c := by
  obtain ⟨q, rfl⟩ := ha
  exact no_mult h1 h2
theorem seg_start {key : Nat → Nat} {d : Array Nat} {n : Nat} (h : Asc d 0 n) (big : Nat) : Seg key d n (cuts 1 big 0) :=
  ⟨fun i j g1 g2 g3 => absurd (by unfold cuts; rw [if_neg (by omega)]; exact Nat.one_dvd _) (g3 j g1 (Nat.le_refl _)), fun i j _ g1 g2 g3 _ => h i j (Nat.zero_le _) (by omega) g3⟩
theorem cut_at {bs big a c : Nat} (ha : big ∣ a) (hc : bs ∣ c) (h : a ≤ c) : cuts bs big a c := by
  unfold cuts
  split
  · rw [show c = a by omega]; exact ha
  · exact hc
/-- a block more -/
theorem seg_next {key : Nat → Nat} {d d' : Array Nat} {n a bs big : Nat} (hS : Seg key d n (cuts bs big a)) (hbs : bs ∣ big) (ha : big ∣ a) (hb : a + big ≤ n) (hn : n ≤ d.size) (hp : PermIn a (a + big) d d') (hs : Srt key d' a (a + big)) : Seg key d' n (cuts bs big (a + big)) := by
  have hba : bs ∣ a := Nat.dvd_trans hbs ha
  have h2 : big ∣ a + big := (Nat.dvd_add_iff_left (Nat.dvd_refl big)).1 ha
  refine (hS.step (cut_at ha hba (Nat.le_refl _)) (.inr (cut_at ha (Nat.dvd_trans hbs h2) (by omega))) hb hn hp hs).congr fun c _ _ => ?_
  unfold cuts
  by_cases c1 : c ≤ a
  · rw [if_pos c1, if_pos (by omega)]; exact ⟨fun h => h.1, fun h => ⟨h, .inl c1⟩⟩
  · rw [if_neg c1]
    by_cases c2 : c ≤ a + big
    · rw [if_pos c2]
      constructor
      · rintro ⟨h, h' | h'⟩
        · omega
        · rw [show c = a + big by omega]; exact h2
      · intro h
        by_cases c3 : c = a + big
        · subst c3; exact ⟨Nat.dvd_trans hbs h, .inr (Nat.le_refl _)⟩
        · exact absurd h (no_mult' ha (by omega) (by omega))
    · rw [if_neg c2]; exact ⟨fun h => h.1, fun h => ⟨h, .inr (by omega)⟩⟩
/-- the last block -/
theorem seg_last {key : Nat → Nat} {d d' : Array Nat} {n a bs big : Nat} (hS : Seg key d n (cuts bs big a)) (hbs : bs ∣ big) (ha : big ∣ a) (hb : n < a + big) (hn : n ≤ d.size) (hp : PermIn a n d d') (hs : Srt key d' a n) (big2 : Nat) : Seg key d' n (cuts big big2 0) := by
  have hba : bs ∣ a := Nat.dvd_trans hbs ha
  refine (hS.step (cut_at ha hba (Nat.le_refl _)) (.inl rfl) (Nat.le_refl _) hn hp hs).congr fun c h0 h1 => ?_
  unfold cuts
  rw [if_neg (show ¬ c ≤ 0 by omega)]
  by_cases c1 : c ≤ a
  · rw [if_pos c1]; exact ⟨fun h => h.1, fun h => ⟨h, .inl c1⟩⟩
  · rw [if_neg c1]
    constructor
    · rintro ⟨_, h | h⟩ <;> omega
    · intro h; exact absurd h (no_mult' ha (by omega) (by omega))
/-- two blocks side by side -/
theorem seg_two {key : Nat → Nat} {d : Array Nat} {n a bs b : Nat} (hS : Seg key d n (cuts bs (2 * bs) a)) (ha : 2 * bs ∣ a) (hb : b ≤ n) (h1 : a + bs ≤ b) (h2 : b ≤ a + bs + bs) (h0 : 0 < bs) : Two key d a (a + bs) b := by
  have hba : bs ∣ a := Nat.dvd_trans ⟨2, Nat.mul_comm _ _⟩ ha
  have hbb : bs ∣ a + bs := (Nat.dvd_add_iff_left (Nat.dvd_refl bs)).1 hba
  refine ⟨fun i j g1 g2 g3 => ?_, fun i j g1 g2 g3 => ?_, fun i j g1 g2 g3 g4 => ?_⟩
  · refine hS.srt i j g2 (by omega) fun c q1 q2 q3 => ?_
    unfold cuts at q3
    rw [if_neg (by omega)] at q3
    exact no_mult' hba (by omega) (by omega) q3
  · refine hS.srt i j g2 (by omega) fun c q1 q2 q3 => ?_
    unfold cuts at q3
    rw [if_neg (by omega)] at q3
    exact no_mult' hbb (by omega) (by omega) q3
  · refine hS.asc i j (a + bs) (by omega) g3 (by omega) ?_
    unfold cuts
    rw [if_neg (by omega)]; exact hbb
/-- one block alone at the end -/
theorem seg_rest {key : Nat → Nat} {d : Array Nat} {n a bs : Nat} (hS : Seg key d n (cuts bs (2 * bs) a)) (ha : 2 * bs ∣ a) (h1 : n ≤ a + bs) : Srt key d a n := by
  have hba : bs ∣ a := Nat.dvd_trans ⟨2, Nat.mul_comm _ _⟩ ha
  intro i j g1 g2 g3
  refine hS.srt i j g2 (by omega) fun c q1 q2 q3 => ?_
  unfold cuts at q3
  rw [if_neg (by omega)] at q3
  exact no_mult' hba (by omega) (by omega) q3
theorem seg_end {key : Nat → Nat} {d : Array Nat} {n bs big : Nat} (hS : Seg key d n (cuts bs big 0)) (h : n ≤ bs) : Srt key d 0 n := fun i j _ g2 g3 => by
  refine hS.srt i j g2 g3 fun c q1 q2 q3 => ?_
  unfold cuts at q3
  rw [if_neg (by omega)] at q3
  exact no_mult' (bs := bs) (Nat.dvd_zero _) (by omega) (by omega) q3
/-- blocks of 20 are put in order one by one: within the block the numbers rise yet -/
theorem seg_asc {key : Nat → Nat} {d : Array Nat} {n a big b : Nat} (hS : Seg key d n (cuts 1 big a)) (hb : b ≤ n) : Asc d a b := fun i j g1 g2 g3 => by
  refine hS.asc i j j g2 (Nat.le_refl _) (by omega) ?_
  unfold cuts
  rw [if_neg (by omega)]; exact Nat.one_dvd _
/-! ### the search -/
/-- where the search begins and ends -/
def Rng (a m b mid s0 r0 : Nat) : Prop := (s0 = a ∧ r0 = m ∧ m ≤ mid) ∨ (s0 + b = mid + m ∧ r0 = mid ∧ mid < m)
section
variable {key : Nat → Nat} {d : Array Nat} {a m b mid s0 r0 : Nat}
theorem probe_lo (T : Two key d a m b) (ha : a < m) (hb : m < b) (h6 : 2 * mid ≤ a + b) (h7 : a + b < 2 * mid + 2) (hR : Rng a m b mid s0 r0) {c h : Nat} (hc : s0 ≤ c) (hh : c ≤ h) (hr : h < r0) (hv : ¬ key d[mid + m - 1 - h]! < key d[h]!) : ¬ key d[mid + m - 1 - c]! < key d[c]! := by
  have h1 : a ≤ c ∧ h < m ∧ m ≤ mid + m - 1 - h ∧ mid + m - 1 - c < b := by unfold Rng at hR; omega
  have := T.left.le h1.1 hh h1.2.1
  have := T.right.le (i := mid + m - 1 - h) (j := mid + m - 1 - c) h1.2.2.1 (by omega) h1.2.2.2
  omega
theorem probe_hi (T : Two key d a m b) (ha : a < m) (hb : m < b) (h6 : 2 * mid ≤ a + b) (h7 : a + b < 2 * mid + 2) (hR : Rng a m b mid s0 r0) {c h : Nat} (hc : s0 ≤ h) (hh : h ≤ c) (hr : c < r0) (hv : key d[mid + m - 1 - h]! < key d[h]!) : key d[mid + m - 1 - c]! < key d[c]! := by
  have h1 : a ≤ h ∧ c < m ∧ m ≤ mid + m - 1 - c ∧ mid + m - 1 - h < b := by unfold Rng at hR; omega
  have := T.left.le h1.1 hh h1.2.1
  have := T.right.le (i := mid + m - 1 - c) (j := mid + m - 1 - h) h1.2.2.1 (by omega) h1.2.2.2
  omega
theorem found_of (T : Two key d a m b) (ha : a < m) (hb : m < b) (h6 : 2 * mid ≤ a + b) (h7 : a + b < 2 * mid + 2) (hR : Rng a m b mid s0 r0) {s : Nat} (h1 : s0 ≤ s) (h2 : s ≤ r0)
    (hl : ∀ c, s0 ≤ c → c < s → ¬ key d[mid + m - 1 - c]! < key d[c]!) (hr : ∀ c, s ≤ c → c < r0 → key d[mid + m - 1 - c]! < key d[c]!) : Found key d a m b s (mid + m - s) mid := by
  have q : a ≤ s ∧ s ≤ m ∧ m ≤ mid + m - s ∧ mid + m - s ≤ b ∧ s + (mid + m - s) = mid + m := by unfold Rng at hR; omega
  refine ⟨q.1, q.2.1, q.2.2.1, q.2.2.2.1, q.2.2.2.2, h6, h7, fun i j g1 g2 g3 g4 => ?_, fun i j g1 g2 g3 g4 => ?_⟩
  · have e : s0 < s := by unfold Rng at hR; omega
    have := hl (s - 1) (by omega) (by omega)
    rw [show mid + m - 1 - (s - 1) = mid + m - s by omega] at this
    have := T.left.le g1 (show i ≤ s - 1 by omega) (by omega)
    have := T.right.le (i := mid + m - s) (j := j) q.2.2.1 g3 g4
    omega
  · have e : s < r0 := by unfold Rng at hR; omega
    have := hr s (Nat.le_refl _) e
    rw [show mid + m - 1 - s = mid + m - s - 1 by omega] at this
    have := T.left.le q.1 g1 g2
    have := T.right.le (i := j) (j := mid + m - s - 1) g3 (by omega) (by omega)
    omega
end
end Go.Proofs.Ytjnehpkkkmicfaa.St
namespace Go.Proofs.Ytjnehpkkkmicfaa.St
open Go.Shelf Go.RowKit Go.Lib Go.Sort Go.Proofs

set_option maxHeartbeats 16000000 in
set_option maxRecDepth 1000000 in
theorem swapRange_I (enc : Nat → Value) (g : Nat) (cb : Array Value) (blk off cap sz : Nat) (d0 d : Array Nat) (w0 w : World) (R : Row1 enc w0 blk off d0) (hs0 : d0.size = sz) (hs : d.size = sz) (hsz : sz < 1000000000) (S : SW enc w0 blk off d w) (a b n : Nat) (hab : a + n ≤ b) (hb : b + n ≤ sz) :
    Calls Try.prog 101 #[.slice (some ⟨blk, off, none⟩) sz cap, .int .i64 a, .int .i64 b, .int .i64 n, .func (.func g) #[] cb] w fun e w' => e = .returned (.tuple #[]) ∧ SW enc w0 blk off (swapR d a b n) w' := by
  have mixed : Try.prog.follows Departure.mixedOrders = true := by kernel_rfl
  have hcl0 := R.hO.cells
  simp only [Value.cells] at hcl0
  have hst := R.hO.store Try.prog
  have S0 : Aside (SW enc w0 blk off d w) := S
  clear S
  have HS := Lib.hid hs
  clear hs
  go_enter Try.func101, Try.ntmps101
  go_wp2_with fail
  go_loopg [10] n (fun gh vi wr => ∃ (i : Nat) (dk : Array Nat), vi = .int .i64 i ∧ i ≤ n ∧ n - i ≤ gh ∧ dk.size = sz ∧ Hid (dk = swapR d a b i) ∧ Aside (SW enc w0 blk off dk wr))
  case atStart => exact ⟨0, d, rfl, Nat.zero_le _, Nat.le_refl _, HS.out, Lib.hid (swapR_zero d a b).symm, S0⟩
  case round =>
    clear S0
    obtain ⟨i, dk, rfl, hin, hgh, hsk, HD, S1⟩ := hrel
    by_cases hlt : i < n
    · have iz : (i : Int) < (n : Int) := by omega
      obtain ⟨p, hp⟩ : ∃ p, p = a + i := ⟨_, rfl⟩
      obtain ⟨q, hq⟩ : ∃ q, q = b + i := ⟨_, rfl⟩
      have ep : (a : Int) + (i : Int) = (p : Int) := by omega
      have eq : (b : Int) + (i : Int) = (q : Int) := by omega
      have wp : IntKind.i64.wrap (p : Int) = (p : Int) := by rw [IntKind.wrap_i64]; omega
      have wq : IntKind.i64.wrap (q : Int) = (q : Int) := by rw [IntKind.wrap_i64]; omega
      have HN : Hid (swp dk p q = swapR d a b (i + 1)) := Lib.hid (by rw [HD.out, hp, hq]; exact swapR_succ (by omega) (by rw [HS.out]; omega))
      have hpz : p < sz := by omega
      have hqz : q < sz := by omega
      clear hp hq
      go_wp2_with fail
      have p0a0 : (0 : Int) ≤ (p : Int) := by omega
      have p1a0 : (p : Int) < (sz : Int) := by omega
      have p0b0 : (0 : Int) ≤ (q : Int) := by omega
      have p1b0 : (q : Int) < (sz : Int) := by omega
      obtain ⟨x0, hx0⟩ : ∃ x, x = dk[p]! := ⟨_, rfl⟩
      obtain ⟨y0, hy0⟩ : ∃ x, x = dk[q]! := ⟨_, rfl⟩
      have S2 : Aside (SW enc w0 blk off (swp dk p q) ((wr.setCell ⟨blk, off + p, none⟩ (enc y0)).setCell ⟨blk, off + q, none⟩ (enc x0)).drew) := by rw [hx0, hy0]; exact S1.out.swapped R p q (by omega) (by omega)
      have ca0 := S1.out.c1 R (by omega) p (by omega)
      have cb0 := S1.out.c1 R (by omega) q (by omega)
      have fa0 := S1.out.f1 R (by omega) p (by omega)
      have fb0 := S1.out.f1 R (by omega) q (by omega)
      obtain ⟨u0, cc0⟩ := S1.out.c2 R (by omega) p q (by omega) (by omega) (enc y0)
      rw [← hx0] at ca0
      rw [← hy0] at cb0
      clear hx0 hy0 S1
      go_wp2_with fail
      go_big_region_o
      clear ca0 cb0 cc0 fa0 fb0
      generalize ((wr.setCell ⟨blk, off + p, none⟩ (enc y0)).setCell ⟨blk, off + q, none⟩ (enc x0)).drew = w2 at S2 ⊢
      go_wp2_with fail
      go_roundg (n - (i + 1))
      case measure => omega
      case rel => exact ⟨i + 1, swp dk p q, by go_num, by omega, Nat.le_refl _, by rw [size_swp]; exact hsk, HN, S2⟩
    · obtain rfl : i = n := by omega
      have iz : ¬ (i : Int) < (i : Int) := by omega
      have F : Aside (SW enc w0 blk off (swapR d a b i) wr) := by rw [← HD.out]; exact S1.out
      clear S1
      go_wp2_with fail
      go_end0
      exact ⟨rfl, F.out⟩
set_option maxHeartbeats 16000000 in
set_option maxRecDepth 1000000 in
theorem rotate_I (enc : Nat → Value) (g : Nat) (cb : Array Value) (blk off cap sz : Nat) (d0 d : Array Nat) (w0 w : World) (R : Row1 enc w0 blk off d0) (hs0 : d0.size = sz) (hs : d.size = sz) (hsz : sz < 1000000000) (S : SW enc w0 blk off d w) (a m b : Nat) (ham : a < m) (hmb : m < b) (hb : b ≤ sz) :
    Calls Try.prog 98 #[.slice (some ⟨blk, off, none⟩) sz cap, .int .i64 a, .int .i64 m, .int .i64 b, .func (.func g) #[] cb] w fun e w' => e = .returned (.tuple #[]) ∧ SW enc w0 blk off (Rot d a m b) w' := by
  have S0 : Aside (SW enc w0 blk off d w) := S
  clear S
  have HS := Lib.hid hs
  clear hs
  have CS : Hid (∀ (dk : Array Nat) (W : World) (a b n : Nat), dk.size = sz → SW enc w0 blk off dk W → a + n ≤ b → b + n ≤ sz → Calls Try.prog 101 #[.slice (some ⟨blk, off, none⟩) sz cap, .int .i64 a, .int .i64 b, .int .i64 n, .func (.func g) #[] cb] W fun e w' => e = .returned (.tuple #[]) ∧ SW enc w0 blk off (swapR dk a b n) w') := Lib.hid (fun dk W a b n h1 h2 h3 h4 => swapRange_I enc g cb blk off cap sz d0 dk w0 W R hs0 h1 hsz h2 a b n h3 h4)
  obtain ⟨i0, hi0⟩ : ∃ i, i = m - a := ⟨_, rfl⟩
  obtain ⟨j0, hj0⟩ : ∃ j, j = b - m := ⟨_, rfl⟩
  have z1 : (m : Int) - (a : Int) = (i0 : Int) := by omega
  have z2 : (b : Int) - (m : Int) = (j0 : Int) := by omega
  have z3 : IntKind.i64.wrap (i0 : Int) = (i0 : Int) := by rw [IntKind.wrap_i64]; omega
  have z4 : IntKind.i64.wrap (j0 : Int) = (j0 : Int) := by rw [IntKind.wrap_i64]; omega
  have HST : Hid (Rot d (m - i0) m (m + j0) = Rot d a m b) := Lib.hid (by rw [hi0, hj0]; congr 1 <;> omega)
  have k1 : i0 ≤ m := by omega
  have k2 : m + j0 ≤ sz := by omega
  have k3 : 0 < i0 ∧ 0 < j0 := by omega
  clear hi0 hj0
  go_enter Try.func98, Try.ntmps98
  go_wp2_with fail
  go_loopg [10, 11] (i0 + j0) (fun gh vi vj wr => ∃ (i j : Nat) (dk : Array Nat), vi = .int .i64 i ∧ vj = .int .i64 j ∧ i ≤ i0 ∧ j ≤ j0 ∧ i + j ≤ gh ∧ 0 < i ∧ 0 < j ∧ dk.size = sz ∧ Hid (Rot dk (m - i) m (m + j) = Rot d a m b) ∧ Aside (SW enc w0 blk off dk wr))
  case atStart => exact ⟨i0, j0, d, rfl, rfl, Nat.le_refl _, Nat.le_refl _, Nat.le_refl _, k3.1, k3.2, HS.out, HST, S0⟩
  case round =>
    clear S0
    obtain ⟨i, j, dk, rfl, rfl, hi, hj, hgh, hi1, hj1, hsk, HD, S1⟩ := hrel
    obtain ⟨p, hp⟩ : ∃ p, p = m - i := ⟨_, rfl⟩
    have ep : (m : Int) - (i : Int) = (p : Int) := by omega
    have wp : IntKind.i64.wrap (p : Int) = (p : Int) := by rw [IntKind.wrap_i64]; omega
    have HP := Lib.hid hp
    by_cases heq : i = j
    · subst heq
      have t1 : ((i : Int) == (i : Int)) = true := by simp
      have F : Hid (swapR dk p m i = Rot d a m b) := Lib.hid (by rw [← HD.out, hp]; exact rot_eq (by omega))
      clear hp
      go_wp2_with fail
      refine (CS.out dk wr p m i hsk S1.out (by have := HP.out; omega) (by omega)).mono ?_
      rintro e w2 ⟨rfl, h2⟩
      have S2 : Aside (SW enc w0 blk off (Rot d a m b) w2) := by rw [← F.out]; exact h2
      clear h2 S1
      go_wp2_with fail
      go_end0
      exact ⟨rfl, S2.out⟩
    · have t1 : ((i : Int) == (j : Int)) = false := by rw [beq_eq_false_iff_ne]; omega
      by_cases hgt : j < i
      · have t2 : (j : Int) < (i : Int) := by omega
        obtain ⟨i2, hi2⟩ : ∃ i2, i2 = i - j := ⟨_, rfl⟩
        have ei : (i : Int) - (j : Int) = (i2 : Int) := by omega
        have wi : IntKind.i64.wrap (i2 : Int) = (i2 : Int) := by rw [IntKind.wrap_i64]; omega
        have F : Hid (Rot (swapR dk p m j) (m - i2) m (m + j) = Rot d a m b) := Lib.hid (by rw [← HD.out, hp, hi2]; exact rot_gt hgt (by omega) (by omega))
        have h2p : p + j ≤ m := by omega
        have h3 : i2 ≤ i0 ∧ i2 + j < i + j ∧ 0 < i2 := by omega
        clear hp hi2
        go_wp2_with fail
        refine (CS.out dk wr p m j hsk S1.out h2p (by omega)).mono ?_
        rintro e w2 ⟨rfl, h2⟩
        have S2 : Aside (SW enc w0 blk off (swapR dk p m j) w2) := h2
        clear h2 S1
        go_wp2_with fail
        go_roundg (i2 + j)
        case measure => omega
        case rel => exact ⟨i2, j, _, by first | rfl | go_num, rfl, h3.1, hj, Nat.le_refl _, h3.2.2, hj1, by rw [size_swapR]; exact hsk, F, S2⟩
      · have t2 : ¬ (j : Int) < (i : Int) := by omega
        obtain ⟨j2, hj2⟩ : ∃ j2, j2 = j - i := ⟨_, rfl⟩
        have ej : (j : Int) - (i : Int) = (j2 : Int) := by omega
        have wj : IntKind.i64.wrap (j2 : Int) = (j2 : Int) := by rw [IntKind.wrap_i64]; omega
        obtain ⟨mj, hmj⟩ : ∃ x, x = m + j := ⟨_, rfl⟩
        have em : (m : Int) + (j : Int) = (mj : Int) := by omega
        have wm : IntKind.i64.wrap (mj : Int) = (mj : Int) := by rw [IntKind.wrap_i64]; omega
        obtain ⟨q, hq⟩ : ∃ x, x = m + j - i := ⟨_, rfl⟩
        have eq : (mj : Int) - (i : Int) = (q : Int) := by omega
        have wq : IntKind.i64.wrap (q : Int) = (q : Int) := by rw [IntKind.wrap_i64]; omega
        have F : Hid (Rot (swapR dk p q i) (m - i) m (m + j2) = Rot d a m b) := Lib.hid (by rw [← HD.out, hp, hj2, hq]; exact rot_lt (by omega) (by omega) (by omega))
        have h2p : p + i ≤ q ∧ q + i ≤ sz := by omega
        have h3 : j2 ≤ j0 ∧ i + j2 < i + j ∧ 0 < j2 := by omega
        clear hp hj2 hq hmj
        go_wp2_with fail
        refine (CS.out dk wr p q i hsk S1.out h2p.1 h2p.2).mono ?_
        rintro e w2 ⟨rfl, h2⟩
        have S2 : Aside (SW enc w0 blk off (swapR dk p q i) w2) := h2
        clear h2 S1
        go_wp2_with fail
        go_roundg (i + j2)
        case measure => omega
        case rel => exact ⟨i, j2, _, rfl, by first | rfl | go_num, hi, h3.1, Nat.le_refl _, hi1, h3.2.2, by rw [size_swapR]; exact hsk, F, S2⟩
end Go.Proofs.Ytjnehpkkkmicfaa.St
namespace Go.Proofs.Ytjnehpkkkmicfaa.St
open Go.Shelf Go.RowKit Go.Lib Go.Sort Go.Proofs

set_option maxHeartbeats 16000000 in
set_option maxRecDepth 1000000 in
theorem swapRange_P (k : Nat) (aE : ∀ w, (isAgg 121).run Try.prog w = .ok true w) (zE : ∀ w, (Go.sizeOf 121).run Try.prog w = .ok k w) (enc : Nat → List Value) (g : Nat) (cb : Array Value) (blk off cap sz : Nat) (d0 d : Array Nat) (w0 w : World) (R : RowK enc k w0 blk off d0) (hs0 : d0.size = sz) (hs : d.size = sz) (hsz : sz < 1000000000) (S : SWK enc k w0 blk off d w) (a b n : Nat) (hab : a + n ≤ b) (hb : b + n ≤ sz) :
    Calls Try.prog 103 #[.slice (some ⟨blk, off, none⟩) sz cap, .int .i64 a, .int .i64 b, .int .i64 n, .func (.func g) #[] cb] w fun e w' => e = .returned (.tuple #[]) ∧ SWK enc k w0 blk off (swapR d a b n) w' := by
  have mixed : Try.prog.follows Departure.mixedOrders = true := by kernel_rfl
  have S0 : Aside (SWK enc k w0 blk off d w) := S
  clear S
  have HS := Lib.hid hs
  clear hs
  go_enter Try.func103, Try.ntmps103
  go_wp2_with fail
  go_loopg [10] n (fun gh vi wr => ∃ (i : Nat) (dk : Array Nat), vi = .int .i64 i ∧ i ≤ n ∧ n - i ≤ gh ∧ dk.size = sz ∧ Hid (dk = swapR d a b i) ∧ Aside (SWK enc k w0 blk off dk wr))
  case atStart => exact ⟨0, d, rfl, Nat.zero_le _, Nat.le_refl _, HS.out, Lib.hid (swapR_zero d a b).symm, S0⟩
  case round =>
    clear S0
    obtain ⟨i, dk, rfl, hin, hgh, hsk, HD, S1⟩ := hrel
    by_cases hlt : i < n
    · have iz : (i : Int) < (n : Int) := by omega
      obtain ⟨p, hp⟩ : ∃ p, p = a + i := ⟨_, rfl⟩
      obtain ⟨q, hq⟩ : ∃ q, q = b + i := ⟨_, rfl⟩
      have ep : (a : Int) + (i : Int) = (p : Int) := by omega
      have eq : (b : Int) + (i : Int) = (q : Int) := by omega
      have wp : IntKind.i64.wrap (p : Int) = (p : Int) := by rw [IntKind.wrap_i64]; omega
      have wq : IntKind.i64.wrap (q : Int) = (q : Int) := by rw [IntKind.wrap_i64]; omega
      have HN : Hid (swp dk p q = swapR d a b (i + 1)) := Lib.hid (by rw [HD.out, hp, hq]; exact swapR_succ (by omega) (by rw [HS.out]; omega))
      have hpz : p < sz := by omega
      have hqz : q < sz := by omega
      clear hp hq
      go_wp2_with fail
      have p0a0 : (0 : Int) ≤ (p : Int) := by omega
      have p1a0 : (p : Int) < (sz : Int) := by omega
      have p0b0 : (0 : Int) ≤ (q : Int) := by omega
      have p1b0 : (q : Int) < (sz : Int) := by omega
      have S2 : Aside (SWK enc k w0 blk off (swp dk p q) ((wr.drew.setCells blk (off + p * k) (enc dk[q]!)).setCells blk (off + q * k) (enc dk[p]!))) := S1.out.swapped R p q (by omega) (by omega)
      have la0 := S1.out.ld1 R (by omega) Try.prog p (by omega)
      have lb0 := S1.out.ld1 R (by omega) Try.prog q (by omega)
      have sa0 := S1.out.st1 R (by omega) Try.prog p (by omega) dk[q]!
      have sb0 := S1.out.st2 R (by omega) Try.prog p q (by omega) (by omega) dk[q]! dk[p]!
      have na0 : (enc dk[p]!).length = k := R.hk _
      have nb0 : (enc dk[q]!).length = k := R.hk _
      generalize enc dk[p]! = cI0 at S2 la0 sb0 na0
      generalize enc dk[q]! = cJ0 at S2 lb0 sa0 sb0 nb0
      clear S1
      go_wp2_with fail
      go_big_region_o
      clear la0 lb0 sa0 sb0
      generalize (wr.drew.setCells blk (off + p * k) cJ0).setCells blk (off + q * k) cI0 = w2 at S2 ⊢
      go_wp2_with fail
      go_roundg (n - (i + 1))
      case measure => omega
      case rel => exact ⟨i + 1, swp dk p q, by go_num, by omega, Nat.le_refl _, by rw [size_swp]; exact hsk, HN, S2⟩
    · obtain rfl : i = n := by omega
      have iz : ¬ (i : Int) < (i : Int) := by omega
      have F : Aside (SWK enc k w0 blk off (swapR d a b i) wr) := by rw [← HD.out]; exact S1.out
      clear S1
      go_wp2_with fail
      go_end0
      exact ⟨rfl, F.out⟩
set_option maxHeartbeats 16000000 in
set_option maxRecDepth 1000000 in
theorem rotate_P (k : Nat) (aE : ∀ w, (isAgg 121).run Try.prog w = .ok true w) (zE : ∀ w, (Go.sizeOf 121).run Try.prog w = .ok k w) (enc : Nat → List Value) (g : Nat) (cb : Array Value) (blk off cap sz : Nat) (d0 d : Array Nat) (w0 w : World) (R : RowK enc k w0 blk off d0) (hs0 : d0.size = sz) (hs : d.size = sz) (hsz : sz < 1000000000) (S : SWK enc k w0 blk off d w) (a m b : Nat) (ham : a < m) (hmb : m < b) (hb : b ≤ sz) :
    Calls Try.prog 102 #[.slice (some ⟨blk, off, none⟩) sz cap, .int .i64 a, .int .i64 m, .int .i64 b, .func (.func g) #[] cb] w fun e w' => e = .returned (.tuple #[]) ∧ SWK enc k w0 blk off (Rot d a m b) w' := by
  have S0 : Aside (SWK enc k w0 blk off d w) := S
  clear S
  have HS := Lib.hid hs
  clear hs
  have CS : Hid (∀ (dk : Array Nat) (W : World) (a b n : Nat), dk.size = sz → SWK enc k w0 blk off dk W → a + n ≤ b → b + n ≤ sz → Calls Try.prog 103 #[.slice (some ⟨blk, off, none⟩) sz cap, .int .i64 a, .int .i64 b, .int .i64 n, .func (.func g) #[] cb] W fun e w' => e = .returned (.tuple #[]) ∧ SWK enc k w0 blk off (swapR dk a b n) w') := Lib.hid (fun dk W a b n h1 h2 h3 h4 => swapRange_P k aE zE enc g cb blk off cap sz d0 dk w0 W R hs0 h1 hsz h2 a b n h3 h4)
  obtain ⟨i0, hi0⟩ : ∃ i, i = m - a := ⟨_, rfl⟩
  obtain ⟨j0, hj0⟩ : ∃ j, j = b - m := ⟨_, rfl⟩
  have z1 : (m : Int) - (a : Int) = (i0 : Int) := by omega
  have z2 : (b : Int) - (m : Int) = (j0 : Int) := by omega
  have z3 : IntKind.i64.wrap (i0 : Int) = (i0 : Int) := by rw [IntKind.wrap_i64]; omega
  have z4 : IntKind.i64.wrap (j0 : Int) = (j0 : Int) := by rw [IntKind.wrap_i64]; omega
  have HST : Hid (Rot d (m - i0) m (m + j0) = Rot d a m b) := Lib.hid (by rw [hi0, hj0]; congr 1 <;> omega)
  have k1 : i0 ≤ m := by omega
  have k2 : m + j0 ≤ sz := by omega
  have k3 : 0 < i0 ∧ 0 < j0 := by omega
  clear hi0 hj0
  go_enter Try.func102, Try.ntmps102
  go_wp2_with fail
  go_loopg [10, 11] (i0 + j0) (fun gh vi vj wr => ∃ (i j : Nat) (dk : Array Nat), vi = .int .i64 i ∧ vj = .int .i64 j ∧ i ≤ i0 ∧ j ≤ j0 ∧ i + j ≤ gh ∧ 0 < i ∧ 0 < j ∧ dk.size = sz ∧ Hid (Rot dk (m - i) m (m + j) = Rot d a m b) ∧ Aside (SWK enc k w0 blk off dk wr))
  case atStart => exact ⟨i0, j0, d, rfl, rfl, Nat.le_refl _, Nat.le_refl _, Nat.le_refl _, k3.1, k3.2, HS.out, HST, S0⟩
  case round =>
    clear S0
    obtain ⟨i, j, dk, rfl, rfl, hi, hj, hgh, hi1, hj1, hsk, HD, S1⟩ := hrel
    obtain ⟨p, hp⟩ : ∃ p, p = m - i := ⟨_, rfl⟩
    have ep : (m : Int) - (i : Int) = (p : Int) := by omega
    have wp : IntKind.i64.wrap (p : Int) = (p : Int) := by rw [IntKind.wrap_i64]; omega
    have HP := Lib.hid hp
    by_cases heq : i = j
    · subst heq
      have t1 : ((i : Int) == (i : Int)) = true := by simp
      have F : Hid (swapR dk p m i = Rot d a m b) := Lib.hid (by rw [← HD.out, hp]; exact rot_eq (by omega))
      clear hp
      go_wp2_with fail
      refine (CS.out dk wr p m i hsk S1.out (by have := HP.out; omega) (by omega)).mono ?_
      rintro e w2 ⟨rfl, h2⟩
      have S2 : Aside (SWK enc k w0 blk off (Rot d a m b) w2) := by rw [← F.out]; exact h2
      clear h2 S1
      go_wp2_with fail
      go_end0
      exact ⟨rfl, S2.out⟩
    · have t1 : ((i : Int) == (j : Int)) = false := by rw [beq_eq_false_iff_ne]; omega
      by_cases hgt : j < i
      · have t2 : (j : Int) < (i : Int) := by omega
        obtain ⟨i2, hi2⟩ : ∃ i2, i2 = i - j := ⟨_, rfl⟩
        have ei : (i : Int) - (j : Int) = (i2 : Int) := by omega
        have wi : IntKind.i64.wrap (i2 : Int) = (i2 : Int) := by rw [IntKind.wrap_i64]; omega
        have F : Hid (Rot (swapR dk p m j) (m - i2) m (m + j) = Rot d a m b) := Lib.hid (by rw [← HD.out, hp, hi2]; exact rot_gt hgt (by omega) (by omega))
        have h2p : p + j ≤ m := by omega
        have h3 : i2 ≤ i0 ∧ i2 + j < i + j ∧ 0 < i2 := by omega
        clear hp hi2
        go_wp2_with fail
        refine (CS.out dk wr p m j hsk S1.out h2p (by omega)).mono ?_
        rintro e w2 ⟨rfl, h2⟩
        have S2 : Aside (SWK enc k w0 blk off (swapR dk p m j) w2) := h2
        clear h2 S1
        go_wp2_with fail
        go_roundg (i2 + j)
        case measure => omega
        case rel => exact ⟨i2, j, _, by first | rfl | go_num, rfl, h3.1, hj, Nat.le_refl _, h3.2.2, hj1, by rw [size_swapR]; exact hsk, F, S2⟩
      · have t2 : ¬ (j : Int) < (i : Int) := by omega
        obtain ⟨j2, hj2⟩ : ∃ j2, j2 = j - i := ⟨_, rfl⟩
        have ej : (j : Int) - (i : Int) = (j2 : Int) := by omega
        have wj : IntKind.i64.wrap (j2 : Int) = (j2 : Int) := by rw [IntKind.wrap_i64]; omega
        obtain ⟨mj, hmj⟩ : ∃ x, x = m + j := ⟨_, rfl⟩
        have em : (m : Int) + (j : Int) = (mj : Int) := by omega
        have wm : IntKind.i64.wrap (mj : Int) = (mj : Int) := by rw [IntKind.wrap_i64]; omega
        obtain ⟨q, hq⟩ : ∃ x, x = m + j - i := ⟨_, rfl⟩
        have eq : (mj : Int) - (i : Int) = (q : Int) := by omega
        have wq : IntKind.i64.wrap (q : Int) = (q : Int) := by rw [IntKind.wrap_i64]; omega
        have F : Hid (Rot (swapR dk p q i) (m - i) m (m + j2) = Rot d a m b) := Lib.hid (by rw [← HD.out, hp, hj2, hq]; exact rot_lt (by omega) (by omega) (by omega))
        have h2p : p + i ≤ q ∧ q + i ≤ sz := by omega
        have h3 : j2 ≤ j0 ∧ i + j2 < i + j ∧ 0 < j2 := by omega
        clear hp hj2 hq hmj
        go_wp2_with fail
        refine (CS.out dk wr p q i hsk S1.out h2p.1 h2p.2).mono ?_
        rintro e w2 ⟨rfl, h2⟩
        have S2 : Aside (SWK enc k w0 blk off (swapR dk p q i) w2) := h2
        clear h2 S1
        go_wp2_with fail
        go_roundg (i + j2)
        case measure => omega
        case rel => exact ⟨i, j2, _, rfl, by first | rfl | go_num, hi, h3.1, Nat.le_refl _, hi1, h3.2.2, by rw [size_swapR]; exact hsk, F, S2⟩
end Go.Proofs.Ytjnehpkkkmicfaa.St

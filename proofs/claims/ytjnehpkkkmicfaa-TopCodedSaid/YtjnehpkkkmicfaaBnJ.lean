/- CanM CanA CanB CanC CanD CanE -/
import Derived.Test.YtjnehpkkkmicfaaBnI
import Derived.Test.YtjnehpkkkmicfaaBnB
import Derived.Deep.RegionHeld3
namespace Go.Proofs.Ytjnehpkkkmicfaa.Cn
open Go.RowKit Go.Lib Rw Ls Od _root_.Go.Proofs.Ytjnehpkkkmicfaa.Nm Pk

/-- a length as a number -/
def ln (ls : List Int) (i : Nat) : Nat := (ls.getD i 0).toNat
theorem ln_pos {ls : List Int} {i : Nat} : 0 < ln ls i ↔ 0 < ls.getD i 0 := by unfold ln; omega
/-- j's code stands ahead of i's -/
def bef (ls : List Int) (i j : Nat) : Prop := 0 < ln ls j ∧ (ln ls j < ln ls i ∨ ln ls j = ln ls i ∧ j < i)
instance (ls : List Int) (i j : Nat) : Decidable (bef ls i j) := by unfold bef; infer_instance
/-- what a symbol takes of 2 to the 15 -/
def tk (ls : List Int) (j : Nat) : Nat := 2 ^ (15 - ln ls j)
def cum (ls : List Int) (i : Nat) : Nat := sum (fun j => if bef ls i j then tk ls j else 0) (List.range ls.length)
def code (ls : List Int) (i : Nat) : Nat := cum ls i / 2 ^ (15 - ln ls i)
theorem sum_dvd {α : Type} {d : Nat} {f : α → Nat} : ∀ {l : List α}, (∀ x ∈ l, d ∣ f x) → d ∣ sum f l
  | [], _ => Nat.dvd_zero _
  | x :: l, h => by
    rw [sum_cons]
    exact Nat.dvd_add (h x (List.mem_cons_self ..)) (sum_dvd fun y hy => h y (List.mem_cons_of_mem _ hy))
theorem sum_le' {α : Type} {f g : α → Nat} : ∀ {l : List α}, (∀ x ∈ l, f x ≤ g x) → sum f l ≤ sum g l
  | [], _ => Nat.le_refl _
  | x :: l, h => by
    rw [sum_cons, sum_cons]
    exact Nat.add_le_add (h x (List.mem_cons_self ..)) (sum_le' fun y hy => h y (List.mem_cons_of_mem _ hy))
theorem sum_one (g : Nat → Nat) (j : Nat) : ∀ n, j < n → sum (fun x => if x = j then g x else 0) (List.range n) = g j
  | 0, h => by omega
  | n + 1, h => by
    rw [List.range_succ, sum_app]
    rcases Nat.lt_or_ge j n with h1 | h1
    · rw [sum_one g j n h1]
      simp [sum, show ¬ n = j by omega]
    · have e : j = n := by omega
      subst e
      have h0 : sum (fun x => if x = j then g x else 0) (List.range j) = 0 := by
        have : sum (fun x => if x = j then g x else 0) (List.range j) = sum (fun _ => 0) (List.range j) := sum_congr fun x hx => by
          have := List.mem_range.1 hx
          rw [if_neg (by omega)]
        rw [this, sum_const]; simp
      rw [h0]; simp [sum]
theorem cum_dvd {ls : List Int} {i : Nat} (h15 : ln ls i ≤ 15) : 2 ^ (15 - ln ls i) ∣ cum ls i := by
  refine sum_dvd fun j _ => ?_
  by_cases h : bef ls i j
  · rw [if_pos h]
    unfold tk
    exact Nat.pow_dvd_pow 2 (by have := h.2; omega)
  · rw [if_neg h]; exact Nat.dvd_zero _
theorem code_cum {ls : List Int} {i : Nat} (h15 : ln ls i ≤ 15) : code ls i * 2 ^ (15 - ln ls i) = cum ls i := Nat.div_mul_cancel (cum_dvd h15)
theorem cum_step {ls : List Int} {i k : Nat} (hi : i < ls.length) (h : bef ls k i) : cum ls i + tk ls i ≤ cum ls k := by
  unfold cum
  have e : tk ls i = sum (fun x => if x = i then tk ls x else 0) (List.range ls.length) := (sum_one _ _ _ hi).symm
  rw [e, ← sum_add]
  refine sum_le' fun x _ => ?_
  by_cases hx : x = i
  · subst hx
    have : ¬ bef ls x x := fun h => by have := h.2; omega
    rw [if_neg this, if_pos rfl, if_pos h]; omega
  · rw [if_neg hx]
    by_cases hb : bef ls i x
    · have : bef ls k x := ⟨hb.1, by have := hb.2; have := h.2; omega⟩
      rw [if_pos hb, if_pos this]; omega
    · rw [if_neg hb]; omega
theorem cum_top {ls : List Int} {i : Nat} (hi : i < ls.length) (h0 : 0 < ln ls i) (hr : tookT ls 15 ls.length ≤ 2 ^ 15) : cum ls i + tk ls i ≤ 2 ^ 15 := by
  refine Nat.le_trans ?_ hr
  unfold cum tookT
  have e : tk ls i = sum (fun x => if x = i then tk ls x else 0) (List.range ls.length) := (sum_one _ _ _ hi).symm
  rw [e, ← sum_add]
  refine sum_le' fun x _ => ?_
  by_cases hx : x = i
  · subst hx
    have : ¬ bef ls x x := fun h => by have := h.2; omega
    rw [if_neg this, if_pos rfl, if_pos (ln_pos.1 h0)]; unfold tk ln; omega
  · rw [if_neg hx]
    by_cases hb : bef ls i x
    · rw [if_pos hb, if_pos (ln_pos.1 hb.1)]; unfold tk ln; omega
    · rw [if_neg hb]; omega
theorem pow_split {n m : Nat} (h : n ≤ m) (h15 : m ≤ 15) : (2 : Nat) ^ (15 - n) = 2 ^ (m - n) * 2 ^ (15 - m) := by
  rw [← Nat.pow_add]; congr 1; omega
theorem code_lt {ls : List Int} {i : Nat} (hi : i < ls.length) (h0 : 0 < ln ls i) (h15 : ln ls i ≤ 15) (hr : tookT ls 15 ls.length ≤ 2 ^ 15) : code ls i < 2 ^ ln ls i := by
  have h1 := cum_top hi h0 hr
  have h2 := code_cum (ls := ls) h15
  have e : (2 : Nat) ^ 15 = 2 ^ ln ls i * 2 ^ (15 - ln ls i) := by rw [← Nat.pow_add]; congr 1; omega
  unfold tk at h1
  rw [← h2, e] at h1
  have hp : 0 < 2 ^ (15 - ln ls i) := Nat.two_pow_pos _
  have h3 : (code ls i + 1) * 2 ^ (15 - ln ls i) ≤ 2 ^ ln ls i * 2 ^ (15 - ln ls i) := by rw [Nat.add_mul]; omega
  exact Nat.lt_of_succ_le (Nat.le_of_mul_le_mul_right h3 hp)
/-- the head of a code that stands behind is more -/
theorem code_behind {ls : List Int} {i k : Nat} (hi : i < ls.length) (h15 : ln ls k ≤ 15) (h : bef ls k i) : code ls i + 1 ≤ code ls k / 2 ^ (ln ls k - ln ls i) := by
  have hle : ln ls i ≤ ln ls k := by have := h.2; omega
  have h1 := cum_step hi h
  have h2 := code_cum (ls := ls) h15
  have h3 := code_cum (ls := ls) (i := i) (by omega)
  unfold tk at h1
  rw [← h2, ← h3, pow_split hle h15] at h1
  rw [Nat.le_div_iff_mul_le (Nat.two_pow_pos _)]
  have hp : 0 < 2 ^ (15 - ln ls k) := Nat.two_pow_pos _
  refine Nat.le_of_mul_le_mul_right ?_ hp
  rw [Nat.add_mul, Nat.add_mul, Nat.one_mul]
  simp only [Nat.mul_assoc]
  exact h1
theorem bef_or {ls : List Int} {i k : Nat} (hne : i ≠ k) (hi : 0 < ln ls i) (hk : 0 < ln ls k) : bef ls k i ∨ bef ls i k := by
  unfold bef; omega
theorem code_ne {ls : List Int} {i k : Nat} (hi : i < ls.length) (hk : k < ls.length) (hne : i ≠ k) (h0 : 0 < ln ls i) (hle : ln ls i ≤ ln ls k) (h15 : ln ls k ≤ 15) : code ls k / 2 ^ (ln ls k - ln ls i) ≠ code ls i := by
  rcases bef_or (ls := ls) hne h0 (by omega) with h | h
  · have := code_behind hi h15 h; omega
  · have he : ln ls k = ln ls i := by have := h.2; omega
    have := code_behind hk (by omega) h
    rw [he, Nat.sub_self, Nat.pow_zero, Nat.div_one] at this ⊢
    omega
/-- j is done when symbols of length l up to i are -/
def dn (ls : List Int) (l i j : Nat) : Prop := 0 < ln ls j ∧ (ln ls j < l ∨ ln ls j = l ∧ j < i)
instance (ls : List Int) (l i j : Nat) : Decidable (dn ls l i j) := by unfold dn; infer_instance
def cumS (ls : List Int) (l i : Nat) : Nat := sum (fun j => if dn ls l i j then tk ls j else 0) (List.range ls.length)
theorem cumS_at {ls : List Int} {l i : Nat} (h : ln ls i = l) : cumS ls l i = cum ls i := by
  unfold cumS cum
  refine sum_congr fun j _ => ?_
  have : dn ls l i j ↔ bef ls i j := by unfold dn bef; rw [h]
  simp only [this]
theorem cumS_same {ls : List Int} {l i : Nat} (h : ln ls i ≠ l) : cumS ls l (i + 1) = cumS ls l i := by
  unfold cumS
  refine sum_congr fun j _ => ?_
  have : dn ls l (i + 1) j ↔ dn ls l i j := by
    unfold dn
    by_cases e : j = i
    · subst e; omega
    · omega
  simp only [this]
theorem cumS_next {ls : List Int} {l i : Nat} (hi : i < ls.length) (h : ln ls i = l) (h0 : 0 < l) : cumS ls l (i + 1) = cumS ls l i + tk ls i := by
  unfold cumS
  have e : tk ls i = sum (fun x => if x = i then tk ls x else 0) (List.range ls.length) := (sum_one _ _ _ hi).symm
  rw [e, ← sum_add]
  refine sum_congr fun j _ => ?_
  by_cases hj : j = i
  · subst hj
    have h1 : dn ls l (j + 1) j := ⟨by omega, by omega⟩
    have h2 : ¬ dn ls l j j := fun h => by have := h.2; omega
    rw [if_pos h1, if_neg h2, if_pos rfl]; omega
  · have : dn ls l (i + 1) j ↔ dn ls l i j := by unfold dn; omega
    simp only [this, if_neg hj, Nat.add_zero]
theorem cumS_level {ls : List Int} {l : Nat} : cumS ls (l + 1) 0 = cumS ls l ls.length := by
  unfold cumS
  refine sum_congr fun j hj => ?_
  have hj2 := List.mem_range.1 hj
  have : dn ls (l + 1) 0 j ↔ dn ls l ls.length j := by unfold dn; omega
  simp only [this]
theorem cumS_first (ls : List Int) : cumS ls 1 0 = 0 := by
  unfold cumS
  have : sum (fun j => if dn ls 1 0 j then tk ls j else 0) (List.range ls.length) = sum (fun _ => 0) (List.range ls.length) := sum_congr fun j _ => by
    rw [if_neg]; unfold dn; omega
  rw [this, sum_const]; simp
theorem tk_pos (ls : List Int) (j : Nat) : 0 < tk ls j := Nat.two_pow_pos _
/-- the walk's state: the code ahead, its length, and whether there was none -/
def St (ls : List Int) (l i cd had : Nat) (fi : Bool) : Prop := (fi = true ∧ cumS ls l i = 0 ∧ cd = 0) ∨ (fi = false ∧ 1 ≤ had ∧ had ≤ l ∧ (cd + 1) * 2 ^ (15 - had) = cumS ls l i)
theorem St.first (ls : List Int) : St ls 1 0 0 0 true := .inl ⟨rfl, cumS_first ls, rfl⟩
theorem St.same {ls : List Int} {l i cd had : Nat} {fi : Bool} (h : St ls l i cd had fi) (hn : ln ls i ≠ l) : St ls l (i + 1) cd had fi := by
  rcases h with ⟨a, b, c⟩ | ⟨a, b, c, d⟩
  · exact .inl ⟨a, by rw [cumS_same hn]; exact b, c⟩
  · exact .inr ⟨a, b, c, by rw [cumS_same hn]; exact d⟩
theorem St.level {ls : List Int} {l cd had : Nat} {fi : Bool} (h : St ls l ls.length cd had fi) : St ls (l + 1) 0 cd had fi := by
  rcases h with ⟨a, b, c⟩ | ⟨a, b, c, d⟩
  · exact .inl ⟨a, by rw [cumS_level]; exact b, c⟩
  · exact .inr ⟨a, b, by omega, by rw [cumS_level]; exact d⟩
/-- the code that comes next -/
def nxt (fi : Bool) (cd had l : Nat) : Nat := if fi then cd else (cd + 1) * 2 ^ (l - had)
theorem St.next {ls : List Int} {l i cd had : Nat} {fi : Bool} (h : St ls l i cd had fi) (hi : i < ls.length) (hl : ln ls i = l) (h0 : 0 < l) (h15 : l ≤ 15) : nxt fi cd had l = code ls i ∧ St ls l (i + 1) (nxt fi cd had l) l false := by
  have hc := code_cum (ls := ls) (i := i) (by omega)
  rw [hl, ← cumS_at hl] at hc
  have hp : 0 < 2 ^ (15 - l) := Nat.two_pow_pos _
  have key : nxt fi cd had l * 2 ^ (15 - l) = cumS ls l i := by
    rcases h with ⟨a, b, c⟩ | ⟨a, b, c, d⟩
    · rw [a, c, b]; simp [nxt]
    · rw [a, ← d]
      unfold nxt
      rw [if_neg (by simp), Nat.mul_assoc, ← Nat.pow_add]
      congr 2; omega
  have e : nxt fi cd had l = code ls i := Nat.eq_of_mul_eq_mul_right hp (by rw [key, hc])
  refine ⟨e, .inr ⟨rfl, h0, Nat.le_refl _, ?_⟩⟩
  rw [cumS_next hi hl h0, Nat.add_mul, key, Nat.one_mul]
  unfold tk; rw [hl]
/-- the codes so far -/
def codesT (ls : List Int) (l i : Nat) : List Nat := (List.range ls.length).map fun x => if dn ls l i x then code ls x else 0
def codes (ls : List Int) : List Nat := (List.range ls.length).map fun x => if 0 < ln ls x then code ls x else 0
theorem codesT_length (ls : List Int) (l i : Nat) : (codesT ls l i).length = ls.length := by simp [codesT]
theorem codes_length (ls : List Int) : (codes ls).length = ls.length := by simp [codes]
theorem codesT_first (ls : List Int) : codesT ls 1 0 = List.replicate ls.length 0 := by
  unfold codesT
  have : (List.range ls.length).map (fun x => if dn ls 1 0 x then code ls x else 0) = (List.range ls.length).map (fun _ => 0) := List.map_congr_left fun x _ => by
    rw [if_neg]; unfold dn; omega
  rw [this]; simp [List.map_const']
theorem codesT_same {ls : List Int} {l i : Nat} (h : ln ls i ≠ l) : codesT ls l (i + 1) = codesT ls l i := by
  unfold codesT
  refine List.map_congr_left fun j _ => ?_
  have : dn ls l (i + 1) j ↔ dn ls l i j := by
    unfold dn
    by_cases e : j = i
    · subst e; omega
    · omega
  simp only [this]
theorem codesT_set {ls : List Int} {l i : Nat} (hl : ln ls i = l) (h0 : 0 < l) : (codesT ls l i).set i (code ls i) = codesT ls l (i + 1) := by
  apply List.ext_getElem (by simp [codesT])
  intro j h1 h2
  rw [List.getElem_set]
  simp only [codesT, List.getElem_map, List.getElem_range]
  by_cases e : i = j
  · subst e
    rw [if_pos rfl, if_pos]; unfold dn; omega
  · rw [if_neg e]
    have : dn ls l (i + 1) j ↔ dn ls l i j := by unfold dn; omega
    simp only [this]
theorem codesT_level (ls : List Int) (l : Nat) : codesT ls (l + 1) 0 = codesT ls l ls.length := by
  unfold codesT
  refine List.map_congr_left fun j hj => ?_
  have hj2 := List.mem_range.1 hj
  have : dn ls (l + 1) 0 j ↔ dn ls l ls.length j := by unfold dn; omega
  simp only [this]
theorem codesT_last {ls : List Int} (h : ∀ i, i < ls.length → ln ls i ≤ 15) : codesT ls 16 0 = codes ls := by
  unfold codesT codes
  refine List.map_congr_left fun j hj => ?_
  have h1 := h j (List.mem_range.1 hj)
  have : dn ls 16 0 j ↔ 0 < ln ls j := by unfold dn; omega
  simp only [this]
theorem codes_at {ls : List Int} {i : Nat} (hi : i < ls.length) (h0 : 0 < ln ls i) : (codes ls).getD i 0 = code ls i := by
  simp [codes, List.getD_eq_getElem?_getD, hi, h0]
/-- lengths that leave no code without its place -/
structure Rt (ls : List Int) : Prop where
  few : ls.length ≤ 512
  all : ∀ i, i < ls.length → 0 ≤ ls.getD i 0 ∧ ls.getD i 0 ≤ 15
  room : tookT ls 15 ls.length ≤ 2 ^ 15
theorem Rt.ln15 {ls : List Int} (h : Rt ls) {i : Nat} (hi : i < ls.length) : ln ls i ≤ 15 := by unfold ln; have := h.all i hi; omega
/-- the symbol of a code -/
def fit (ls : List Int) (cd : Nat) (z : Int) (i : Nat) : Bool := decide (0 < ls.getD i 0) && decide (ls.getD i 0 = z) && decide ((codes ls).getD i 0 = cd)
def fnd (ls : List Int) (cd : Nat) (z : Int) : Option Nat := (List.range ls.length).find? (fit ls cd z)
theorem fit_iff {ls : List Int} {cd : Nat} {z : Int} {i : Nat} (hi : i < ls.length) : fit ls cd z i = true ↔ 0 < ls.getD i 0 ∧ ls.getD i 0 = z ∧ code ls i = cd := by
  unfold fit
  simp only [Bool.and_eq_true, decide_eq_true_eq]
  constructor
  · rintro ⟨⟨a, b⟩, c⟩; exact ⟨a, b, by rw [← c, codes_at hi (ln_pos.2 a)]⟩
  · rintro ⟨a, b, c⟩; exact ⟨⟨a, b⟩, by rw [codes_at hi (ln_pos.2 a), c]⟩
theorem fnd_hit {ls : List Int} {cd k : Nat} {z : Int} (h : ∀ j, j < k → fit ls cd z j = false) (hk : k < ls.length) (hp : fit ls cd z k = true) : fnd ls cd z = some k := by
  unfold fnd
  rw [List.find?_range_eq_some]
  exact ⟨hp, List.mem_range.2 hk, fun j hj => by rw [h j hj]; rfl⟩
theorem fnd_miss {ls : List Int} {cd : Nat} {z : Int} (h : ∀ j, j < ls.length → fit ls cd z j = false) : fnd ls cd z = none := by
  unfold fnd
  rw [List.find?_range_eq_none]
  exact fun j hj => by rw [h j hj]; rfl
theorem fnd_some {ls : List Int} {cd i : Nat} {z : Int} (h : fnd ls cd z = some i) : i < ls.length ∧ 0 < ls.getD i 0 ∧ ls.getD i 0 = z ∧ code ls i = cd := by
  unfold fnd at h
  rw [List.find?_range_eq_some] at h
  have hi := List.mem_range.1 h.2.1
  exact ⟨hi, (fit_iff hi).1 h.1⟩
theorem fnd_own {ls : List Int} (hr : Rt ls) {s : Nat} (hs : s < ls.length) (h0 : 0 < ln ls s) : fnd ls (code ls s) (ls.getD s 0) = some s := by
  refine fnd_hit (fun j hj => ?_) hs ((fit_iff hs).2 ⟨ln_pos.1 h0, rfl, rfl⟩)
  rw [← Bool.not_eq_true]
  intro hf
  obtain ⟨a, b, c⟩ := (fit_iff (by omega)).1 hf
  have hl : ln ls j = ln ls s := by unfold ln; rw [b]
  refine code_ne (by omega) hs (by omega) (ln_pos.2 a) (by omega) (hr.ln15 hs) ?_
  rw [hl, Nat.sub_self, Nat.pow_zero, Nat.div_one, c]
theorem fnd_short {ls : List Int} (hr : Rt ls) {s l : Nat} (hs : s < ls.length) (h0 : 0 < ln ls s) (hl : l < ln ls s) : fnd ls (code ls s / 2 ^ (ln ls s - l)) (l : Int) = none := by
  refine fnd_miss fun j hj => ?_
  rw [← Bool.not_eq_true]
  intro hf
  obtain ⟨a, b, c⟩ := (fit_iff hj).1 hf
  have hl2 : ln ls j = l := by unfold ln; rw [b]; rfl
  refine code_ne hj hs (fun e => by subst e; omega) (ln_pos.2 a) (by omega) (hr.ln15 hs) ?_
  rw [hl2, c]
/-- some longer code begins so -/
def beg (ls : List Int) (cd l : Nat) : Bool := (List.range ls.length).any fun i => decide ((l : Int) < ls.getD i 0) && decide ((codes ls).getD i 0 / 2 ^ (ln ls i - l) = cd)
theorem beg_own {ls : List Int} {s l : Nat} (hs : s < ls.length) (hl : l < ln ls s) : beg ls (code ls s / 2 ^ (ln ls s - l)) l = true := by
  unfold beg
  rw [List.any_eq_true]
  refine ⟨s, List.mem_range.2 hs, ?_⟩
  simp only [Bool.and_eq_true, decide_eq_true_eq]
  refine ⟨by unfold ln at hl; omega, by rw [codes_at hs (by omega)]⟩
theorem beg_end {ls : List Int} (hr : Rt ls) {cd l : Nat} (hl : 15 ≤ l) : beg ls cd l = false := by
  unfold beg
  rw [← Bool.not_eq_true, List.any_eq_true]
  rintro ⟨i, hi, h⟩
  simp only [Bool.and_eq_true, decide_eq_true_eq] at h
  have := hr.all i (List.mem_range.1 hi)
  omega
/-- a symbol, read bit by bit -/
def rdGo (ls : List Int) (X : List Bool) (at' : Nat) : Nat → Nat → Nat → Nat × Nat × Int
  | 0, _, _ => (0, 0, 7)
  | f + 1, l, cd => match (if 0 < l then fnd ls cd (l : Int) else none) with
    | some i => (i, at' + l, 0)
    | none => if beg ls cd l = false then (0, 0, 7) else if X.length ≤ at' + l then (0, 0, 5) else rdGo ls X at' f (l + 1) (2 * cd + (X.getD (at' + l) false).toNat)
theorem bit_next (c k : Nat) : 2 * (c / 2 ^ (k + 1)) + (c.testBit k).toNat = c / 2 ^ k := by
  have e : c / 2 ^ (k + 1) = c / 2 ^ k / 2 := by rw [Nat.pow_succ, Nat.div_div_eq_div_mul]
  rw [e]
  have : (c.testBit k).toNat = c / 2 ^ k % 2 := by
    rw [Nat.testBit_eq_decide_div_mod_eq]
    rcases Nat.mod_two_eq_zero_or_one (c / 2 ^ k) with h | h <;> simp [h]
  omega
theorem rd_back {ls : List Int} (hr : Rt ls) {X : List Bool} {p s : Nat} (hs : s < ls.length) (h0 : 0 < ln ls s) (hx : ∀ u, u < ln ls s → X.getD (p + u) false = (code ls s).testBit (ln ls s - 1 - u)) (hX : p + ln ls s ≤ X.length) :
    ∀ (f l : Nat), l ≤ ln ls s → ln ls s < l + f → rdGo ls X p f l (code ls s / 2 ^ (ln ls s - l)) = (s, p + ln ls s, 0)
  | 0, l, h1, h2 => by omega
  | f + 1, l, h1, h2 => by
    unfold rdGo
    rcases Nat.lt_or_ge l (ln ls s) with hl | hl
    · have e1 : (if 0 < l then fnd ls (code ls s / 2 ^ (ln ls s - l)) (l : Int) else none) = none := by
        split
        · exact fnd_short hr hs h0 hl
        · rfl
      simp only [e1]
      rw [beg_own hs hl, if_neg (by simp), if_neg (by omega), hx l hl]
      have e2 := bit_next (code ls s) (ln ls s - 1 - l)
      rw [show ln ls s - 1 - l + 1 = ln ls s - l by omega] at e2
      rw [e2, show ln ls s - 1 - l = ln ls s - (l + 1) by omega]
      exact rd_back hr hs h0 hx hX f (l + 1) (by omega) (by omega)
    · obtain rfl : l = ln ls s := by omega
      have e1 : (if 0 < ln ls s then fnd ls (code ls s / 2 ^ (ln ls s - ln ls s)) (ln ls s : Int) else none) = some s := by
        rw [if_pos h0, Nat.sub_self, Nat.pow_zero, Nat.div_one]
        have : ((ln ls s : Nat) : Int) = ls.getD s 0 := by unfold ln; have := hr.all s hs; omega
        rw [this]
        exact fnd_own hr hs h0
      simp only [e1]
end Go.Proofs.Ytjnehpkkkmicfaa.Cn
namespace Go.Proofs.Ytjnehpkkkmicfaa.Cn
open Go.RowKit Go.Lib Rw Ls Od _root_.Go.Proofs.Ytjnehpkkkmicfaa.Nm Pk

def someT (ls : List Int) : Nat → Nat
  | 0 => 0
  | k + 1 => someT ls k + if 0 < ls.getD k 0 then 1 else 0
def lastT (ls : List Int) : Nat → Int
  | 0 => 0
  | k + 1 => if 0 < ls.getD k 0 then ls.getD k 0 else lastT ls k
def okC (ls : List Int) : Prop := (roomR ls 15).2 = 0 ∧ ((roomR ls 15).1 = 0 ∨ someT ls ls.length = 0 ∨ someT ls ls.length = 1 ∧ lastT ls ls.length = 1)
instance (ls : List Int) : Decidable (okC ls) := by unfold okC; infer_instance
def chkC (ls : List Int) : Int := if okC ls then 0 else 7
theorem someT_le (ls : List Int) : ∀ k, someT ls k ≤ k
  | 0 => Nat.le_refl _
  | k + 1 => by have := someT_le ls k; unfold someT; split <;> omega
theorem took_some {ls : List Int} : ∀ k, tookT ls 15 k ≤ someT ls k * 2 ^ 14
  | 0 => by simp [tookT, sum, someT]
  | k + 1 => by
    have ih := took_some (ls := ls) k
    rw [tookT_succ, someT]
    by_cases h : 0 < ls.getD k 0
    · rw [if_pos h, if_pos h, Nat.add_mul, Nat.one_mul]
      have : (2 : Nat) ^ (15 - (ls.getD k 0).toNat) ≤ 2 ^ 14 := Nat.pow_le_pow_right (by decide) (by omega)
      omega
    · rw [if_neg h, if_neg h]; omega
theorem rt_of {ls : List Int} (h : okC ls) : Rt ls := by
  obtain ⟨h1, h2⟩ := h
  have hr : ∃ n : Int, roomR ls 15 = (n, 0) := ⟨(roomR ls 15).1, Prod.ext rfl h1⟩
  obtain ⟨n, hn⟩ := hr
  have hn2 := hn
  unfold roomR at hn
  split at hn
  · rename_i ho
    split at hn
    · rename_i ha
      unfold okR at ho
      simp only [Bool.and_eq_true, decide_eq_true_eq] at ho
      have hv : ((2 ^ 15 : Nat) : Int) - (tookT ls 15 ls.length : Nat) = n := congrArg Prod.fst hn
      refine ⟨ho.2, fun i hi => ?_, ?_⟩
      · rw [List.all_eq_true] at ha
        have := ha (ls[i]) (List.getElem_mem hi)
        simp only [Bool.and_eq_true, decide_eq_true_eq] at this
        rw [List.getD_eq_getElem?_getD, List.getElem?_eq_getElem hi]
        exact this
      · rw [hn2] at h2
        have ht := took_some (ls := ls) ls.length
        rcases h2 with h | h | h
        · have h' : n = 0 := h
          omega
        · rw [h] at ht; omega
        · rw [h.1] at ht; omega
    · exact absurd (congrArg Prod.snd hn) (by simp)
  · exact absurd (congrArg Prod.snd hn) (by simp)
set_option maxHeartbeats 1000000 in
theorem rchkc_any (ls : List Int) (p : Option Addr) (c : Nat) (w : World) (hp : Rd w p (zs ls)) (hl : ls.length ≤ 17592186044416) :
    Calls Try.prog 18 #[.slice p ls.length c] w fun e w' => e = .returned (.int .i64 (chkC ls)) ∧ w' = w := by
  have H := Lib.hid (rroom_any ls 15 p c w hp hl (by omega))
  have Q := Lib.hid hp
  obtain ⟨R, hR⟩ : ∃ R, R = (roomR ls 15).1 := ⟨_, rfl⟩
  obtain ⟨E, hE⟩ : ∃ E, E = (roomR ls 15).2 := ⟨_, rfl⟩
  rw [← hR, ← hE] at H
  obtain ⟨m, hm⟩ : ∃ m, m = ls.length := ⟨_, rfl⟩
  rw [← hm] at H hl ⊢
  have HM := Lib.hid hm; have HR := Lib.hid hR; have HE := Lib.hid hE
  obtain ⟨X, hX⟩ : ∃ X, X = chkC ls := ⟨_, rfl⟩
  have HX := Lib.hid hX
  rw [← hX]
  clear hp hR hE hm hX
  by_cases he : E = 0
  case neg =>
    have F : Hid (X = 7) := Lib.hid (by rw [HX.out]; unfold chkC; rw [if_neg (fun h => he (by rw [HE.out]; exact h.1))])
    have e1 : (E == 0) = false := by rw [beq_eq_false_iff_ne]; exact he
    have e2 : (E != 0) = true := by rw [bne_iff_ne]; exact he
    clear he
    go_enter Try.func18, Try.ntmps18
    go_wp2_with fail
    refine H.out.mono ?_
    rintro e w1 ⟨rfl, hw⟩
    have HW := Lib.hid hw
    clear hw
    go_wp2_with fail
    go_ret
    exact ⟨by rw [F.out]; rfl, HW.out⟩
  have HE0 := Lib.hid he
  rw [he] at H
  clear he
  go_enter Try.func18, Try.ntmps18
  go_wp2_with fail
  refine H.out.mono ?_
  rintro e w1 ⟨rfl, hw⟩
  subst hw
  go_wp2_with fail
  go_loopw [5, 6, 18] (fun s l i wr => ∃ k u : Nat, k ≤ m ∧ i = .int .i64 k ∧ s = .int .i64 u ∧ Hid (u = someT ls k) ∧ l = .int .i64 (lastT ls k) ∧ wr = w1) (fun _ _ i _ => m - (RowKit.intOf i).toNat)
  case atStart => exact ⟨0, 0, Nat.zero_le _, rfl, rfl, Lib.hid rfl, rfl, rfl⟩
  case round =>
    obtain ⟨k, u, hk, rfl, rfl, HU, rfl, hw⟩ := hrel
    have HW := Lib.hid hw
    have Q2 : Hid (Rd wr p (zs ls)) := Lib.hid (by rw [hw]; exact Q.out)
    have hub : u ≤ k := by rw [HU.out]; exact someT_le ls k
    clear hw
    by_cases hlt : k < m
    · obtain ⟨b, rfl, cz⟩ := rd_z Q2.out k (by rw [← HM.out]; exact hlt)
      have hs1 : someT ls (k + 1) = someT ls k + if 0 < ls.getD k 0 then 1 else 0 := rfl
      have hs2 : lastT ls (k + 1) = if 0 < ls.getD k 0 then ls.getD k 0 else lastT ls k := rfl
      obtain ⟨z, hz⟩ : ∃ z, z = ls.getD k 0 := ⟨_, rfl⟩
      rw [← hz] at cz hs1 hs2
      have k0 : (0 : Int) ≤ (k : Int) := by omega
      have k1 : (k : Int) < (m : Int) := by omega
      obtain ⟨L1, hL1⟩ : ∃ L1, L1 = lastT ls (k + 1) := ⟨_, rfl⟩
      have HL1 := Lib.hid hL1
      generalize lastT ls k = L0 at hs2 ⊢
      clear hz
      by_cases hg : 0 < z
      · have f1 : decide (0 < z) = true := decide_eq_true hg
        rw [if_pos hg] at hs1 hs2
        have H1 : Hid (u + 1 = someT ls (k + 1)) := Lib.hid (by rw [hs1, ← HU.out])
        have H2 := Lib.hid hs2
        have v1 : IntKind.i64.wrap ((u : Int) + 1) = (u : Int) + 1 := IntWalk.i64_in _ (by omega)
        clear hs1 hs2 hL1 hg
        go_wp2_with fail
        go_roundw
        case rel => exact ⟨k + 1, u + 1, by omega, by go_num, by go_num, H1, by rw [H2.out], HW.out⟩
        case measure => simp [RowKit.intOf]; omega
      · have f1 : decide (0 < z) = false := decide_eq_false hg
        rw [if_neg hg] at hs1 hs2
        have H1 : Hid (u = someT ls (k + 1)) := Lib.hid (by rw [hs1, ← HU.out]; rfl)
        have H2 := Lib.hid hs2
        clear hs1 hs2 hL1 hg
        go_wp2_with fail
        go_roundw
        case rel => exact ⟨k + 1, u, by omega, by go_num, rfl, H1, by rw [H2.out], HW.out⟩
        case measure => simp [RowKit.intOf]; omega
    · obtain rfl : k = m := by omega
      have k1 : ¬ (k : Int) < (k : Int) := by omega
      obtain ⟨L0, hL0⟩ : ∃ L0, L0 = lastT ls k := ⟨_, rfl⟩
      have HL0 := Lib.hid hL0
      rw [← hL0]
      have hiff : okC ls ↔ (R = 0 ∨ u = 0 ∨ u = 1 ∧ L0 = 1) := by
        unfold okC
        rw [← HE.out, ← HR.out, HE0.out, ← HM.out, ← HU.out, ← HL0.out]
        simp
      have HIF := Lib.hid hiff
      clear hL0 hiff
      by_cases h1 : R = 0
      · have F : Hid (X = 0) := Lib.hid (by rw [HX.out]; unfold chkC; rw [if_pos (HIF.out.2 (.inl h1))])
        have e1 : (R == 0) = true := by rw [beq_iff_eq]; exact h1
        clear h1
        go_wp2_with fail
        go_ret
        exact ⟨by rw [F.out]; rfl, HW.out⟩
      · have e1 : (R == 0) = false := by rw [beq_eq_false_iff_ne]; exact h1
        by_cases h2 : u = 0
        · have F : Hid (X = 0) := Lib.hid (by rw [HX.out]; unfold chkC; rw [if_pos (HIF.out.2 (.inr (.inl h2)))])
          have e2 : ((u : Int) == 0) = true := by rw [beq_iff_eq]; omega
          have e3 : (u == 0) = true := by rw [beq_iff_eq]; exact h2
          clear h1 h2
          go_wp2_with fail
          go_ret
          exact ⟨by rw [F.out]; rfl, HW.out⟩
        · have e2 : ((u : Int) == 0) = false := by rw [beq_eq_false_iff_ne]; omega
          have e3 : (u == 0) = false := by rw [beq_eq_false_iff_ne]; exact h2
          by_cases h3 : u = 1
          · have e4 : ((u : Int) == 1) = true := by rw [beq_iff_eq]; omega
            have e5 : (u == 1) = true := by rw [beq_iff_eq]; exact h3
            by_cases h4 : L0 = 1
            · have F : Hid (X = 0) := Lib.hid (by rw [HX.out]; unfold chkC; rw [if_pos (HIF.out.2 (.inr (.inr ⟨h3, h4⟩)))])
              have e6 : (L0 == 1) = true := by rw [beq_iff_eq]; exact h4
              clear h1 h2 h3 h4
              go_wp2_with fail
              go_ret
              exact ⟨by rw [F.out]; rfl, HW.out⟩
            · have F : Hid (X = 7) := Lib.hid (by rw [HX.out]; unfold chkC; rw [if_neg (fun h => (HIF.out.1 h).elim h1 fun h => h.elim h2 fun h => h4 h.2)])
              have e6 : (L0 == 1) = false := by rw [beq_eq_false_iff_ne]; exact h4
              clear h1 h2 h3 h4
              go_wp2_with fail
              go_ret
              exact ⟨by rw [F.out]; rfl, HW.out⟩
          · have F : Hid (X = 7) := Lib.hid (by rw [HX.out]; unfold chkC; rw [if_neg (fun h => (HIF.out.1 h).elim h1 fun h => h.elim h2 fun h => h3 h.1)])
            have e4 : ((u : Int) == 1) = false := by rw [beq_eq_false_iff_ne]; omega
            have e5 : (u == 1) = false := by rw [beq_eq_false_iff_ne]; exact h3
            clear h1 h2 h3
            go_wp2_with fail
            go_ret
            exact ⟨by rw [F.out]; rfl, HW.out⟩
end Go.Proofs.Ytjnehpkkkmicfaa.Cn
namespace Go.Proofs.Ytjnehpkkkmicfaa.Cn
open Go.RowKit Go.Lib Rw Ls Od _root_.Go.Proofs.Ytjnehpkkkmicfaa.Nm Pk

def codesR (ls : List Int) : List Nat × Int := if okC ls then (codes ls, 0) else ([], 7)
/-- numbers in memory, and why none -/
def NU (W : World) (o : List Nat × Int) (e : Ending) (w' : World) : Prop := ∃ (q : Option Addr) (c : Nat), e = .returned (.tuple #[.slice q o.1.length c, .int .i64 o.2]) ∧ o.1.length ≤ c ∧ Rd w' q (nums o.1) ∧ Below W.heap.size W w'
theorem nu_mk {W w' : World} {o : List Nat × Int} {L : List Nat} {r : Int} {n : Nat} {q : Option Addr} {c : Nat} (ho : o = (L, r)) (hL : L.length = n) (hc : n ≤ c) (hr : Rd w' q (nums L)) (hb : Below W.heap.size W w') : NU W o (.returned (.tuple #[.slice q n c, .int .i64 r])) w' := by
  subst ho; subst hL; exact ⟨q, c, rfl, hc, hr, hb⟩
theorem nums_set' (L : List Nat) (k v : Nat) : (nums L).set k (.int .u64 (v : Int)) = nums (L.set k v) := by unfold nums; exact set_map (fun (n : Nat) => Value.int .u64 (n : Int)) L k v
theorem info_u64 : (Try.prog.info? 23).map (fun i => (i.zero, i.size, i.bytes)) = some (some (.int .u64 0), 1, 8) := by kernel_rfl
theorem St.had {ls : List Int} {l i cd had : Nat} (h : St ls l i cd had false) : had ≤ l := by
  rcases h with ⟨a, _⟩ | ⟨_, _, b, _⟩
  · cases a
  · exact b
theorem w64_small (t : Nat) (h : t ≤ 1000) : wrap64 (t : Int) = (t : Int) := by unfold wrap64; omega
theorem shl_u64 {cd l had y : Nat} (h : (cd + 1) * 2 ^ (l - had) = y) (hy : y < 32768) (hh : had ≤ l) (hl : l ≤ 15) : IntKind.u64.wrap (IntKind.u64.wrap ((cd : Int) + 1) * 2 ^ min (IntKind.u64.wrap (wrap64 ((l : Int) - (had : Int)))).toNat 64) = (y : Int) := by
  obtain ⟨t, ht⟩ : ∃ t, t = l - had := ⟨_, rfl⟩
  rw [← ht] at h
  have e1 : (l : Int) - (had : Int) = (t : Int) := by omega
  have hp : 0 < 2 ^ t := Nat.two_pow_pos t
  have hcd : cd + 1 ≤ y := by rw [← h]; exact Nat.le_mul_of_pos_right _ hp
  have e3 : IntKind.u64.wrap (t : Int) = (t : Int) := IntWalk.u64_in _ (by omega)
  have e4 : IntKind.u64.wrap ((cd : Int) + 1) = (cd : Int) + 1 := IntWalk.u64_in _ (by omega)
  have e5 : IntKind.u64.wrap (y : Int) = (y : Int) := IntWalk.u64_in _ (by omega)
  have e2 : ((cd : Int) + 1) * 2 ^ t = (y : Int) := by rw [← h]; simp
  rw [e1, w64_small t (by omega), e3, Int.toNat_natCast, Nat.min_eq_left (by omega), e4, e2, e5]
set_option maxHeartbeats 4000000 in
set_option maxRecDepth 100000 in
theorem rcodes_any (ls : List Int) (p : Option Addr) (c : Nat) (w : World) (hp : Rd w p (zs ls)) (hl : ls.length ≤ 17592186044416) :
    Calls Try.prog 13 #[.slice p ls.length c] w (NU w (codesR ls)) := by
  obtain ⟨i0, hi0, hz0, hz1, hz2⟩ := info_parts info_u64
  have H := Lib.hid (rchkc_any ls p c w hp hl)
  have Q := Lib.hid hp
  obtain ⟨m, hm⟩ : ∃ m, m = ls.length := ⟨_, rfl⟩
  rw [← hm] at H hl ⊢
  have HM := Lib.hid hm
  clear hp hm
  by_cases hok : okC ls
  case neg =>
    have F : Hid (codesR ls = ([], 7)) := Lib.hid (by unfold codesR; rw [if_neg hok])
    have F2 : Hid (chkC ls = 7) := Lib.hid (by unfold chkC; rw [if_neg hok])
    clear hok
    go_enter Try.func13, Try.ntmps13
    go_wp2_with fail
    refine H.out.mono ?_
    rintro e w1 ⟨rfl, hw⟩
    rw [F2.out]
    have HW : Hid (Below w.heap.size w w1) := Lib.hid (hw ▸ Below.refl _ _)
    clear hw
    go_wp2_with fail
    refine bodyPost_ret (v := .tuple #[.slice none 0 0, .int .i64 7]) (by simp [results, Try.results13, go_sem]) rfl ?_
    exact nu_mk F.out rfl (Nat.le_refl _) (Rd.nil _ _) HW.out
  have F : Hid (codesR ls = (codes ls, 0)) := Lib.hid (by unfold codesR; rw [if_pos hok])
  have F2 : Hid (chkC ls = 0) := Lib.hid (by unfold chkC; rw [if_pos hok])
  have hrt := rt_of hok
  have RT := Lib.hid hrt
  have hm512 : m ≤ 512 := by rw [HM.out]; exact hrt.few
  clear hok hrt hl
  go_enter Try.func13, Try.ntmps13
  go_wp2_with fail
  refine H.out.mono ?_
  rintro e w1 ⟨rfl, hw⟩
  subst hw
  rw [F2.out]
  go_wp2_with (at_make; refine wpList_make_full _ rfl _ _ 25 rfl w1.heap.size 23 i0 (.int .u64 0) 1 Try.underlying25 hi0 hz0 hz1 .i64 .i64 (m : Int) m m rfl rfl rfl rfl ?c1 ?c2 ?c3 ?_)
  case c1 => rw [hz2]; omega
  case c2 => unfold maxLen; omega
  case c3 => simp
  intro w2 hown2 hgr2
  have b2 : Below w1.heap.size w1 w2 := (Below.refl _ w1).grown hgr2 (Nat.le_refl _) (by simp)
  rw [toList_madeCells_one] at hown2
  obtain ⟨g, hg⟩ : ∃ g, g = w1.heap.size := ⟨_, rfl⟩
  rw [← hg] at hown2 b2 ⊢
  have HA : Hid (Arr w2 g 23 g m (nums (codesT ls 1 0))) := Lib.hid (by
    rw [codesT_first, ← HM.out]
    have e : List.replicate m (Value.int .u64 0) = nums (List.replicate m 0) := by simp [nums]
    rw [← e]; exact hown2)
  have HB := Lib.hid b2
  have HQ : Hid (Rd w2 p (zs ls)) := Lib.hid (Q.out.below (by rw [← hg]; exact b2))
  have NB : Hid (∀ a, p = some a → 0 < m → a.block < g) := Lib.hid (fun a e h0 => by
    obtain ⟨a2, e2, h⟩ := Q.out.form (by rw [zs_length, ← HM.out]; exact h0)
    rw [e] at e2; cases e2; rw [hg]; exact h)
  have HG := Lib.hid hg
  clear hown2 hgr2 b2 hg
  go_wp2_with fail
  go_loopw [5, 6, 7, 8] (fun cdv hav fiv lv wr => ∃ (l cd had : Nat) (fi : Bool), 1 ≤ l ∧ l ≤ 16 ∧ lv = .int .i64 l ∧ cdv = .int .u64 cd ∧ hav = .int .i64 had ∧ fiv = .bool fi ∧ Hid (St ls l 0 cd had fi) ∧ Hid (Arr wr g 23 g m (nums (codesT ls l 0))) ∧ Hid (Rd wr p (zs ls)) ∧ Hid (Below g w1 wr)) (fun _ _ _ lv _ => 17 - (RowKit.intOf lv).toNat)
  case atStart => exact ⟨1, 0, 0, true, by omega, by omega, rfl, rfl, rfl, rfl, Lib.hid (St.first ls), HA, HQ, HB⟩
  case round =>
    clear HA HQ HB
    obtain ⟨l, cd, had, fi, hl1, hl16, rfl, rfl, rfl, rfl, hst, ha, hq, hb⟩ := hrel
    by_cases hle : l ≤ 15
    · have e1 : decide ((l : Int) ≤ 15) = true := decide_eq_true (by omega)
      have e2 : decide (l ≤ 15) = true := decide_eq_true hle
      go_wp2_with fail
      go_loopw [5, 6, 7, 23] (fun cdv hav fiv iv wr => ∃ (i cd had : Nat) (fi : Bool), i ≤ m ∧ iv = .int .i64 i ∧ cdv = .int .u64 cd ∧ hav = .int .i64 had ∧ fiv = .bool fi ∧ Hid (St ls l i cd had fi) ∧ Hid (Arr wr g 23 g m (nums (codesT ls l i))) ∧ Hid (Rd wr p (zs ls)) ∧ Hid (Below g w1 wr)) (fun _ _ _ iv _ => m - (RowKit.intOf iv).toNat)
      case atStart => exact ⟨0, cd, had, fi, by omega, rfl, rfl, rfl, rfl, hst, ha, hq, hb⟩
      case round =>
        clear hst ha hq hb
        obtain ⟨i, cd, had, fi, him, rfl, rfl, rfl, rfl, hst, ha, hq, hb⟩ := hrel
        by_cases hlt : i < m
        · obtain ⟨b, rfl, cz⟩ := rd_z hq.out i (by rw [← HM.out]; exact hlt)
          obtain ⟨z, hz⟩ : ∃ z, z = ls.getD i 0 := ⟨_, rfl⟩
          rw [← hz] at cz
          have hil : i < ls.length := by rw [← HM.out]; exact hlt
          have hz15 := RT.out.all i hil
          rw [← hz] at hz15
          have k0 : (0 : Int) ≤ (i : Int) := by omega
          have k1 : (i : Int) < (m : Int) := by omega
          by_cases heq : z = (l : Int)
          · have hln : ln ls i = l := by unfold ln; rw [← hz, heq]; rfl
            obtain ⟨hn1, hn2⟩ := hst.out.next hil hln (by omega) hle
            have hcl := code_lt hil (by omega) (by omega) RT.out.room
            have hcb : code ls i < 32768 := Nat.lt_of_lt_of_le hcl (by rw [hln]; exact Nat.pow_le_pow_right (n := 2) (by decide) hle)
            have cg := ha.out.cell hlt
            have fg := ha.out.free i
            generalize (nums (codesT ls l i)).getD i (.bool false) = ov at cg
            have S1 := ha.out.set i (.int .u64 ((code ls i : Nat) : Int))
            rw [nums_set', codesT_set hln (by omega)] at S1
            have S2 := below_put hb.out (a := ⟨g, i, none⟩) (Nat.le_refl _) (.int .u64 ((code ls i : Nat) : Int))
            have S3 : Rd (wr.setCell ⟨g, i, none⟩ (.int .u64 ((code ls i : Nat) : Int))) (some b) (zs ls) := Ls.Rd.put hq.out (fun q e => by cases e; have := NB.out b rfl (by omega); simp; omega) _
            rw [hn1] at hn2
            obtain ⟨y, hy⟩ : ∃ y, y = code ls i := ⟨_, rfl⟩
            rw [← hy] at S1 S2 S3 hn1 hn2 hcb
            have H1 := Lib.hid S1; have H2 := Lib.hid S2; have H3 := Lib.hid S3; have H4 := Lib.hid hn2
            subst heq
            have e3 : ((l : Int) == (l : Int)) = true := by simp
            have e4 : ((l : Int) != (l : Int)) = false := by simp
            cases fi with
            | true =>
              have hcd : cd = y := hn1
              subst hcd
              clear S1 S2 S3 hn1 hn2 hz hln hcl hy hst ha hq hb
              go_wp2_with fail
              go_roundw
              case rel => exact ⟨i + 1, cd, l, false, by omega, by go_num, rfl, rfl, rfl, H4, H1, H3, H2⟩
              case measure => simp [RowKit.intOf]; omega
            | false =>
              have hcd : (cd + 1) * 2 ^ (l - had) = y := hn1
              have hhl : had ≤ l := hst.out.had
              have hsh := shl_u64 hcd hcb hhl hle
              clear S1 S2 S3 hn1 hn2 hz hln hcl hy hst ha hq hb hcd hhl
              go_wp2_with fail
              go_roundw
              case rel => exact ⟨i + 1, y, l, false, by omega, by go_num, rfl, rfl, rfl, H4, H1, H3, H2⟩
              case measure => simp [RowKit.intOf]; omega
          · have hln : ln ls i ≠ l := by
              unfold ln; rw [← hz]; omega
            have H4 := Lib.hid (hst.out.same hln)
            have H1 : Hid (Arr wr g 23 g m (nums (codesT ls l (i + 1)))) := Lib.hid (by rw [codesT_same hln]; exact ha.out)
            have e3 : (z == (l : Int)) = false := by rw [beq_eq_false_iff_ne]; exact heq
            have e4 : (z != (l : Int)) = true := by rw [bne_iff_ne]; exact heq
            clear hln heq hz hst ha
            go_wp2_with fail
            go_roundw
            case rel => exact ⟨i + 1, cd, had, fi, by omega, by go_num, rfl, rfl, rfl, H4, H1, hq, hb⟩
            case measure => simp [RowKit.intOf]; omega
        · obtain rfl : i = m := by omega
          have k1 : ¬ (i : Int) < (i : Int) := by omega
          have hst2 := hst.out
          rw [HM.out] at hst2
          have H4 := Lib.hid hst2.level
          have H1 : Hid (Arr wr g 23 g i (nums (codesT ls (l + 1) 0))) := Lib.hid (by rw [codesT_level, ← HM.out]; exact ha.out)
          clear hst hst2 ha
          go_wp2_with fail
          go_roundw
          case rel => exact ⟨l + 1, cd, had, fi, by omega, by omega, by go_num, rfl, rfl, rfl, H4, H1, hq, hb⟩
          case measure => simp [RowKit.intOf]; omega
    · obtain rfl : l = 16 := by omega
      have e1 : decide ((16 : Int) ≤ 15) = false := decide_eq_false (by omega)
      have ha2 := ha.out
      rw [codesT_last fun i hi => RT.out.ln15 hi] at ha2
      have H1 := Lib.hid ha2.rd
      have H2 : Hid (Below w1.heap.size w1 wr) := Lib.hid (by rw [← HG.out]; exact hb.out)
      clear ha ha2 hb hq hst
      go_wp2_with fail
      refine bodyPost_ret (v := .tuple #[.slice (some ⟨g, 0, none⟩) m m, .int .i64 0]) (by simp [results, Try.results13, go_sem]) rfl ?_
      exact nu_mk F.out (by rw [codes_length, ← HM.out]) (Nat.le_refl _) H1.out H2.out
end Go.Proofs.Ytjnehpkkkmicfaa.Cn
namespace Go.Proofs.Ytjnehpkkkmicfaa.Cn
open Go.RowKit Go.Lib Rw Ls Od _root_.Go.Proofs.Ytjnehpkkkmicfaa.Nm Pk

def findR (ls : List Int) (cd : Nat) (z : Int) : Int × Int := if okC ls then (match fnd ls cd z with | some i => ((i : Int), 0) | none => (0, 3)) else (0, 7)
theorem find_some {ls : List Int} {cd i : Nat} {z : Int} (h : okC ls) (hf : fnd ls cd z = some i) : findR ls cd z = ((i : Int), 0) := by unfold findR; rw [if_pos h, hf]
theorem find_none {ls : List Int} {cd : Nat} {z : Int} (h : okC ls) (hf : fnd ls cd z = none) : findR ls cd z = (0, 3) := by unfold findR; rw [if_pos h, hf]
theorem find_no {ls : List Int} {cd : Nat} {z : Int} (h : ¬ okC ls) : findR ls cd z = (0, 7) := by unfold findR; rw [if_neg h]
set_option maxHeartbeats 4000000 in
set_option maxRecDepth 100000 in
theorem rfindc_any (ls : List Int) (cd : Nat) (z : Int) (p : Option Addr) (c : Nat) (w : World) (hp : Rd w p (zs ls)) (hl : ls.length ≤ 17592186044416) :
    Calls Try.prog 15 #[.slice p ls.length c, .int .u64 (cd : Int), .int .i64 z] w fun e w' => e = .returned (.tuple #[.int .i64 (findR ls cd z).1, .int .i64 (findR ls cd z).2]) ∧ Below w.heap.size w w' := by
  have H := Lib.hid (rcodes_any ls p c w hp hl)
  have Q := Lib.hid hp
  obtain ⟨m, hm⟩ : ∃ m, m = ls.length := ⟨_, rfl⟩
  rw [← hm] at H hl ⊢
  have HM := Lib.hid hm
  obtain ⟨A, hA⟩ : ∃ A, A = (findR ls cd z).1 := ⟨_, rfl⟩
  obtain ⟨E, hE⟩ : ∃ E, E = (findR ls cd z).2 := ⟨_, rfl⟩
  rw [← hA, ← hE]
  have HA := Lib.hid hA; have HE := Lib.hid hE
  clear hp hm hA hE
  by_cases hok : okC ls
  case neg =>
    have F : Hid (A = 0 ∧ E = 7) := Lib.hid (by rw [HA.out, HE.out, find_no hok]; exact ⟨rfl, rfl⟩)
    have F2 : Hid (codesR ls = ([], 7)) := Lib.hid (by unfold codesR; rw [if_neg hok])
    rw [F2.out] at H
    clear hok
    go_enter Try.func15, Try.ntmps15
    go_wp2_with fail
    refine H.out.mono ?_
    rintro e w1 ⟨q1, c1, rfl, h1, h2, h3⟩
    have H3 := Lib.hid h3
    clear h1 h2 h3
    go_wp2_with fail
    refine bodyPost_ret (v := .tuple #[.int .i64 0, .int .i64 7]) (by simp [results, Try.results15, go_sem]) rfl ?_
    exact ⟨by rw [F.out.1, F.out.2], H3.out⟩
  have F2 : Hid (codesR ls = (codes ls, 0)) := Lib.hid (by unfold codesR; rw [if_pos hok])
  have OK := Lib.hid hok
  rw [F2.out] at H
  clear hok
  go_enter Try.func15, Try.ntmps15
  go_wp2_with fail
  refine H.out.mono ?_
  rintro e w1 ⟨q1, c1, rfl, h1, h2, h3⟩
  have hcl : (codes ls).length = m := by rw [codes_length, HM.out]
  have CL := Lib.hid hcl
  simp only [hcl] at h1 ⊢
  have R1 : Hid (Rd w1 p (zs ls)) := Lib.hid (Q.out.below h3)
  have R2 := Lib.hid h2; have B1 := Lib.hid h3
  clear h1 h2 h3 hcl
  go_wp2_with fail
  go_loopw [22] (fun iv wr => ∃ i : Nat, i ≤ m ∧ iv = .int .i64 i ∧ Hid (∀ j, j < i → fit ls cd z j = false) ∧ wr = w1) (fun iv _ => m - (RowKit.intOf iv).toNat)
  case atStart => exact ⟨0, by omega, rfl, Lib.hid (fun j hj => by omega), rfl⟩
  case round =>
    obtain ⟨i, him, rfl, hno, hw⟩ := hrel
    have HW := Lib.hid hw
    have R1 : Hid (Rd wr p (zs ls)) := Lib.hid (by rw [hw]; exact R1.out)
    have R2 : Hid (Rd wr q1 (nums (codes ls))) := Lib.hid (by rw [hw]; exact R2.out)
    clear hw
    by_cases hlt : i < m
    · obtain ⟨b, rfl, cz⟩ := rd_z R1.out i (by rw [← HM.out]; exact hlt)
      obtain ⟨b2, rfl, cc⟩ := rd_num R2.out i (by rw [CL.out]; exact hlt)
      have hf : fit ls cd z i = (decide (0 < ls.getD i 0) && decide (ls.getD i 0 = z) && decide ((codes ls).getD i 0 = cd)) := rfl
      obtain ⟨y, hy⟩ : ∃ y, y = ls.getD i 0 := ⟨_, rfl⟩
      obtain ⟨x, hx⟩ : ∃ x, x = (codes ls).getD i 0 := ⟨_, rfl⟩
      rw [← hy, ← hx] at hf
      rw [← hy] at cz
      rw [← hx] at cc
      have k0 : (0 : Int) ≤ (i : Int) := by omega
      have k1 : (i : Int) < (m : Int) := by omega
      have next : fit ls cd z i = false → Hid (∀ j, j < i + 1 → fit ls cd z j = false) := fun h => Lib.hid (fun j hj => by
        rcases Nat.lt_or_ge j i with h2 | h2
        · exact hno.out j h2
        · rw [show j = i by omega]; exact h)
      have NX := Lib.hid next
      clear hy hx next
      by_cases g1 : 0 < y
      · have e1 : decide (0 < y) = true := decide_eq_true g1
        by_cases g2 : y = z
        · have e2 : (y == z) = true := by rw [beq_iff_eq]; exact g2
          by_cases g3 : x = cd
          · have e3 : (x == cd) = true := by rw [beq_iff_eq]; exact g3
            have e4 : ((x : Int) == (cd : Int)) = true := by rw [beq_iff_eq]; omega
            have hit : fit ls cd z i = true := by rw [hf]; simp [g2, g3]; omega
            have F : Hid (A = (i : Int) ∧ E = 0) := Lib.hid (by
              have := find_some OK.out (fnd_hit hno.out (by rw [← HM.out]; exact hlt) hit)
              rw [HA.out, HE.out, this]; exact ⟨rfl, rfl⟩)
            clear hit hf g1 g2 g3 NX hno
            go_wp2_with fail
            refine bodyPost_ret (v := .tuple #[.int .i64 (i : Int), .int .i64 0]) (by simp [results, Try.results15, go_sem]) rfl ?_
            exact ⟨by rw [F.out.1, F.out.2], by rw [HW.out]; exact B1.out⟩
          · have e3 : (x == cd) = false := by rw [beq_eq_false_iff_ne]; exact g3
            have e4 : ((x : Int) == (cd : Int)) = false := by rw [beq_eq_false_iff_ne]; omega
            have H5 := NX.out (by rw [hf]; simp [g3])
            clear hf g1 g2 g3 NX hno
            go_wp2_with fail
            go_roundw
            case rel => exact ⟨i + 1, by omega, by go_num, H5, HW.out⟩
            case measure => simp [RowKit.intOf]; omega
        · have e2 : (y == z) = false := by rw [beq_eq_false_iff_ne]; exact g2
          have H5 := NX.out (by rw [hf]; simp [g2])
          clear hf g1 g2 NX hno
          go_wp2_with fail
          go_roundw
          case rel => exact ⟨i + 1, by omega, by go_num, H5, HW.out⟩
          case measure => simp [RowKit.intOf]; omega
      · have e1 : decide (0 < y) = false := decide_eq_false g1
        have H5 := NX.out (by rw [hf]; simp [g1])
        clear hf g1 NX hno
        go_wp2_with fail
        go_roundw
        case rel => exact ⟨i + 1, by omega, by go_num, H5, HW.out⟩
        case measure => simp [RowKit.intOf]; omega
    · obtain rfl : i = m := by omega
      have k1 : ¬ (i : Int) < (i : Int) := by omega
      have F : Hid (A = 0 ∧ E = 3) := Lib.hid (by
        have := find_none OK.out (fnd_miss (cd := cd) (z := z) (by rw [← HM.out]; exact hno.out))
        rw [HA.out, HE.out, this]; exact ⟨rfl, rfl⟩)
      clear hno
      go_wp2_with fail
      refine bodyPost_ret (v := .tuple #[.int .i64 0, .int .i64 3]) (by simp [results, Try.results15, go_sem]) rfl ?_
      exact ⟨by rw [F.out.1, F.out.2], by rw [HW.out]; exact B1.out⟩
def begT (ls : List Int) (cd l i : Nat) : Bool := decide ((l : Int) < ls.getD i 0) && decide ((codes ls).getD i 0 / 2 ^ (ln ls i - l) = cd)
theorem beg_hit {ls : List Int} {cd l i : Nat} (hi : i < ls.length) (h : begT ls cd l i = true) : beg ls cd l = true := by
  unfold beg; rw [List.any_eq_true]; exact ⟨i, List.mem_range.2 hi, h⟩
theorem beg_miss {ls : List Int} {cd l : Nat} (h : ∀ i, i < ls.length → begT ls cd l i = false) : beg ls cd l = false := by
  rw [← Bool.not_eq_true]
  unfold beg
  rw [List.any_eq_true]
  rintro ⟨i, hi, h2⟩
  have := h i (List.mem_range.1 hi)
  unfold begT at this
  rw [this] at h2; cases h2
set_option maxHeartbeats 4000000 in
set_option maxRecDepth 100000 in
theorem rbegins_any (ls : List Int) (cd l : Nat) (p q : Option Addr) (c d : Nat) (w : World) (hp : Rd w p (zs ls)) (hq : Rd w q (nums (codes ls))) (hl : ls.length ≤ 17592186044416) (hl2 : l ≤ 100) (h15 : ∀ i, i < ls.length → ls.getD i 0 ≤ 15) (hcb : ∀ i, (codes ls).getD i 0 < 18446744073709551616) :
    Calls Try.prog 48 #[.slice p ls.length c, .slice q ls.length d, .int .u64 (cd : Int), .int .i64 (l : Int)] w fun e w' => e = .returned (.bool (beg ls cd l)) ∧ w' = w := by
  have R1 := Lib.hid hp; have R2 := Lib.hid hq; have H15 := Lib.hid h15; have HCB := Lib.hid hcb
  obtain ⟨m, hm⟩ : ∃ m, m = ls.length := ⟨_, rfl⟩
  rw [← hm] at hl ⊢
  have HM := Lib.hid hm
  obtain ⟨A, hA⟩ : ∃ A, A = beg ls cd l := ⟨_, rfl⟩
  rw [← hA]
  have HA := Lib.hid hA
  have hcl : (codes ls).length = m := by rw [codes_length, HM.out]
  have CL := Lib.hid hcl
  clear hp hq hm hA hcl h15 hcb
  go_enter Try.func48, Try.ntmps48
  go_wp2_with fail
  go_loopw [13] (fun iv wr => ∃ i : Nat, i ≤ m ∧ iv = .int .i64 i ∧ Hid (∀ j, j < i → begT ls cd l j = false) ∧ wr = w) (fun iv _ => m - (RowKit.intOf iv).toNat)
  case atStart => exact ⟨0, by omega, rfl, Lib.hid (fun j hj => by omega), rfl⟩
  case round =>
    obtain ⟨i, him, rfl, hno, hw⟩ := hrel
    have HW := Lib.hid hw
    have R1 : Hid (Rd wr p (zs ls)) := Lib.hid (by rw [hw]; exact R1.out)
    have R2 : Hid (Rd wr q (nums (codes ls))) := Lib.hid (by rw [hw]; exact R2.out)
    clear hw
    by_cases hlt : i < m
    · obtain ⟨b, rfl, cz⟩ := rd_z R1.out i (by rw [← HM.out]; exact hlt)
      obtain ⟨b2, rfl, cc⟩ := rd_num R2.out i (by rw [CL.out]; exact hlt)
      have hf : begT ls cd l i = (decide ((l : Int) < ls.getD i 0) && decide ((codes ls).getD i 0 / 2 ^ (ln ls i - l) = cd)) := rfl
      have hyb := H15.out i (by rw [← HM.out]; exact hlt)
      have hxb := HCB.out i
      unfold ln at hf
      obtain ⟨y, hy⟩ : ∃ y, y = ls.getD i 0 := ⟨_, rfl⟩
      obtain ⟨x, hx⟩ : ∃ x, x = (codes ls).getD i 0 := ⟨_, rfl⟩
      rw [← hy, ← hx] at hf
      rw [← hy] at cz hyb
      rw [← hx] at cc hxb
      have k0 : (0 : Int) ≤ (i : Int) := by omega
      have k1 : (i : Int) < (m : Int) := by omega
      have next : begT ls cd l i = false → Hid (∀ j, j < i + 1 → begT ls cd l j = false) := fun h => Lib.hid (fun j hj => by
        rcases Nat.lt_or_ge j i with h2 | h2
        · exact hno.out j h2
        · rw [show j = i by omega]; exact h)
      have NX := Lib.hid next
      clear hy hx next
      by_cases g1 : (l : Int) < y
      · have e1 : decide ((l : Int) < y) = true := decide_eq_true g1
        obtain ⟨t, ht⟩ : ∃ t : Nat, (t : Int) = y - l := ⟨(y - l).toNat, by omega⟩
        have ht2 : y.toNat - l = t := by omega
        rw [ht2] at hf
        have ht3 : y - (l : Int) = (t : Int) := ht.symm
        have htb : t ≤ 15 := by omega
        obtain ⟨v, hv⟩ : ∃ v, v = x / 2 ^ t := ⟨_, rfl⟩
        rw [← hv] at hf
        have w1 : IntKind.i64.wrap (t : Int) = (t : Int) := IntWalk.i64_in _ (by omega)
        have w2 : IntKind.u64.wrap (t : Int) = (t : Int) := IntWalk.u64_in _ (by omega)
        clear ht
        have hvz : ((x : Int) / 2 ^ t) = (v : Int) := by rw [hv]; simp
        by_cases g3 : v = cd
        · have e3 : ((x : Int) / 2 ^ t == (cd : Int)) = true := by rw [hvz, beq_iff_eq]; omega
          have hit : begT ls cd l i = true := by rw [hf]; simp [g1, g3]
          have F : Hid (A = true) := Lib.hid (by rw [HA.out]; exact beg_hit (by rw [← HM.out]; exact hlt) hit)
          clear hit hf g1 g3 NX hno hv hvz
          go_wp2_with fail
          go_ret
          exact ⟨by rw [F.out]; rfl, HW.out⟩
        · have e3 : ((x : Int) / 2 ^ t == (cd : Int)) = false := by rw [hvz, beq_eq_false_iff_ne]; omega
          have H5 := NX.out (by rw [hf]; simp [g3])
          clear hf g1 g3 NX hno hv hvz
          go_wp2_with fail
          go_roundw
          case rel => exact ⟨i + 1, by omega, by go_num, H5, HW.out⟩
          case measure => simp [RowKit.intOf]; omega
      · have e1 : decide ((l : Int) < y) = false := decide_eq_false g1
        have H5 := NX.out (by rw [hf]; simp [g1])
        clear hf g1 NX hno
        go_wp2_with fail
        go_roundw
        case rel => exact ⟨i + 1, by omega, by go_num, H5, HW.out⟩
        case measure => simp [RowKit.intOf]; omega
    · obtain rfl : i = m := by omega
      have k1 : ¬ (i : Int) < (i : Int) := by omega
      have F : Hid (A = false) := Lib.hid (by rw [HA.out]; exact beg_miss (by rw [← HM.out]; exact hno.out))
      clear hno
      go_wp2_with fail
      go_ret
      exact ⟨by rw [F.out]; rfl, HW.out⟩
end Go.Proofs.Ytjnehpkkkmicfaa.Cn
namespace Go.Proofs.Ytjnehpkkkmicfaa.Cn
open Go.RowKit Go.Lib Rw Ls Od _root_.Go.Proofs.Ytjnehpkkkmicfaa.Nm Pk Bt

theorem pack_self {s : ByteArray} {n : Int} (h : chk s n = 0) : packS (bl (Bt.bytes s) n.toNat) = s := by
  have hp := (chk_zero h).packs
  rw [packS_of hp]
  unfold Bt.bytes
  cases s; simp
theorem box_below {w w' : World} {g B : Nat} {s : ByteArray} {n : Int} (h : Box w g s n) (hb : Below B w w') (hg : g < B) : Box w' g s n :=
  ⟨Nat.lt_of_lt_of_le h.lt hb.size, by rw [hb.cell (p := ⟨g, 0, none⟩) hg]; exact h.c0, by rw [hb.cell (p := ⟨g, 1, none⟩) hg]; exact h.c1, by rw [hb.frozen (p := ⟨g, 0, none⟩) hg]; exact h.f0, by rw [hb.frozen (p := ⟨g, 1, none⟩) hg]; exact h.f1⟩
/-- the bits behind the first k symbols -/
def bitsT (ls : List Int) (X : List Bool) (sy : List Nat) (k : Nat) : List Bool := X ++ ((sy.take k).map fun x => nbits (code ls x) (ln ls x)).flatten
theorem bitsT_zero (ls : List Int) (X : List Bool) (sy : List Nat) : bitsT ls X sy 0 = X := by simp [bitsT]
theorem bitsT_succ (ls : List Int) (X : List Bool) (sy : List Nat) {k : Nat} (hk : k < sy.length) : bitsT ls X sy (k + 1) = bitsT ls X sy k ++ nbits (code ls (sy.getD k 0)) (ln ls (sy.getD k 0)) := by
  unfold bitsT
  rw [List.take_succ_eq_append_getElem hk, gd hk, List.map_append, List.flatten_append, ← List.append_assoc]
  simp only [List.map_cons, List.map_nil, List.flatten_cons, List.flatten_nil, List.append_nil]
/-- why a symbol is not written behind so many bits -/
def stepE (ls : List Int) (N x : Nat) : Int := if ls.length ≤ x then 1 else if ls.getD x 0 = 0 then 3 else if 1048576 < N + ln ls x then 8 else 0
def errT (ls : List Int) (X : List Bool) (sy : List Nat) : Nat → Int
  | 0 => 0
  | k + 1 => if errT ls X sy k ≠ 0 then errT ls X sy k else stepE ls (bitsT ls X sy k).length (sy.getD k 0)
theorem errT_next {ls : List Int} {X : List Bool} {sy : List Nat} {k : Nat} (h : errT ls X sy k = 0) : errT ls X sy (k + 1) = stepE ls (bitsT ls X sy k).length (sy.getD k 0) := by
  unfold errT; rw [if_neg (by simp [h])]
theorem errT_stay {ls : List Int} {X : List Bool} {sy : List Nat} {k : Nat} (h : errT ls X sy k ≠ 0) : ∀ d, errT ls X sy (k + d) = errT ls X sy k
  | 0 => rfl
  | d + 1 => by rw [← Nat.add_assoc, errT, errT_stay h d, if_pos h]
theorem errT_stop {ls : List Int} {X : List Bool} {sy : List Nat} {k n : Nat} {e : Int} (h : errT ls X sy k = 0) (hs : stepE ls (bitsT ls X sy k).length (sy.getD k 0) = e) (he : e ≠ 0) (hk : k < n) : errT ls X sy n = e := by
  have h1 := errT_next h
  rw [hs] at h1
  have h2 := errT_stay (k := k + 1) (by rw [h1]; exact he) (n - (k + 1))
  rw [show k + 1 + (n - (k + 1)) = n by omega, h1] at h2
  exact h2
theorem errT_len {ls : List Int} {X : List Bool} {sy : List Nat} (hX : X.length ≤ 1048576) : ∀ k, k ≤ sy.length → errT ls X sy k = 0 → (bitsT ls X sy k).length ≤ 1048576
  | 0, _, _ => by rw [bitsT_zero]; exact hX
  | k + 1, hk, h => by
    have h0 : errT ls X sy k = 0 := Decidable.byContradiction fun h2 => by
      have := errT_stay h2 1
      rw [h] at this; exact h2 this.symm
    rw [errT_next h0] at h
    rw [bitsT_succ ls X sy (by omega), List.length_append, nbits_length]
    unfold stepE at h
    split at h
    · cases h
    · split at h
      · cases h
      · split at h
        · cases h
        · omega
noncomputable def wrR (s : ByteArray) (n : Int) (ls : List Int) (sy : List Nat) : ByteArray × Int × Int :=
  if chk s n = 0 then (if okC ls then (if errT ls (bl (Bt.bytes s) n.toNat) sy sy.length = 0 then (packS (bitsT ls (bl (Bt.bytes s) n.toNat) sy sy.length), ((bitsT ls (bl (Bt.bytes s) n.toNat) sy sy.length).length : Int), 0) else (s, n, errT ls (bl (Bt.bytes s) n.toNat) sy sy.length)) else (⟨#[]⟩, 0, 7)) else (⟨#[]⟩, 0, 2)
def WrP (w : World) (o : ByteArray × Int × Int) (e : Ending) (w' : World) : Prop := e = .returned (.tuple #[.agg #[.string o.1, .int .i64 o.2.1], .int .i64 o.2.2]) ∧ Below w.heap.size w w'
theorem wrp_mk {w w' : World} {o : ByteArray × Int × Int} {s : ByteArray} {n e : Int} (h : o = (s, n, e)) (hb : Below w.heap.size w w') : WrP w o (.returned (.tuple #[.agg #[.string s, .int .i64 n], .int .i64 e])) w' := by
  subst h; exact ⟨rfl, hb⟩
set_option maxHeartbeats 4000000 in
set_option maxRecDepth 100000 in
theorem rwrite_any (s : ByteArray) (n : Int) (ls : List Int) (sy : List Nat) (p q : Option Addr) (c d : Nat) (w : World) (hs : s.size ≤ maxLen) (hp : Rd w p (zs ls)) (hq : Rd w q (nums sy)) (hl : ls.length ≤ 17592186044416) (hl2 : sy.length ≤ 17592186044416) (hsb : ∀ x ∈ sy, x < 18446744073709551616) :
    Calls Try.prog 20 #[.agg #[.string s, .int .i64 n], .slice p ls.length c, .slice q sy.length d] w (WrP w (wrR s n ls sy)) := by
  have HC := Lib.hid (fun W => rcheck_any s n W hs)
  have HD := Lib.hid (fun W h => rcodes_any ls p c W h hl)
  have P0 := Lib.hid hp; have Q0 := Lib.hid hq; have HSB := Lib.hid hsb
  obtain ⟨m, hm⟩ : ∃ m, m = ls.length := ⟨_, rfl⟩
  obtain ⟨m2, hm2⟩ : ∃ m2, m2 = sy.length := ⟨_, rfl⟩
  rw [← hm] at HD hl ⊢
  rw [← hm2] at hl2 ⊢
  have HM := Lib.hid hm; have HM2 := Lib.hid hm2
  have hbx : Below w.heap.size w ((w.alloc (.cells #[.string s, .int .i64 n] 35)).alloc (.cells #[.string ⟨#[]⟩, .int .i64 0] 35)) := ((Below.refl _ _).alloc (Nat.le_refl _) _).alloc (by simp) _
  have HBX := Lib.hid hbx
  clear hp hq hm hm2 hsb hbx
  rcases chk_cases s n with hc | hc
  case inr =>
    have F : Hid (wrR s n ls sy = (⟨#[]⟩, 0, 2)) := Lib.hid (by unfold wrR; rw [if_neg (by omega)])
    rw [hc] at HC
    clear hc
    go_enter Try.func20, Try.ntmps20
    go_wp2_with fail
    refine (HC.out _).mono ?_
    rintro e w1 ⟨rfl, b1⟩
    have x0 := (box_end b1).1; have x1 := (box_end b1).2
    have c0 := x0.c0; have c1 := x0.c1
    have q0 := x1.c0; have q1 := x1.c1; have p0 := x1.f0; have p1 := x1.f1
    have x2 := x1.set ⟨#[]⟩ 0
    have b2 := HBX.out.trans (b1.mono (by simp; omega))
    have b3 := Lib.hid ((b2.setCell (p := ⟨w.heap.size + 1, 0, none⟩) (Nat.le_succ _) (.string ⟨#[]⟩)).setCell (p := ⟨w.heap.size + 1, 1, none⟩) (Nat.le_succ _) (.int .i64 0))
    have z0 := Lib.hid x2.c0; have z1 := Lib.hid x2.c1
    clear b1 b2 x0 x1 x2
    go_wp2_with fail
    refine bodyPost_ret (v := .tuple #[.agg #[.string ⟨#[]⟩, .int .i64 0], .int .i64 2]) (by simp [results, Try.results20, go_sem, z0.out, z1.out]) rfl ?_
    exact wrp_mk F.out b3.out
  have HC0 := Lib.hid hc
  rw [hc] at HC
  clear hc
  by_cases hok : okC ls
  case neg =>
    have F : Hid (wrR s n ls sy = (⟨#[]⟩, 0, 7)) := Lib.hid (by unfold wrR; rw [if_pos HC0.out, if_neg hok])
    have F2 : Hid (codesR ls = ([], 7)) := Lib.hid (by unfold codesR; rw [if_neg hok])
    rw [F2.out] at HD
    clear hok
    go_enter Try.func20, Try.ntmps20
    go_wp2_with fail
    refine (HC.out _).mono ?_
    rintro e w1 ⟨rfl, b1⟩
    have X1 := Lib.hid (box_end b1).2
    have b2 := HBX.out.trans (b1.mono (by simp; omega))
    have B2 := Lib.hid b2
    clear b1 b2
    go_wp2_with fail
    refine (HD.out _ (P0.out.below B2.out)).mono ?_
    rintro e w2 ⟨q1, c1, rfl, h1, h2, h3⟩
    have x1 := X1.out.below h3
    have q0 := x1.c0; have q1 := x1.c1; have p0 := x1.f0; have p1 := x1.f1
    have x2 := x1.set ⟨#[]⟩ 0
    have b4 := B2.out.trans (h3.mono B2.out.size)
    have b3 := Lib.hid ((b4.setCell (p := ⟨w.heap.size + 1, 0, none⟩) (Nat.le_succ _) (.string ⟨#[]⟩)).setCell (p := ⟨w.heap.size + 1, 1, none⟩) (Nat.le_succ _) (.int .i64 0))
    have z0 := Lib.hid x2.c0; have z1 := Lib.hid x2.c1
    clear h1 h2 h3 x1 x2 b4
    go_wp2_with fail
    refine bodyPost_ret (v := .tuple #[.agg #[.string ⟨#[]⟩, .int .i64 0], .int .i64 7]) (by simp [results, Try.results20, go_sem, z0.out, z1.out]) rfl ?_
    exact wrp_mk F.out b3.out
  have OK := Lib.hid hok
  have F2 : Hid (codesR ls = (codes ls, 0)) := Lib.hid (by unfold codesR; rw [if_pos hok])
  rw [F2.out] at HD
  have hrt := rt_of hok
  have RT := Lib.hid hrt
  have hm512 : m ≤ 512 := by rw [HM.out]; exact hrt.few
  clear hok hrt hl
  go_enter Try.func20, Try.ntmps20
  go_wp2_with fail
  refine (HC.out _).mono ?_
  rintro e w1 ⟨rfl, b1⟩
  have X0 := Lib.hid (box_end b1).1
  have X1 := Lib.hid (box_end b1).2
  have B2 := Lib.hid (HBX.out.trans (b1.mono (by simp; omega)))
  clear b1
  go_wp2_with fail
  refine (HD.out _ (P0.out.below B2.out)).mono ?_
  rintro e w2 ⟨q1, c1, rfl, h1, h2, h3⟩
  have hcl : (codes ls).length = m := by rw [codes_length, HM.out]
  have CL := Lib.hid hcl
  simp only [hcl] at h1 ⊢
  have Y0 := Lib.hid (X0.out.below h3)
  have Y1 := Lib.hid (X1.out.below h3)
  have B3 := Lib.hid (B2.out.trans (h3.mono B2.out.size))
  have R2 := Lib.hid h2
  have c0 := Y0.out.c0; have c1' := Y0.out.c1
  clear h1 h2 h3 X0 X1 B2 HC HD hcl
  go_wp2_with fail
  obtain ⟨X, hX⟩ : ∃ X, X = bl (Bt.bytes s) n.toNat := ⟨_, rfl⟩
  have hR := chk_zero HC0.out
  have hXl : X.length = n.toNat := by rw [hX, bl_length]
  have hXb : X.length ≤ 1048576 := by rw [hXl]; have := hR.2.1; omega
  have hnn : (X.length : Int) = n := by rw [hXl]; have := hR.1; omega
  have HXS : Hid (s = packS (bitsT ls X sy 0) ∧ n = ((bitsT ls X sy 0).length : Nat)) := Lib.hid (by rw [bitsT_zero]; exact ⟨by rw [hX, pack_self HC0.out], hnn.symm⟩)
  have HXB := Lib.hid hXb
  have HXE := Lib.hid hX
  obtain ⟨w3, hw3⟩ : ∃ w3, w3 = w2.alloc (.cells #[.string s, .int .i64 n] 35) := ⟨_, rfl⟩
  obtain ⟨gx, hgx⟩ : ∃ gx, gx = w2.heap.size := ⟨_, rfl⟩
  have N3 : Hid (Box w3 gx (packS (bitsT ls X sy 0)) (((bitsT ls X sy 0).length : Nat) : Int)) := Lib.hid (by rw [← HXS.out.1, ← HXS.out.2, hw3, hgx]; exact Box.new w2 s n)
  have L3 : Hid (Below gx w2 w3) := Lib.hid (by rw [hw3, hgx]; exact (Below.refl _ w2).alloc (Nat.le_refl _) _)
  have SZ3 : Hid (gx < w3.heap.size) := Lib.hid (by rw [hw3, hgx]; simp)
  rw [← hw3]
  have HGX := Lib.hid hgx
  have GX0 : Hid (w.heap.size + 1 < gx) := Lib.hid (by rw [hgx]; exact Y1.out.lt)
  rw [← hgx]
  clear hX hR hXl hXb hnn hw3 hgx c0 c1'
  go_loopw [31] (fun iv wr => ∃ k : Nat, k ≤ m2 ∧ iv = .int .i64 k ∧ Hid (errT ls X sy k = 0) ∧ Hid (Box wr gx (packS (bitsT ls X sy k)) (((bitsT ls X sy k).length : Nat) : Int)) ∧ Hid (Below gx w2 wr)) (fun iv _ => m2 - (RowKit.intOf iv).toNat)
  case atStart => exact ⟨0, by omega, rfl, Lib.hid rfl, N3, L3⟩
  case round =>
    clear N3 L3 SZ3
    obtain ⟨k, hk, rfl, he, hx, hb⟩ := hrel
    have B4 : Hid (Below w.heap.size w wr) := Lib.hid (B3.out.trans (hb.out.mono (by have := GX0.out; omega)))
    have P1 : Hid (Rd wr p (zs ls)) := Lib.hid (P0.out.below B4.out)
    have Q1 : Hid (Rd wr q (nums sy)) := Lib.hid (Q0.out.below B4.out)
    have C1 : Hid (Rd wr q1 (nums (codes ls))) := Lib.hid (R2.out.below (by rw [← HGX.out]; exact hb.out))
    have Z0 : Hid (Box wr w.heap.size s n) := Lib.hid (Y0.out.below (by rw [← HGX.out]; exact hb.out))
    have Z1 : Hid (Box wr (w.heap.size + 1) ⟨#[]⟩ 0) := Lib.hid (Y1.out.below (by rw [← HGX.out]; exact hb.out))
    by_cases hlt : k < m2
    · obtain ⟨b2, rfl, cs⟩ := rd_num Q1.out k (by rw [← HM2.out]; exact hlt)
      have k0 : (0 : Int) ≤ (k : Int) := by omega
      have k1 : (k : Int) < (m2 : Int) := by omega
      have hkl : k < sy.length := by rw [← HM2.out]; exact hlt
      obtain ⟨x, hxx⟩ : ∃ x, x = sy.getD k 0 := ⟨_, rfl⟩
      have hxb : x < 18446744073709551616 := by rw [hxx, gd hkl]; exact HSB.out _ (List.getElem_mem _)
      rw [← hxx] at cs
      have hnx := errT_next he.out
      have hbs := bitsT_succ ls X sy hkl
      rw [← hxx] at hnx hbs
      have stop : ∀ e, stepE ls (bitsT ls X sy k).length x = e → e ≠ 0 → wrR s n ls sy = (s, n, e) := fun e h1 h2 => by
        have h3 := errT_stop he.out (by rw [← hxx]; exact h1) h2 hkl
        unfold wrR
        rw [if_pos HC0.out, if_pos OK.out, ← HXE.out, h3, if_neg h2]
      have ST := Lib.hid stop; have NXT := Lib.hid hnx; have BS := Lib.hid hbs
      have e0 : IntKind.u64.wrap (m : Int) = (m : Int) := IntWalk.u64_in _ (by omega)
      clear hxx hnx hbs stop
      have z0 := Z0.out.c0; have z1 := Z0.out.c1
      have y0 := Z1.out.c0; have y1 := Z1.out.c1; have f0 := Z1.out.f0; have f1 := Z1.out.f1
      have T6 := Z1.out.set s n
      have t0 := Lib.hid T6.c0; have t1 := Lib.hid T6.c1
      have BB := Lib.hid ((B4.out.setCell (p := ⟨w.heap.size + 1, 0, none⟩) (Nat.le_succ _) (.string s)).setCell (p := ⟨w.heap.size + 1, 1, none⟩) (Nat.le_succ _) (.int .i64 n))
      clear T6
      by_cases g1 : m ≤ x
      · have e1 : decide ((m : Int) ≤ (x : Int)) = true := decide_eq_true (by omega)
        have e2 : decide (m ≤ x) = true := decide_eq_true g1
        have F : Hid (wrR s n ls sy = (s, n, 1)) := Lib.hid (ST.out 1 (by unfold stepE; rw [if_pos (by rw [← HM.out]; exact g1)]) (by decide))
        clear g1
        go_wp2_with fail
        refine bodyPost_ret (v := .tuple #[.agg #[.string s, .int .i64 n], .int .i64 1]) (by simp [results, Try.results20, go_sem, t0.out, t1.out]) rfl ?_
        exact wrp_mk F.out BB.out
      · have e1 : decide ((m : Int) ≤ (x : Int)) = false := decide_eq_false (by omega)
        have e2 : decide (m ≤ x) = false := decide_eq_false g1
        obtain ⟨b, rfl, cz⟩ := rd_z P1.out x (by rw [← HM.out]; omega)
        have x0 : (0 : Int) ≤ (x : Int) := by omega
        have x1 : (x : Int) < (m : Int) := by omega
        have hxl : x < ls.length := by rw [← HM.out]; omega
        have hz15 := RT.out.all x hxl
        obtain ⟨z, hz⟩ : ∃ z, z = ls.getD x 0 := ⟨_, rfl⟩
        rw [← hz] at cz hz15
        by_cases g2 : z = 0
        · have e3 : (z == 0) = true := by rw [beq_iff_eq]; exact g2
          have F : Hid (wrR s n ls sy = (s, n, 3)) := Lib.hid (ST.out 3 (by unfold stepE; rw [if_neg (by omega), ← hz, if_pos g2]) (by decide))
          clear g1 g2 hz
          go_wp2_with fail
          refine bodyPost_ret (v := .tuple #[.agg #[.string s, .int .i64 n], .int .i64 3]) (by simp [results, Try.results20, go_sem, t0.out, t1.out]) rfl ?_
          exact wrp_mk F.out BB.out
        · have e3 : (z == 0) = false := by rw [beq_eq_false_iff_ne]; exact g2
          obtain ⟨b3, rfl, cc⟩ := rd_num C1.out x (by rw [CL.out]; omega)
          have hln : ((ln ls x : Nat) : Int) = z := by unfold ln; rw [← hz]; omega
          have hcd : (codes ls).getD x 0 = code ls x := codes_at hxl (by omega)
          have hcl := code_lt hxl (by omega) (by omega) RT.out.room
          rw [hcd] at cc
          have hst : stepE ls (bitsT ls X sy k).length x = if 1048576 < (bitsT ls X sy k).length + ln ls x then 8 else 0 := by
            unfold stepE; rw [if_neg (by omega), ← hz, if_neg g2]
          have HST := Lib.hid hst
          have hlen := errT_len (ls := ls) (sy := sy) HXB.out k (by rw [← HM2.out]; exact hk) he.out
          obtain ⟨Xk, hXk⟩ : ∃ Xk, Xk = bitsT ls X sy k := ⟨_, rfl⟩
          rw [← hXk] at hlen
          have hput := rput_any (packS Xk) (Xk.length : Nat) (code ls x) z
          have hpe : putE (packS Xk) (Xk.length : Nat) (code ls x) z = if 1048576 < Xk.length + ln ls x then 8 else 0 := by
            unfold putE
            have hzt : z.toNat = ln ls x := by omega
            rw [if_neg (by rw [packS_chk hlen]; simp), if_neg (by rw [hzt, Nat.div_eq_of_lt hcl]; omega)]
            by_cases h : 1048576 < Xk.length + ln ls x
            · rw [if_pos h, if_pos (by omega)]
            · rw [if_neg h, if_neg (by omega)]
          have hsm := packS_size hlen
          obtain ⟨cd, hcde⟩ : ∃ cd, cd = code ls x := ⟨_, rfl⟩
          rw [← hcde] at cc hput hpe hcl
          have hcdb : cd < 18446744073709551616 := Nat.lt_of_lt_of_le hcl (Nat.le_trans (Nat.pow_le_pow_right (n := 2) (by decide) (show ln ls x ≤ 15 by omega)) (by decide))
          have hx0 := hx.out.c0; have hx1 := hx.out.c1
          rw [← hXk] at hx0 hx1
          obtain ⟨S, hS⟩ : ∃ S, S = packS Xk := ⟨_, rfl⟩
          obtain ⟨N, hN⟩ : ∃ N : Nat, N = Xk.length := ⟨_, rfl⟩
          rw [← hS] at hx0 hput hpe
          rw [← hN] at hx1 hput hpe
          have HP0 := Lib.hid (fun W => hput W (by unfold maxLen; rw [hS]; omega) hcdb)
          obtain ⟨BBp, hBB⟩ : ∃ BB : World → Prop, BB = fun W => Below wr.heap.size wr W := ⟨_, rfl⟩
          have h0 : BBp wr := by rw [hBB]; exact Below.refl _ _
          have hEE : ∀ W, BBp W → Below wr.heap.size wr W := by rw [hBB]; exact fun W h => h
          have hL : ∀ W W', BBp W → Below W.heap.size W W' → BBp W' := by rw [hBB]; exact fun W W' h hb' => h.trans (hb'.mono h.size)
          have hD : ∀ W, BBp W → BBp W.drew := by rw [hBB]; exact fun W h => h.drew
          have hSt : ∀ W i v, BBp W → BBp (W.setCell ⟨wr.heap.size, i, none⟩ v) := by rw [hBB]; exact fun W i v h => h.setCell (p := ⟨wr.heap.size, i, none⟩) (Nat.le_refl _) v
          have hA : ∀ W o, BBp W → BBp (W.alloc o) := by rw [hBB]; exact fun W o h => h.alloc h.size o
          have hK : ∀ W, BBp W → W.cell? ⟨gx, 0, none⟩ = some (.string S) ∧ W.cell? ⟨gx, 1, none⟩ = some (.int .i64 (N : Int)) ∧ W.cell? (b3.add x) = some (.int .u64 (cd : Int)) ∧ W.cell? (b.add x) = some (.int .i64 z) := by
            rw [hBB]
            intro W h
            have l3 := (C1.out x (by rw [nums_length, CL.out]; omega))
            have l1 := (P1.out x (by rw [zs_length]; exact hxl))
            obtain ⟨a3, e3, l3, _⟩ := l3
            obtain ⟨a1, e1, l1, _⟩ := l1
            cases e3; cases e1
            refine ⟨by rw [h.cell hx.out.lt]; exact hx0, by rw [h.cell hx.out.lt]; exact hx1, by rw [h.cell (by rw [_root_.Go.Proofs.Ytjnehpkkkmicfaa.Rw.add_block]; exact l3)]; exact cc, by rw [h.cell (by rw [_root_.Go.Proofs.Ytjnehpkkkmicfaa.Rw.add_block]; exact l1)]; exact cz⟩
          have H0 := Lib.hid h0; have HEE := Lib.hid hEE; have HL := Lib.hid hL; have HD := Lib.hid hD; have HA := Lib.hid hA; have HK := Lib.hid hK; have HSt := Lib.hid hSt
          have HLN := Lib.hid hln
          have HPE := Lib.hid hpe; have HCDE := Lib.hid hcde; have HXK := Lib.hid hXk; have HS := Lib.hid hS; have HN := Lib.hid hN
          clear hcde hXk g1 hz h0 hEE hL hD hA hK hSt hBB hput hpe hcdb hcl hcd hln hS hN hx0 hx1 hsm hlen hst cc z0 z1 y0 y1 f0 f1
          have hYc : ∀ (W0 w' : World) (B : Nat), BBp W0 → Below B (W0.alloc (.cells #[.string ⟨#[]⟩, .int .i64 0] 35)).drew w' → W0.heap.size < B → Box w' W0.heap.size ⟨#[]⟩ 0 := fun W0 w' B _ hb' hB => box_below ((Box.new W0 ⟨#[]⟩ 0).below ((Below.refl _ _).drew)) hb' hB
          have hNe : ∀ W, BBp W → ¬ gx = W.heap.size ∧ ¬ W.heap.size = gx ∧ ¬ w.heap.size = W.heap.size ∧ ¬ W.heap.size = w.heap.size ∧ ¬ w.heap.size + 1 = W.heap.size ∧ ¬ W.heap.size = w.heap.size + 1 := by
            intro W h
            have h1 := (HEE.out W h).size
            have h2 := hx.out.lt; have h3 := Z1.out.lt; have h4 := Z0.out.lt
            omega
          have hC3 : ∀ W, BBp W → Box W w.heap.size s n ∧ Box W (w.heap.size + 1) ⟨#[]⟩ 0 ∧ Box W gx S (N : Int) := by
            intro W h
            have hb' := HEE.out W h
            exact ⟨Z0.out.below hb', Z1.out.below hb', by rw [HS.out, HN.out, HXK.out]; exact hx.out.below hb'⟩
          have HYc := Lib.hid hYc; have HNe := Lib.hid hNe; have HC3 := Lib.hid hC3
          clear hYc hNe hC3
          by_cases g4 : 1048576 < N + ln ls x
          · have hpe2 : putE S (N : Int) cd z = 8 := by rw [HPE.out, if_pos g4]
            have hps : Bt.putS S (N : Int) cd z = S := by unfold Bt.putS; rw [hpe2]; simp
            have hpn : putN S (N : Int) cd z = (N : Int) := by unfold putN; rw [hpe2]; simp
            rw [hpe2, hps, hpn] at HP0
            have F : Hid (wrR s n ls sy = (s, n, 8)) := Lib.hid (ST.out 8 (by rw [HST.out, ← HXK.out, ← HN.out, if_pos g4]) (by decide))
            clear g4 hpe2 hps hpn
            obtain ⟨TT, hTT⟩ : ∃ TT : World → Prop, TT = fun W => Box W (w.heap.size + 1) s n ∧ Below w.heap.size w W := ⟨_, rfl⟩
            have T0 : Hid (∀ W, BBp W → TT ((W.setCell ⟨w.heap.size + 1, 0, none⟩ (.string s)).setCell ⟨w.heap.size + 1, 1, none⟩ (.int .i64 n))) := Lib.hid (fun W h => by
              rw [hTT]
              refine ⟨(HC3.out W h).2.1.set s n, ?_⟩
              have hb' := B4.out.trans ((HEE.out W h).mono B4.out.size)
              exact (hb'.setCell (p := ⟨w.heap.size + 1, 0, none⟩) (Nat.le_succ _) _).setCell (p := ⟨w.heap.size + 1, 1, none⟩) (Nat.le_succ _) _)
            have TA : Hid (∀ W o, TT W → TT (W.alloc o)) := Lib.hid (fun W o h => by rw [hTT] at h ⊢; exact ⟨h.1.alloc o, h.2.alloc h.2.size o⟩)
            have TB : Hid (∀ W, TT W → Below w.heap.size w W) := Lib.hid (fun W h => by rw [hTT] at h; exact h.2)
            have TR : Hid (∀ (W : World) (tmps : Array Value), TT W → tmps.getD 6 undef = .pointer (some ⟨w.heap.size + 1, 0, none⟩) → tmps.getD 7 undef = .int .i64 8 → (results Try.f20 tmps).run Try.prog W = .ok (.tuple #[.agg #[.string s, .int .i64 n], .int .i64 8]) W) := Lib.hid (fun W tmps h e1 e2 => by
              rw [hTT] at h
              have z0 := h.1.c0; have z1 := h.1.c1
              rw [results_cell_tmp rfl, e1, e2]
              simp [asAddr, go_sem, z0, z1])
            clear hTT
            go_wp2_with fail
            obtain ⟨a0, a1, a2, a3⟩ := HK.out _ H0.out
            obtain ⟨a4, a5, a6, a7⟩ := HK.out _ (HA.out _ (.cells #[.string ⟨#[]⟩, .int .i64 0] 35) H0.out)
            obtain ⟨m1, m2', m3, m4, m5, m6⟩ := HNe.out _ H0.out
            go_region_law (first
              | (go_simp; go_at_call 45; ((with_reducible refine (HP0.out _).mono ?_)); rintro e w' ⟨rfl, hb'⟩
                 have hy := HYc.out _ _ _ (by repeat (first | exact H0.out | assumption | apply HD.out)) hb' (by simp)
                 have hw := HL.out _ _ (by repeat (first | exact H0.out | assumption | apply HD.out | apply HA.out)) hb'
                 have t0 : w'.cell? ⟨wr.heap.size, 0, none⟩ = some (.string ⟨#[]⟩) := hy.c0
                 have t1 : w'.cell? ⟨wr.heap.size, 1, none⟩ = some (.int .i64 0) := hy.c1
                 have t2 : w'.frozen? ⟨wr.heap.size, 0, none⟩ = false := hy.f0
                 have t3 : w'.frozen? ⟨wr.heap.size, 1, none⟩ = false := hy.f1
                 obtain ⟨n1, n2, n3, n4, n5, n6⟩ := HNe.out _ hw
                 obtain ⟨⟨_, b0, b1, _, _⟩, ⟨_, u0, u1, u2, u3⟩, ⟨_, v0, v1, v2, v3⟩⟩ := HC3.out _ hw
                 clear hb')
              | (go_simp; go_at_call 45; ((with_reducible refine (HP0.out _).mono ?_)); rintro e w' ⟨rfl, hb'⟩
                 have hw := HL.out _ _ (by repeat (first | exact H0.out | assumption | apply HD.out | apply HA.out)) hb'
                 obtain ⟨n1, n2, n3, n4, n5, n6⟩ := HNe.out _ hw
                 obtain ⟨⟨_, b0, b1, _, _⟩, ⟨_, u0, u1, u2, u3⟩, ⟨_, v0, v1, v2, v3⟩⟩ := HC3.out _ hw
                 clear hb'))
            all_goals go_wp2_with fail
            all_goals refine bodyPost_ret (v := .tuple #[.agg #[.string s, .int .i64 n], .int .i64 8]) (TR.out _ _ ?_ rfl rfl) rfl (wrp_mk F.out (TB.out _ ?_))
            all_goals first
              | exact T0.out _ (by repeat (first | assumption | apply HA.out | apply HSt.out | apply HD.out))
              | exact TA.out _ _ (T0.out _ (by repeat (first | assumption | apply HA.out | apply HSt.out | apply HD.out)))
          · have hpe2 : putE S (N : Int) cd z = 0 := by rw [HPE.out, if_neg g4]
            have hps : Bt.putS S (N : Int) cd z = packS (bitsT ls X sy (k + 1)) := by
              unfold Bt.putS
              rw [if_pos hpe2, BS.out, ← HXK.out, HS.out, HN.out, Int.toNat_natCast, packS_bits, HCDE.out]
              have hzt : z.toNat = ln ls x := by have := HLN.out; omega
              rw [hzt]
            have hpn : putN S (N : Int) cd z = ((bitsT ls X sy (k + 1)).length : Nat) := by
              unfold putN
              rw [if_pos hpe2, BS.out, ← HXK.out, List.length_append, nbits_length, ← HN.out]; have := HLN.out; omega
            rw [hpe2, hps, hpn] at HP0
            have HE1 : Hid (errT ls X sy (k + 1) = 0) := Lib.hid (by rw [NXT.out, HST.out, ← HXK.out, ← HN.out, if_neg g4])
            obtain ⟨S2, hS2⟩ : ∃ S2, S2 = packS (bitsT ls X sy (k + 1)) := ⟨_, rfl⟩
            obtain ⟨N2, hN2⟩ : ∃ N2 : Nat, N2 = (bitsT ls X sy (k + 1)).length := ⟨_, rfl⟩
            rw [← hS2, ← hN2] at HP0
            obtain ⟨UU, hUU⟩ : ∃ UU : World → Prop, UU = fun W => Box W gx S2 (N2 : Int) ∧ Below gx w2 W := ⟨_, rfl⟩
            have U0 : Hid (∀ W, BBp W → UU ((W.setCell ⟨gx, 0, none⟩ (.string S2)).setCell ⟨gx, 1, none⟩ (.int .i64 (N2 : Int)))) := Lib.hid (fun W h => by
              rw [hUU]
              refine ⟨(HC3.out W h).2.2.set S2 (N2 : Int), ?_⟩
              have hb' := hb.out.trans ((HEE.out W h).mono (Nat.le_of_lt hx.out.lt))
              exact (hb'.setCell (p := ⟨gx, 0, none⟩) (Nat.le_refl _) _).setCell (p := ⟨gx, 1, none⟩) (Nat.le_refl _) _)
            have UA : Hid (∀ W o, UU W → UU (W.alloc o)) := Lib.hid (fun W o h => by rw [hUU] at h ⊢; exact ⟨h.1.alloc o, h.2.alloc (Nat.le_of_lt h.1.lt) o⟩)
            have UB : Hid (∀ W, UU W → Hid (Box W gx (packS (bitsT ls X sy (k + 1))) (((bitsT ls X sy (k + 1)).length : Nat) : Int)) ∧ Hid (Below gx w2 W)) := Lib.hid (fun W h => by
              rw [hUU, hS2, hN2] at h; exact ⟨Lib.hid h.1, Lib.hid h.2⟩)
            clear hUU
            clear hS2 hN2 hpe2 hps hpn g4
            go_wp2_with fail
            obtain ⟨a0, a1, a2, a3⟩ := HK.out _ H0.out
            obtain ⟨a4, a5, a6, a7⟩ := HK.out _ (HA.out _ (.cells #[.string ⟨#[]⟩, .int .i64 0] 35) H0.out)
            obtain ⟨m1, m2', m3, m4, m5, m6⟩ := HNe.out _ H0.out
            go_region_law (first
              | (go_simp; go_at_call 45; ((with_reducible refine (HP0.out _).mono ?_)); rintro e w' ⟨rfl, hb'⟩
                 have hy := HYc.out _ _ _ (by repeat (first | exact H0.out | assumption | apply HD.out)) hb' (by simp)
                 have hw := HL.out _ _ (by repeat (first | exact H0.out | assumption | apply HD.out | apply HA.out)) hb'
                 have t0 : w'.cell? ⟨wr.heap.size, 0, none⟩ = some (.string ⟨#[]⟩) := hy.c0
                 have t1 : w'.cell? ⟨wr.heap.size, 1, none⟩ = some (.int .i64 0) := hy.c1
                 have t2 : w'.frozen? ⟨wr.heap.size, 0, none⟩ = false := hy.f0
                 have t3 : w'.frozen? ⟨wr.heap.size, 1, none⟩ = false := hy.f1
                 obtain ⟨n1, n2, n3, n4, n5, n6⟩ := HNe.out _ hw
                 obtain ⟨⟨_, b0, b1, _, _⟩, ⟨_, u0, u1, u2, u3⟩, ⟨_, v0, v1, v2, v3⟩⟩ := HC3.out _ hw
                 clear hb')
              | (go_simp; go_at_call 45; ((with_reducible refine (HP0.out _).mono ?_)); rintro e w' ⟨rfl, hb'⟩
                 have hw := HL.out _ _ (by repeat (first | exact H0.out | assumption | apply HD.out | apply HA.out)) hb'
                 obtain ⟨n1, n2, n3, n4, n5, n6⟩ := HNe.out _ hw
                 obtain ⟨⟨_, b0, b1, _, _⟩, ⟨_, u0, u1, u2, u3⟩, ⟨_, v0, v1, v2, v3⟩⟩ := HC3.out _ hw
                 clear hb'))
            all_goals go_wp2_with fail
            all_goals go_roundw
            all_goals first
              | (refine ⟨k + 1, by omega, by go_num, HE1, UB.out _ ?_⟩
                 first
                   | exact U0.out _ (by repeat (first | assumption | apply HA.out | apply HSt.out | apply HD.out))
                   | exact UA.out _ _ (U0.out _ (by repeat (first | assumption | apply HA.out | apply HSt.out | apply HD.out))))
              | (simp [RowKit.intOf]; omega)
    · obtain rfl : k = m2 := by omega
      have k1 : ¬ (k : Int) < (k : Int) := by omega
      have F : Hid (wrR s n ls sy = (packS (bitsT ls X sy k), (((bitsT ls X sy k).length : Nat) : Int), 0)) := Lib.hid (by
        unfold wrR
        rw [if_pos HC0.out, if_pos OK.out, ← HXE.out, ← HM2.out, he.out, if_pos rfl])
      have hx0 := hx.out.c0; have hx1 := hx.out.c1
      obtain ⟨S, hS⟩ : ∃ S, S = packS (bitsT ls X sy k) := ⟨_, rfl⟩
      obtain ⟨N, hN⟩ : ∃ N : Nat, N = (bitsT ls X sy k).length := ⟨_, rfl⟩
      rw [← hS] at hx0 F
      rw [← hN] at hx1 F
      have y0 := Z1.out.c0; have y1 := Z1.out.c1; have f0 := Z1.out.f0; have f1 := Z1.out.f1
      have T6 := Z1.out.set S (N : Int)
      have t0 := Lib.hid T6.c0; have t1 := Lib.hid T6.c1
      have BB := Lib.hid ((B4.out.setCell (p := ⟨w.heap.size + 1, 0, none⟩) (Nat.le_succ _) (.string S)).setCell (p := ⟨w.heap.size + 1, 1, none⟩) (Nat.le_succ _) (.int .i64 (N : Int)))
      clear T6 hS hN
      go_wp2_with fail
      refine bodyPost_ret (v := .tuple #[.agg #[.string S, .int .i64 (N : Int)], .int .i64 0]) (by simp [results, Try.results20, go_sem, t0.out, t1.out]) rfl ?_
      exact wrp_mk F.out BB.out
end Go.Proofs.Ytjnehpkkkmicfaa.Cn
namespace Go.Proofs.Ytjnehpkkkmicfaa.Cn
open Go.RowKit Go.Lib Rw Ls Od _root_.Go.Proofs.Ytjnehpkkkmicfaa.Nm Pk Bt

def rdR (s : ByteArray) (n z : Int) (ls : List Int) : Nat × Int × Int :=
  if chk s n = 0 then (if okC ls then (if z < 0 ∨ n < z then (0, 0, 1) else ((rdGo ls (bl (Bt.bytes s) n.toNat) z.toNat 17 0 0).1, ((rdGo ls (bl (Bt.bytes s) n.toNat) z.toNat 17 0 0).2.1 : Int), (rdGo ls (bl (Bt.bytes s) n.toNat) z.toNat 17 0 0).2.2)) else (0, 0, 7)) else (0, 0, 2)
def RdP (w : World) (o : Nat × Int × Int) (e : Ending) (w' : World) : Prop := e = .returned (.tuple #[.int .u64 (o.1 : Int), .int .i64 o.2.1, .int .i64 o.2.2]) ∧ Below w.heap.size w w'
theorem rdp_mk {w w' : World} {o : Nat × Int × Int} {a : Nat} {b c : Int} (h : o = (a, b, c)) (hb : Below w.heap.size w w') : RdP w o (.returned (.tuple #[.int .u64 (a : Int), .int .i64 b, .int .i64 c])) w' := by
  subst h; exact ⟨rfl, hb⟩
/-- one round -/
theorem rdGo_hit {ls : List Int} {X : List Bool} {p f l cd i : Nat} (h0 : 0 < l) (h : fnd ls cd (l : Int) = some i) : rdGo ls X p (f + 1) l cd = (i, p + l, 0) := by
  unfold rdGo; simp only [if_pos h0, h]
theorem rdGo_go {ls : List Int} {X : List Bool} {p f l cd : Nat} (h : l = 0 ∨ fnd ls cd (l : Int) = none) : rdGo ls X p (f + 1) l cd = if beg ls cd l = false then (0, 0, 7) else if X.length ≤ p + l then (0, 0, 5) else rdGo ls X p f (l + 1) (2 * cd + (X.getD (p + l) false).toNat) := by
  rw [rdGo]
  rcases h with rfl | h
  · rfl
  · have : (if 0 < l then fnd ls cd (l : Int) else none) = none := by rw [h]; split <;> rfl
    rw [this]
set_option maxHeartbeats 4000000 in
set_option maxRecDepth 100000 in
theorem rread_any (s : ByteArray) (n z : Int) (ls : List Int) (p : Option Addr) (c : Nat) (w : World) (hs : s.size ≤ maxLen) (hp : Rd w p (zs ls)) (hl : ls.length ≤ 17592186044416) :
    Calls Try.prog 22 #[.agg #[.string s, .int .i64 n], .int .i64 z, .slice p ls.length c] w (RdP w (rdR s n z ls)) := by
  have HC := Lib.hid (fun W => rcheck_any s n W hs)
  have HD := Lib.hid (fun W h => rcodes_any ls p c W h hl)
  have HF := Lib.hid (fun cd l W h => rfindc_any ls cd l p c W h hl)
  have P0 := Lib.hid hp
  obtain ⟨m, hm⟩ : ∃ m, m = ls.length := ⟨_, rfl⟩
  rw [← hm] at HD HF hl ⊢
  have HM := Lib.hid hm
  have HBX : Hid (Below w.heap.size w (w.alloc (.cells #[.string s, .int .i64 n] 35))) := Lib.hid ((Below.refl _ _).alloc (Nat.le_refl _) _)
  have HNB : Hid (Box (w.alloc (.cells #[.string s, .int .i64 n] 35)) w.heap.size s n) := Lib.hid (Box.new w s n)
  clear hp hm
  rcases chk_cases s n with hc | hc
  case inr =>
    have F : Hid (rdR s n z ls = (0, 0, 2)) := Lib.hid (by unfold rdR; rw [if_neg (by omega)])
    rw [hc] at HC
    clear hc
    go_enter Try.func22, Try.ntmps22
    go_wp2_with fail
    refine (HC.out _).mono ?_
    rintro e w1 ⟨rfl, b1⟩
    have B1 := Lib.hid (HBX.out.trans (b1.mono HBX.out.size))
    clear b1
    go_wp2_with fail
    refine bodyPost_ret (v := .tuple #[.int .u64 0, .int .i64 0, .int .i64 2]) (by simp [results, Try.results22, go_sem]) rfl ?_
    exact rdp_mk F.out B1.out
  have HC0 := Lib.hid hc
  rw [hc] at HC
  clear hc
  by_cases hok : okC ls
  case neg =>
    have F : Hid (rdR s n z ls = (0, 0, 7)) := Lib.hid (by unfold rdR; rw [if_pos HC0.out, if_neg hok])
    have F2 : Hid (codesR ls = ([], 7)) := Lib.hid (by unfold codesR; rw [if_neg hok])
    rw [F2.out] at HD
    clear hok
    go_enter Try.func22, Try.ntmps22
    go_wp2_with fail
    refine (HC.out _).mono ?_
    rintro e w1 ⟨rfl, b1⟩
    have B1 := Lib.hid (HBX.out.trans (b1.mono HBX.out.size))
    clear b1
    go_wp2_with fail
    refine (HD.out _ (P0.out.below B1.out)).mono ?_
    rintro e w2 ⟨q1, c1, rfl, h1, h2, h3⟩
    have B2 := Lib.hid (B1.out.trans (h3.mono B1.out.size))
    clear h1 h2 h3
    go_wp2_with fail
    refine bodyPost_ret (v := .tuple #[.int .u64 0, .int .i64 0, .int .i64 7]) (by simp [results, Try.results22, go_sem]) rfl ?_
    exact rdp_mk F.out B2.out
  have OK := Lib.hid hok
  have F2 : Hid (codesR ls = (codes ls, 0)) := Lib.hid (by unfold codesR; rw [if_pos hok])
  rw [F2.out] at HD
  have hrt := rt_of hok
  have RT := Lib.hid hrt
  have hm512 : m ≤ 512 := by rw [HM.out]; exact hrt.few
  have hR := chk_zero HC0.out
  have hn0 : 0 ≤ n ∧ n ≤ 1048576 := ⟨hR.1, hR.2.1⟩
  have hsz : n ≤ 8 * s.size := by have := hR.2.2.1; have e : (Bt.bytes s).length = s.size := by unfold Bt.bytes; rw [← Lib.size_eq]
                                  omega
  have hss := size_small hR
  obtain ⟨N, rfl⟩ := Int.eq_ofNat_of_zero_le hn0.1
  have HGB := Lib.hid (fun W q d cd l h1 h2 (h3 : l ≤ 100) => rbegins_any ls cd l p q c d W h1 h2 (by rw [← HM.out]; exact hl) h3 (fun i hi => (hrt.all i hi).2) (fun i => by
    rcases Nat.lt_or_ge i ls.length with hi | hi
    · by_cases h0 : 0 < ln ls i
      · rw [codes_at hi h0]
        have h15 := hrt.ln15 hi
        exact Nat.lt_of_lt_of_le (code_lt hi h0 h15 hrt.room) (Nat.le_trans (Nat.pow_le_pow_right (n := 2) (by decide) h15) (by decide))
      · have : (codes ls).getD i 0 = 0 := by simp [codes, List.getD_eq_getElem?_getD, hi, h0]
        rw [this]; decide
    · have : (codes ls).getD i 0 = 0 := by rw [List.getD_eq_getElem?_getD, List.getElem?_eq_none (by rw [codes_length]; exact hi)]; rfl
      rw [this]; decide))
  rw [← HM.out] at HGB
  clear hok hrt hl
  go_enter Try.func22, Try.ntmps22
  go_wp2_with fail
  refine (HC.out _).mono ?_
  rintro e w1 ⟨rfl, b1⟩
  have B1 := Lib.hid (HBX.out.trans (b1.mono HBX.out.size))
  have X1 := Lib.hid (HNB.out.below b1)
  clear b1
  go_wp2_with fail
  refine (HD.out _ (P0.out.below B1.out)).mono ?_
  rintro e w2 ⟨q1, c1, rfl, h1, h2, h3⟩
  have hcl : (codes ls).length = m := by rw [codes_length, HM.out]
  have CL := Lib.hid hcl
  simp only [hcl] at h1 ⊢
  have B2 := Lib.hid (B1.out.trans (h3.mono B1.out.size))
  have X2 := Lib.hid (X1.out.below h3)
  have R2 := Lib.hid h2
  clear h1 h2 h3 hcl HC HD X1
  have c0 := X2.out.c0; have c1' := X2.out.c1
  by_cases hz : z < 0 ∨ (N : Int) < z
  · have F : Hid (rdR s N z ls = (0, 0, 1)) := Lib.hid (by unfold rdR; rw [if_pos HC0.out, if_pos OK.out, if_pos hz])
    by_cases h1 : z < 0
    · have e1 : decide (z < 0) = true := decide_eq_true h1
      clear hz h1
      go_wp2_with fail
      refine bodyPost_ret (v := .tuple #[.int .u64 0, .int .i64 0, .int .i64 1]) (by simp [results, Try.results22, go_sem]) rfl ?_
      exact rdp_mk F.out B2.out
    · have e1 : decide (z < 0) = false := decide_eq_false h1
      have e2 : decide ((N : Int) < z) = true := decide_eq_true (by omega)
      clear hz h1
      go_wp2_with fail
      refine bodyPost_ret (v := .tuple #[.int .u64 0, .int .i64 0, .int .i64 1]) (by simp [results, Try.results22, go_sem]) rfl ?_
      exact rdp_mk F.out B2.out
  · obtain ⟨a, rfl⟩ := Int.eq_ofNat_of_zero_le (show 0 ≤ z by omega)
    have e1 : decide ((a : Int) < 0) = false := decide_eq_false (by omega)
    have e2 : decide ((N : Int) < (a : Int)) = false := decide_eq_false (by omega)
    have e3 : decide (N < a) = false := decide_eq_false (by omega)
    have haN : a ≤ N := by omega
    obtain ⟨X, hX⟩ : ∃ X, X = bl (Bt.bytes s) N := ⟨_, rfl⟩
    have hXl : X.length = N := by rw [hX, bl_length]
    have hXg : ∀ i, i < N → X.getD i false = bitAt (Bt.bytes s) i := fun i hi => by rw [hX, bl_getD, if_pos hi]
    have F : Hid (∀ r : Nat × Nat × Int, rdGo ls X a 17 0 0 = r → rdR s N a ls = (r.1, (r.2.1 : Int), r.2.2)) := Lib.hid (fun r h => by
      unfold rdR
      rw [if_pos HC0.out, if_pos OK.out, if_neg hz]
      simp only [Int.toNat_natCast]
      rw [← hX, h])
    have HXL := Lib.hid hXl; have HXG := Lib.hid hXg
    have HIS := Lib.hid (fun i h1 h2 W => is_any s N i h1 h2 (by omega) W)
    clear hz hX hXl hXg hR
    go_wp2_with fail
    go_loopw [11, 12] (fun cv lv wr => ∃ (l cd : Nat), l ≤ 15 ∧ cd < 2 ^ l ∧ lv = .int .i64 l ∧ cv = .int .u64 cd ∧ Hid (rdGo ls X a (17 - l) l cd = rdGo ls X a 17 0 0) ∧ Hid (Below w2.heap.size w2 wr)) (fun _ lv _ => 16 - (RowKit.intOf lv).toNat)
    case atStart => exact ⟨0, 0, by omega, by omega, rfl, rfl, Lib.hid rfl, Lib.hid (Below.refl _ _)⟩
    case round =>
      obtain ⟨l, cd, hl15, hcdl, rfl, rfl, hgo, hb⟩ := hrel
      have B4 := Lib.hid (B2.out.trans (hb.out.mono B2.out.size))
      have P1 : Hid (Rd wr p (zs ls)) := Lib.hid (P0.out.below B4.out)
      have hgo2 := hgo.out
      rw [show 17 - l = (16 - l) + 1 by omega] at hgo2
      have GO := Lib.hid hgo2
      clear hgo hgo2
      by_cases h0 : l = 0
      · subst h0
        obtain rfl : cd = 0 := by have : cd < 1 := hcdl; omega
        have GO2 : Hid ((if beg ls 0 0 = false then (0, 0, 7) else if N ≤ a then (0, 0, 5) else rdGo ls X a 16 1 (bitAt (Bt.bytes s) a).toNat) = rdGo ls X a 17 0 0 ∨ ¬ a < N ∧ (if beg ls 0 0 = false then (0, 0, 7) else (0, 0, 5)) = rdGo ls X a 17 0 0) := Lib.hid (by
          rcases Nat.lt_or_ge a N with h | h
          · left
            have := rdGo_go (ls := ls) (X := X) (p := a) (f := 16) (l := 0) (cd := 0) (.inl rfl)
            rw [this, HXL.out, Nat.add_zero, HXG.out a h]
            simp
          · right
            refine ⟨by omega, ?_⟩
            have := rdGo_go (ls := ls) (X := X) (p := a) (f := 16) (l := 0) (cd := 0) (.inl rfl)
            rw [this, HXL.out, Nat.add_zero, if_pos h])
        clear GO
        have P5 := P1
        have C5 : Hid (Rd wr q1 (nums (codes ls))) := Lib.hid (R2.out.below hb.out)
        have B5 := B4; have B6 := hb
        have X5 := X2.out.below hb.out
        have d0 := X5.c0; have d1 := X5.c1
        clear X5
        by_cases hbg : beg ls 0 0 = false
        · have FF : Hid (rdR s N a ls = (0, 0, 7)) := Lib.hid (F.out (0, 0, 7) (by
            rcases GO2.out with h | ⟨_, h⟩
            · rw [← h, if_pos hbg]
            · rw [← h, if_pos hbg]))
          have HG2 : Hid (∀ W, Rd W p (zs ls) → Rd W q1 (nums (codes ls)) → Calls Try.prog 48 #[.slice p m c, .slice q1 m c1, .int .u64 0, .int .i64 0] W fun e w' => e = .returned (.bool false) ∧ w' = W) := Lib.hid (fun W h1 h2 => by have := HGB.out W q1 c1 0 0 h1 h2 (by omega); rw [hbg] at this; exact this)
          clear hbg
          go_wp2_with fail
          refine (HG2.out _ P5.out C5.out).mono ?_
          rintro e w6 ⟨rfl, hw⟩
          subst hw
          go_wp2_with fail
          refine bodyPost_ret (v := .tuple #[.int .u64 0, .int .i64 0, .int .i64 7]) (by simp [results, Try.results22, go_sem]) rfl ?_
          exact rdp_mk FF.out B5.out
        · have HG2 : Hid (∀ W, Rd W p (zs ls) → Rd W q1 (nums (codes ls)) → Calls Try.prog 48 #[.slice p m c, .slice q1 m c1, .int .u64 0, .int .i64 0] W fun e w' => e = .returned (.bool true) ∧ w' = W) := Lib.hid (fun W h1 h2 => by have := HGB.out W q1 c1 0 0 h1 h2 (by omega); rw [Bool.not_eq_false] at hbg; rw [hbg] at this; exact this)
          by_cases htn : N ≤ a
          · have f1 : decide ((N : Int) ≤ (a : Int)) = true := decide_eq_true (by omega)
            have f2 : decide (N ≤ a) = true := decide_eq_true htn
            have FF : Hid (rdR s N a ls = (0, 0, 5)) := Lib.hid (F.out (0, 0, 5) (by
              rcases GO2.out with h | ⟨_, h⟩
              · rw [← h, if_neg hbg, if_pos htn]
              · rw [← h, if_neg hbg]))
            clear htn hbg
            go_wp2_with fail
            refine (HG2.out _ P5.out C5.out).mono ?_
            rintro e w6 ⟨rfl, hw⟩
            subst hw
            go_wp2_with fail
            refine bodyPost_ret (v := .tuple #[.int .u64 0, .int .i64 0, .int .i64 5]) (by simp [results, Try.results22, go_sem]) rfl ?_
            exact rdp_mk FF.out B5.out
          · have f1 : decide ((N : Int) ≤ (a : Int)) = false := decide_eq_false (by omega)
            have f2 : decide (N ≤ a) = false := decide_eq_false htn
            have GO3 : rdGo ls X a 16 1 (bitAt (Bt.bytes s) a).toNat = rdGo ls X a 17 0 0 := by
              rcases GO2.out with h | ⟨h, _⟩
              · rw [← h, if_neg hbg, if_neg htn]
              · omega
            have HIx := Lib.hid (fun W => HIS.out (a : Int) (by omega) (by omega) W)
            simp only [Int.toNat_natCast] at HIx
            clear hbg
            cases hbit : bitAt (Bt.bytes s) a with
            | true =>
              rw [hbit] at GO3 HIx
              have GO4 := Lib.hid GO3
              clear hbit GO3 htn
              go_wp2_with fail
              refine (HG2.out _ P5.out C5.out).mono ?_
              rintro e w6 ⟨rfl, hw⟩
              subst hw
              go_wp2_with fail
              refine (HIx.out _).mono ?_
              rintro e w7 ⟨rfl, hb7⟩
              have B7 := Lib.hid (B6.out.trans (hb7.mono B6.out.size))
              clear hb7
              go_wp2_with fail
              go_roundw
              case rel => exact ⟨1, 1, by omega, by omega, by first | rfl | go_num, by first | rfl | go_num, GO4, B7⟩
              case measure => simp [RowKit.intOf]
            | false =>
              rw [hbit] at GO3 HIx
              have GO4 := Lib.hid GO3
              clear hbit GO3 htn
              go_wp2_with fail
              refine (HG2.out _ P5.out C5.out).mono ?_
              rintro e w6 ⟨rfl, hw⟩
              subst hw
              go_wp2_with fail
              refine (HIx.out _).mono ?_
              rintro e w7 ⟨rfl, hb7⟩
              have B7 := Lib.hid (B6.out.trans (hb7.mono B6.out.size))
              clear hb7
              go_wp2_with fail
              go_roundw
              case rel => exact ⟨1, 0, by omega, by omega, by first | rfl | go_num, by first | rfl | go_num, GO4, B7⟩
              case measure => simp [RowKit.intOf]
      · have e5 : decide ((0 : Int) < (l : Int)) = true := decide_eq_true (by omega)
        have e6 : decide (0 < l) = true := decide_eq_true (by omega)
        have HF2 := Lib.hid (fun W h => HF.out cd (l : Int) W h)
        cases hf : fnd ls cd (l : Int) with
        | some i =>
          rw [find_some OK.out hf] at HF2
          have hil := (fnd_some hf).1
          obtain ⟨t, ht⟩ : ∃ t, t = a + l := ⟨_, rfl⟩
          have FF : Hid (rdR s N a ls = (i, (t : Int), 0)) := Lib.hid (F.out (i, t, 0) (by rw [← GO.out, rdGo_hit (by omega) hf, ht]))
          have v1 : (a : Int) + (l : Int) = (t : Int) := by omega
          have v2 : IntKind.i64.wrap (t : Int) = (t : Int) := IntWalk.i64_in _ (by omega)
          have v3 : IntKind.u64.wrap (i : Int) = (i : Int) := IntWalk.u64_in _ (by have := HM.out; omega)
          clear hf h0 ht GO hil
          go_wp2_with fail
          refine (HF2.out _ P1.out).mono ?_
          rintro e w5 ⟨rfl, hb5⟩
          have B5 := Lib.hid (B4.out.trans (hb5.mono B4.out.size))
          clear hb5
          go_wp2_with fail
          refine bodyPost_ret (v := .tuple #[.int .u64 (i : Int), .int .i64 (t : Int), .int .i64 0]) (by simp [results, Try.results22, go_sem]) rfl ?_
          exact rdp_mk FF.out B5.out
        | none =>
          rw [find_none OK.out hf] at HF2
          have GO2 : Hid ((if beg ls cd l = false then (0, 0, 7) else if X.length ≤ a + l then (0, 0, 5) else rdGo ls X a (16 - l) (l + 1) (2 * cd + (X.getD (a + l) false).toNat)) = rdGo ls X a 17 0 0) := Lib.hid (by rw [← GO.out, rdGo_go (.inr hf)])
          clear hf h0 GO
          go_wp2_with fail
          refine (HF2.out _ P1.out).mono ?_
          rintro e w5 ⟨rfl, hb5⟩
          have B5 := Lib.hid (B4.out.trans (hb5.mono B4.out.size))
          have B6 := Lib.hid (hb.out.trans (hb5.mono hb.out.size))
          have P5 : Hid (Rd w5 p (zs ls)) := Lib.hid (P0.out.below B5.out)
          have C5 : Hid (Rd w5 q1 (nums (codes ls))) := Lib.hid (R2.out.below B6.out)
          have X5 := X2.out.below B6.out
          have d0 := X5.c0; have d1 := X5.c1
          clear X5 hb5

          by_cases hbg : beg ls cd l = false
          · have FF : Hid (rdR s N a ls = (0, 0, 7)) := Lib.hid (F.out (0, 0, 7) (by rw [← GO2.out, if_pos hbg]))
            have HG2 : Hid (∀ W, Rd W p (zs ls) → Rd W q1 (nums (codes ls)) → Calls Try.prog 48 #[.slice p m c, .slice q1 m c1, .int .u64 (cd : Int), .int .i64 (l : Int)] W fun e w' => e = .returned (.bool false) ∧ w' = W) := Lib.hid (fun W h1 h2 => by have := HGB.out W q1 c1 cd l h1 h2 (by omega); rw [hbg] at this; exact this)
            clear hbg
            go_wp2_with fail
            refine (HG2.out _ P5.out C5.out).mono ?_
            rintro e w6 ⟨rfl, hw⟩
            subst hw
            go_wp2_with fail
            refine bodyPost_ret (v := .tuple #[.int .u64 0, .int .i64 0, .int .i64 7]) (by simp [results, Try.results22, go_sem]) rfl ?_
            exact rdp_mk FF.out B5.out
          · have HG2 : Hid (∀ W, Rd W p (zs ls) → Rd W q1 (nums (codes ls)) → Calls Try.prog 48 #[.slice p m c, .slice q1 m c1, .int .u64 (cd : Int), .int .i64 (l : Int)] W fun e w' => e = .returned (.bool true) ∧ w' = W) := Lib.hid (fun W h1 h2 => by have := HGB.out W q1 c1 cd l h1 h2 (by omega); rw [Bool.not_eq_false] at hbg; rw [hbg] at this; exact this)
            have hl14 : l < 15 := by
              rcases Nat.lt_or_ge l 15 with h | h
              · exact h
              · exact absurd (beg_end RT.out h) hbg
            have GO3 := GO2.out
            rw [if_neg hbg] at GO3
            clear hbg
            obtain ⟨t, ht⟩ : ∃ t, t = a + l := ⟨_, rfl⟩
            rw [← ht, HXL.out] at GO3
            have v1 : (a : Int) + (l : Int) = (t : Int) := by omega
            have v2 : IntKind.i64.wrap (t : Int) = (t : Int) := IntWalk.i64_in _ (by omega)
            by_cases htn : N ≤ t
            · have f1 : decide ((N : Int) ≤ (t : Int)) = true := decide_eq_true (by omega)
              have f2 : decide (N ≤ t) = true := decide_eq_true htn
              have FF : Hid (rdR s N a ls = (0, 0, 5)) := Lib.hid (F.out (0, 0, 5) (by rw [← GO3, if_pos htn]))
              clear ht GO3 htn
              go_wp2_with fail
              refine (HG2.out _ P5.out C5.out).mono ?_
              rintro e w6 ⟨rfl, hw⟩
              subst hw
              go_wp2_with fail
              refine bodyPost_ret (v := .tuple #[.int .u64 0, .int .i64 0, .int .i64 5]) (by simp [results, Try.results22, go_sem]) rfl ?_
              exact rdp_mk FF.out B5.out
            · have f1 : decide ((N : Int) ≤ (t : Int)) = false := decide_eq_false (by omega)
              have f2 : decide (N ≤ t) = false := decide_eq_false htn
              have hcd2 : cd < 32768 := Nat.lt_of_lt_of_le hcdl (Nat.pow_le_pow_right (n := 2) (by decide) hl15)
              have hpw : 2 ^ (l + 1) = 2 * 2 ^ l := by rw [Nat.pow_succ, Nat.mul_comm]
              rw [if_neg htn, HXG.out t (by omega), show 16 - l = 17 - (l + 1) by omega] at GO3
              have HIx := Lib.hid (fun W => HIS.out (t : Int) (by omega) (by omega) W)
              simp only [Int.toNat_natCast] at HIx
              obtain ⟨x, hx⟩ : ∃ x, x = 2 * cd := ⟨_, rfl⟩
              have v3 : (cd : Int) * 2 = (x : Int) := by omega
              have v4 : IntKind.u64.wrap (x : Int) = (x : Int) := IntWalk.u64_in _ (by omega)
              have v5 : IntKind.u64.wrap ((x : Int) + 1) = (x : Int) + 1 := IntWalk.u64_in _ (by omega)
              rw [← hx] at GO3
              cases hbit : bitAt (Bt.bytes s) t with
              | true =>
                rw [hbit] at GO3 HIx
                have GO4 := Lib.hid GO3
                have hlt : x + 1 < 2 ^ (l + 1) := by omega
                clear hbit GO3 ht htn hx hpw hcdl
                go_wp2_with fail
                refine (HG2.out _ P5.out C5.out).mono ?_
                rintro e w6 ⟨rfl, hw⟩
                subst hw
                go_wp2_with fail
                refine (HIx.out _).mono ?_
                rintro e w7 ⟨rfl, hb7⟩
                have B7 := Lib.hid (B6.out.trans (hb7.mono B6.out.size))
                clear hb7
                go_wp2_with fail
                go_roundw
                case rel => exact ⟨l + 1, x + 1, by omega, hlt, by go_num, by go_num, GO4, B7⟩
                case measure => simp [RowKit.intOf]; omega
              | false =>
                rw [hbit] at GO3 HIx
                have GO4 := Lib.hid GO3
                have hlt : x < 2 ^ (l + 1) := by omega
                clear hbit GO3 ht htn hx hpw hcdl
                go_wp2_with fail
                refine (HG2.out _ P5.out C5.out).mono ?_
                rintro e w6 ⟨rfl, hw⟩
                subst hw
                go_wp2_with fail
                refine (HIx.out _).mono ?_
                rintro e w7 ⟨rfl, hb7⟩
                have B7 := Lib.hid (B6.out.trans (hb7.mono B6.out.size))
                clear hb7
                go_wp2_with fail
                go_roundw
                case rel => exact ⟨l + 1, x, by omega, hlt, by go_num, rfl, GO4, B7⟩
                case measure => simp [RowKit.intOf]; omega
end Go.Proofs.Ytjnehpkkkmicfaa.Cn

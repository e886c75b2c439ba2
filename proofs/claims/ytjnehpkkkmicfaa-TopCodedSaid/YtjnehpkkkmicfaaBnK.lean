/- CanP CanQ CanR CanS -/
import Derived.Test.YtjnehpkkkmicfaaBnJ
import Derived.Test.YtjnehpkkkmicfaaBlk
import Derived.ChangeKeysEq
import Derived.Laws.StructEq
import Derived.BigRegion
namespace Go.Proofs.Ytjnehpkkkmicfaa.Cn
open Go.RowKit Go.Lib Rw Ls Od _root_.Go.Proofs.Ytjnehpkkkmicfaa.Nm Pk Bt

/-- how many of the first k have length l -/
def cntT (ls : List Int) (l : Nat) : Nat → Nat
  | 0 => 0
  | k + 1 => cntT ls l k + if 0 < ln ls k ∧ ln ls k = l then 1 else 0
theorem cntT_le (ls : List Int) (l : Nat) : ∀ k, cntT ls l k ≤ k
  | 0 => Nat.le_refl _
  | k + 1 => by have := cntT_le ls l k; unfold cntT; split <;> omega
theorem cntT_mono (ls : List Int) (l : Nat) {a : Nat} : ∀ b, a ≤ b → cntT ls l a ≤ cntT ls l b
  | 0, h => by rw [Nat.le_zero.1 h]; exact Nat.le_refl _
  | b + 1, h => by
    rcases Nat.lt_or_ge a (b + 1) with h1 | h1
    · have := cntT_mono ls l (a := a) b (by omega); rw [cntT]; omega
    · have : a = b + 1 := by omega
      subst this; exact Nat.le_refl _
theorem cntT_null (ls : List Int) : ∀ k, cntT ls 0 k = 0
  | 0 => rfl
  | k + 1 => by rw [cntT, cntT_null ls k, if_neg (by omega)]
theorem cntT_in {ls : List Int} {l k : Nat} (h0 : 0 < ln ls k) (hl : ln ls k = l) : cntT ls l (k + 1) = cntT ls l k + 1 := by rw [cntT, if_pos ⟨h0, hl⟩]
theorem cntT_out {ls : List Int} {l k : Nat} (h : ¬ (0 < ln ls k ∧ ln ls k = l)) : cntT ls l (k + 1) = cntT ls l k := by rw [cntT, if_neg h, Nat.add_zero]
/-- the counts of the first k -/
def cntL (ls : List Int) (k : Nat) : List Nat := (List.range 16).map fun l => cntT ls l k
theorem cntL_length (ls : List Int) (k : Nat) : (cntL ls k).length = 16 := by simp [cntL]
theorem cntL_at (ls : List Int) (k : Nat) {l : Nat} (h : l < 16) : (cntL ls k).getD l 0 = cntT ls l k := by simp [cntL, List.getD_eq_getElem?_getD, h]
theorem cntL_zero (ls : List Int) : cntL ls 0 = List.replicate 16 0 := by simp [cntL, cntT, List.map_const']
theorem cntL_same {ls : List Int} {k : Nat} (h : ¬ 0 < ln ls k) : cntL ls (k + 1) = cntL ls k := by
  unfold cntL
  exact List.map_congr_left fun l _ => cntT_out fun h2 => h h2.1
theorem cntL_set {ls : List Int} {k : Nat} (h : 0 < ln ls k) : (cntL ls k).set (ln ls k) (cntT ls (ln ls k) k + 1) = cntL ls (k + 1) := by
  apply List.ext_getElem (by simp [cntL])
  intro j h1 h2
  rw [List.getElem_set]
  simp only [cntL, List.getElem_map, List.getElem_range]
  by_cases e : ln ls k = j
  · subst e; rw [if_pos rfl, cntT_in h rfl]
  · rw [if_neg e, cntT_out (by omega)]
/-- the first code of each length -/
def fs (ls : List Int) : Nat → Nat
  | 0 => 0
  | l + 1 => (fs ls l + cntT ls l ls.length) * 2
def fsT (ls : List Int) (u : Nat) : List Nat := (List.range 16).map fun l => if l ≤ u then fs ls l else 0
theorem fsT_length (ls : List Int) (u : Nat) : (fsT ls u).length = 16 := by simp [fsT]
theorem fsT_at (ls : List Int) (u : Nat) {l : Nat} (h : l < 16) (hu : l ≤ u) : (fsT ls u).getD l 0 = fs ls l := by simp [fsT, List.getD_eq_getElem?_getD, h, hu]
theorem fsT_zero (ls : List Int) : fsT ls 0 = List.replicate 16 0 := by
  unfold fsT
  rw [List.eq_replicate_iff]
  refine ⟨by simp, fun b hb => ?_⟩
  obtain ⟨l, _, e⟩ := List.mem_map.1 hb
  split at e
  · rename_i h; rw [← e, Nat.le_zero.1 h]; rfl
  · exact e.symm
theorem fsT_set (ls : List Int) (u : Nat) : (fsT ls u).set (u + 1) (fs ls (u + 1)) = fsT ls (u + 1) := by
  apply List.ext_getElem (by simp [fsT])
  intro j h1 h2
  rw [List.getElem_set]
  simp only [fsT, List.getElem_map, List.getElem_range]
  by_cases e : u + 1 = j
  · subst e; rw [if_pos rfl, if_pos (Nat.le_refl _)]
  · rw [if_neg e]
    by_cases h : j ≤ u
    · rw [if_pos h, if_pos (by omega)]
    · rw [if_neg h, if_neg (by omega)]
/-- what comes next of each length, when i symbols are done -/
def nxL (ls : List Int) (i : Nat) : List Nat := (List.range 16).map fun l => fs ls l + cntT ls l i
theorem nxL_length (ls : List Int) (i : Nat) : (nxL ls i).length = 16 := by simp [nxL]
theorem nxL_at (ls : List Int) (i : Nat) {l : Nat} (h : l < 16) : (nxL ls i).getD l 0 = fs ls l + cntT ls l i := by simp [nxL, List.getD_eq_getElem?_getD, h]
theorem nxL_zero (ls : List Int) : nxL ls 0 = fsT ls 15 := by
  unfold nxL fsT
  refine List.map_congr_left fun l hl => ?_
  have := List.mem_range.1 hl
  rw [if_pos (by omega)]; rfl
theorem nxL_same {ls : List Int} {k : Nat} (h : ¬ 0 < ln ls k) : nxL ls (k + 1) = nxL ls k := by
  unfold nxL
  exact List.map_congr_left fun l _ => by rw [cntT_out fun h2 => h h2.1]
theorem nxL_set {ls : List Int} {k : Nat} (h : 0 < ln ls k) : (nxL ls k).set (ln ls k) (fs ls (ln ls k) + cntT ls (ln ls k) k + 1) = nxL ls (k + 1) := by
  apply List.ext_getElem (by simp [nxL])
  intro j h1 h2
  rw [List.getElem_set]
  simp only [nxL, List.getElem_map, List.getElem_range]
  by_cases e : ln ls k = j
  · subst e; rw [if_pos rfl, cntT_in h rfl, Nat.add_assoc]
  · rw [if_neg e, cntT_out (by omega)]
/-- the codes of the first i symbols -/
def cdL (ls : List Int) (i : Nat) : List Nat := (List.range ls.length).map fun x => if x < i ∧ 0 < ln ls x then code ls x else 0
theorem cdL_length (ls : List Int) (i : Nat) : (cdL ls i).length = ls.length := by simp [cdL]
theorem cdL_zero (ls : List Int) : cdL ls 0 = List.replicate ls.length 0 := by
  unfold cdL
  have : (List.range ls.length).map (fun x => if x < 0 ∧ 0 < ln ls x then code ls x else 0) = (List.range ls.length).map (fun _ => 0) := List.map_congr_left fun x _ => by rw [if_neg (by omega)]
  rw [this]; simp [List.map_const']
theorem cdL_same {ls : List Int} {i : Nat} (h : ¬ 0 < ln ls i) : cdL ls (i + 1) = cdL ls i := by
  unfold cdL
  refine List.map_congr_left fun x _ => ?_
  by_cases e : x = i
  · subst e; rw [if_neg (by omega), if_neg (by omega)]
  · have : (x < i + 1 ∧ 0 < ln ls x) ↔ (x < i ∧ 0 < ln ls x) := by omega
    simp only [this]
theorem cdL_set {ls : List Int} {i : Nat} (h : 0 < ln ls i) : (cdL ls i).set i (code ls i) = cdL ls (i + 1) := by
  apply List.ext_getElem (by simp [cdL])
  intro j h1 h2
  rw [List.getElem_set]
  simp only [cdL, List.getElem_map, List.getElem_range]
  by_cases e : i = j
  · subst e; rw [if_pos rfl, if_pos ⟨by omega, h⟩]
  · rw [if_neg e]
    have : (j < i + 1 ∧ 0 < ln ls j) ↔ (j < i ∧ 0 < ln ls j) := by omega
    simp only [this]
theorem cdL_end (ls : List Int) : cdL ls ls.length = codes ls := by
  unfold cdL codes
  refine List.map_congr_left fun x hx => ?_
  have h := List.mem_range.1 hx
  have : (x < ls.length ∧ 0 < ln ls x) ↔ 0 < ln ls x := by omega
  simp only [this]
theorem cumS_run {ls : List Int} {l : Nat} (h0 : 0 < l) : ∀ k, k ≤ ls.length → cumS ls l k = cumS ls l 0 + cntT ls l k * 2 ^ (15 - l)
  | 0, _ => by simp [cntT]
  | k + 1, hk => by
    have ih := cumS_run (ls := ls) h0 k (by omega)
    by_cases h : ln ls k = l
    · rw [cumS_next (by omega) h h0, ih, cntT_in (by omega) h, Nat.add_mul, Nat.one_mul]
      unfold tk; rw [h]; omega
    · rw [cumS_same h, ih, cntT_out (by omega)]
theorem fs_cum {ls : List Int} : ∀ l, 0 < l → l ≤ 15 → fs ls l * 2 ^ (15 - l) = cumS ls l 0
  | 0, h, _ => by omega
  | 1, _, _ => by rw [cumS_first]; simp [fs, cntT_null]
  | l + 2, _, h => by
    have ih := fs_cum (ls := ls) (l + 1) (by omega) (by omega)
    rw [cumS_level, cumS_run (by omega) _ (Nat.le_refl _), ← ih, ← Nat.add_mul]
    have e : 15 - (l + 1) = (15 - (l + 2)) + 1 := by omega
    rw [e, fs, Nat.pow_succ, Nat.mul_assoc, Nat.mul_comm 2]
theorem code_fs {ls : List Int} {i : Nat} (hi : i < ls.length) (h0 : 0 < ln ls i) (h15 : ln ls i ≤ 15) : code ls i = fs ls (ln ls i) + cntT ls (ln ls i) i := by
  have hp : 0 < 2 ^ (15 - ln ls i) := Nat.two_pow_pos _
  refine Nat.eq_of_mul_eq_mul_right hp ?_
  rw [code_cum h15, ← cumS_at rfl, cumS_run h0 i (by omega), ← fs_cum _ h0 h15, Nat.add_mul]
theorem cumS_top (ls : List Int) (l k : Nat) : cumS ls l k ≤ tookT ls 15 ls.length := by
  unfold cumS tookT
  refine sum_le' fun x _ => ?_
  by_cases h : dn ls l k x
  · rw [if_pos h, if_pos (ln_pos.1 h.1)]; unfold tk ln; exact Nat.le_refl _
  · rw [if_neg h]; exact Nat.zero_le _
theorem fs_top {ls : List Int} (hr : tookT ls 15 ls.length ≤ 2 ^ 15) {l : Nat} (h0 : 0 < l) (h15 : l ≤ 15) : fs ls l + cntT ls l ls.length ≤ 2 ^ l := by
  have h1 := cumS_top ls l ls.length
  rw [cumS_run h0 _ (Nat.le_refl _), ← fs_cum l h0 h15, ← Nat.add_mul] at h1
  have e : (2 : Nat) ^ 15 = 2 ^ l * 2 ^ (15 - l) := by rw [← Nat.pow_add]; congr 1; omega
  exact Nat.le_of_mul_le_mul_right (Nat.le_trans h1 (e ▸ hr)) (Nat.two_pow_pos _)
theorem fs_small {ls : List Int} (hr : tookT ls 15 ls.length ≤ 2 ^ 15) {l : Nat} (h15 : l ≤ 15) : fs ls l + cntT ls l ls.length ≤ 32768 := by
  rcases Nat.eq_zero_or_pos l with rfl | h0
  · rw [cntT_null]; simp [fs]
  · exact Nat.le_trans (fs_top hr h0 h15) (by have := Nat.pow_le_pow_right (n := 2) (by decide) h15; simpa using this)
/-- there is such a code of a length just if it is among those -/
def hasB (ls : List Int) (cd l : Nat) : Bool := decide (fs ls l ≤ cd) && decide (cd < fs ls l + cntT ls l ls.length)
theorem has_of {ls : List Int} (hr : Rt ls) {cd l i : Nat} (h : fnd ls cd (l : Int) = some i) : fs ls l ≤ cd ∧ cd < fs ls l + cntT ls l ls.length := by
  obtain ⟨hi, h0, hl, hc⟩ := fnd_some h
  have hl2 : ln ls i = l := by unfold ln; rw [hl]; rfl
  have h1 := code_fs hi (ln_pos.2 h0) (hr.ln15 hi)
  rw [hl2, hc] at h1
  have h2 := cntT_in (ls := ls) (l := l) (k := i) (ln_pos.2 h0) hl2
  have h3 := cntT_mono ls l (a := i + 1) ls.length hi
  omega
theorem hit_at {ls : List Int} (hr : Rt ls) {cd l k : Nat} (hk : k < ls.length) (h0 : 0 < l) (hl : ln ls k = l) (hc : cd = fs ls l + cntT ls l k) : fnd ls cd (l : Int) = some k := by
  have h1 := code_fs hk (by omega) (hr.ln15 hk)
  have h2 := fnd_own hr hk (by omega)
  rw [h1, hl, ← hc] at h2
  have : ls.getD k 0 = (l : Int) := by have := hr.all k hk; unfold ln at hl; omega
  rw [this] at h2; exact h2
/-- a count that is reached is reached at a place of that length -/
theorem cnt_reach {ls : List Int} {l c : Nat} : ∀ n, c < cntT ls l n → ∃ k, k < n ∧ 0 < ln ls k ∧ ln ls k = l ∧ cntT ls l k = c
  | 0, h => by simp [cntT] at h
  | n + 1, h => by
    by_cases hn : c < cntT ls l n
    · obtain ⟨k, a, b⟩ := cnt_reach n hn; exact ⟨k, by omega, b⟩
    · rw [cntT] at h
      split at h
      · rename_i h2; exact ⟨n, by omega, h2.1, h2.2, by omega⟩
      · omega
theorem has_some {ls : List Int} (hr : Rt ls) {cd l : Nat} (h1 : fs ls l ≤ cd) (h2 : cd < fs ls l + cntT ls l ls.length) : ∃ i, fnd ls cd (l : Int) = some i := by
  obtain ⟨k, a, b, c, d⟩ := cnt_reach (ls := ls) (l := l) (c := cd - fs ls l) ls.length (by omega)
  exact ⟨k, hit_at hr a (by omega) c (by omega)⟩
theorem has_iff {ls : List Int} (hr : Rt ls) {cd l : Nat} : hasB ls cd l = true ↔ ∃ i, fnd ls cd (l : Int) = some i := by
  unfold hasB
  simp only [Bool.and_eq_true, decide_eq_true_eq]
  exact ⟨fun h => has_some hr h.1 h.2, fun ⟨i, h⟩ => has_of hr h⟩
theorem has_no {ls : List Int} (hr : Rt ls) {cd l : Nat} (h : hasB ls cd l = false) : fnd ls cd (l : Int) = none := by
  cases e : fnd ls cd (l : Int) with
  | none => rfl
  | some i => rw [(has_iff hr).2 ⟨i, e⟩] at h; cases h
/-- what there is, is in the place of one code -/
theorem part_at {ls : List Int} (hr : Rt ls) {v : Nat} (hv : v < tookT ls 15 ls.length) : ∃ i, i < ls.length ∧ 0 < ln ls i ∧ cum ls i ≤ v ∧ v < cum ls i + tk ls i := by
  have key : ∀ (l k : Nat), 0 < l → k ≤ ls.length → (v < cumS ls l 0 → ∃ i, i < ls.length ∧ 0 < ln ls i ∧ cum ls i ≤ v ∧ v < cum ls i + tk ls i) → v < cumS ls l k → ∃ i, i < ls.length ∧ 0 < ln ls i ∧ cum ls i ≤ v ∧ v < cum ls i + tk ls i := by
    intro l k h0
    induction k with
    | zero => exact fun _ h => h
    | succ k ih =>
      intro hk h hv
      by_cases hl : ln ls k = l
      · rw [cumS_next (by omega) hl h0] at hv
        by_cases h2 : v < cumS ls l k
        · exact ih (by omega) h h2
        · rw [cumS_at hl] at hv h2
          exact ⟨k, by omega, by omega, by omega, hv⟩
      · rw [cumS_same hl] at hv
        exact ih (by omega) h hv
  have lv : ∀ l, v < cumS ls (l + 1) 0 → ∃ i, i < ls.length ∧ 0 < ln ls i ∧ cum ls i ≤ v ∧ v < cum ls i + tk ls i := by
    intro l
    induction l with
    | zero => intro h; rw [cumS_first] at h; omega
    | succ l ih => intro h; rw [cumS_level] at h; exact key (l + 1) ls.length (by omega) (Nat.le_refl _) ih h
  refine lv 15 (Nat.lt_of_lt_of_le hv ?_)
  unfold tookT cumS
  refine sum_le' fun x hx => ?_
  have hx2 := List.mem_range.1 hx
  by_cases h : 0 < ls.getD x 0
  · rw [if_pos h, if_pos ⟨ln_pos.2 h, by have := hr.ln15 hx2; omega⟩]; unfold tk ln; exact Nat.le_refl _
  · rw [if_neg h]; exact Nat.zero_le _
theorem some_zero {ls : List Int} : ∀ k, someT ls k = 0 → ∀ i, i < k → ln ls i = 0
  | 0, _, i, h => by omega
  | k + 1, h, i, hi => by
    rw [someT] at h
    split at h
    · omega
    · rename_i h2
      rcases Nat.lt_or_ge i k with h3 | h3
      · exact some_zero k (by omega) i h3
      · have : i = k := by omega
        subst this; unfold ln; omega
theorem some_one {ls : List Int} : ∀ k, someT ls k = 1 → ∀ i, i < k → 0 < ln ls i → ls.getD i 0 = lastT ls k
  | 0, h, _, _, _ => by simp [someT] at h
  | k + 1, h, i, hi, h0 => by
    rw [someT] at h
    rw [lastT]
    split at h
    · rename_i h2
      rw [if_pos h2]
      rcases Nat.lt_or_ge i k with h3 | h3
      · have := some_zero (ls := ls) k (by omega) i h3; omega
      · have : i = k := by omega
        subst this; rfl
    · rename_i h2
      rw [if_neg h2]
      rcases Nat.lt_or_ge i k with h3 | h3
      · exact some_one k (by omega) i h3 h0
      · have : i = k := by omega
        subst this; have := ln_pos.1 h0; omega
theorem room_took {ls : List Int} (h2 : (roomR ls 15).2 = 0) (h : (roomR ls 15).1 = 0) : tookT ls 15 ls.length = 2 ^ 15 := by
  unfold roomR at h h2
  split at h
  · rename_i ho
    rw [if_pos ho] at h2
    split at h
    · have h' : ((2 ^ 15 : Nat) : Int) - (tookT ls 15 ls.length : Nat) = 0 := h
      omega
    · rename_i h3; rw [if_neg h3] at h2; exact absurd h2 (by simp)
  · rename_i h3; rw [if_neg h3] at h2; exact absurd h2 (by simp)
theorem beg_more {ls : List Int} (ok : okC ls) {cd l : Nat} (hl : l ≤ 15) (hcd : cd < 2 ^ l) (hno : ∀ l', 0 < l' → l' ≤ l → fnd ls (cd / 2 ^ (l - l')) (l' : Int) = none) (hex : ∃ i, i < ls.length ∧ l < ln ls i) : beg ls cd l = true := by
  have hr := rt_of ok
  obtain ⟨k, hk, hlk⟩ := hex
  have put : ∀ i, i < ls.length → l < ln ls i → code ls i / 2 ^ (ln ls i - l) = cd → beg ls cd l = true := by
    intro i hi h1 h2
    unfold beg
    rw [List.any_eq_true]
    refine ⟨i, List.mem_range.2 hi, ?_⟩
    simp only [Bool.and_eq_true, decide_eq_true_eq]
    refine ⟨by unfold ln at h1; omega, by rw [codes_at hi (by omega)]; exact h2⟩
  rcases ok.2 with h | h | h
  · have ht := room_took ok.1 h
    have e15 : (2 : Nat) ^ 15 = 2 ^ l * 2 ^ (15 - l) := by rw [← Nat.pow_add]; congr 1; omega
    obtain ⟨i, hi, h0, h1, h2⟩ := part_at hr (v := cd * 2 ^ (15 - l)) (by rw [ht, e15]; exact Nat.mul_lt_mul_of_pos_right hcd (Nat.two_pow_pos _))
    have h15 := hr.ln15 hi
    have hcc := code_cum (ls := ls) (i := i) h15
    unfold tk at h2
    rw [← hcc] at h1 h2
    rcases Nat.lt_or_ge l (ln ls i) with hlt | hge
    · refine put i hi hlt ?_
      have es : (2 : Nat) ^ (15 - l) = 2 ^ (ln ls i - l) * 2 ^ (15 - ln ls i) := by rw [← Nat.pow_add]; congr 1; omega
      rw [es, ← Nat.mul_assoc] at h1 h2
      have h3 : code ls i ≤ cd * 2 ^ (ln ls i - l) := Nat.le_of_mul_le_mul_right h1 (Nat.two_pow_pos _)
      have h4 : cd * 2 ^ (ln ls i - l) < code ls i + 1 := by
        refine Nat.lt_of_mul_lt_mul_right (a := 2 ^ (15 - ln ls i)) ?_
        rw [Nat.add_mul, Nat.one_mul]; exact h2
      have h5 : code ls i = cd * 2 ^ (ln ls i - l) := by omega
      rw [h5, Nat.mul_div_cancel _ (Nat.two_pow_pos _)]
    · exfalso
      have es : (2 : Nat) ^ (15 - ln ls i) = 2 ^ (l - ln ls i) * 2 ^ (15 - l) := by rw [← Nat.pow_add]; congr 1; omega
      rw [es, ← Nat.mul_assoc] at h1 h2
      have h3 : code ls i * 2 ^ (l - ln ls i) ≤ cd := Nat.le_of_mul_le_mul_right h1 (Nat.two_pow_pos _)
      have h4 : cd < code ls i * 2 ^ (l - ln ls i) + 2 ^ (l - ln ls i) := by
        refine Nat.lt_of_mul_lt_mul_right (a := 2 ^ (15 - l)) ?_
        rw [Nat.add_mul]; exact h2
      have h5 : cd / 2 ^ (l - ln ls i) = code ls i := by
        refine Nat.div_eq_of_lt_le h3 ?_
        rw [Nat.add_mul, Nat.one_mul]; exact h4
      have h6 := hno (ln ls i) h0 hge
      rw [h5] at h6
      have h7 := fnd_own hr hi h0
      have : ls.getD i 0 = (ln ls i : Int) := by have := hr.all i hi; unfold ln; omega
      rw [this, h6] at h7; cases h7
  · have := some_zero ls.length h k hk; omega
  · have h1 := some_one ls.length h.1 k hk (by omega)
    rw [h.2] at h1
    have h2 : ln ls k = 1 := by unfold ln; rw [h1]; rfl
    have h3 : l = 0 := by omega
    subst h3
    have h4 := code_lt hk (by omega) (by omega) hr.room
    rw [h2] at h4
    refine put k hk hlk ?_
    rw [h2]
    have : cd = 0 := by simpa using hcd
    rw [this]
    exact Nat.div_eq_of_lt (by simpa using h4)
theorem beg_ex {ls : List Int} {cd l : Nat} (h : beg ls cd l = true) : ∃ i, i < ls.length ∧ l < ln ls i := by
  unfold beg at h
  rw [List.any_eq_true] at h
  obtain ⟨i, hi, h⟩ := h
  simp only [Bool.and_eq_true, decide_eq_true_eq] at h
  exact ⟨i, List.mem_range.1 hi, by unfold ln; omega⟩
/-- some code is longer -/
def moreB (ls : List Int) (wd : Nat) : Bool := (List.range ls.length).any fun i => decide (wd < ln ls i)
theorem more_iff {ls : List Int} {wd : Nat} : moreB ls wd = true ↔ ∃ i, i < ls.length ∧ wd < ln ls i := by
  unfold moreB
  rw [List.any_eq_true]
  exact ⟨fun ⟨i, a, b⟩ => ⟨i, List.mem_range.1 a, of_decide_eq_true b⟩, fun ⟨i, a, b⟩ => ⟨i, List.mem_range.2 a, decide_eq_true b⟩⟩
/-- the symbol with whose code a number begins, from a length on -/
def frGo (ls : List Int) (num wd : Nat) : Nat → Nat → Nat × Nat × Int
  | 0, _ => (0, 0, if moreB ls wd = true then 5 else 7)
  | f + 1, l => match fnd ls (num / 2 ^ (wd - l)) (l : Int) with
    | some i => (i, l, 0)
    | none => frGo ls num wd f (l + 1)
def frR (ls : List Int) (num wd : Nat) : Nat × Nat × Int := frGo ls num wd wd 1
theorem fnd_none_of {ls : List Int} {cd l : Nat} (h : ∀ i, i < ls.length → ln ls i < l) : fnd ls cd (l : Int) = none := by
  cases e : fnd ls cd (l : Int) with
  | none => rfl
  | some i =>
    obtain ⟨hi, h0, hl, _⟩ := fnd_some e
    have := h i hi
    unfold ln at this; omega
theorem frGo_none {ls : List Int} {num wd l : Nat} (h : ∀ i, i < ls.length → ln ls i ≤ l) (hw : l ≤ wd) : ∀ f l', l < l' → frGo ls num wd f l' = (0, 0, 7)
  | 0, l', _ => by
    have : moreB ls wd = false := by
      rw [← Bool.not_eq_true, more_iff]; rintro ⟨i, hi, h2⟩; have := h i hi; omega
    unfold frGo; rw [this]; rfl
  | f + 1, l', hl => by
    unfold frGo
    rw [fnd_none_of fun i hi => by have := h i hi; omega]
    exact frGo_none h hw f (l' + 1) (by omega)
/-- what the document reads, by the place -/
def out3 (p : Nat) (o : Nat × Nat × Int) : Nat × Nat × Int := if o.2.2 = 0 then (o.1, p + o.2.1, 0) else (0, 0, o.2.2)
theorem take_pre (Y : List Bool) (l wd : Nat) (_h : l ≤ wd) (hy : Y.length = wd) : num Y / 2 ^ (wd - l) = num (Y.take l) := by
  have e : Y = Y.take l ++ Y.drop l := (List.take_append_drop l Y).symm
  have hd : (Y.drop l).length = wd - l := by rw [List.length_drop, hy]
  have h2 := num_append (Y.take l) (Y.drop l)
  rw [← e, hd] at h2
  have h3 := num_lt (Y.drop l)
  rw [hd] at h3
  rw [h2, Nat.mul_comm, Nat.mul_add_div (Nat.two_pow_pos _), Nat.div_eq_of_lt h3, Nat.add_zero]
theorem rd_tail {ls : List Int} (ok : okC ls) {X : List Bool} {p wd : Nat} (hp : p ≤ X.length) (hwd : wd = min (X.length - p) 15) :
    ∀ (d l F : Nat), l + d = wd → d < F → (∀ l', 0 < l' → l' ≤ l → fnd ls (num ((X.drop p).take l')) (l' : Int) = none) →
      (if beg ls (num ((X.drop p).take l)) l = false then ((0 : Nat), (0 : Nat), (7 : Int)) else if X.length ≤ p + l then (0, 0, 5) else rdGo ls X p F (l + 1) (2 * num ((X.drop p).take l) + (X.getD (p + l) false).toNat)) = out3 p (frGo ls (num ((X.drop p).take wd)) wd d (l + 1)) := by
  intro d
  have hr := rt_of ok
  have hY : ∀ l, l ≤ wd → ((X.drop p).take l).length = l := fun l h => by rw [List.length_take, List.length_drop]; omega
  have hpre : ∀ a b, a ≤ b → b ≤ wd → num ((X.drop p).take b) / 2 ^ (b - a) = num ((X.drop p).take a) := fun a b h1 h2 => by
    rw [take_pre _ a b h1 (hY b h2), List.take_take, Nat.min_eq_left h1]
  induction d with
  | zero =>
    intro l F hl hF hno
    obtain rfl : l = wd := by omega
    by_cases hb : beg ls (num ((X.drop p).take l)) l = false
    · rw [if_pos hb]
      have hm : moreB ls l = false := by
        rw [← Bool.not_eq_true, more_iff]
        intro hex
        have h2 := num_lt ((X.drop p).take l)
        rw [hY l (Nat.le_refl _)] at h2
        have := beg_more ok (by omega) h2 (fun l' a b => by rw [hpre l' l b (Nat.le_refl _)]; exact hno l' a b) hex
        rw [this] at hb; cases hb
      unfold frGo out3; rw [hm]; simp
    · have hb2 : beg ls (num ((X.drop p).take l)) l = true := by simpa using hb
      have h15 : l < 15 := by
        rcases Nat.lt_or_ge l 15 with h | h
        · exact h
        · rw [beg_end hr h] at hb2; cases hb2
      rw [if_neg hb, if_pos (by omega)]
      have hm : moreB ls l = true := more_iff.2 (beg_ex hb2)
      unfold frGo out3; rw [hm]; simp
  | succ d ih =>
    intro l F hl hF hno
    obtain ⟨F, rfl⟩ : ∃ F', F = F' + 1 := ⟨F - 1, by omega⟩
    by_cases hb : beg ls (num ((X.drop p).take l)) l = false
    · rw [if_pos hb]
      have hall : ∀ i, i < ls.length → ln ls i ≤ l := fun i hi => by
        rcases Nat.lt_or_ge l (ln ls i) with h | h
        · have h2 := num_lt ((X.drop p).take l)
          rw [hY l (by omega)] at h2
          have := beg_more ok (by omega) h2 (fun l' a b => by rw [hpre l' l b (by omega)]; exact hno l' a b) ⟨i, hi, h⟩
          rw [this] at hb; cases hb
        · exact h
      rw [frGo_none hall (by omega) _ _ (Nat.lt_succ_self _)]
      simp [out3]
    · rw [if_neg hb, if_neg (by omega)]
      have hx : 2 * num ((X.drop p).take l) + (X.getD (p + l) false).toNat = num ((X.drop p).take (l + 1)) := by
        rw [getD_take_drop X p l (by omega), num_snoc]
      rw [hx]
      have hfr : frGo ls (num ((X.drop p).take wd)) wd (d + 1) (l + 1) = match fnd ls (num ((X.drop p).take (l + 1))) ((l + 1 : Nat) : Int) with
          | some i => (i, l + 1, 0)
          | none => frGo ls (num ((X.drop p).take wd)) wd d (l + 1 + 1) := by
        rw [frGo, hpre (l + 1) wd (by omega) (Nat.le_refl _)]
      rw [hfr]
      cases e : fnd ls (num ((X.drop p).take (l + 1))) ((l + 1 : Nat) : Int) with
      | some i => rw [rdGo_hit (by omega) e]; simp [out3]
      | none =>
        rw [rdGo_go (.inr e)]
        refine ih (l + 1) F (by omega) (by omega) fun l' a b => ?_
        rcases Nat.lt_or_ge l' (l + 1) with h | h
        · exact hno l' a (by omega)
        · obtain rfl : l' = l + 1 := by omega
          exact e
theorem rd_first {ls : List Int} (ok : okC ls) {X : List Bool} {p wd : Nat} (hp : p ≤ X.length) (hwd : wd = min (X.length - p) 15) : rdGo ls X p 17 0 0 = out3 p (frR ls (num ((X.drop p).take wd)) wd) := by
  have h := rd_tail ok hp hwd wd 0 16 (by omega) (by omega) (fun l' a b => by omega)
  rw [List.take_zero] at h
  rw [rdGo_go (.inl rfl)]
  exact h
end Go.Proofs.Ytjnehpkkkmicfaa.Cn
namespace Go.Proofs.Ytjnehpkkkmicfaa.Cn
open Go.RowKit Go.Lib Rw Ls Od _root_.Go.Proofs.Ytjnehpkkkmicfaa.Nm Pk Bt Bk

def z16 : List Nat := List.replicate 16 0
theorem zv_counts (w : World) : (zeroValue 66).run Try.prog w = .ok (.agg (zs (up z16)).toArray) w := zv_of (by kernel_rfl) w
theorem built_counts : Try.prog.built 66 [] = some (zs (up z16)).toArray := by kernel_rfl
theorem sz_counts {n : Nat} (h : n = 16) : (Try.prog.info? 66).map (·.size) = some n := by subst h; kernel_rfl
theorem cells_len (L : List Nat) : (zs (up L)).length = L.length := by simp [zs, up]
set_option maxHeartbeats 4000000 in
set_option maxRecDepth 100000 in
theorem count_any (ls : List Int) (p : Option Addr) (c : Nat) (w : World) (hp : Rd w p (zs ls)) (hl : ls.length ≤ 17592186044416) (h15 : ∀ i, i < ls.length → 0 ≤ ls.getD i 0 ∧ ls.getD i 0 ≤ 15) :
    Calls Try.prog 38 #[.slice p ls.length c] w fun e w' => e = .returned (.agg (zs (up (cntL ls ls.length))).toArray) ∧ Below w.heap.size w w' := by
  have z1 := zv_counts
  have hb1 := fun W => run_build (P := Try.prog) W 66 #[] _ built_counts
  obtain ⟨m, hm⟩ : ∃ m, m = ls.length := ⟨_, rfl⟩
  rw [← hm] at hl h15 ⊢
  have HM := Lib.hid hm
  have Q := Lib.hid hp
  have H15 := Lib.hid h15
  obtain ⟨r0, hr0⟩ : ∃ r0, r0 = w.heap.size := ⟨_, rfl⟩
  obtain ⟨w1, hw1⟩ : ∃ w1, w1 = (w.alloc (.cells (zs (up z16)).toArray 66)).alloc (.cells (zs (up z16)).toArray 66) := ⟨_, rfl⟩
  have N1 : Blk w1 r0 66 (zs (up z16)) := by rw [hw1, hr0]; exact (Blk.new w _ _).alloc _
  have M1 : Blk w1 (r0 + 1) 66 (zs (up z16)) := by
    rw [hw1, hr0]
    have e : (w.alloc (.cells (zs (up z16)).toArray 66)).heap.size = w.heap.size + 1 := by simp
    rw [← e]; exact Blk.new _ _ _
  have B1 : Below r0 w w1 := by rw [hw1, hr0]; exact ((Below.refl _ w).alloc (Nat.le_refl _) _).alloc (by simp) _
  have st1 := M1.stores (ys := zs (up z16)) rfl (zs_one _)
  rw [M1.self] at st1
  rw [hw1, hr0] at st1
  have C0 : cntL ls 0 = z16 := cntL_zero ls
  rw [← C0] at M1
  have HN1 := Lib.hid N1; have HM1 := Lib.hid M1; have HB1 := Lib.hid B1; have HR0 := Lib.hid hr0; have HW1 := Lib.hid hw1
  obtain ⟨VZ, hVZ⟩ : ∃ VZ, VZ = (zs (up z16)).toArray := ⟨_, rfl⟩
  have HVZ := Lib.hid hVZ
  rw [← hVZ] at z1 hb1 st1
  have vz : VZ.size = 16 := by rw [hVZ]; rfl
  clear hp hm h15 N1 M1 B1 C0 hVZ hw1
  go_enter Try.func38, Try.ntmps38
  go_wp2_with fail
  have e1 : (w.alloc (.cells VZ 66)).alloc (.cells VZ 66) = w1 := by rw [HW1.out, HVZ.out]
  rw [e1]
  rw [← hr0]
  clear st1 e1 hr0 z1 hb1
  have Q1 : Hid (∀ wr, Below r0 w wr → Rd wr p (zs ls)) := Lib.hid (fun wr hb => Q.out.below (by rw [← HR0.out]; exact hb))
  go_loopw [9] (fun i wr => ∃ k : Nat, k ≤ m ∧ i = .int .i64 k ∧ Hid (Blk wr r0 66 (zs (up z16))) ∧ Hid (Blk wr (r0 + 1) 66 (zs (up (cntL ls k)))) ∧ Hid (Below r0 w wr)) (fun i _ => m - (RowKit.intOf i).toNat)
  case atStart => exact ⟨0, Nat.zero_le _, rfl, HN1, HM1, HB1⟩
  case round =>
    clear HN1 HM1 HB1
    obtain ⟨k, hk, rfl, hn, hm, hb⟩ := hrel
    by_cases hlt : k < m
    · have hkl : k < ls.length := by rw [← HM.out]; exact hlt
      obtain ⟨b, rfl, cz⟩ := rd_z (Q1.out wr hb.out) k hkl
      obtain ⟨x, hx⟩ : ∃ x, x = ln ls k := ⟨_, rfl⟩
      have h15 := H15.out k hlt
      have ex : ls.getD k 0 = (x : Int) := by rw [hx]; unfold ln; omega
      rw [ex] at cz
      have hx15 : x < 16 := by omega
      have k0 : (0 : Int) ≤ (k : Int) := by omega
      have k1 : (k : Int) < (m : Int) := by omega
      by_cases hg : 0 < x
      · have f1 : decide ((0 : Int) < (x : Int)) = true := decide_eq_true (by omega)
        have f2 : decide (0 < x) = true := decide_eq_true hg
        have x0 : (0 : Int) ≤ (x : Int) := by omega
        have x1 : (x : Int) < 16 := by omega
        have cs := hm.out.cell (zs_at (cntL ls k) (k := x) (by rw [cntL_length]; exact hx15))
        rw [cntL_at ls k hx15] at cs
        have fz := hm.out.free x
        obtain ⟨v, hv⟩ : ∃ v, v = cntT ls x k := ⟨_, rfl⟩
        have hvb : v ≤ k := by rw [hv]; exact cntT_le ls x k
        rw [← hv] at cs
        have v1 : IntKind.i64.wrap ((v : Int) + 1) = ((v + 1 : Nat) : Int) := IntWalk.i64_in _ (by omega)
        have S5 := hm.out.set x (.int .i64 ((v + 1 : Nat) : Int))
        rw [zs_setN, hv, hx, cntL_set (by omega), ← hx, ← hv] at S5
        have H1 := Lib.hid (hn.out.other (a := ⟨r0 + 1, x, none⟩) (by simp) (.int .i64 ((v + 1 : Nat) : Int)))
        have H2 := Lib.hid S5
        have H3 := Lib.hid (below_put hb.out (a := ⟨r0 + 1, x, none⟩) (Nat.le_succ _) (.int .i64 ((v + 1 : Nat) : Int)))
        clear S5 hv hx ex h15 hn hm hb hg
        go_wp2_with fail
        go_roundw
        case rel => exact ⟨k + 1, by omega, by go_num, H1, H2, H3⟩
        case measure => simp [RowKit.intOf]; omega
      · have f1 : decide ((0 : Int) < (x : Int)) = false := decide_eq_false (by omega)
        have f2 : decide (0 < x) = false := decide_eq_false hg
        have H2 : Hid (Blk wr (r0 + 1) 66 (zs (up (cntL ls (k + 1))))) := Lib.hid (by rw [cntL_same (by omega)]; exact hm.out)
        clear hx ex h15 hm hg
        go_wp2_with fail
        go_roundw
        case rel => exact ⟨k + 1, by omega, by go_num, hn, H2, hb⟩
        case measure => simp [RowKit.intOf]; omega
    · obtain rfl : k = m := by omega
      have k1 : ¬ (k : Int) < (k : Int) := by omega
      have st := hn.out.stores (ys := zs (up (cntL ls k))) (by rw [cells_len, cells_len, cntL_length]; rfl) (zs_one _)
      have hr2 := hn.out.row (zs (up (cntL ls k)))
      have b2 := hb.out.trans (((Only.refl r0 wr).setRow (zs (up (cntL ls k))).toArray).below (B := r0) (Nat.le_refl _))
      obtain ⟨w6, hw6⟩ : ∃ w6, w6 = wr.setRow r0 (zs (up (cntL ls k))).toArray := ⟨_, rfl⟩
      have hh := hm.out
      unfold Blk at hh
      obtain ⟨XL, hXL⟩ : ∃ XL, XL = zs (up (cntL ls k)) := ⟨_, rfl⟩
      have xl : XL.length = 16 := by rw [hXL, cells_len, cntL_length]
      rw [← hw6] at st b2
      rw [← hXL] at st hh
      have HXL := Lib.hid hXL
      have B6 := Lib.hid b2; have HHH := Lib.hid hh
      have HIR : Hid ((Try.prog.info? 66).map (·.size) = some XL.toArray.size) := Lib.hid (sz_counts (by rw [List.size_toArray, xl]))
      have R6 : Hid (w6.heap[r0]? = some (.cells XL.toArray 66 (0, 0))) := Lib.hid (by rw [hw6, hXL]; exact hr2)
      clear hr2 hw6 b2 hh hn hm hb hXL
      go_wp2_with (refine wpList_load_row rfl 66 (.tmp 3) rfl (r0 + 1) rfl 66 XL.toArray (0, 0) _ HHH.out Try.underlying66 rfl HIR.out ?_)
      refine bodyPost_ret (v := .agg XL.toArray) ?_ rfl ⟨by rw [HXL.out], by rw [← HR0.out]; exact B6.out⟩
      exact results_cell_row rfl _ _ r0 66 XL.toArray (0, 0) _ rfl R6.out Try.underlying66 rfl HIR.out
end Go.Proofs.Ytjnehpkkkmicfaa.Cn
namespace Go.Proofs.Ytjnehpkkkmicfaa.Cn
open Go.RowKit Go.Lib Rw Ls Od _root_.Go.Proofs.Ytjnehpkkkmicfaa.Nm Pk Bt Bk

def o16 : List Nat := [0, 1, 0, 0, 0, 0, 0, 0, 0, 0, 0, 0, 0, 0, 0, 0]
theorem built_one : Try.prog.built 66 [(1, .int .i64 1)] = some (zs (up o16)).toArray := by kernel_rfl
theorem plain_int : Try.prog.plainKey 3 = true := by kernel_rfl
theorem info_i : (Try.prog.info? 3).map (fun i => (i.zero, i.size, i.bytes)) = some (some (.int .i64 0), 1, 8) := by kernel_rfl
theorem items_zs (A B : List Nat) (d : Nat) (W : World) : ∀ (is : List Nat), (∀ i ∈ is, i < A.length ∧ i < B.length) → (Op.eqItems (d + 1) 3 1 (zs (up A)).toArray (zs (up B)).toArray is).run Try.prog W = .ok (decide (∀ i ∈ is, A.getD i 0 = B.getD i 0)) W
  | [], _ => by simp [Op.eqItems]
  | i :: is, h => by
    obtain ⟨h1, h2⟩ := h i (List.mem_cons_self ..)
    have ih := items_zs A B d W is fun j hj => h j (List.mem_cons_of_mem _ hj)
    have p1 := run_part_plain (P := Try.prog) W plain_int (xs := (zs (up A)).toArray) (off := i * 1) (v := .int .i64 (A.getD i 0 : Nat)) (by rw [Nat.mul_one]; simpa using zs_at A h1)
    have p2 := run_part_plain (P := Try.prog) W plain_int (xs := (zs (up B)).toArray) (off := i * 1) (v := .int .i64 (B.getD i 0 : Nat)) (by rw [Nat.mul_one]; simpa using zs_at B h2)
    have p3 := run_equalIn_int (P := Try.prog) W d 3 .i64 .i64 (A.getD i 0 : Nat) (B.getD i 0 : Nat) Try.underlying3
    simp only [Op.eqItems, Sem.run_bind, p1, p2, p3, Result.andThen_ok]
    by_cases e : A.getD i 0 = B.getD i 0
    · have e2 : (((A.getD i 0 : Nat) : Int) == ((B.getD i 0 : Nat) : Int)) = true := by rw [e]; simp
      rw [e2]
      simp only [Bool.not_true, Bool.false_eq_true, if_false]
      have e3 : decide (∀ j ∈ i :: is, A.getD j 0 = B.getD j 0) = decide (∀ j ∈ is, A.getD j 0 = B.getD j 0) := by simp only [List.forall_mem_cons, e, true_and]
      rw [ih, e3]
    · have e2 : (((A.getD i 0 : Nat) : Int) == ((B.getD i 0 : Nat) : Int)) = false := by rw [beq_eq_false_iff_ne]; omega
      rw [e2]
      simp only [Bool.not_false, if_true]
      have : decide (∀ j ∈ i :: is, A.getD j 0 = B.getD j 0) = false := decide_eq_false fun h => e (h i (List.mem_cons_self ..))
      rw [this]; rfl
theorem ext16 {A B : List Nat} (hA : A.length = 16) (hB : B.length = 16) : (∀ i ∈ List.range 16, A.getD i 0 = B.getD i 0) ↔ A = B := by
  constructor
  · intro h
    apply List.ext_getElem (by omega)
    intro i h1 h2
    have := h i (List.mem_range.2 (by omega))
    simpa [List.getD_eq_getElem?_getD, h1, h2] using this
  · rintro rfl _ _; rfl
theorem eqC {A B : List Nat} (hA : A.length = 16) (hB : B.length = 16) (W : World) : (Op.equalIn 10000 66 (.agg (zs (up A)).toArray) (.agg (zs (up B)).toArray)).run Try.prog W = .ok (decide (A = B)) W := by
  obtain ⟨i0, hi0, _, _, _⟩ := info_parts info_i
  have hz : Try.prog.cellsOf 3 = 1 := by kernel_rfl
  rw [show (10000 : Nat) = 9999 + 1 from rfl, run_equalIn_array (w := W) 9999 _ _ Try.underlying66 hi0, hz, show (9999 : Nat) = 9998 + 1 from rfl, items_zs A B 9998 W _ fun i hi => by have := List.mem_range.1 hi; omega]
  simp only [ext16 hA hB]
theorem eqZ {A : List Nat} (hA : A.length = 16) (W : World) : (Op.equalIn 10000 66 (.agg (zs (up A)).toArray) (.agg #[.int .i64 0, .int .i64 0, .int .i64 0, .int .i64 0, .int .i64 0, .int .i64 0, .int .i64 0, .int .i64 0, .int .i64 0, .int .i64 0, .int .i64 0, .int .i64 0, .int .i64 0, .int .i64 0, .int .i64 0, .int .i64 0])).run Try.prog W = .ok (decide (A = z16)) W := eqC hA (B := z16) rfl W
theorem eqO {A : List Nat} (hA : A.length = 16) (W : World) : (Op.equalIn 10000 66 (.agg (zs (up A)).toArray) (.agg #[.int .i64 0, .int .i64 1, .int .i64 0, .int .i64 0, .int .i64 0, .int .i64 0, .int .i64 0, .int .i64 0, .int .i64 0, .int .i64 0, .int .i64 0, .int .i64 0, .int .i64 0, .int .i64 0, .int .i64 0, .int .i64 0])).run Try.prog W = .ok (decide (A = o16)) W := eqC hA (B := o16) rfl W
theorem guardC : Try.prog.eqGuardType Try.prog.depth 66 = false := by kernel_rfl
set_option maxHeartbeats 4000000 in
set_option maxRecDepth 100000 in
theorem few_any (L : List Nat) (hL : L.length = 16) (w : World) :
    Calls Try.prog 39 #[.agg (zs (up L)).toArray] w fun e w' => e = .returned (.bool (decide (L = z16) || decide (L = o16))) ∧ Below w.heap.size w w' := by
  have q1 := fun W => eqZ hL W
  have q2 := fun W => eqO hL W
  have gc := guardC
  have hN : Blk (w.alloc (.cells (zs (up L)).toArray 66)) w.heap.size 66 (zs (up L)) := Blk.new w _ _
  have HB : Hid (Below w.heap.size w (w.alloc (.cells (zs (up L)).toArray 66))) := Lib.hid ((Below.refl _ w).alloc (Nat.le_refl _) _)
  unfold Blk at hN
  have HN := Lib.hid hN
  have HIR : Hid ((Try.prog.info? 66).map (·.size) = some (zs (up L)).toArray.size) := Lib.hid (sz_counts (by rw [List.size_toArray, cells_len, hL]))
  have vl : (zs (up L)).toArray.size = 16 := by rw [List.size_toArray, cells_len, hL]
  have HFN : Hid (∀ e, decide (L = z16) = e → (decide (L = z16) || decide (L = o16)) = (e || decide (L = o16))) := Lib.hid (fun e h => by rw [h])
  generalize (zs (up L)).toArray = VL at *
  generalize decide (L = o16) = d2 at *
  have hx : (#[VL[0], VL[1], VL[2], VL[3], VL[4], VL[5], VL[6], VL[7], VL[8], VL[9], VL[10], VL[11], VL[12], VL[13], VL[14], VL[15]] : Array Value) = VL := by
    apply Array.ext
    · exact vl.symm
    · intro i h1 h2
      have h2 : i < 16 := vl ▸ h2
      have : i = 0 ∨ i = 1 ∨ i = 2 ∨ i = 3 ∨ i = 4 ∨ i = 5 ∨ i = 6 ∨ i = 7 ∨ i = 8 ∨ i = 9 ∨ i = 10 ∨ i = 11 ∨ i = 12 ∨ i = 13 ∨ i = 14 ∨ i = 15 := by omega
      rcases this with rfl | rfl | rfl | rfl | rfl | rfl | rfl | rfl | rfl | rfl | rfl | rfl | rfl | rfl | rfl | rfl <;> rfl
  have q3 := q2
  rw [← hx] at q3
  clear hN hx
  by_cases h1 : L = z16
  · have e1 : decide (L = z16) = true := decide_eq_true h1
    rw [e1] at q1 HFN ⊢
    clear h1 e1
    go_enter Try.func39, Try.ntmps39
    go_wp2_with (refine wpList_load_row rfl 66 (.tmp 1) rfl w.heap.size rfl 66 VL (0, 0) _ HN.out Try.underlying66 rfl HIR.out ?_)
    go_ret
    exact ⟨rfl, HB.out⟩
  · have e1 : decide (L = z16) = false := decide_eq_false h1
    rw [e1] at q1 HFN ⊢
    clear h1 e1
    go_enter Try.func39, Try.ntmps39
    go_wp2_with (refine wpList_load_row rfl 66 (.tmp 1) rfl w.heap.size rfl 66 VL (0, 0) _ HN.out Try.underlying66 rfl HIR.out ?_)
    go_ret
    exact ⟨by simp, HB.out⟩
/-- the longest that there is, of those up to l -/
def lgT (L : List Nat) : Nat → Nat
  | 0 => 0
  | l + 1 => if L.getD (l + 1) 0 = 0 then lgT L l else l + 1
set_option maxHeartbeats 4000000 in
set_option maxRecDepth 100000 in
theorem longest_any (L : List Nat) (hL : L.length = 16) (w : World) :
    Calls Try.prog 69 #[.agg (zs (up L)).toArray] w fun e w' => e = .returned (.int .i64 (lgT L 15 : Nat)) ∧ Below w.heap.size w w' := by
  obtain ⟨r, hr⟩ : ∃ r, r = lgT L 15 := ⟨_, rfl⟩
  rw [← hr]
  obtain ⟨w1, hw1⟩ : ∃ w1, w1 = w.alloc (.cells (zs (up L)).toArray 66) := ⟨_, rfl⟩
  have HN : Hid (Blk w1 w.heap.size 66 (zs (up L))) := Lib.hid (by rw [hw1]; exact Blk.new w _ _)
  have HB : Hid (Below w.heap.size w w1) := Lib.hid (by rw [hw1]; exact (Below.refl _ w).alloc (Nat.le_refl _) _)
  have HW := Lib.hid hw1; have HR := Lib.hid hr
  have CL : Hid (∀ l, l < 16 → w1.cell? ⟨w.heap.size, l, none⟩ = some (.int .i64 (L.getD l 0 : Nat))) := Lib.hid (fun l hl => HN.out.cell (zs_at L (by omega)))
  generalize (zs (up L)).toArray = VL at *
  clear hw1 hr
  go_enter Try.func69, Try.ntmps69
  go_wp2_with fail
  rw [← HW.out]
  obtain ⟨g, hg⟩ : ∃ g, g = w.heap.size := ⟨_, rfl⟩
  rw [← hg] at CL ⊢
  have HG := Lib.hid hg
  clear hg
  go_loopw [3] (fun i wr => ∃ l : Nat, l ≤ 15 ∧ i = .int .i64 l ∧ Hid (r = lgT L l) ∧ wr = w1) (fun i _ => (RowKit.intOf i).toNat)
  case atStart => exact ⟨15, Nat.le_refl _, rfl, HR, rfl⟩
  case round =>
    obtain ⟨l, hl, rfl, hr, hw⟩ := hrel
    rw [hw]
    clear hw
    by_cases h0 : l = 0
    · subst h0
      have k1 : ¬ ((0 : Int) < 0) := by omega
      have k2 : decide ((0 : Int) < 0) = false := rfl
      have H0 : Hid (r = 0) := Lib.hid hr.out
      clear hr
      go_wp2_with fail
      go_ret
      exact ⟨by rw [H0.out]; rfl, HB.out⟩
    · have cx := CL.out l (by omega)
      have hs : lgT L l = if L.getD l 0 = 0 then lgT L (l - 1) else l := by
        cases l with
        | zero => omega
        | succ l => rfl
      obtain ⟨v, hv⟩ : ∃ v, v = L.getD l 0 := ⟨_, rfl⟩
      rw [← hv] at cx hs
      have k1 : (0 : Int) < (l : Int) := by omega
      have k2 : (l : Int) < 16 := by omega
      have k3 : (0 : Int) ≤ (l : Int) := by omega
      have v1 : IntKind.i64.wrap ((l : Int) - 1) = ((l - 1 : Nat) : Int) := by rw [show (l : Int) - 1 = ((l - 1 : Nat) : Int) by omega]; exact IntWalk.i64_in _ (by omega)
      by_cases h1 : v = 0
      · have e1 : ((v : Int) == 0) = true := by rw [beq_iff_eq]; omega
        have e2 : (v == 0) = true := by rw [beq_iff_eq]; omega
        have H1 : Hid (r = lgT L (l - 1)) := Lib.hid (by rw [hr.out, hs, if_pos h1])
        clear hr hs hv h1
        go_wp2_with fail
        go_roundw
        case rel => exact ⟨l - 1, by omega, by first | rfl | go_num, H1, trivial⟩
        case measure => simp [RowKit.intOf]; omega
      · have e1 : ((v : Int) == 0) = false := by rw [beq_eq_false_iff_ne]; omega
        have e2 : (v == 0) = false := by rw [beq_eq_false_iff_ne]; omega
        have H1 : Hid (r = l) := Lib.hid (by rw [hr.out, hs, if_neg h1])
        clear hr hs hv h1
        go_wp2_with fail
        go_ret
        exact ⟨by rw [H1.out]; rfl, HB.out⟩
end Go.Proofs.Ytjnehpkkkmicfaa.Cn
namespace Go.Proofs.Ytjnehpkkkmicfaa.Cn
open Go.RowKit Go.Lib Rw Ls Od _root_.Go.Proofs.Ytjnehpkkkmicfaa.Nm Pk Bt Bk

/-- codes at work, as they lie: the lengths, how many there are of each, and the first ones up to u -/
def WkR (p : Option Addr) (n c : Nat) (ls : List Int) (u : Nat) : List Value := .slice p n c :: (zs (up (cntL ls ls.length)) ++ nums (fsT ls u))
theorem wkR_length (p : Option Addr) (n c : Nat) (ls : List Int) (u : Nat) : (WkR p n c ls u).length = 33 := by
  unfold WkR
  rw [List.length_cons, List.length_append, cells_len, cntL_length, nums_length, fsT_length]
theorem wkR_cnt (p : Option Addr) (n c : Nat) (ls : List Int) (u : Nat) {l : Nat} (h : l < 16) : (WkR p n c ls u)[1 + l]? = some (.int .i64 (cntT ls l ls.length : Nat)) := by
  unfold WkR
  rw [Nat.add_comm 1 l, List.getElem?_cons_succ, List.getElem?_append_left (by rw [cells_len, cntL_length]; exact h), zs_at _ (by rw [cntL_length]; exact h), cntL_at _ _ h]
theorem wkR_fst (p : Option Addr) (n c : Nat) (ls : List Int) (u : Nat) {l : Nat} (h : l < 16) (hu : l ≤ u) : (WkR p n c ls u)[17 + l]? = some (.int .u64 (fs ls l : Nat)) := by
  unfold WkR
  rw [show 17 + l = (16 + l) + 1 by omega, List.getElem?_cons_succ, List.getElem?_append_right (by rw [cells_len, cntL_length]; omega), cells_len, cntL_length, show 16 + l - 16 = l by omega, nums_at _ (by rw [fsT_length]; exact h), fsT_at _ _ h hu]
theorem wkR_any (p : Option Addr) (n c : Nat) (ls : List Int) (u : Nat) {l : Nat} (h : l < 16) : ∃ v, (WkR p n c ls u)[17 + l]? = some v := by
  rw [List.getElem?_eq_getElem (by rw [wkR_length]; omega)]; exact ⟨_, rfl⟩
theorem wkR_set (p : Option Addr) (n c : Nat) (ls : List Int) (u : Nat) : (WkR p n c ls u).set (17 + (u + 1)) (.int .u64 (fs ls (u + 1) : Nat)) = WkR p n c ls (u + 1) := by
  unfold WkR
  rw [show 17 + (u + 1) = (16 + (u + 1)) + 1 by omega, List.set_cons_succ, List.set_append_right _ _ (by rw [cells_len, cntL_length]; omega), cells_len, cntL_length, show 16 + (u + 1) - 16 = u + 1 by omega, nums_set2, fsT_set]
theorem built_work (p : Option Addr) (n c : Nat) : ∀ (C : List Nat), C.length = 16 → Try.prog.built 101 [(0, .slice p n c), (1, .agg (zs (up C)).toArray)] = some (Value.slice p n c :: (zs (up C) ++ nums z16)).toArray
  | [_, _, _, _, _, _, _, _, _, _, _, _, _, _, _, _], _ => by kernel_rfl
theorem zv_firsts (w : World) : (zeroValue 99).run Try.prog w = .ok (.agg (nums z16).toArray) w := zv_of (by kernel_rfl) w
theorem list16 {α : Type} : ∀ (C : List α), C.length = 16 → ∃ a0 a1 a2 a3 a4 a5 a6 a7 a8 a9 a10 a11 a12 a13 a14 a15, C = [a0, a1, a2, a3, a4, a5, a6, a7, a8, a9, a10, a11, a12, a13, a14, a15]
  | [_, _, _, _, _, _, _, _, _, _, _, _, _, _, _, _], _ => ⟨_, _, _, _, _, _, _, _, _, _, _, _, _, _, _, _, rfl⟩
/-- codes at work in block g -/
def Wk (w : World) (g : Nat) (p : Option Addr) (n c : Nat) (ls : List Int) : Prop := Blk w g 101 (WkR p n c ls 15)
set_option maxHeartbeats 4000000 in
set_option maxRecDepth 100000 in
theorem begin_any (ls : List Int) (p : Option Addr) (c : Nat) (w : World) (hp : Rd w p (zs ls)) (hr : Rt ls) :
    Calls Try.prog 32 #[.slice p ls.length c] w fun e w' => ∃ g, e = .returned (.pointer (some ⟨g, 0, none⟩)) ∧ w.heap.size ≤ g ∧ Wk w' g p ls.length c ls ∧ Below w.heap.size w w' := by
  have hl := hr.few
  have H := Lib.hid (count_any ls p c w hp (by omega) hr.all)
  have HR := Lib.hid hr
  obtain ⟨a0, a1, a2, a3, a4, a5, a6, a7, a8, a9, a10, a11, a12, a13, a14, a15, hC⟩ := list16 (cntL ls ls.length) (cntL_length ls ls.length)
  have HV : Hid (Value.slice p ls.length c :: (zs (up [a0, a1, a2, a3, a4, a5, a6, a7, a8, a9, a10, a11, a12, a13, a14, a15]) ++ nums z16) = WkR p ls.length c ls 0) := Lib.hid (by unfold WkR; rw [fsT_zero, hC]; rfl)
  obtain ⟨m, hm⟩ : ∃ m, m = ls.length := ⟨_, rfl⟩
  rw [hC, show (zs (up [a0, a1, a2, a3, a4, a5, a6, a7, a8, a9, a10, a11, a12, a13, a14, a15])).toArray = #[Value.int .i64 ((a0 : Nat) : Int), Value.int .i64 ((a1 : Nat) : Int), Value.int .i64 ((a2 : Nat) : Int), Value.int .i64 ((a3 : Nat) : Int), Value.int .i64 ((a4 : Nat) : Int), Value.int .i64 ((a5 : Nat) : Int), Value.int .i64 ((a6 : Nat) : Int), Value.int .i64 ((a7 : Nat) : Int), Value.int .i64 ((a8 : Nat) : Int), Value.int .i64 ((a9 : Nat) : Int), Value.int .i64 ((a10 : Nat) : Int), Value.int .i64 ((a11 : Nat) : Int), Value.int .i64 ((a12 : Nat) : Int), Value.int .i64 ((a13 : Nat) : Int), Value.int .i64 ((a14 : Nat) : Int), Value.int .i64 ((a15 : Nat) : Int)] from rfl] at H
  rw [← hm] at H HV ⊢
  clear hp hr hm hC
  go_enter Try.func32, Try.ntmps32
  go_wp2_with fail
  refine H.out.mono ?_
  rintro e w1 ⟨rfl, hb1⟩
  have B1 := Lib.hid hb1
  clear hb1
  go_wp2_with fail
  obtain ⟨g, hg⟩ : ∃ g, g = w1.heap.size := ⟨_, rfl⟩
  rw [← hg]
  have HG := Lib.hid hg
  clear hg
  go_loopw [4] (fun lv wr => ∃ u : Nat, u ≤ 15 ∧ lv = .int .i64 ((u + 1 : Nat) : Int) ∧ Hid (Blk wr g 101 (WkR p m c ls u)) ∧ Hid (Below g w1 wr)) (fun lv _ => 17 - (RowKit.intOf lv).toNat)
  case atStart => exact ⟨0, by omega, rfl, Lib.hid (by rw [← HV.out, HG.out]; exact Blk.new _ _ _), Lib.hid (by rw [HG.out]; exact (Below.refl _ _).alloc (Nat.le_refl _) _)⟩
  case round =>
    obtain ⟨u, hu, rfl, hn, hb⟩ := hrel
    by_cases hlt : u < 15
    · have f1 : decide (((u + 1 : Nat) : Int) < 16) = true := decide_eq_true (by omega)
      have f2 : decide (u + 1 < 16) = true := decide_eq_true (by omega)
      have s1 : IntKind.i64.wrap (((u + 1 : Nat) : Int) - 1) = (u : Int) := by rw [show ((u + 1 : Nat) : Int) - 1 = (u : Int) by omega]; exact IntWalk.i64_in _ (by omega)
      have k0 : (0 : Int) ≤ (u : Int) := by omega
      have k1 : (u : Int) < 16 := by omega
      have k2 : (0 : Int) ≤ ((u + 1 : Nat) : Int) := by omega
      have k3 : ((u + 1 : Nat) : Int) < 16 := by omega
      have c1 := hn.out.cell (wkR_cnt p m c ls u (l := u) (by omega))
      have c2 := hn.out.cell (wkR_fst p m c ls u (l := u) (by omega) (Nat.le_refl _))
      have fz := hn.out.free (17 + (u + 1))
      obtain ⟨ov, hov⟩ := wkR_any p m c ls u (l := u + 1) (by omega)
      have c3 := hn.out.cell hov
      clear hov
      have S1 := hn.out.set (17 + (u + 1)) (.int .u64 (fs ls (u + 1) : Nat))
      rw [wkR_set] at S1
      have H1 := Lib.hid S1
      have H2 := Lib.hid (below_put hb.out (a := ⟨g, 17 + (u + 1), none⟩) (Nat.le_refl _) (.int .u64 (fs ls (u + 1) : Nat)))
      have hf : fs ls (u + 1) = (fs ls u + cntT ls u ls.length) * 2 := rfl
      have hsm := fs_small HR.out.room (l := u) (by omega)
      obtain ⟨a, ha⟩ : ∃ a, a = fs ls u := ⟨_, rfl⟩
      obtain ⟨b, hb2⟩ : ∃ b, b = cntT ls u ls.length := ⟨_, rfl⟩
      obtain ⟨y, hy⟩ : ∃ y, y = fs ls (u + 1) := ⟨_, rfl⟩
      rw [← ha] at c2 hf hsm
      rw [← hb2] at c1 hf hsm
      rw [← hy] at hf H1 H2
      have ey : ((a : Int) + (b : Int)) * 2 = (y : Int) := by omega
      clear S1 hn hb ha hb2 hy hf
      go_wp2_with fail
      go_region
      go_wp2_with fail
      exact ⟨⟨u + 1, by omega, rfl, Lib.hid (H1.out.drewN 1), Lib.hid (Below.drew H2.out)⟩, by simp [RowKit.intOf]; omega⟩
    · obtain rfl : u = 15 := by omega
      have f1 : decide (((15 + 1 : Nat) : Int) < 16) = false := decide_eq_false (by omega)
      have f2 : decide (15 + 1 < 16) = false := decide_eq_false (by omega)
      go_wp2_with fail
      go_ret
      exact ⟨g, rfl, by rw [HG.out]; exact B1.out.size, hn.out, B1.out.trans (hb.out.mono (by rw [HG.out]; exact B1.out.size))⟩
theorem Wk.cnt {w : World} {g : Nat} {p : Option Addr} {n c : Nat} {ls : List Int} (h : Wk w g p n c ls) {l : Nat} (hl : l < 16) : w.cell? ⟨g, 1 + l, none⟩ = some (.int .i64 (cntT ls l ls.length : Nat)) := Blk.cell h (wkR_cnt p n c ls 15 hl)
theorem Wk.fst {w : World} {g : Nat} {p : Option Addr} {n c : Nat} {ls : List Int} (h : Wk w g p n c ls) {l : Nat} (hl : l < 16) : w.cell? ⟨g, 17 + l, none⟩ = some (.int .u64 (fs ls l : Nat)) := Blk.cell h (wkR_fst p n c ls 15 hl (by omega))
theorem Wk.row {w : World} {g : Nat} {p : Option Addr} {n c : Nat} {ls : List Int} (h : Wk w g p n c ls) : w.cell? ⟨g, 0, none⟩ = some (.slice p n c) := Blk.cell h rfl
theorem u64_small {a : Int} (h0 : 0 ≤ a) (h : a < 18446744073709551616) : IntKind.u64.wrap a = a := IntWalk.u64_in _ (by omega)
set_option maxHeartbeats 4000000 in
set_option maxRecDepth 100000 in
theorem has_any (ls : List Int) (cd l g : Nat) (p : Option Addr) (n c : Nat) (w : World) (hw : Wk w g p n c ls) (hr : Rt ls) (hl : l < 16) (hcd : cd < 18446744073709551616) :
    Calls Try.prog 34 #[.pointer (some ⟨g, 0, none⟩), .int .u64 (cd : Int), .int .i64 (l : Int)] w fun e w' => e = .returned (.bool (hasB ls cd l)) ∧ w' = w := by
  have c1 := hw.cnt hl
  have c2 := hw.fst hl
  have hsm := fs_small hr.room (l := l) (by omega)
  have hB : hasB ls cd l = (decide (fs ls l ≤ cd) && decide (cd < fs ls l + cntT ls l ls.length)) := rfl
  obtain ⟨a, ha⟩ : ∃ a, a = fs ls l := ⟨_, rfl⟩
  obtain ⟨b, hb⟩ : ∃ b, b = cntT ls l ls.length := ⟨_, rfl⟩
  rw [← ha] at c2 hsm hB
  rw [← hb] at c1 hsm hB
  have HB := Lib.hid hB
  have k0 : (0 : Int) ≤ (l : Int) := by omega
  have k1 : (l : Int) < 16 := by omega
  clear hw hr ha hb hB
  by_cases h1 : a ≤ cd
  · have f1 : decide ((a : Int) ≤ (cd : Int)) = true := decide_eq_true (by omega)
    have f2 : decide (a ≤ cd) = true := decide_eq_true h1
    have s1 : IntKind.u64.wrap ((cd : Int) - (a : Int)) = ((cd - a : Nat) : Int) := by rw [show (cd : Int) - (a : Int) = ((cd - a : Nat) : Int) by omega]; exact u64_small (by omega) (by omega)
    have s2 : IntKind.u64.wrap (b : Int) = (b : Int) := u64_small (by omega) (by omega)
    have HE : Hid (decide (cd - a < b) = decide (cd < a + b)) := Lib.hid (by
      have : cd - a < b ↔ cd < a + b := by omega
      simp only [this])
    clear h1
    go_enter Try.func34, Try.ntmps34
    go_wp2_with fail
    go_ret
    exact ⟨by rw [HB.out, f2, ← HE.out]; rfl, rfl⟩
  · have f1 : decide ((a : Int) ≤ (cd : Int)) = false := decide_eq_false (by omega)
    have f2 : decide (a ≤ cd) = false := decide_eq_false h1
    clear h1
    go_enter Try.func34, Try.ntmps34
    go_wp2_with fail
    go_ret
    exact ⟨by rw [HB.out, f2]; rfl, rfl⟩
end Go.Proofs.Ytjnehpkkkmicfaa.Cn

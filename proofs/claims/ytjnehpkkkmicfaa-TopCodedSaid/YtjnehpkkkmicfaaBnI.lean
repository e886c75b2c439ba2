/- PkM PkA PkB -/
import Derived.Test.YtjnehpkkkmicfaaRows
import Derived.Test.YtjnehpkkkmicfaaOrdCol
import Derived.Test.YtjnehpkkkmicfaaApp
namespace Go.Proofs.Ytjnehpkkkmicfaa.Pk
variable {α β : Type}
/-- a leaf by its number, or two as one -/
inductive Tr where
  | lf (i : Nat)
  | nd (a b : Tr)
/-- its weight -/
def Tr.wt (W : Nat → Nat) : Tr → Nat
  | .lf i => W i
  | .nd a b => a.wt W + b.wt W
/-- how often a leaf is in it -/
def Tr.cnt (x : Nat) : Tr → Nat
  | .lf i => if i = x then 1 else 0
  | .nd a b => a.cnt x + b.cnt x
/-- two lists in order as one, the first one's ahead of as heavy ones -/
def mrg (f : α → Nat) : List α → List α → List α
  | [], B => B
  | A, [] => A
  | x :: A, y :: B => if f x ≤ f y then x :: mrg f A (y :: B) else y :: mrg f (x :: A) B
termination_by A B => A.length + B.length
/-- each two side by side, as one -/
def prs : List Tr → List Tr
  | a :: b :: l => .nd a b :: prs l
  | _ => []
/-- the packages of a level, from 0 on -/
def lev (W : Nat → Nat) (L : List Nat) : Nat → List Tr
  | 0 => L.map .lf
  | j + 1 => mrg (Tr.wt W) (L.map .lf) (prs (lev W L j))
def sum (f : α → Nat) (l : List α) : Nat := (l.map f).sum
def Up (f : α → Nat) (l : List α) : Prop := l.Pairwise fun a b => f a ≤ f b
theorem sum_nil (f : α → Nat) : sum f [] = 0 := rfl
theorem sum_cons (f : α → Nat) (x : α) (l : List α) : sum f (x :: l) = f x + sum f l := by simp [sum]
theorem sum_app (f : α → Nat) (l m : List α) : sum f (l ++ m) = sum f l + sum f m := by simp [sum]
theorem mrg_nil (f : α → Nat) (A : List α) : mrg f A [] = A := by cases A <;> simp [mrg]
theorem nil_mrg (f : α → Nat) (B : List α) : mrg f [] B = B := by simp [mrg]
theorem mrg_le {f : α → Nat} {x y : α} {A B : List α} (h : f x ≤ f y) : mrg f (x :: A) (y :: B) = x :: mrg f A (y :: B) := by rw [mrg, if_pos h]
theorem mrg_gt {f : α → Nat} {x y : α} {A B : List α} (h : ¬ f x ≤ f y) : mrg f (x :: A) (y :: B) = y :: mrg f (x :: A) B := by rw [mrg, if_neg h]
theorem mrg_length (f : α → Nat) : ∀ (A B : List α), (mrg f A B).length = A.length + B.length
  | [], B => by simp [nil_mrg]
  | x :: A, [] => by simp [mrg_nil]
  | x :: A, y :: B => by
    by_cases h : f x ≤ f y
    · rw [mrg_le h, List.length_cons, mrg_length f A (y :: B)]; simp only [List.length_cons]; omega
    · rw [mrg_gt h, List.length_cons, mrg_length f (x :: A) B]; simp only [List.length_cons]; omega
termination_by A B => A.length + B.length
theorem mrg_mem (f : α → Nat) {z : α} : ∀ {A B : List α}, z ∈ mrg f A B ↔ z ∈ A ∨ z ∈ B
  | [], B => by simp [nil_mrg]
  | x :: A, [] => by simp [mrg_nil]
  | x :: A, y :: B => by
    by_cases h : f x ≤ f y
    · rw [mrg_le h, List.mem_cons, mrg_mem f (A := A) (B := y :: B)]
      simp only [List.mem_cons]
      constructor
      · rintro (h | h | h) <;> simp [h]
      · rintro ((h | h) | h) <;> simp [h]
    · rw [mrg_gt h, List.mem_cons, mrg_mem f (A := x :: A) (B := B)]
      simp only [List.mem_cons]
      constructor
      · rintro (h | (h | h) | h) <;> simp [h]
      · rintro ((h | h) | h | h) <;> simp [h]
termination_by A B => A.length + B.length
theorem mrg_up (f : α → Nat) : ∀ {A B : List α}, Up f A → Up f B → Up f (mrg f A B)
  | [], B, _, h => by rwa [nil_mrg]
  | x :: A, [], h, _ => by rwa [mrg_nil]
  | x :: A, y :: B, hA, hB => by
    obtain ⟨a1, a2⟩ := List.pairwise_cons.1 hA
    obtain ⟨b1, b2⟩ := List.pairwise_cons.1 hB
    by_cases h : f x ≤ f y
    · rw [mrg_le h]
      refine List.pairwise_cons.2 ⟨fun z hz => ?_, mrg_up f a2 hB⟩
      rcases (mrg_mem f).1 hz with hz | hz
      · exact a1 z hz
      · rcases List.mem_cons.1 hz with rfl | hz
        · exact h
        · exact Nat.le_trans h (b1 z hz)
    · rw [mrg_gt h]
      refine List.pairwise_cons.2 ⟨fun z hz => ?_, mrg_up f hA b2⟩
      rcases (mrg_mem f).1 hz with hz | hz
      · rcases List.mem_cons.1 hz with rfl | hz
        · omega
        · have := a1 z hz; omega
      · exact b1 z hz
termination_by A B => A.length + B.length
/-- the first so many of two lists as one weigh no more than so many of the two together -/
theorem mrg_least (f : α → Nat) : ∀ {A B : List α} {a b : Nat}, Up f A → Up f B → a ≤ A.length → b ≤ B.length → sum f ((mrg f A B).take (a + b)) ≤ sum f (A.take a) + sum f (B.take b)
  | [], B, a, b, _, _, ha, _ => by
    obtain rfl : a = 0 := by simpa using ha
    simp [nil_mrg, sum_nil]
  | x :: A, [], a, b, _, _, _, hb => by
    obtain rfl : b = 0 := by simpa using hb
    simp [mrg_nil, sum_nil]
  | x :: A, y :: B, a, b, hA, hB, ha, hb => by
    obtain ⟨a1, a2⟩ := List.pairwise_cons.1 hA
    obtain ⟨b1, b2⟩ := List.pairwise_cons.1 hB
    by_cases h : f x ≤ f y
    · rw [mrg_le h]
      cases a with
      | succ a =>
        rw [show a + 1 + b = (a + b) + 1 by omega, List.take_succ_cons, List.take_succ_cons, sum_cons, sum_cons]
        have := mrg_least f (a := a) (b := b) a2 hB (by simpa using ha) hb
        omega
      | zero =>
        cases b with
        | zero => simp [sum_nil]
        | succ b =>
          rw [show 0 + (b + 1) = (0 + b) + 1 by omega, List.take_succ_cons, sum_cons]
          have h1 := mrg_least f (a := 0) (b := b) a2 hB (Nat.zero_le _) (by omega)
          have hbl : b < (y :: B).length := hb
          have h2 : (y :: B).take (b + 1) = (y :: B).take b ++ [(y :: B)[b]] := List.take_succ_eq_append_getElem hbl
          have h3 : f x ≤ f (y :: B)[b] := by
            rcases List.mem_cons.1 (List.getElem_mem hbl) with e | e
            · rw [e]; exact h
            · exact Nat.le_trans h (b1 _ e)
          rw [h2, sum_app, sum_cons, sum_nil]
          simp only [List.take_zero, sum_nil] at h1 ⊢
          omega
    · rw [mrg_gt h]
      cases b with
      | succ b =>
        rw [show a + (b + 1) = (a + b) + 1 by omega, List.take_succ_cons, List.take_succ_cons, sum_cons, sum_cons]
        have := mrg_least f (a := a) (b := b) hA b2 ha (by simpa using hb)
        omega
      | zero =>
        cases a with
        | zero => simp [sum_nil]
        | succ a =>
          rw [show (a + 1) + 0 = a + 1 by omega, List.take_succ_cons, sum_cons]
          have h1 := mrg_least f (a := a) (b := 0) hA b2 (by omega) (Nat.zero_le _)
          rw [Nat.add_zero] at h1
          have hal : a < (x :: A).length := ha
          have h2 : (x :: A).take (a + 1) = (x :: A).take a ++ [(x :: A)[a]] := List.take_succ_eq_append_getElem hal
          have h3 : f y ≤ f (x :: A)[a] := by
            rcases List.mem_cons.1 (List.getElem_mem hal) with e | e
            · rw [e]; omega
            · have := a1 _ e; omega
          rw [h2, sum_app, sum_cons, sum_nil]
          simp only [List.take_zero, sum_nil] at h1 ⊢
          omega
termination_by A B => A.length + B.length
/-- the first so many of two lists as one are the first ones of each; what stands next in the first is heavier than what was taken of the second -/
theorem mrg_take (f : α → Nat) : ∀ {A B : List α} (m : Nat), Up f A → Up f B → m ≤ A.length + B.length → ∃ a b, a + b = m ∧ a ≤ A.length ∧ b ≤ B.length ∧ ((mrg f A B).take m).Perm (A.take a ++ B.take b) ∧ (∀ x, A[a]? = some x → ∀ y ∈ B.take b, f y < f x)
  | [], B, m, _, _, hm => ⟨0, m, by omega, Nat.le_refl _, by simpa using hm, by simp [nil_mrg], fun x h => by simp at h⟩
  | x :: A, [], m, _, _, hm => ⟨m, 0, by omega, by simpa using hm, Nat.le_refl _, by simp [mrg_nil], fun x h => by simp⟩
  | x :: A, y :: B, 0, _, _, _ => ⟨0, 0, rfl, Nat.zero_le _, Nat.zero_le _, by simp, fun x h => by simp⟩
  | x :: A, y :: B, m + 1, hA, hB, hm => by
    obtain ⟨a1, a2⟩ := List.pairwise_cons.1 hA
    obtain ⟨b1, b2⟩ := List.pairwise_cons.1 hB
    by_cases h : f x ≤ f y
    · rw [mrg_le h]
      obtain ⟨a, b, h1, h2, h3, h4, h5⟩ := mrg_take f (A := A) (B := y :: B) m a2 hB (by simp only [List.length_cons] at hm ⊢; omega)
      exact ⟨a + 1, b, by omega, by simpa using h2, h3, by simpa using h4.cons x, fun z hz => h5 z (by simpa using hz)⟩
    · rw [mrg_gt h]
      obtain ⟨a, b, h1, h2, h3, h4, h5⟩ := mrg_take f (A := x :: A) (B := B) m hA b2 (by simp only [List.length_cons] at hm ⊢; omega)
      refine ⟨a, b + 1, by omega, h2, by simpa using h3, ?_, fun z hz w hw => ?_⟩
      · rw [List.take_succ_cons, List.take_succ_cons]
        exact (h4.cons y).trans (List.perm_middle.symm)
      · rw [List.take_succ_cons] at hw
        rcases List.mem_cons.1 hw with rfl | hw
        · have : z ∈ x :: A := List.mem_of_getElem? hz
          rcases List.mem_cons.1 this with e | e
          · rw [e]; omega
          · have := a1 z e; omega
        · exact h5 z hz w hw
termination_by A B => A.length + B.length

theorem prs_length : ∀ (l : List Tr), (prs l).length = l.length / 2
  | [] => rfl
  | [_] => by simp [prs]
  | a :: b :: l => by simp only [prs, List.length_cons, prs_length l]; omega
theorem prs_mem {W : Nat → Nat} : ∀ {l : List Tr} {z : Tr}, z ∈ prs l → ∃ a b, z = .nd a b ∧ a ∈ l ∧ b ∈ l
  | [], z, h => by simp [prs] at h
  | [_], z, h => by simp [prs] at h
  | a :: b :: l, z, h => by
    simp only [prs] at h
    rcases List.mem_cons.1 h with rfl | h
    · exact ⟨a, b, rfl, by simp, by simp⟩
    · obtain ⟨c, d, e, h1, h2⟩ := prs_mem (W := W) h
      exact ⟨c, d, e, by simp [h1], by simp [h2]⟩
theorem prs_up {W : Nat → Nat} : ∀ {l : List Tr}, Up (Tr.wt W) l → Up (Tr.wt W) (prs l)
  | [], _ => List.Pairwise.nil
  | [_], _ => List.Pairwise.nil
  | a :: b :: l, h => by
    obtain ⟨h1, h2⟩ := List.pairwise_cons.1 h
    obtain ⟨h3, h4⟩ := List.pairwise_cons.1 h2
    refine List.pairwise_cons.2 ⟨fun z hz => ?_, prs_up h4⟩
    obtain ⟨c, d, rfl, hc, hd⟩ := prs_mem (W := W) hz
    have := h1 c (by simp [hc]); have := h3 d hd
    show a.wt W + b.wt W ≤ c.wt W + d.wt W
    omega
theorem prs_take : ∀ (l : List Tr) (b : Nat), (prs l).take b = prs (l.take (2 * b))
  | [], b => by simp [prs]
  | [x], b => by cases b <;> simp [prs, Nat.mul_succ]
  | x :: y :: l, 0 => by simp [prs]
  | x :: y :: l, b + 1 => by
    rw [show 2 * (b + 1) = 2 * b + 1 + 1 by omega, List.take_succ_cons, List.take_succ_cons]
    simp only [prs, List.take_succ_cons, prs_take l b]
theorem prs_sum {g : Tr → Nat} (hg : ∀ a b, g (.nd a b) = g a + g b) : ∀ (l : List Tr), l.length % 2 = 0 → sum g (prs l) = sum g l
  | [], _ => rfl
  | [_], h => by simp at h
  | a :: b :: l, h => by
    simp only [prs, sum_cons, hg]
    rw [prs_sum hg l (by simp only [List.length_cons] at h; omega)]
    omega
theorem up_map {W : Nat → Nat} {L : List Nat} (h : Up W L) : Up (Tr.wt W) (L.map .lf) := by
  unfold Up at h ⊢
  rw [List.pairwise_map]
  exact h.imp fun h => h
theorem lev_up {W : Nat → Nat} {L : List Nat} (h : Up W L) : ∀ j, Up (Tr.wt W) (lev W L j)
  | 0 => up_map h
  | j + 1 => mrg_up _ (up_map h) (prs_up (lev_up h j))
theorem lev_length (W : Nat → Nat) (L : List Nat) : ∀ j, (lev W L (j + 1)).length = L.length + (lev W L j).length / 2 := fun j => by
  rw [lev, mrg_length, List.length_map, prs_length]
/-- levels are long enough -/
theorem lev_long {W : Nat → Nat} {L : List Nat} : ∀ j, L.length ≤ 2 ^ (j + 1) → 2 * L.length - 2 ≤ (lev W L j).length := by
  have key : ∀ j, 2 ^ j * (lev W L j).length + (2 ^ j - 1) + L.length ≥ 2 ^ j * (2 * L.length) := by
    intro j
    induction j with
    | zero => simp [lev]; omega
    | succ j ih =>
      rw [lev_length]
      have h1 : (lev W L j).length ≤ 2 * ((lev W L j).length / 2) + 1 := by omega
      have h2 : 2 ^ j * (lev W L j).length ≤ 2 ^ j * (2 * ((lev W L j).length / 2) + 1) := Nat.mul_le_mul_left _ h1
      have h3 : 2 ^ j ≥ 1 := Nat.one_le_two_pow
      rw [Nat.mul_add, Nat.mul_one] at h2
      have h4 : 2 ^ (j + 1) * (L.length + (lev W L j).length / 2) = 2 ^ j * (2 * L.length) + 2 ^ j * (2 * ((lev W L j).length / 2)) := by
        rw [Nat.pow_succ, Nat.mul_add, Nat.mul_assoc, Nat.mul_assoc]
      have h5 : 2 ^ (j + 1) * (2 * L.length) = 2 ^ j * (2 * L.length) + 2 ^ j * (2 * L.length) := by
        rw [Nat.pow_succ, Nat.mul_assoc, Nat.mul_left_comm, Nat.two_mul]
      rw [h4, h5]
      have h6 : 2 ^ (j + 1) = 2 ^ j + 2 ^ j := by rw [Nat.pow_succ]; omega
      rw [h6]
      omega
  intro j hj
  have h := key j
  rcases Nat.lt_or_ge (lev W L j).length (2 * L.length - 2) with hc | hc
  · exfalso
    have h1 : (lev W L j).length + 3 ≤ 2 * L.length := by omega
    have h2 : 2 ^ j * ((lev W L j).length + 3) ≤ 2 ^ j * (2 * L.length) := Nat.mul_le_mul_left _ h1
    rw [Nat.mul_add] at h2
    have h6 : 2 ^ (j + 1) = 2 ^ j + 2 ^ j := by rw [Nat.pow_succ]; omega
    rw [h6] at hj
    have h3 : 2 ^ j ≥ 1 := Nat.one_le_two_pow
    omega
  · exact hc

/-- so many numbers together, from 0 on -/
def tot (g : Nat → Nat) : Nat → Nat
  | 0 => g 0
  | j + 1 => tot g j + g (j + 1)
theorem tot_congr {g h : Nat → Nat} : ∀ {j}, (∀ i, i ≤ j → g i = h i) → tot g j = tot h j
  | 0, e => e 0 (Nat.le_refl _)
  | j + 1, e => by rw [tot, tot, tot_congr fun i hi => e i (by omega), e (j + 1) (Nat.le_refl _)]
theorem sum_congr {f g : α → Nat} : ∀ {l : List α}, (∀ x ∈ l, f x = g x) → sum f l = sum g l
  | [], _ => rfl
  | x :: l, h => by rw [sum_cons, sum_cons, h x (by simp), sum_congr fun y hy => h y (by simp [hy])]
theorem sum_add (f g : α → Nat) : ∀ l : List α, sum (fun x => f x + g x) l = sum f l + sum g l
  | [] => rfl
  | x :: l => by rw [sum_cons, sum_cons, sum_cons, sum_add f g l]; omega
theorem sum_const (c : Nat) : ∀ l : List α, sum (fun _ => c) l = l.length * c
  | [] => by simp [sum_nil]
  | x :: l => by rw [sum_cons, sum_const c l, List.length_cons, Nat.succ_mul]; omega
theorem sum_swap (g : Nat → α → Nat) (l : List α) : ∀ k, sum (fun x => tot (fun i => g i x) k) l = tot (fun i => sum (g i) l) k
  | 0 => rfl
  | k + 1 => by
    show sum (fun x => tot (fun i => g i x) k + g (k + 1) x) l = tot (fun i => sum (g i) l) k + sum (g (k + 1)) l
    rw [sum_add, sum_swap g l k]
theorem sum_perm {f : α → Nat} {l m : List α} (h : l.Perm m) : sum f l = sum f m := by
  induction h with
  | nil => rfl
  | cons x _ ih => rw [sum_cons, sum_cons, ih]
  | swap x y l => simp only [sum_cons]; omega
  | trans _ _ h1 h2 => exact h1.trans h2
theorem sum_map (f : α → Nat) (g : β → α) (l : List β) : sum f (l.map g) = sum (fun x => f (g x)) l := by simp [sum, Function.comp_def]
theorem sum_filter (f : α → Nat) (p : α → Bool) : ∀ l : List α, sum f (l.filter p) = sum (fun x => if p x = true then f x else 0) l
  | [] => rfl
  | x :: l => by
    rw [List.filter_cons, sum_cons]
    by_cases h : p x = true
    · rw [if_pos h, if_pos h, sum_cons, sum_filter f p l]
    · rw [if_neg h, if_neg h, sum_filter f p l]; omega
theorem length_sum (l : List α) : l.length = sum (fun _ => 1) l := by rw [sum_const]; omega
/-- how much a list covers that has what is told of it at each level -/
def cov (a : Nat → Nat) : Nat → Nat → Prop
  | 0, m => m ≤ a 0
  | j + 1, m => cov a j (2 * (m - a (j + 1)))
theorem cov_of {a : Nat → Nat} : ∀ {j m}, m * 2 ^ j ≤ tot (fun i => a i * 2 ^ i) j → cov a j m
  | 0, m, h => by simpa [tot, cov] using h
  | j + 1, m, h => by
    refine cov_of (j := j) ?_
    rw [tot] at h
    have e : 2 * (m - a (j + 1)) * 2 ^ j = (m - a (j + 1)) * 2 ^ (j + 1) := by rw [Nat.pow_succ, Nat.mul_comm 2, Nat.mul_assoc, Nat.mul_comm 2]
    rw [e, Nat.sub_mul]
    omega
theorem take_shift {f : α → Nat} {x : α} {l : List α} (h : Up f (x :: l)) : ∀ k, k ≤ l.length → sum f ((x :: l).take k) ≤ sum f (l.take k)
  | 0, _ => by simp
  | k + 1, hk => by
    have h2 : l.take (k + 1) = l.take k ++ [l[k]] := List.take_succ_eq_append_getElem hk
    have h3 := (List.pairwise_cons.1 h).1 _ (List.getElem_mem hk)
    rw [List.take_succ_cons, sum_cons, h2, sum_app, sum_cons, sum_nil]
    omega
theorem sub_least {f : α → Nat} {s l : List α} (hs : s.Sublist l) : Up f l → sum f (l.take s.length) ≤ sum f s := by
  induction hs with
  | slnil => intro _; simp
  | cons x h ih =>
    intro hu
    exact Nat.le_trans (take_shift hu _ h.length_le) (ih (List.pairwise_cons.1 hu).2)
  | cons_cons x h ih =>
    intro hu
    rw [List.length_cons, List.take_succ_cons, sum_cons, sum_cons]
    have := ih (List.pairwise_cons.1 hu).2
    omega
theorem sum_take_le (f : α → Nat) (l : List α) {a b : Nat} (h : a ≤ b) : sum f (l.take a) ≤ sum f (l.take b) := by
  have e : l.take b = l.take a ++ (l.drop a).take (b - a) := by
    have := (List.take_append_drop a l)
    conv => lhs; rw [← this, List.take_append]
    rw [List.take_take, Nat.min_eq_right h, List.length_take]
    by_cases hl : a ≤ l.length
    · rw [Nat.min_eq_left hl]
    · rw [List.drop_eq_nil_of_le (by omega)]; simp
  rw [e, sum_app]; omega
theorem sum_leaves (W : Nat → Nat) (L : List Nat) (k : Nat) : sum (Tr.wt W) ((L.map Tr.lf).take k) = sum W (L.take k) := by
  rw [← List.map_take, sum_map]; rfl
/-- what covers so much weighs no less than the first so many -/
theorem cov_least {W : Nat → Nat} {L : List Nat} {sel : Nat → List Nat} (hu : Up W L) (hs : ∀ j, (sel j).Sublist L) : ∀ {j m}, cov (fun i => (sel i).length) j m → m ≤ (lev W L j).length ∧ sum (Tr.wt W) ((lev W L j).take m) ≤ tot (fun i => sum W (sel i)) j
  | 0, m, h => by
    have h1 : m ≤ (sel 0).length := h
    have h2 := (hs 0).length_le
    refine ⟨by simp [lev]; omega, ?_⟩
    rw [lev, sum_leaves, tot]
    exact Nat.le_trans (sum_take_le W L h1) (sub_least (hs 0) hu)
  | j + 1, m, h => by
    obtain ⟨h1, h2⟩ := cov_least hu hs (j := j) (m := 2 * (m - (sel (j + 1)).length)) h
    have h3 := (hs (j + 1)).length_le
    have h4 := sub_least (hs (j + 1)) hu
    refine ⟨by rw [lev_length]; omega, ?_⟩
    rw [lev, tot]
    obtain ⟨a, ha⟩ : ∃ a, a = (sel (j + 1)).length := ⟨_, rfl⟩
    rw [← ha] at h1 h2 h3 h4
    rcases Nat.le_total m a with hm | hm
    · have h5 := mrg_least (Tr.wt W) (A := L.map .lf) (B := prs (lev W L j)) (a := m) (b := 0) (up_map hu) (prs_up (lev_up hu j)) (by rw [List.length_map]; omega) (Nat.zero_le _)
      rw [Nat.add_zero, List.take_zero, sum_nil, sum_leaves] at h5
      have := sum_take_le W L hm
      omega
    · have h5 := mrg_least (Tr.wt W) (A := L.map .lf) (B := prs (lev W L j)) (a := a) (b := m - a) (up_map hu) (prs_up (lev_up hu j)) (by rw [List.length_map]; omega) (by rw [prs_length]; omega)
      rw [show a + (m - a) = m by omega, sum_leaves, prs_take, prs_sum (fun _ _ => rfl) _ (by rw [List.length_take, Nat.min_eq_left h1]; omega)] at h5
      omega
theorem prs_has {W : Nat → Nat} : ∀ {l : List Tr} {t : Tr}, l.length % 2 = 0 → t ∈ l → ∃ z ∈ prs l, t.wt W ≤ z.wt W
  | [], _, _, h => by simp at h
  | [_], _, h, _ => by simp at h
  | a :: b :: l, t, h, ht => by
    simp only [prs]
    rcases List.mem_cons.1 ht with rfl | ht
    · exact ⟨_, List.mem_cons_self .., by show _ ≤ t.wt W + b.wt W; omega⟩
    · rcases List.mem_cons.1 ht with rfl | ht
      · exact ⟨_, List.mem_cons_self .., by show _ ≤ a.wt W + t.wt W; omega⟩
      · obtain ⟨z, hz, h2⟩ := prs_has (l := l) (by simp only [List.length_cons] at h; omega) ht
        exact ⟨z, List.mem_cons_of_mem _ hz, h2⟩
/-- of what the first so many packages are made: at each level of the first leaves, more at each higher one -/
theorem lev_parts {W : Nat → Nat} {L : List Nat} (hu : Up W L) : ∀ (j m : Nat), m ≤ (lev W L j).length → ∃ a : Nat → Nat, (∀ i, i ≤ j → a i ≤ L.length) ∧ (∀ i, i < j → a i ≤ a (i + 1)) ∧ tot (fun i => a i * 2 ^ i) j = m * 2 ^ j ∧
    (∀ (g : Tr → Nat) (h : Nat → Nat), (∀ i, g (.lf i) = h i) → (∀ x y, g (.nd x y) = g x + g y) → sum g ((lev W L j).take m) = tot (fun i => sum h (L.take (a i))) j) ∧ (∀ x ∈ L.take (a j), Tr.lf x ∈ (lev W L j).take m)
  | 0, m, hm => by
    have hm2 : m ≤ L.length := by simpa [lev] using hm
    refine ⟨fun _ => m, fun _ _ => hm2, fun _ _ => Nat.le_refl _, by simp [tot], fun g h h1 _ => ?_, fun x hx => ?_⟩
    · rw [lev, tot, ← List.map_take, sum_map]; exact sum_congr fun x _ => h1 x
    · rw [lev, ← List.map_take]; exact List.mem_map_of_mem hx
  | j + 1, m, hm => by
    obtain ⟨b1, b, e1, e2, e3, e4, e5⟩ := mrg_take (Tr.wt W) (A := L.map .lf) (B := prs (lev W L j)) m (up_map hu) (prs_up (lev_up hu j)) (by rw [lev_length] at hm; rw [List.length_map, prs_length]; exact hm)
    rw [List.length_map] at e2
    rw [prs_length] at e3
    have hev : ((lev W L j).take (2 * b)).length % 2 = 0 := by rw [List.length_take, Nat.min_eq_left (by omega)]; omega
    obtain ⟨a, h1, h2, h3, h4, h5⟩ := lev_parts hu j (2 * b) (by omega)
    have hne : a j ≤ b1 := by
      rcases Nat.lt_or_ge b1 (a j) with hc | hc
      · exfalso
        have hl : b1 < L.length := Nat.lt_of_lt_of_le hc (h1 j (Nat.le_refl _))
        have hx : L[b1] ∈ L.take (a j) := List.mem_iff_getElem.2 ⟨b1, by rw [List.length_take]; omega, by rw [List.getElem_take]⟩
        obtain ⟨z, hz, hw⟩ := prs_has (W := W) hev (h5 _ hx)
        have h6 := e5 (.lf L[b1]) (by rw [List.getElem?_map, List.getElem?_eq_getElem hl]; rfl) z (by rw [prs_take]; exact hz)
        omega
      · exact hc
    refine ⟨fun i => if i ≤ j then a i else b1, fun i hi => ?_, fun i hi => ?_, ?_, fun g h g1 g2 => ?_, fun x hx => ?_⟩
    · show (if i ≤ j then a i else b1) ≤ L.length
      split
      · exact h1 i (by assumption)
      · exact e2
    · show (if i ≤ j then a i else b1) ≤ (if i + 1 ≤ j then a (i + 1) else b1)
      by_cases hj : i + 1 ≤ j
      · rw [if_pos (by omega), if_pos hj]; exact h2 i (by omega)
      · obtain rfl : i = j := by omega
        rw [if_pos (Nat.le_refl _), if_neg hj]; exact hne
    · rw [tot, tot_congr (h := fun i => a i * 2 ^ i) fun i hi => by show (if i ≤ j then a i else b1) * 2 ^ i = _; rw [if_pos hi], h3]
      show _ + (if j + 1 ≤ j then a (j + 1) else b1) * 2 ^ (j + 1) = _
      rw [if_neg (by omega)]
      rw [show 2 * b * 2 ^ j = b * 2 ^ (j + 1) by rw [Nat.pow_succ, Nat.mul_comm 2, Nat.mul_assoc, Nat.mul_comm 2], ← Nat.add_mul, ← e1, Nat.add_comm]
    · rw [lev, sum_perm e4, sum_app, tot, tot_congr (h := fun i => sum h (L.take (a i))) fun i hi => by show sum h (L.take (if i ≤ j then a i else b1)) = _; rw [if_pos hi], prs_take, prs_sum g2 _ hev, h4 g h g1 g2, ← List.map_take, sum_map, sum_congr (f := fun x => g (.lf x)) (g := h) fun x _ => g1 x]
      show _ = _ + sum h (L.take (if j + 1 ≤ j then a (j + 1) else b1))
      rw [if_neg (by omega)]
      omega
    · replace hx : x ∈ L.take (if j + 1 ≤ j then a (j + 1) else b1) := hx
      rw [if_neg (by omega)] at hx
      rw [lev]
      refine e4.mem_iff.2 (List.mem_append_left _ ?_)
      rw [← List.map_take]; exact List.mem_map_of_mem hx

theorem tot_le {a : Nat → Nat} {c : Nat} : ∀ {j}, (∀ i, i ≤ j → a i ≤ c) → tot (fun i => a i * 2 ^ i) j + c ≤ c * 2 ^ (j + 1)
  | 0, h => by have := h 0 (Nat.le_refl _); simp [tot]; omega
  | j + 1, h => by
    have h1 := tot_le (j := j) fun i hi => h i (by omega)
    have h2 : a (j + 1) * 2 ^ (j + 1) ≤ c * 2 ^ (j + 1) := Nat.mul_le_mul_right _ (h (j + 1) (Nat.le_refl _))
    rw [tot, Nat.pow_succ 2 (j + 1), ← Nat.mul_assoc]
    omega
/-- of numbers that are 0 for a while, and 1 then -/
theorem tot_mono {b : Nat → Nat} : ∀ {k}, (∀ i, i ≤ k → b i ≤ 1) → (∀ i, i < k → b i ≤ b (i + 1)) → tot b k ≤ k + 1 ∧ tot (fun i => b i * 2 ^ i) k + 2 ^ (k + 1 - tot b k) = 2 ^ (k + 1)
  | 0, h, _ => by
    have := h 0 (Nat.le_refl _)
    rcases Nat.le_one_iff_eq_zero_or_eq_one.1 this with e | e <;> simp [tot, e]
  | k + 1, h, hm => by
    have h1 := h (k + 1) (Nat.le_refl _)
    obtain ⟨i1, i2⟩ := tot_mono (b := b) (k := k) (fun i hi => h i (by omega)) (fun i hi => hm i (by omega))
    rcases Nat.le_one_iff_eq_zero_or_eq_one.1 h1 with e | e
    · have hz : ∀ i, i ≤ k + 1 → b i = 0 := by
        intro i hi
        have : ∀ d i, i + d = k + 1 → b i = 0 := by
          intro d
          induction d with
          | zero => intro i hi; rw [show i = k + 1 by omega]; exact e
          | succ d ih => intro i hi; have := hm i (by omega); have := ih (i + 1) (by omega); omega
        exact this (k + 1 - i) i (by omega)
      have t0 : ∀ j, j ≤ k + 1 → tot b j = 0 ∧ tot (fun i => b i * 2 ^ i) j = 0 := by
        intro j
        induction j with
        | zero => intro _; simp [tot, hz 0 (by omega)]
        | succ j ih => intro hj; obtain ⟨x, y⟩ := ih (by omega); simp [tot, x, y, hz (j + 1) hj]
      obtain ⟨x, y⟩ := t0 (k + 1) (Nat.le_refl _)
      rw [x, y]; simp
    · rw [tot, tot, e]
      refine ⟨by omega, ?_⟩
      have h3 : k + 1 + 1 - (tot b k + 1) = k + 1 - tot b k := by omega
      rw [h3, Nat.one_mul, Nat.pow_succ 2 (k + 1)]
      omega
theorem count_sum : ∀ {L s : List Nat}, L.Nodup → (∀ x ∈ s, x ∈ L) → ∀ (W : Nat → Nat), sum (fun x => W x * s.count x) L = sum W s
  | L, [], _, _, W => by rw [sum_congr (g := fun _ => 0) fun x _ => by simp, sum_const]; simp [sum_nil]
  | L, y :: s, hn, h, W => by
    have ih := count_sum (L := L) (s := s) hn (fun x hx => h x (by simp [hx])) W
    have one : ∀ {L : List Nat}, L.Nodup → y ∈ L → sum (fun x => W x * if y = x then 1 else 0) L = W y := by
      intro L
      induction L with
      | nil => intro _ h; simp at h
      | cons z L ih =>
        intro hn hy
        obtain ⟨n1, n2⟩ := List.nodup_cons.1 hn
        rw [sum_cons]
        by_cases e : y = z
        · subst e
          rw [if_pos rfl, sum_congr (g := fun _ => 0) fun x hx => by rw [if_neg (fun e => n1 (by rw [e]; exact hx)), Nat.mul_zero], sum_const]; omega
        · rw [if_neg e, ih n2 ((List.mem_cons.1 hy).resolve_left e)]; omega
    rw [sum_cons, ← ih, ← one hn (h y (by simp)), ← sum_add]
    refine sum_congr fun x _ => ?_
    rw [List.count_cons, ← Nat.mul_add, Nat.add_comm]
    congr 2
    by_cases e : y = x <;> simp [e]
/-- how long the code of a leaf is, the limit being one more -/
def len (W : Nat → Nat) (L : List Nat) (k x : Nat) : Nat := sum (Tr.cnt x) ((lev W L k).take (2 * L.length - 2))
theorem cnt_lf (x i : Nat) : (Tr.lf i).cnt x = if i = x then 1 else 0 := rfl
theorem sum_count (x : Nat) : ∀ s : List Nat, sum (fun i => if i = x then 1 else 0) s = s.count x
  | [] => rfl
  | i :: s => by rw [sum_cons, sum_count x s, List.count_cons]; by_cases e : i = x <;> simp [e]; omega
/-- what the lengths are: each from 1 to the limit, and they leave no room; and together they cost what the packages weigh -/
theorem len_full {W : Nat → Nat} {L : List Nat} {k : Nat} (hu : Up W L) (hn : L.Nodup) (h2 : 2 ≤ L.length) (hk : L.length ≤ 2 ^ (k + 1)) :
    (∀ x ∈ L, 1 ≤ len W L k x ∧ len W L k x ≤ k + 1) ∧ sum (fun x => 2 ^ (k + 1 - len W L k x)) L = 2 ^ (k + 1) ∧ sum (fun x => W x * len W L k x) L = sum (Tr.wt W) ((lev W L k).take (2 * L.length - 2)) ∧ (∀ x, x ∉ L → len W L k x = 0) := by
  obtain ⟨a, a1, a2, a3, a4, _⟩ := lev_parts hu k (2 * L.length - 2) (lev_long k hk)
  have hlen : ∀ x, len W L k x = tot (fun i => (L.take (a i)).count x) k := fun x => by
    unfold len
    rw [a4 (Tr.cnt x) (fun i => if i = x then 1 else 0) (fun i => rfl) (fun _ _ => rfl)]
    exact tot_congr fun i _ => sum_count x _
  have hmono : ∀ i j, i ≤ j → j ≤ k → a i ≤ a j := by
    intro i j hij
    induction j with
    | zero => intro _; rw [show i = 0 by omega]; exact Nat.le_refl _
    | succ j ih =>
      intro hj
      rcases Nat.lt_or_ge i (j + 1) with h | h
      · exact Nat.le_trans (ih (by omega) (by omega)) (a2 j (by omega))
      · rw [show i = j + 1 by omega]; exact Nat.le_refl _
  have hak : a k = L.length := by
    have h1 := a1 k (Nat.le_refl _)
    rcases Nat.lt_or_ge (a k) L.length with hc | hc
    · exfalso
      have h3 := tot_le (a := a) (c := L.length - 1) (j := k) fun i hi => by have := hmono i k hi (Nat.le_refl _); omega
      rw [a3] at h3
      have e : (2 * L.length - 2) * 2 ^ k = (L.length - 1) * 2 ^ (k + 1) := by
        rw [Nat.pow_succ, show 2 * L.length - 2 = (L.length - 1) * 2 by omega, Nat.mul_assoc, Nat.mul_comm 2]
      rw [e] at h3
      omega
    · omega
  have hc1 : ∀ x i, (L.take (a i)).count x ≤ 1 := fun x i => List.nodup_iff_count.1 (hn.sublist (List.take_sublist _ _)) x
  have hcm : ∀ x i, i < k → (L.take (a i)).count x ≤ (L.take (a (i + 1))).count x := fun x i hi => by
    have h1 : (L.take (a i)) = (L.take (a (i + 1))).take (a i) := by rw [List.take_take, Nat.min_eq_left (a2 i hi)]
    rw [h1]
    exact List.Sublist.count_le x (List.take_sublist _ _)
  have hT := fun x => tot_mono (b := fun i => (L.take (a i)).count x) (k := k) (fun i _ => hc1 x i) (fun i hi => hcm x i hi)
  have hmem : ∀ i, ∀ x ∈ L.take (a i), x ∈ L := fun i x hx => List.mem_of_mem_take hx
  have hswap : sum (fun x => tot (fun i => (L.take (a i)).count x * 2 ^ i) k) L = (2 * L.length - 2) * 2 ^ k := by
    rw [sum_swap (fun i x => (L.take (a i)).count x * 2 ^ i), ← a3]
    refine tot_congr fun i hi => ?_
    have := count_sum hn (hmem i) (fun _ => 2 ^ i)
    rw [sum_const, List.length_take, Nat.min_eq_left (a1 i hi)] at this
    rw [← this]
    exact sum_congr fun x _ => Nat.mul_comm _ _
  refine ⟨fun x hx => ⟨?_, by rw [hlen]; exact (hT x).1⟩, ?_, ?_, fun x hx => ?_⟩
  · rw [hlen]
    have h1 : (L.take (a k)).count x = 1 := by
      rw [hak, List.take_length]
      have := List.count_pos_iff.2 hx
      have := List.nodup_iff_count.1 hn x
      omega
    cases k with
    | zero => rw [tot]; omega
    | succ k => rw [tot]; omega
  · have h1 : sum (fun x => tot (fun i => (L.take (a i)).count x * 2 ^ i) k + 2 ^ (k + 1 - len W L k x)) L = L.length * 2 ^ (k + 1) := by
      rw [← sum_const]
      refine sum_congr fun x _ => ?_
      rw [hlen]; exact (hT x).2
    rw [sum_add, hswap] at h1
    have e : (2 * L.length - 2) * 2 ^ k + 2 ^ (k + 1) = L.length * 2 ^ (k + 1) := by
      rw [show 2 * L.length - 2 = (L.length - 1) * 2 by omega, Nat.mul_assoc, Nat.mul_comm 2 (2 ^ k), ← Nat.pow_succ, ← Nat.succ_mul]
      congr 1; omega
    omega
  · rw [a4 (Tr.wt W) W (fun _ => rfl) (fun _ _ => rfl)]
    rw [sum_congr (g := fun x => tot (fun i => W x * (L.take (a i)).count x) k) fun x _ => by
      rw [hlen]
      have : ∀ j, W x * tot (fun i => (L.take (a i)).count x) j = tot (fun i => W x * (L.take (a i)).count x) j := by
        intro j
        induction j with
        | zero => rfl
        | succ j ih => rw [tot, tot, Nat.mul_add, ih]
      exact this k]
    rw [sum_swap (fun i x => W x * (L.take (a i)).count x)]
    exact tot_congr fun i _ => count_sum hn (hmem i) W
  · rw [hlen]
    have : ∀ j, tot (fun i => (L.take (a i)).count x) j = 0 := by
      intro j
      induction j with
      | zero => exact List.count_eq_zero.2 fun h => hx (hmem _ x h)
      | succ j ih => rw [tot, ih, List.count_eq_zero.2 fun h => hx (hmem _ x h)]
    exact this k
theorem tot_from (w c : Nat) : ∀ k, tot (fun j => if c ≤ j then w else 0) k = w * (k + 1 - c)
  | 0 => by
    by_cases h : c = 0
    · simp [tot, h]
    · simp [tot, h]; rw [show 1 - c = 0 by omega]; rfl
  | k + 1 => by
    rw [tot, tot_from w c k]
    by_cases h : c ≤ k + 1
    · rw [if_pos h, show k + 1 + 1 - c = (k + 1 - c) + 1 by omega, Nat.mul_succ]
    · rw [if_neg h, show k + 1 + 1 - c = 0 by omega, show k + 1 - c = 0 by omega]; simp
theorem tot_pow (c : Nat) : ∀ k, c ≤ k + 1 → tot (fun j => if c ≤ j then 2 ^ j else 0) k + 2 ^ c = 2 ^ (k + 1)
  | 0, h => by
    rcases Nat.le_one_iff_eq_zero_or_eq_one.1 h with e | e <;> simp [tot, e]
  | k + 1, h => by
    rw [tot]
    rcases Nat.lt_or_ge (k + 1) c with hc | hc
    · rw [if_neg (by omega)]
      have : ∀ j, j ≤ k → tot (fun j => if c ≤ j then 2 ^ j else 0) j = 0 := by
        intro j
        induction j with
        | zero => intro _; rw [tot, if_neg (by omega)]
        | succ j ih => intro hj; rw [tot, ih (by omega), if_neg (by omega)]
      rw [this k (Nat.le_refl _), show c = k + 1 + 1 by omega]; omega
    · have := tot_pow c k hc
      rw [if_pos hc, Nat.pow_succ 2 (k + 1)]
      omega
/-- no other lengths that have room cost less -/
theorem len_least {W : Nat → Nat} {L : List Nat} {k : Nat} (hu : Up W L) (hn : L.Nodup) (h2 : 2 ≤ L.length) (hk : L.length ≤ 2 ^ (k + 1)) (o : Nat → Nat) (ho : ∀ x ∈ L, 1 ≤ o x ∧ o x ≤ k + 1) (hr : sum (fun x => 2 ^ (k + 1 - o x)) L ≤ 2 ^ (k + 1)) :
    sum (fun x => W x * len W L k x) L ≤ sum (fun x => W x * o x) L := by
  rw [(len_full hu hn h2 hk).2.2.1]
  let sel : Nat → List Nat := fun j => L.filter fun x => decide (k + 1 - o x ≤ j)
  have hs : ∀ j, (sel j).Sublist L := fun j => List.filter_sublist
  have hcov : cov (fun i => (sel i).length) k (2 * L.length - 2) := by
    refine cov_of ?_
    have h1 : tot (fun i => (sel i).length * 2 ^ i) k = sum (fun x => tot (fun j => if k + 1 - o x ≤ j then 2 ^ j else 0) k) L := by
      rw [sum_swap (fun j x => if k + 1 - o x ≤ j then 2 ^ j else 0)]
      refine tot_congr fun i _ => ?_
      rw [← sum_const (2 ^ i) (sel i), sum_filter]
      exact sum_congr fun x _ => by simp
    have h3 : sum (fun x => tot (fun j => if k + 1 - o x ≤ j then 2 ^ j else 0) k + 2 ^ (k + 1 - o x)) L = L.length * 2 ^ (k + 1) := by
      rw [← sum_const]
      exact sum_congr fun x _ => tot_pow _ k (by omega)
    rw [sum_add] at h3
    have e : (2 * L.length - 2) * 2 ^ k + 2 ^ (k + 1) = L.length * 2 ^ (k + 1) := by
      rw [show 2 * L.length - 2 = (L.length - 1) * 2 by omega, Nat.mul_assoc, Nat.mul_comm 2 (2 ^ k), ← Nat.pow_succ, ← Nat.succ_mul]
      congr 1; omega
    rw [h1]
    omega
  refine Nat.le_trans (cov_least hu hs hcov).2 (Nat.le_of_eq ?_)
  have h4 : ∀ i, sum W (sel i) = sum (fun x => if k + 1 - o x ≤ i then W x else 0) L := fun i => by
    rw [sum_filter]; exact sum_congr fun x _ => by simp
  rw [tot_congr fun i _ => h4 i, ← sum_swap (fun j x => if k + 1 - o x ≤ j then W x else 0)]
  refine sum_congr fun x hx => ?_
  rw [tot_from]
  have := ho x hx
  congr 1; omega

theorem sum_two {L : List Nat} {i k : Nat} (hn : L.Nodup) (hi : i ∈ L) (hk : k ∈ L) (hne : i ≠ k) : ∃ R : List Nat, (∀ x ∈ R, x ≠ i ∧ x ≠ k) ∧ ∀ f : Nat → Nat, sum f L = f i + (f k + sum f R) := by
  have p1 : L.Perm (i :: L.erase i) := List.perm_cons_erase hi
  have hk2 : k ∈ L.erase i := (List.mem_erase_of_ne (fun e => hne e.symm)).2 hk
  have p2 : (L.erase i).Perm (k :: (L.erase i).erase k) := List.perm_cons_erase hk2
  refine ⟨(L.erase i).erase k, fun x hx => ?_, fun f => ?_⟩
  · have n1 := (hn.erase i).mem_erase_iff.1 hx
    have n2 := hn.mem_erase_iff.1 n1.2
    exact ⟨n2.1, n1.1⟩
  · rw [sum_perm p1, sum_cons, sum_perm p2, sum_cons]
/-- who weighs more has no longer code -/
theorem len_order {W : Nat → Nat} {L : List Nat} {k : Nat} (hu : Up W L) (hn : L.Nodup) (h2 : 2 ≤ L.length) (hk : L.length ≤ 2 ^ (k + 1)) {i j : Nat} (hi : i ∈ L) (hj : j ∈ L) (hw : W j < W i) : len W L k i ≤ len W L k j := by
  rcases Nat.lt_or_ge (len W L k j) (len W L k i) with hc | hc
  · exfalso
    have hne : i ≠ j := fun e => by rw [e] at hw; omega
    obtain ⟨f1, f2, _, _⟩ := len_full hu hn h2 hk
    obtain ⟨R, hR, hs⟩ := sum_two hn hi hj hne
    let o : Nat → Nat := fun x => if x = i then len W L k j else if x = j then len W L k i else len W L k x
    have oi : o i = len W L k j := if_pos rfl
    have oj : o j = len W L k i := by show (if j = i then _ else _) = _; rw [if_neg (fun e => hne e.symm), if_pos rfl]
    have oR : ∀ x ∈ R, o x = len W L k x := fun x hx => by show (if x = i then _ else _) = _; rw [if_neg (hR x hx).1, if_neg (hR x hx).2]
    have h3 := len_least hu hn h2 hk o (fun x hx => by
      show 1 ≤ (if x = i then _ else _) ∧ (if x = i then _ else _) ≤ _
      split
      · exact f1 j hj
      · split
        · exact f1 i hi
        · exact f1 x hx) (by
      refine Nat.le_of_eq (Eq.trans ?_ f2)
      rw [hs, hs, oi, oj, sum_congr (g := fun x => 2 ^ (k + 1 - len W L k x)) fun x hx => by rw [oR x hx]]
      omega)
    rw [hs, hs, oi, oj, sum_congr (f := fun x => W x * o x) (g := fun x => W x * len W L k x) fun x hx => by rw [oR x hx]] at h3
    obtain ⟨d, hd⟩ : ∃ d, W i = W j + (d + 1) := ⟨W i - W j - 1, by omega⟩
    obtain ⟨e, he⟩ : ∃ e, len W L k i = len W L k j + (e + 1) := ⟨len W L k i - len W L k j - 1, by omega⟩
    rw [hd, he] at h3
    have h5 : (d + 1) * (e + 1) ≥ 1 := Nat.mul_pos (by omega) (by omega)
    simp only [Nat.add_mul, Nat.mul_add] at h3 h5
    omega
  · exact hc
/-- a wider limit costs no more -/
theorem len_wider {W : Nat → Nat} {L : List Nat} {k : Nat} (hu : Up W L) (hn : L.Nodup) (h2 : 2 ≤ L.length) (hk : L.length ≤ 2 ^ (k + 1)) : sum (fun x => W x * len W L (k + 1) x) L ≤ sum (fun x => W x * len W L k x) L := by
  obtain ⟨f1, f2, _, _⟩ := len_full hu hn h2 hk
  refine len_least hu hn h2 (Nat.le_trans hk (Nat.pow_le_pow_right (by omega) (by omega))) _ (fun x hx => ⟨(f1 x hx).1, by have := (f1 x hx).2; omega⟩) ?_
  have h1 : sum (fun x => 2 ^ (k + 1 + 1 - len W L k x)) L = sum (fun x => 2 ^ (k + 1 - len W L k x) + 2 ^ (k + 1 - len W L k x)) L := sum_congr fun x hx => by
    have := (f1 x hx).2
    rw [show k + 1 + 1 - len W L k x = (k + 1 - len W L k x) + 1 by omega, Nat.pow_succ]; omega
  rw [h1, sum_add, f2, Nat.pow_succ 2 (k + 1)]; omega
/-- an item behind all that are not heavier -/
def put (f : α → Nat) (x : α) : List α → List α
  | [] => [x]
  | y :: l => if f y ≤ f x then y :: put f x l else x :: y :: l
theorem put_mem {f : α → Nat} {x z : α} : ∀ {l : List α}, z ∈ put f x l ↔ z = x ∨ z ∈ l
  | [] => by simp [put]
  | y :: l => by
    rw [put]
    split
    · rw [List.mem_cons, put_mem, List.mem_cons]
      constructor
      · rintro (h | h | h) <;> simp [h]
      · rintro (h | h | h) <;> simp [h]
    · simp
theorem put_perm (f : α → Nat) (x : α) : ∀ l : List α, (put f x l).Perm (x :: l)
  | [] => List.Perm.refl _
  | y :: l => by
    rw [put]
    split
    · exact ((put_perm f x l).cons y).trans (List.Perm.swap x y l)
    · exact List.Perm.refl _
theorem put_up {f : α → Nat} {x : α} : ∀ {l : List α}, Up f l → Up f (put f x l)
  | [], _ => by simp [put, Up]
  | y :: l, h => by
    obtain ⟨h1, h2⟩ := List.pairwise_cons.1 h
    rw [put]
    split
    · refine List.pairwise_cons.2 ⟨fun z hz => ?_, put_up h2⟩
      rcases put_mem.1 hz with rfl | hz
      · assumption
      · exact h1 z hz
    · refine List.pairwise_cons.2 ⟨fun z hz => ?_, h⟩
      rcases List.mem_cons.1 hz with rfl | hz
      · omega
      · have := h1 z hz; omega
/-- items put one behind the other, themselves in order, are two lists as one -/
theorem puts_mrg (f : α → Nat) : ∀ {B A : List α}, Up f A → Up f B → B.foldl (fun l x => put f x l) A = mrg f A B
  | [], A, _, _ => by rw [mrg_nil]; rfl
  | y :: B, A, hA, hB => by
    obtain ⟨b1, b2⟩ := List.pairwise_cons.1 hB
    rw [List.foldl_cons, puts_mrg f (put_up hA) b2]
    clear hB b2
    induction A with
    | nil =>
      rw [put, nil_mrg]
      cases B with
      | nil => rw [mrg_nil]
      | cons z B => rw [mrg_le (b1 z (by simp)), nil_mrg]
    | cons x A ih =>
      obtain ⟨a1, a2⟩ := List.pairwise_cons.1 hA
      rw [put]
      by_cases h : f x ≤ f y
      · rw [if_pos h, mrg_le h, ← ih a2]
        cases B with
        | nil => rw [mrg_nil, mrg_nil]
        | cons z B => rw [mrg_le (Nat.le_trans h (b1 z (by simp)))]
      · rw [if_neg h, mrg_gt h]
        cases B with
        | nil => rw [mrg_nil, mrg_nil]
        | cons z B => rw [mrg_le (b1 z (by simp))]
/-- the symbols that have a weight -/
def sy (ws : List Nat) : List Nat := (List.range ws.length).filter fun i => decide (0 < ws.getD i 0)
def wf (ws : List Nat) (i : Nat) : Nat := ws.getD i 0
/-- the leaves, in order -/
def lv (ws : List Nat) : List Nat := (sy ws).foldl (fun l x => put (wf ws) x l) []
theorem puts_up {f : α → Nat} : ∀ (B : List α) {A : List α}, Up f A → Up f (B.foldl (fun l x => put f x l) A)
  | [], _, h => h
  | _ :: B, _, h => puts_up B (put_up h)
theorem puts_perm (f : α → Nat) : ∀ (B A : List α), (B.foldl (fun l x => put f x l) A).Perm (B ++ A)
  | [], A => List.Perm.refl _
  | y :: B, A => by
    rw [List.foldl_cons]
    refine (puts_perm f B (put f y A)).trans ?_
    exact ((put_perm f y A).append_left B).trans List.perm_middle
theorem lv_up (ws : List Nat) : Up (wf ws) (lv ws) := puts_up _ List.Pairwise.nil
theorem lv_perm (ws : List Nat) : (lv ws).Perm (sy ws) := by have := puts_perm (wf ws) (sy ws) []; rwa [List.append_nil] at this
theorem sy_nodup (ws : List Nat) : (sy ws).Nodup := List.Nodup.sublist List.filter_sublist List.nodup_range
theorem lv_nodup (ws : List Nat) : (lv ws).Nodup := (lv_perm ws).nodup_iff.2 (sy_nodup ws)
theorem lv_mem {ws : List Nat} {x : Nat} : x ∈ lv ws ↔ x < ws.length ∧ 0 < wf ws x := by
  rw [(lv_perm ws).mem_iff, sy, List.mem_filter, List.mem_range, decide_eq_true_eq]; rfl
/-- the lengths -/
def lens (ws : List Nat) (limit : Nat) : List Nat := (List.range ws.length).map fun i => if (lv ws).length < 2 then (if i ∈ lv ws then 1 else 0) else len (wf ws) (lv ws) (limit - 1) i
def cost (ws ls : List Nat) : Nat := sum (fun i => ws.getD i 0 * ls.getD i 0) (List.range ws.length)
theorem lens_length (ws : List Nat) (limit : Nat) : (lens ws limit).length = ws.length := by simp [lens]
theorem lens_at {ws : List Nat} {limit i : Nat} (h : i < ws.length) : (lens ws limit).getD i 0 = if (lv ws).length < 2 then (if i ∈ lv ws then 1 else 0) else len (wf ws) (lv ws) (limit - 1) i := by
  rw [List.getD_eq_getElem?_getD, lens, List.getElem?_map, List.getElem?_range h]; rfl
/-- what is asked of all symbols is asked of the leaves -/
theorem cost_lv (ws : List Nat) (g : Nat → Nat) : sum (fun i => wf ws i * g i) (List.range ws.length) = sum (fun i => wf ws i * g i) (lv ws) := by
  rw [sum_perm (lv_perm ws), sy, sum_filter]
  refine sum_congr fun x _ => ?_
  by_cases h : 0 < ws.getD x 0
  · rw [if_pos (decide_eq_true h)]
  · rw [if_neg (by simpa using h)]
    have : wf ws x = 0 := by unfold wf; omega
    rw [this, Nat.zero_mul]
end Go.Proofs.Ytjnehpkkkmicfaa.Pk
namespace Go.Proofs.Ytjnehpkkkmicfaa.Pk
open Go.RowKit Go.Lib Rw Ls Od _root_.Go.Proofs.Ytjnehpkkkmicfaa.Nm

/-- weights that are right -/
def okW (ws : List Nat) : Bool := decide (ws.length ≤ 512) && ws.all fun x => decide (x ≤ 1099511627776)
theorem okW_len {ws : List Nat} (h : okW ws = true) : ws.length ≤ 512 := by
  unfold okW at h; simp only [Bool.and_eq_true, decide_eq_true_eq] at h; exact h.1
theorem okW_at {ws : List Nat} (h : okW ws = true) (i : Nat) : ws.getD i 0 ≤ 1099511627776 := by
  unfold okW at h
  simp only [Bool.and_eq_true, decide_eq_true_eq, List.all_eq_true] at h
  rw [List.getD_eq_getElem?_getD]
  cases e : ws[i]? with
  | none => simp
  | some v => exact h.2 v (List.mem_of_getElem? e)
/-- symbols among the first so many -/
theorem sy_succ (ws : List Nat) (k : Nat) : ((List.range (k + 1)).filter fun i => decide (0 < ws.getD i 0)) = ((List.range k).filter fun i => decide (0 < ws.getD i 0)) ++ if 0 < ws.getD k 0 then [k] else [] := by
  rw [List.range_succ, List.filter_append]
  congr 1
  by_cases h : 0 < ws.getD k 0
  · rw [if_pos h, List.filter_cons, if_pos (decide_eq_true h)]; rfl
  · rw [if_neg h, List.filter_cons, if_neg (by simpa using h)]; rfl
/-- a row of ints, new -/
def IsP (w : World) (L : List Nat) (e : Ending) (w' : World) : Prop := ∃ (q : Option Addr) (c : Nat), e = .returned (.slice q L.length c) ∧ L.length ≤ c ∧ Rd w' q (zs (up L)) ∧ NewAt w.heap.size q ∧ Below w.heap.size w w'
/-- a length that a weight may have -/
def good (y : Nat) (z : Int) : Bool := decide (0 ≤ z) && decide (z ≤ 15) && !(decide (z = 0) && decide (0 < y))
def costT (ws : List Nat) (ls : List Int) (k : Nat) : Nat := sum (fun i => ws.getD i 0 * (ls.getD i 0).toNat) (List.range k)
def costR (ws : List Nat) (ls : List Int) : Nat × Int := if okW ws = true then (if ws.length = ls.length then (if (List.range ws.length).all (fun i => good (ws.getD i 0) (ls.getD i 0)) = true then (costT ws ls ws.length, 0) else (0, 7)) else (0, 5)) else (0, 1)
theorem costT_succ (ws : List Nat) (ls : List Int) (k : Nat) : costT ws ls (k + 1) = costT ws ls k + ws.getD k 0 * (ls.getD k 0).toNat := by
  unfold costT
  rw [List.range_succ, sum_app, sum_cons, sum_nil]; rfl
theorem good_iff {y : Nat} {z : Int} : good y z = true ↔ 0 ≤ z ∧ z ≤ 15 ∧ ¬ (z = 0 ∧ 0 < y) := by
  unfold good
  simp only [Bool.and_eq_true, decide_eq_true_eq, Bool.not_eq_true', Bool.and_eq_false_iff, decide_eq_false_iff_not]
  constructor
  · rintro ⟨⟨h1, h2⟩, h3⟩; exact ⟨h1, h2, fun h => by rcases h3 with h3 | h3; exact h3 h.1; exact h3 h.2⟩
  · rintro ⟨h1, h2, h3⟩
    refine ⟨⟨h1, h2⟩, ?_⟩
    by_cases h : z = 0
    · exact .inr fun h4 => h3 ⟨h, h4⟩
    · exact .inl h
theorem costT_le {ws : List Nat} {ls : List Int} (h : okW ws = true) : ∀ k, (∀ j, j < k → good (ws.getD j 0) (ls.getD j 0) = true) → costT ws ls k ≤ k * 16492674416640
  | 0, _ => by simp [costT, sum_nil]
  | k + 1, hg => by
    have h1 := costT_le h k fun j hj => hg j (by omega)
    have h2 := okW_at h k
    have h3 := (good_iff.1 (hg k (by omega))).2.1
    rw [costT_succ]
    have h4 : ws.getD k 0 * (ls.getD k 0).toNat ≤ 1099511627776 * 15 := Nat.mul_le_mul h2 (by omega)
    omega
end Go.Proofs.Ytjnehpkkkmicfaa.Pk
namespace Go.Proofs.Ytjnehpkkkmicfaa.Pk
open Go.RowKit Go.Lib Rw Ls Od _root_.Go.Proofs.Ytjnehpkkkmicfaa.Nm

/-- what is taken of the room by so many lengths -/
def tookT (ls : List Int) (lm k : Nat) : Nat := sum (fun i => if 0 < ls.getD i 0 then 2 ^ (lm - (ls.getD i 0).toNat) else 0) (List.range k)
theorem tookT_succ (ls : List Int) (lm k : Nat) : tookT ls lm (k + 1) = tookT ls lm k + if 0 < ls.getD k 0 then 2 ^ (lm - (ls.getD k 0).toNat) else 0 := by
  unfold tookT
  rw [List.range_succ, sum_app, sum_cons, sum_nil]; rfl
theorem tookT_le (ls : List Int) (lm : Nat) (h : lm ≤ 15) : ∀ k, tookT ls lm k ≤ k * 32768
  | 0 => by simp [tookT, sum_nil]
  | k + 1 => by
    have h1 := tookT_le ls lm h k
    rw [tookT_succ]
    have h2 : (if 0 < ls.getD k 0 then 2 ^ (lm - (ls.getD k 0).toNat) else 0) ≤ 32768 := by
      split
      · exact Nat.pow_le_pow_right (n := 2) (by omega) (show lm - (ls.getD k 0).toNat ≤ 15 by omega)
      · omega
    omega
def okR (ls : List Int) (lim : Int) : Bool := decide (1 ≤ lim) && decide (lim ≤ 15) && decide (ls.length ≤ 512)
def roomR (ls : List Int) (lim : Int) : Int × Int := if okR ls lim = true then (if ls.all (fun z => decide (0 ≤ z) && decide (z ≤ lim)) = true then ((2 ^ lim.toNat : Nat) - (tookT ls lim.toNat ls.length : Nat), 0) else (0, 7)) else (0, 1)
theorem shl_i64 (k : Nat) (h : k ≤ 15) : wrap64 ((2 : Int) ^ k) = ((2 ^ k : Nat) : Int) := by
  have h1 : 2 ^ k ≤ 2 ^ 15 := Nat.pow_le_pow_right (by omega) h
  have h2 : 2 ^ 15 = 32768 := by decide
  have e : ((2 : Int)) ^ k = ((2 ^ k : Nat) : Int) := by simp
  rw [e]
  generalize 2 ^ k = y at h1 ⊢
  unfold wrap64
  omega
set_option maxHeartbeats 4000000 in
set_option maxRecDepth 100000 in
theorem rroom_any (ls : List Int) (lim : Int) (q : Option Addr) (d : Nat) (w : World) (hq : Rd w q (zs ls)) (hm : ls.length ≤ 17592186044416) (hlim : -9223372036854775808 ≤ lim ∧ lim ≤ 9223372036854775807) :
    Calls Try.prog 40 #[.slice q ls.length d, .int .i64 lim] w fun e w' => e = .returned (.tuple #[.int .i64 (roomR ls lim).1, .int .i64 (roomR ls lim).2]) ∧ w' = w := by
  have Q := Lib.hid hq
  obtain ⟨m, hm2⟩ : ∃ m, m = ls.length := ⟨_, rfl⟩
  have HM := Lib.hid hm2
  rw [← hm2] at hm ⊢
  clear hq hm2
  cases ho : okR ls lim with
  | false =>
    have F : Hid (roomR ls lim = (0, 1)) := Lib.hid (by unfold roomR; rw [ho]; rfl)
    have hor : lim < 1 ∨ (¬ lim < 1 ∧ 15 < lim) ∨ (¬ lim < 1 ∧ ¬ 15 < lim ∧ 512 < m) := by
      unfold okR at ho
      simp only [Bool.and_eq_false_iff, decide_eq_false_iff_not, ← HM.out] at ho
      omega
    clear ho
    rcases hor with h | ⟨h, h2⟩ | ⟨h, h2, h3⟩
    · have e1 : decide (lim < 1) = true := decide_eq_true h
      clear h
      go_enter Try.func40, Try.ntmps40
      go_wp2_with fail
      refine bodyPost_ret (v := .tuple #[.int .i64 0, .int .i64 1]) (by simp [results, Try.results40, go_sem]) rfl ?_
      exact ⟨by rw [F.out], rfl⟩
    · have e1 : decide (lim < 1) = false := decide_eq_false h
      have e2 : decide (15 < lim) = true := decide_eq_true h2
      clear h h2
      go_enter Try.func40, Try.ntmps40
      go_wp2_with fail
      refine bodyPost_ret (v := .tuple #[.int .i64 0, .int .i64 1]) (by simp [results, Try.results40, go_sem]) rfl ?_
      exact ⟨by rw [F.out], rfl⟩
    · have e1 : decide (lim < 1) = false := decide_eq_false h
      have e2 : decide (15 < lim) = false := decide_eq_false h2
      have e3 : decide ((512 : Int) < (m : Int)) = true := decide_eq_true (by omega)
      have e4 : decide (512 < m) = true := decide_eq_true h3
      clear h h2 h3
      go_enter Try.func40, Try.ntmps40
      go_wp2_with fail
      refine bodyPost_ret (v := .tuple #[.int .i64 0, .int .i64 1]) (by simp [results, Try.results40, go_sem]) rfl ?_
      exact ⟨by rw [F.out], rfl⟩
  | true =>
    have HOK := Lib.hid ho
    obtain ⟨g1, g2, g3⟩ : 1 ≤ lim ∧ lim ≤ 15 ∧ m ≤ 512 := by
      unfold okR at ho
      simp only [Bool.and_eq_true, decide_eq_true_eq, ← HM.out] at ho
      omega
    obtain ⟨lm, rfl⟩ := Int.eq_ofNat_of_zero_le (show 0 ≤ lim by omega)
    have hl1 : 1 ≤ lm ∧ lm ≤ 15 := by omega
    obtain ⟨x0, hx0⟩ : ∃ x0 : Nat, x0 = 2 ^ lm := ⟨_, rfl⟩
    have sh0 := shl_i64 lm hl1.2
    rw [← hx0] at sh0
    have hx0b : x0 ≤ 32768 := by rw [hx0]; exact Nat.pow_le_pow_right (n := 2) (by omega) hl1.2
    have HX0 := Lib.hid hx0
    have e1 : decide ((lm : Int) < 1) = false := decide_eq_false (by omega)
    have e2 : decide ((15 : Int) < (lm : Int)) = false := decide_eq_false (by omega)
    have e3 : decide ((512 : Int) < (m : Int)) = false := decide_eq_false (by omega)
    have e4 : decide (512 < m) = false := decide_eq_false (by omega)
    have e5 : decide (15 < lm) = false := decide_eq_false (by omega)
    have e6 : decide (lm < 1) = false := decide_eq_false (by omega)
    have w0 : IntKind.u64.wrap ((lm : Int)) = (lm : Int) := IntWalk.u64_in _ (by omega)
    clear ho g1 g2 hx0
    go_enter Try.func40, Try.ntmps40
    go_wp2_with fail
    have HSH := Lib.hid sh0
    clear sh0
    go_loopw [6, 25] (fun v i wr => ∃ (k y : Nat), k ≤ m ∧ i = .int .i64 k ∧ v = .int .i64 ((x0 : Int) - (y : Int)) ∧ Hid (y = tookT ls lm k) ∧ Hid (∀ j, j < k → 0 ≤ ls.getD j 0 ∧ ls.getD j 0 ≤ (lm : Int)) ∧ wr = w) (fun _ i _ => m - (intOf i).toNat)
    case atStart => exact ⟨0, 0, Nat.zero_le _, rfl, by rw [show ((0 : Nat) : Int) = 0 from rfl, Int.sub_zero]; exact congrArg _ (by first | rfl | exact HSH.out), Lib.hid rfl, Lib.hid (fun j hj => by omega), rfl⟩
    case round =>
      obtain ⟨k, y, hk, rfl, rfl, HY, HG, hw⟩ := hrel
      have HW := Lib.hid hw
      have Q2 : Hid (Rd wr q (zs ls)) := Lib.hid (by rw [hw]; exact Q.out)
      have hyb : y ≤ k * 32768 := by rw [HY.out]; exact tookT_le ls lm hl1.2 k
      clear hw
      by_cases hlt : k < m
      · obtain ⟨b, rfl, cz⟩ := rd_z Q2.out k (by rw [← HM.out]; exact hlt)
        have HS := Lib.hid (tookT_succ ls lm k)
        obtain ⟨z, hz⟩ : ∃ z, z = ls.getD k 0 := ⟨_, rfl⟩
        have HZ := Lib.hid hz
        rw [← hz] at cz HS
        have k0 : (0 : Int) ≤ (k : Int) := by omega
        have k1 : (k : Int) < (m : Int) := by omega
        clear hz
        by_cases hg : 0 ≤ z ∧ z ≤ (lm : Int)
        · have HG2 : Hid (∀ j, j < k + 1 → 0 ≤ ls.getD j 0 ∧ ls.getD j 0 ≤ (lm : Int)) := Lib.hid (fun j hj => by
            rcases Nat.lt_or_ge j k with h | h
            · exact HG.out j h
            · rw [show j = k by omega, ← HZ.out]; exact hg)
          obtain ⟨u, rfl⟩ := Int.eq_ofNat_of_zero_le hg.1
          have f1 : decide ((u : Int) < 0) = false := decide_eq_false (by omega)
          have f2 : decide ((lm : Int) < (u : Int)) = false := decide_eq_false (by omega)
          have f3 : decide (lm < u) = false := decide_eq_false (by omega)
          have hul : u ≤ lm := by omega
          clear hg
          by_cases hu : 0 < u
          · have f4 : decide ((0 : Int) < (u : Int)) = true := decide_eq_true (by omega)
            have f5 : decide (0 < u) = true := decide_eq_true hu
            obtain ⟨t, ht⟩ : ∃ t, t = lm - u := ⟨_, rfl⟩
            have v1 : (lm : Int) - (u : Int) = (t : Int) := by omega
            have v2 : IntKind.i64.wrap ((t : Int)) = (t : Int) := IntWalk.i64_in _ (by omega)
            have v3 : IntKind.u64.wrap ((t : Int)) = (t : Int) := IntWalk.u64_in _ (by omega)
            have ht15 : t ≤ 15 := by omega
            obtain ⟨x1, hx1⟩ : ∃ x1 : Nat, x1 = 2 ^ t := ⟨_, rfl⟩
            have hx1b : x1 ≤ 32768 := by rw [hx1]; exact Nat.pow_le_pow_right (n := 2) (by decide) ht15
            have HX1 := Lib.hid hx1
            clear hx1
            obtain ⟨y2, hy2⟩ : ∃ y2, y2 = y + x1 := ⟨_, rfl⟩
            have v4 : (x0 : Int) - (y : Int) - (x1 : Int) = (x0 : Int) - (y2 : Int) := by omega
            have v5 : IntKind.i64.wrap ((x0 : Int) - (y2 : Int)) = (x0 : Int) - (y2 : Int) := IntWalk.i64_in _ (by omega)
            have HY2 : Hid (y2 = tookT ls lm (k + 1)) := Lib.hid (by rw [HS.out, if_pos (by omega), ← HY.out, hy2, HX1.out, ht]; rfl)
            have sh1 := shl_i64 t ht15
            rw [← HX1.out] at sh1
            clear hu ht hy2 HS
            go_wp2_with fail
            go_roundw
            case rel => exact ⟨k + 1, y2, by omega, by go_num, rfl, HY2, HG2, HW.out⟩
            case measure => simp [intOf]; omega
          · have f4 : decide ((0 : Int) < (u : Int)) = false := decide_eq_false (by omega)
            have f5 : decide (0 < u) = false := decide_eq_false hu
            have HY2 : Hid (y = tookT ls lm (k + 1)) := Lib.hid (by rw [HS.out, if_neg (by omega), ← HY.out, Nat.add_zero])
            clear hu HS
            go_wp2_with fail
            go_roundw
            case rel => exact ⟨k + 1, y, by omega, by go_num, rfl, HY2, HG2, HW.out⟩
            case measure => simp [intOf]; omega
        · have F : Hid (roomR ls (lm : Int) = (0, 7)) := Lib.hid (by
            unfold roomR
            rw [if_pos HOK.out, if_neg]
            intro h
            rw [List.all_eq_true] at h
            have h2 : k < ls.length := by rw [← HM.out]; exact hlt
            have := h (ls[k]) (List.getElem_mem h2)
            simp only [Bool.and_eq_true, decide_eq_true_eq] at this
            apply hg
            rw [HZ.out, List.getD_eq_getElem?_getD, List.getElem?_eq_getElem h2]
            exact this)
          have hor : z < 0 ∨ (¬ z < 0 ∧ (lm : Int) < z) := by omega
          clear hg HS
          rcases hor with h | ⟨h, h2⟩
          · have f1 : decide (z < 0) = true := decide_eq_true h
            clear h
            go_wp2_with fail
            refine bodyPost_ret (v := .tuple #[.int .i64 0, .int .i64 7]) (by simp [results, Try.results40, go_sem]) rfl ?_
            exact ⟨by rw [F.out], HW.out⟩
          · have f1 : decide (z < 0) = false := decide_eq_false h
            have f2 : decide ((lm : Int) < z) = true := decide_eq_true h2
            clear h h2
            go_wp2_with fail
            refine bodyPost_ret (v := .tuple #[.int .i64 0, .int .i64 7]) (by simp [results, Try.results40, go_sem]) rfl ?_
            exact ⟨by rw [F.out], HW.out⟩
      · obtain rfl : k = m := by omega
        have k1 : ¬ (k : Int) < (k : Int) := by omega
        have F : Hid (roomR ls (lm : Int) = ((x0 : Int) - (y : Int), 0)) := Lib.hid (by
          unfold roomR
          rw [if_pos HOK.out, if_pos, Int.toNat_natCast, HX0.out, HY.out, ← HM.out]
          rw [List.all_eq_true]
          intro x hx
          obtain ⟨j, hj, e⟩ := List.getElem_of_mem hx
          have := HG.out j (by rw [HM.out]; exact hj)
          rw [List.getD_eq_getElem?_getD, List.getElem?_eq_getElem hj] at this
          rw [← e]
          simp only [Bool.and_eq_true, decide_eq_true_eq]
          exact this)
        go_wp2_with fail
        refine bodyPost_ret (v := .tuple #[.int .i64 ((x0 : Int) - (y : Int)), .int .i64 0]) (by simp [results, Try.results40, go_sem]) rfl ?_
        exact ⟨by rw [F.out], HW.out⟩
end Go.Proofs.Ytjnehpkkkmicfaa.Pk

/- PkC PkD PkE PkF PkG -/
import Derived.Test.YtjnehpkkkmicfaaBnI
import Derived.Test.YtjnehpkkkmicfaaArr
import Derived.BigRegion
import Derived.StillTailTactics
namespace Go.Proofs.Ytjnehpkkkmicfaa.Pk
open Go.RowKit Go.Lib Rw Ls Od _root_.Go.Proofs.Ytjnehpkkkmicfaa.Nm

/-- the cells of items: of each its weight, and the slice that it has -/
def iv (xs : List (Nat × Value)) : List Value := xs.flatMap fun x => [.int .u64 (x.1 : Int), x.2]
theorem iv_nil : iv [] = [] := rfl
theorem iv_cons (x : Nat × Value) (xs : List (Nat × Value)) : iv (x :: xs) = .int .u64 (x.1 : Int) :: x.2 :: iv xs := rfl
theorem iv_app (xs ys : List (Nat × Value)) : iv (xs ++ ys) = iv xs ++ iv ys := by simp [iv]
theorem iv_length : ∀ xs : List (Nat × Value), (iv xs).length = xs.length * 2
  | [] => rfl
  | x :: xs => by rw [iv_cons, List.length_cons, List.length_cons, iv_length xs, List.length_cons]; omega
theorem iv_drop : ∀ (xs : List (Nat × Value)) (k : Nat), iv (xs.drop k) = (iv xs).drop (k * 2)
  | [], k => by simp [iv]
  | x :: xs, 0 => by simp
  | x :: xs, k + 1 => by rw [List.drop_succ_cons, iv_drop xs k, iv_cons, show (k + 1) * 2 = k * 2 + 1 + 1 by omega, List.drop_succ_cons, List.drop_succ_cons]
theorem iv_take : ∀ (xs : List (Nat × Value)) (k : Nat), iv (xs.take k) = (iv xs).take (k * 2)
  | [], k => by simp [iv]
  | x :: xs, 0 => by simp [iv]
  | x :: xs, k + 1 => by rw [List.take_succ_cons, iv_cons, iv_take xs k, iv_cons, show (k + 1) * 2 = k * 2 + 1 + 1 by omega, List.take_succ_cons, List.take_succ_cons]
theorem iv_at (xs : List (Nat × Value)) (k : Nat) (h : k < xs.length) : (iv xs).getD (k * 2) (.bool false) = .int .u64 (xs[k].1 : Int) ∧ (iv xs).getD (k * 2 + 1) (.bool false) = xs[k].2 := by
  have h1 := iv_drop xs k
  rw [List.drop_eq_getElem_cons h, iv_cons] at h1
  have h2 : ∀ j, (iv xs).getD (k * 2 + j) (.bool false) = ((iv xs).drop (k * 2)).getD j (.bool false) := fun j => by simp [List.getD_eq_getElem?_getD]
  refine ⟨?_, ?_⟩
  · have := h2 0
    rw [Nat.add_zero] at this
    rw [this, ← h1]; rfl
  · rw [h2 1, ← h1]; rfl
/-- one-cell slices -/
def Sl (xs : List (Nat × Value)) : Prop := ∀ x ∈ xs, x.2.oneCell' = true
theorem iv_ones {xs : List (Nat × Value)} (h : Sl xs) : ∀ u ∈ iv xs, u.oneCell' = true := fun u hu => by
  simp only [iv, List.mem_flatMap, List.mem_cons, List.not_mem_nil, or_false] at hu
  obtain ⟨x, hx, rfl | rfl⟩ := hu
  · rfl
  · exact h x hx
theorem put_at {α : Type} {f : α → Nat} {x : α} : ∀ {l : List α} {a : Nat}, a ≤ l.length → (∀ j (h : j < l.length), j < a → f l[j] ≤ f x) → (∀ j (h : j < l.length), a ≤ j → f x < f l[j]) → put f x l = l.take a ++ x :: l.drop a
  | [], a, h, _, _ => by simp [put]
  | y :: l, 0, h, _, h2 => by
    have := h2 0 (by simp) (Nat.le_refl _)
    rw [put, if_neg (by simpa using this)]; rfl
  | y :: l, a + 1, h, h1, h2 => by
    have := h1 0 (by simp) (by omega)
    rw [put, if_pos (by simpa using this), put_at (l := l) (a := a) (by simpa using h) (fun j hj hja => h1 (j + 1) (Nat.succ_lt_succ hj) (by omega)) (fun j hj hja => h2 (j + 1) (Nat.succ_lt_succ hj) (by omega))]
    rfl
theorem put_length {α : Type} (f : α → Nat) (x : α) (l : List α) : (put f x l).length = l.length + 1 := (put_perm f x l).length_eq
/-- items in new memory -/
def ItP (w : World) (xs : List (Nat × Value)) (e : Ending) (w' : World) : Prop := ∃ (g cap : Nat), e = .returned (.slice (some ⟨g, 0, none⟩) xs.length cap) ∧ xs.length ≤ cap ∧ Rd w' (some ⟨g, 0, none⟩) (iv xs) ∧ w.heap.size ≤ g ∧ Below w.heap.size w w'
theorem rd_two {w : World} {g : Nat} {u v : Value} (h : Rd w (some ⟨g, 0, none⟩) [u, v]) : w.cell? ⟨g, 0, none⟩ = some u ∧ w.cell? ⟨g, 1, none⟩ = some v := by
  obtain ⟨b, e, _, h0⟩ := h 0 (by simp)
  obtain ⟨b', e', _, h1⟩ := h 1 (by simp)
  cases e; cases e'
  rw [Addr.add_lit, Nat.zero_add] at h0 h1
  exact ⟨h0, h1⟩
end Go.Proofs.Ytjnehpkkkmicfaa.Pk
namespace Go.Proofs.Ytjnehpkkkmicfaa.Pk
open Go.RowKit Go.Lib Rw Ls Od _root_.Go.Proofs.Ytjnehpkkkmicfaa.Nm

/-- two lists of counts together -/
def addL (a b : List Nat) : List Nat := List.zipWith (· + ·) a b
theorem addL_length {a b : List Nat} {n : Nat} (ha : a.length = n) (hb : b.length = n) : (addL a b).length = n := by simp [addL, ha, hb]
theorem addL_at {a b : List Nat} {k : Nat} (ha : k < a.length) (hb : k < b.length) : (addL a b).getD k 0 = a.getD k 0 + b.getD k 0 := by
  simp [addL, List.getD_eq_getElem?_getD, List.getElem?_zipWith, ha, hb]
/-- as far as it is added, and nothing behind it -/
def addT (a b : List Nat) (n k : Nat) : List Nat := (addL a b).take k ++ List.replicate (n - k) 0
theorem addT_length {a b : List Nat} {n k : Nat} (ha : a.length = n) (hb : b.length = n) (hk : k ≤ n) : (addT a b n k).length = n := by
  unfold addT
  rw [List.length_append, List.length_take, addL_length ha hb, List.length_replicate]; omega
theorem addT_succ {a b : List Nat} {n k : Nat} (ha : a.length = n) (hb : b.length = n) (hk : k < n) : (addT a b n k).set k (a.getD k 0 + b.getD k 0) = addT a b n (k + 1) := by
  have hl := addL_length ha hb
  have hk2 : k < (addL a b).length := by omega
  unfold addT
  rw [show n - k = (n - (k + 1)) + 1 by omega, List.replicate_succ, List.set_append_right _ _ (by rw [List.length_take]; omega), List.length_take, Nat.min_eq_left (by omega), Nat.sub_self, List.set_cons_zero, List.take_succ_eq_append_getElem hk2, List.append_assoc, ← addL_at (by omega) (by omega)]
  congr 2
  rw [List.getD_eq_getElem?_getD, List.getElem?_eq_getElem hk2]; rfl
theorem addT_full {a b : List Nat} {n : Nat} (ha : a.length = n) (hb : b.length = n) : addT a b n n = addL a b := by
  unfold addT
  rw [Nat.sub_self, List.replicate_zero, List.append_nil, List.take_of_length_le (by rw [addL_length ha hb]; exact Nat.le_refl _)]
theorem five_allocs (w : World) (o1 o2 o3 o4 o5 : Obj) : (((((w.alloc o1).alloc o2).alloc o3).alloc o4).alloc o5).drew.heap[w.heap.size]? = some o1 ∧ (((((w.alloc o1).alloc o2).alloc o3).alloc o4).alloc o5).drew.heap[w.heap.size + 1]? = some o2 ∧ (((((w.alloc o1).alloc o2).alloc o3).alloc o4).alloc o5).drew.heap[w.heap.size + 1 + 1]? = some o3 ∧ (((((w.alloc o1).alloc o2).alloc o3).alloc o4).alloc o5).drew.heap[w.heap.size + 1 + 1 + 1]? = some o4 ∧ (((((w.alloc o1).alloc o2).alloc o3).alloc o4).alloc o5).drew.heap[w.heap.size + 1 + 1 + 1 + 1]? = some o5 ∧ RowKit.Below w.heap.size w (((((w.alloc o1).alloc o2).alloc o3).alloc o4).alloc o5).drew ∧ (((((w.alloc o1).alloc o2).alloc o3).alloc o4).alloc o5).drew.heap.size = w.heap.size + 5 := by
  have e1 : (w.alloc o1).heap.size = w.heap.size + 1 := World.size_alloc _ _
  have e2 : ((w.alloc o1).alloc o2).heap.size = w.heap.size + 1 + 1 := by rw [World.size_alloc, e1]
  have e3 : (((w.alloc o1).alloc o2).alloc o3).heap.size = w.heap.size + 1 + 1 + 1 := by rw [World.size_alloc, e2]
  have e4 : ((((w.alloc o1).alloc o2).alloc o3).alloc o4).heap.size = w.heap.size + 1 + 1 + 1 + 1 := by rw [World.size_alloc, e3]
  refine ⟨?_, ?_, ?_, ?_, ?_, ?_, ?_⟩
  · show (((((w.alloc o1).alloc o2).alloc o3).alloc o4).alloc o5).heap[w.heap.size]? = _
    rw [Below.heap_alloc _ _ _ (by omega), Below.heap_alloc _ _ _ (by omega), Below.heap_alloc _ _ _ (by omega), Below.heap_alloc _ _ _ (by omega)]
    exact heap_alloc_new w o1
  · show (((((w.alloc o1).alloc o2).alloc o3).alloc o4).alloc o5).heap[w.heap.size + 1]? = _
    rw [Below.heap_alloc _ _ _ (by omega), Below.heap_alloc _ _ _ (by omega), Below.heap_alloc _ _ _ (by omega), ← e1]
    exact heap_alloc_new (w.alloc o1) o2
  · show (((((w.alloc o1).alloc o2).alloc o3).alloc o4).alloc o5).heap[w.heap.size + 1 + 1]? = _
    rw [Below.heap_alloc _ _ _ (by omega), Below.heap_alloc _ _ _ (by omega), ← e2]
    exact heap_alloc_new _ o3
  · show (((((w.alloc o1).alloc o2).alloc o3).alloc o4).alloc o5).heap[w.heap.size + 1 + 1 + 1]? = _
    rw [Below.heap_alloc _ _ _ (by omega), ← e3]
    exact heap_alloc_new _ o4
  · show (((((w.alloc o1).alloc o2).alloc o3).alloc o4).alloc o5).heap[w.heap.size + 1 + 1 + 1 + 1]? = _
    rw [← e4]
    exact heap_alloc_new _ o5
  · exact ((((((RowKit.Below.refl _ w).alloc (Nat.le_refl _) _).alloc (by omega) _).alloc (by omega) _).alloc (by omega) _).alloc (by omega) _).drew
  · show (((((w.alloc o1).alloc o2).alloc o3).alloc o4).alloc o5).heap.size = _
    rw [World.size_alloc, e4]
theorem zs_up_set (L : List Nat) (k n : Nat) : (zs (up L)).set k (.int .i64 (n : Int)) = zs (up (L.set k n)) := by simp [zs, up, List.map_set]
theorem set_cell_at {w : World} {b k : Nat} {cs : Array Value} {t : TypeId} (v : Value) (h : w.heap[b]? = some (.cells cs t (0, 0))) : (w.setCell ⟨b, k, none⟩ v).heap[b]? = some (.cells (cs.setIfInBounds k v) t (0, 0)) := by
  obtain ⟨hlt, hk⟩ := Array.getElem?_eq_some_iff.1 h
  show (w.heap.modify b _)[b]? = _
  rw [Array.getElem?_eq_getElem (by rw [Array.size_modify]; exact hlt), Array.getElem_modify_self, hk]
  rfl
theorem set_two (w : World) (b : Nat) (a0 a1 v0 v1 : Value) (t : TypeId) (h : w.heap[b]? = some (.cells #[a0, a1] t (0, 0))) : ((w.setCell ⟨b, 0, none⟩ v0).setCell ⟨b, 1, none⟩ v1).heap[b]? = some (.cells #[v0, v1] t (0, 0)) :=
  set_cell_at v1 (set_cell_at v0 h)
/-- an item, its counts in new memory -/
def BoP (w : World) (wt n : Nat) (C : List Nat) (e : Ending) (w' : World) : Prop := ∃ g, e = .returned (.agg #[.int .u64 (wt : Nat), .slice (some ⟨g, 0, none⟩) n n]) ∧ Rd w' (some ⟨g, 0, none⟩) (zs (up C)) ∧ w.heap.size ≤ g ∧ Below w.heap.size w w'
end Go.Proofs.Ytjnehpkkkmicfaa.Pk
namespace Go.Proofs.Ytjnehpkkkmicfaa.Pk
open Go.RowKit Go.Lib Rw Ls Od _root_.Go.Proofs.Ytjnehpkkkmicfaa.Nm

/-- how often each symbol is in a tree -/
def cnts (S : List Nat) (t : Tr) : List Nat := S.map fun i => t.cnt i
theorem cnts_length (S : List Nat) (t : Tr) : (cnts S t).length = S.length := by simp [cnts]
theorem cnts_nd (S : List Nat) (a b : Tr) : cnts S (.nd a b) = addL (cnts S a) (cnts S b) := by
  unfold cnts addL
  induction S with
  | nil => rfl
  | cons i S ih => simp only [List.map_cons, List.zipWith_cons_cons]; rw [ih]; rfl
def Tr.sz : Tr → Nat
  | .lf _ => 1
  | .nd a b => a.sz + b.sz
theorem cnt_sz (x : Nat) : ∀ t : Tr, t.cnt x ≤ t.sz
  | .lf i => by unfold Tr.cnt Tr.sz; split <;> omega
  | .nd a b => by have := cnt_sz x a; have := cnt_sz x b; unfold Tr.cnt Tr.sz; omega
theorem wt_sz {W : Nat → Nat} {m : Nat} (h : ∀ i, W i ≤ m) : ∀ t : Tr, t.wt W ≤ t.sz * m
  | .lf i => by have := h i; unfold Tr.wt Tr.sz; omega
  | .nd a b => by have := wt_sz h a; have := wt_sz h b; unfold Tr.wt Tr.sz; rw [Nat.add_mul]; omega
theorem lev_sz {W : Nat → Nat} {L : List Nat} : ∀ j t, t ∈ lev W L j → t.sz ≤ 2 ^ j
  | 0, t, h => by
    rw [lev, List.mem_map] at h
    obtain ⟨i, _, rfl⟩ := h
    exact Nat.le_refl _
  | j + 1, t, h => by
    rw [lev, mrg_mem] at h
    have hp : 2 ^ j ≥ 1 := Nat.one_le_two_pow
    have he : 2 ^ (j + 1) = 2 ^ j + 2 ^ j := by rw [Nat.pow_succ]; omega
    rcases h with h | h
    · rw [List.mem_map] at h
      obtain ⟨i, _, rfl⟩ := h
      show 1 ≤ _
      omega
    · obtain ⟨a, b, rfl, ha, hb⟩ := prs_mem (W := W) h
      have := lev_sz j a ha; have := lev_sz j b hb
      show a.sz + b.sz ≤ _
      omega
theorem cnts_sz (S : List Nat) (t : Tr) (k : Nat) : (cnts S t).getD k 0 ≤ t.sz := by
  unfold cnts
  rw [List.getD_eq_getElem?_getD, List.getElem?_map]
  cases S[k]? with
  | none => simp
  | some i => exact cnt_sz i t
/-- two lists whose items go together -/
def All2 {α β : Type} (R : α → β → Prop) : List α → List β → Prop
  | [], [] => True
  | x :: xs, y :: ys => R x y ∧ All2 R xs ys
  | _, _ => False
theorem All2.length {α β : Type} {R : α → β → Prop} : ∀ {xs : List α} {ys : List β}, All2 R xs ys → xs.length = ys.length
  | [], [], _ => rfl
  | _ :: _, _ :: _, ⟨_, r⟩ => by simp [All2.length r]
  | [], _ :: _, h => h.elim
  | _ :: _, [], h => h.elim
theorem All2.imp {α β : Type} {R Q : α → β → Prop} (h : ∀ x y, R x y → Q x y) : ∀ {xs : List α} {ys : List β}, All2 R xs ys → All2 Q xs ys
  | [], [], _ => trivial
  | _ :: _, _ :: _, ⟨h1, r⟩ => ⟨h _ _ h1, All2.imp h r⟩
  | [], _ :: _, h => h.elim
  | _ :: _, [], h => h.elim
theorem All2.at {α β : Type} {R : α → β → Prop} : ∀ {xs : List α} {ys : List β}, All2 R xs ys → ∀ i (h1 : i < xs.length) (h2 : i < ys.length), R xs[i] ys[i]
  | _ :: _, _ :: _, ⟨h, _⟩, 0, _, _ => h
  | _ :: _, _ :: _, ⟨_, r⟩, i + 1, h1, h2 => All2.at r i (by simpa using h1) (by simpa using h2)
  | [], _ :: _, h, _, _, _ => h.elim
  | _ :: _, [], h, _, _, _ => h.elim
theorem All2.mem {α β : Type} {R : α → β → Prop} : ∀ {xs : List α} {ys : List β}, All2 R xs ys → ∀ x ∈ xs, ∃ y ∈ ys, R x y
  | _ :: _, y :: _, ⟨h, r⟩, x, hx => by
    rcases List.mem_cons.1 hx with rfl | hx
    · exact ⟨y, List.mem_cons_self .., h⟩
    · obtain ⟨z, hz, h2⟩ := All2.mem r x hx
      exact ⟨z, List.mem_cons_of_mem _ hz, h2⟩
  | [], [], _, x, hx => by simp at hx
  | [], _ :: _, h, _, _ => h.elim
  | _ :: _, [], h, _, _ => h.elim
theorem All2.put {α β : Type} {R : α → β → Prop} {f : α → Nat} {g : β → Nat} (hf : ∀ x y, R x y → f x = g y) {x : α} {y : β} (hxy : R x y) : ∀ {xs : List α} {ys : List β}, All2 R xs ys → All2 R (Pk.put f x xs) (Pk.put g y ys)
  | [], [], _ => ⟨hxy, trivial⟩
  | a :: xs, b :: ys, ⟨h, r⟩ => by
    unfold Pk.put
    rw [hf a b h, hf x y hxy]
    by_cases hc : g b ≤ g y
    · rw [if_pos hc, if_pos hc]; exact ⟨h, All2.put hf hxy r⟩
    · rw [if_neg hc, if_neg hc]; exact ⟨hxy, h, r⟩
  | [], _ :: _, h => h.elim
  | _ :: _, [], h => h.elim
theorem All2.up {α β : Type} {R : α → β → Prop} {f : α → Nat} {g : β → Nat} (hf : ∀ x y, R x y → f x = g y) : ∀ {xs : List α} {ys : List β}, All2 R xs ys → Up g ys → Up f xs
  | [], [], _, _ => List.Pairwise.nil
  | x :: xs, y :: ys, ⟨h, r⟩, hu => by
    obtain ⟨h1, h2⟩ := List.pairwise_cons.1 hu
    refine List.pairwise_cons.2 ⟨fun z hz => ?_, All2.up hf r h2⟩
    obtain ⟨u, hu, h3⟩ := All2.mem r z hz
    rw [hf _ _ h, hf _ _ h3]; exact h1 u hu
  | [], _ :: _, h, _ => h.elim
  | _ :: _, [], h, _ => h.elim
/-- an item as a tree: its weight, and its counts, in a block from B on -/
structure Fit (B : Nat) (S : List Nat) (W : Nat → Nat) (w : World) (x : Nat × Value) (t : Tr) : Prop where
  wt : x.1 = t.wt W
  sl : ∃ g, x.2 = .slice (some ⟨g, 0, none⟩) S.length S.length ∧ B ≤ g ∧ Rd w (some ⟨g, 0, none⟩) (zs (up (cnts S t)))
theorem Fit.below {B : Nat} {S : List Nat} {W : Nat → Nat} {w w' : World} {x : Nat × Value} {t : Tr} (h : Fit B S W w x t) (hb : Below w.heap.size w w') : Fit B S W w' x t := by
  obtain ⟨h1, g, h2, h3, h4⟩ := h
  exact ⟨h1, g, h2, h3, h4.below hb⟩
/-- a row of items as trees -/
def ItR (B : Nat) (S : List Nat) (W : Nat → Nat) (w : World) (A : Option Addr) (ts : List Tr) : Prop := ∃ xs, All2 (Fit B S W w) xs ts ∧ Rd w A (iv xs)
theorem ItR.below {B : Nat} {S : List Nat} {W : Nat → Nat} {w w' : World} {A : Option Addr} {ts : List Tr} (h : ItR B S W w A ts) (hb : Below w.heap.size w w') : ItR B S W w' A ts := by
  obtain ⟨xs, h1, h2⟩ := h
  exact ⟨xs, h1.imp fun _ _ h => h.below hb, h2.below hb⟩
theorem ItR.nil (B : Nat) (S : List Nat) (W : Nat → Nat) (w : World) (A : Option Addr) : ItR B S W w A [] := ⟨[], trivial, Rd.nil _ _⟩
/-- the item at a place -/
theorem ItR.at {B : Nat} {S : List Nat} {W : Nat → Nat} {w : World} {g : Nat} {ts : List Tr} (h : ItR B S W w (some ⟨g, 0, none⟩) ts) (k : Nat) (hk : k < ts.length) : ∃ x, Fit B S W w x ts[k] ∧ w.cell? ⟨g, k * 2, none⟩ = some (.int .u64 (x.1 : Int)) ∧ w.cell? ⟨g, k * 2 + 1, none⟩ = some x.2 := by
  obtain ⟨xs, h1, h2⟩ := h
  have hk2 : k < xs.length := by rw [h1.length]; exact hk
  obtain ⟨a, e, _, c0⟩ := h2 (k * 2) (by rw [iv_length]; omega)
  obtain ⟨a', e', _, c1⟩ := h2 (k * 2 + 1) (by rw [iv_length]; omega)
  cases e; cases e'
  rw [(iv_at xs k hk2).1, Addr.add_lit, Nat.zero_add] at c0
  rw [(iv_at xs k hk2).2, Addr.add_lit, Nat.zero_add] at c1
  exact ⟨xs[k], h1.at k hk2 hk, c0, c1⟩
theorem fit_sl {B : Nat} {S : List Nat} {W : Nat → Nat} {w : World} {xs : List (Nat × Value)} {ts : List Tr} (h : All2 (Fit B S W w) xs ts) : Sl xs := fun x hx => by
  obtain ⟨t, _, _, g, h2, _⟩ := h.mem x hx
  rw [h2]; rfl
/-- what put answers -/
def PuP (B : Nat) (S : List Nat) (W : Nat → Nat) (w : World) (n : Nat) (ts : List Tr) (e : Ending) (w' : World) : Prop := ∃ (g cap : Nat), e = .returned (.slice (some ⟨g, 0, none⟩) n cap) ∧ n ≤ cap ∧ ItR B S W w' (some ⟨g, 0, none⟩) ts ∧ w.heap.size ≤ g ∧ Below w.heap.size w w'
end Go.Proofs.Ytjnehpkkkmicfaa.Pk
namespace Go.Proofs.Ytjnehpkkkmicfaa.Pk
open Go.RowKit Go.Lib Rw Ls Od _root_.Go.Proofs.Ytjnehpkkkmicfaa.Nm

def okL (ws : List Nat) (lim : Int) : Bool := okW ws && decide (1 ≤ lim) && decide (lim ≤ 15)
def lenR (ws : List Nat) (lim : Int) : List Nat × Int := if okL ws lim = true then (if 2 ^ lim.toNat < (sy ws).length then ([], 8) else (lens ws lim.toNat, 0)) else ([], 1)
/-- ints in memory, and why none -/
def IE (W : World) (o : List Nat × Int) (e : Ending) (w' : World) : Prop := ∃ (q : Option Addr) (c : Nat), e = .returned (.tuple #[.slice q o.1.length c, .int .i64 o.2]) ∧ o.1.length ≤ c ∧ Rd w' q (zs (up o.1)) ∧ Below W.heap.size W w'
theorem ie_mk {W w' : World} {o : List Nat × Int} {L : List Nat} {r : Int} {n : Nat} {q : Option Addr} {c : Nat} (ho : o = (L, r)) (hL : L.length = n) (hc : n ≤ c) (hr : Rd w' q (zs (up L))) (hb : Below W.heap.size W w') : IE W o (.returned (.tuple #[.slice q n c, .int .i64 r])) w' := by
  subst ho; subst hL; exact ⟨q, c, rfl, hc, hr, hb⟩
theorem sy_len (ws : List Nat) : (sy ws).length ≤ ws.length := by
  unfold sy
  have := List.length_filter_le (fun i => decide (0 < ws.getD i 0)) (List.range ws.length)
  rwa [List.length_range] at this
theorem sy_lt {ws : List Nat} {i : Nat} (h : i ∈ sy ws) : i < ws.length ∧ 0 < ws.getD i 0 := by
  unfold sy at h
  rw [List.mem_filter, List.mem_range, decide_eq_true_eq] at h
  exact h
theorem lv_len (ws : List Nat) : (lv ws).length = (sy ws).length := (lv_perm ws).length_eq
theorem lens_few {ws : List Nat} {k : Nat} (h : (sy ws).length < 2) : lens ws k = (List.range ws.length).map fun i => if i ∈ sy ws then 1 else 0 := by
  unfold lens
  apply List.map_congr_left
  intro i _
  rw [if_pos (by rw [lv_len]; exact h)]
  have : i ∈ lv ws ↔ i ∈ sy ws := (lv_perm ws).mem_iff
  by_cases hi : i ∈ sy ws
  · rw [if_pos hi, if_pos (this.2 hi)]
  · rw [if_neg hi, if_neg (fun h => hi (this.1 h))]
theorem few_none {ws : List Nat} {k : Nat} (h : (sy ws).length = 0) : lens ws k = List.replicate ws.length 0 := by
  rw [lens_few (by omega), List.eq_nil_of_length_eq_zero h]
  apply List.ext_getElem
  · simp
  · intro i h1 h2; simp
theorem few_one {ws : List Nat} {k x : Nat} (h : sy ws = [x]) : lens ws k = (List.replicate ws.length 0).set x 1 := by
  rw [lens_few (by rw [h]; simp), h]
  apply List.ext_getElem
  · simp
  · intro i h1 h2
    simp only [List.getElem_map, List.getElem_range, List.mem_singleton, List.getElem_set, List.getElem_replicate]
    by_cases e : i = x
    · rw [if_pos e, if_pos e.symm]
    · rw [if_neg e, if_neg (fun h => e h.symm)]
end Go.Proofs.Ytjnehpkkkmicfaa.Pk
namespace Go.Proofs.Ytjnehpkkkmicfaa.Pk
open Go.RowKit Go.Lib Rw Ls Od _root_.Go.Proofs.Ytjnehpkkkmicfaa.Nm

theorem cnts_lf {S : List Nat} (hS : S.Nodup) {k : Nat} (hk : k < S.length) : (List.replicate S.length 0).set k 1 = cnts S (.lf S[k]) := by
  apply List.ext_getElem
  · simp [cnts]
  · intro i h1 h2
    have hi : i < S.length := by simpa [cnts] using h2
    simp only [cnts, List.getElem_map, List.getElem_set, List.getElem_replicate, cnt_lf]
    by_cases e : k = i
    · subst e; simp
    · rw [if_neg e, if_neg]
      intro h
      exact e ((List.getElem_inj hS).1 h)
theorem put_map (W : Nat → Nat) (i : Nat) : ∀ l : List Nat, put (Tr.wt W) (.lf i) (l.map Tr.lf) = (put W i l).map Tr.lf
  | [] => rfl
  | y :: l => by
    rw [List.map_cons, put, put]
    show (if W y ≤ W i then _ else _) = _
    by_cases h : W y ≤ W i
    · rw [if_pos h, if_pos h, put_map W i l]; rfl
    · rw [if_neg h, if_neg h]; rfl
/-- the leaves of the first so many symbols -/
def lfs (ws : List Nat) (k : Nat) : List Tr := (((sy ws).take k).foldl (fun l x => put (wf ws) x l) []).map Tr.lf
theorem lfs_succ {ws : List Nat} {k : Nat} (hk : k < (sy ws).length) : lfs ws (k + 1) = put (Tr.wt (wf ws)) (.lf (sy ws)[k]) (lfs ws k) := by
  unfold lfs
  rw [put_map, List.take_succ_eq_append_getElem hk, List.foldl_append]; rfl
theorem lfs_all (ws : List Nat) : lfs ws (sy ws).length = lev (wf ws) (lv ws) 0 := by
  unfold lfs
  rw [List.take_length]; rfl
theorem lfs_up (ws : List Nat) (k : Nat) : Up (Tr.wt (wf ws)) (lfs ws k) := up_map (puts_up _ List.Pairwise.nil)
theorem lfs_length {ws : List Nat} {k : Nat} (hk : k ≤ (sy ws).length) : (lfs ws k).length = k := by
  unfold lfs
  rw [List.length_map, (puts_perm (wf ws) _ _).length_eq, List.append_nil, List.length_take]; omega
theorem two_allocs (w : World) (o1 o2 : Obj) : ((w.alloc o1).alloc o2).drew.heap[w.heap.size]? = some o1 ∧ ((w.alloc o1).alloc o2).drew.heap[w.heap.size + 1]? = some o2 ∧ Below w.heap.size w ((w.alloc o1).alloc o2).drew ∧ ((w.alloc o1).alloc o2).drew.heap.size = w.heap.size + 2 := by
  have e1 : (w.alloc o1).heap.size = w.heap.size + 1 := World.size_alloc _ _
  refine ⟨?_, ?_, ?_, ?_⟩
  · show ((w.alloc o1).alloc o2).heap[w.heap.size]? = _
    rw [Below.heap_alloc _ _ _ (by omega)]
    exact heap_alloc_new w o1
  · show ((w.alloc o1).alloc o2).heap[w.heap.size + 1]? = _
    rw [← e1]
    exact heap_alloc_new _ o2
  · exact (((Below.refl _ w).alloc (Nat.le_refl _) _).alloc (by omega) _).drew
  · show ((w.alloc o1).alloc o2).heap.size = _
    rw [World.size_alloc, e1]
/-- what lies from the beginning of Lengths on: the weights, the symbols, the answer -/
structure LB (w : World) (p q : Option Addr) (ws S : List Nat) (og m : Nat) (O : List Nat) (wr : World) : Prop where
  P : Rd wr p (nums ws)
  Q : Rd wr q (zs (up S))
  A : Arr wr og 3 og m (zs (up O))
  B : Below w.heap.size w wr
theorem LB.below {w : World} {p q : Option Addr} {ws S : List Nat} {og m : Nat} {O : List Nat} {wr w' : World} (h : LB w p q ws S og m O wr) (hb : Below wr.heap.size wr w') : LB w p q ws S og m O w' :=
  ⟨h.P.below hb, h.Q.below hb, h.A.below hb, h.B.trans (hb.mono h.B.size)⟩
/-- the leaves so far, in memory -/
def Lv1 (ws : List Nat) (og k : Nat) (v : Value) (wr : World) : Prop := (k = 0 ∧ v = .slice none 0 0) ∨ (0 < k ∧ ∃ g cap, v = .slice (some ⟨g, 0, none⟩) k cap ∧ k ≤ cap ∧ g < wr.heap.size ∧ og < g ∧ ItR (og + 1) (sy ws) (wf ws) wr (some ⟨g, 0, none⟩) (lfs ws k))
/-- a row of items, in memory -/
def LvJ (ws : List Nat) (og : Nat) (ts : List Tr) (v : Value) (wr : World) : Prop := ∃ g cap, v = .slice (some ⟨g, 0, none⟩) ts.length cap ∧ ts.length ≤ cap ∧ g < wr.heap.size ∧ og < g ∧ ItR (og + 1) (sy ws) (wf ws) wr (some ⟨g, 0, none⟩) ts
theorem LvJ.below {ws : List Nat} {og : Nat} {ts : List Tr} {v : Value} {wr w' : World} (h : LvJ ws og ts v wr) (hb : Below wr.heap.size wr w') : LvJ ws og ts v w' := by
  obtain ⟨g, cap, h1, h2, h3, h4, h5⟩ := h
  exact ⟨g, cap, h1, h2, Nat.lt_of_lt_of_le h3 hb.size, h4, h5.below hb⟩
theorem itr_lt {B : Nat} {S : List Nat} {W : Nat → Nat} {w : World} {g : Nat} {ts : List Tr} (h : ItR B S W w (some ⟨g, 0, none⟩) ts) (hn : 0 < ts.length) : g < w.heap.size := by
  obtain ⟨xs, h1, h2⟩ := h
  obtain ⟨a, e, hl, _⟩ := h2 0 (by rw [iv_length, h1.length]; omega)
  cases e; exact hl
theorem pup_lv {ws : List Nat} {og n : Nat} {ts : List Tr} {w w' : World} {e : Ending} (h : PuP (og + 1) (sy ws) (wf ws) w n ts e w') (hn : n = ts.length) (h0 : 0 < n) (hog : og < w.heap.size) : ∃ v, e = .returned v ∧ LvJ ws og ts v w' ∧ Below w.heap.size w w' := by
  obtain ⟨g, cap, rfl, hc, hr, hg, hb⟩ := h
  subst hn
  exact ⟨_, rfl, ⟨g, cap, rfl, hc, itr_lt hr h0, by omega, hr⟩, hb⟩
theorem lv1_of {ws : List Nat} {og k : Nat} {v : Value} {w : World} (hk : k ≤ (sy ws).length) (h0 : 0 < k) (h : LvJ ws og (lfs ws k) v w) : Lv1 ws og k v w := by
  obtain ⟨g, cap, h1, h2, h3, h4, h5⟩ := h
  rw [lfs_length hk] at h1 h2
  exact .inr ⟨h0, g, cap, h1, h2, h3, h4, h5⟩
theorem Lv1.below {ws : List Nat} {og k : Nat} {v : Value} {wr w' : World} (h : Lv1 ws og k v wr) (hb : Below wr.heap.size wr w') : Lv1 ws og k v w' := by
  rcases h with h | ⟨h0, g, cap, h1, h2, h3, h4, h5⟩
  · exact .inl h
  · exact .inr ⟨h0, g, cap, h1, h2, Nat.lt_of_lt_of_le h3 hb.size, h4, h5.below hb⟩
theorem lev_le (W : Nat → Nat) (L : List Nat) : ∀ j, (lev W L j).length ≤ 2 * L.length
  | 0 => by simp [lev]; omega
  | j + 1 => by have := lev_le W L j; rw [lev_length]; omega
/-- the next level so far -/
def nx (ws : List Nat) (I j : Nat) : List Tr := ((prs (lev (wf ws) (lv ws) I)).take j).foldl (fun l x => put (Tr.wt (wf ws)) x l) (lev (wf ws) (lv ws) 0)
theorem nx_up (ws : List Nat) (I j : Nat) : Up (Tr.wt (wf ws)) (nx ws I j) := puts_up _ (lev_up (lv_up ws) 0)
theorem prs_at : ∀ (l : List Tr) (j : Nat) (h : 2 * j + 1 < l.length), ∃ h2 : j < (prs l).length, (prs l)[j] = .nd (l[2 * j]'(by omega)) l[2 * j + 1]
  | [], j, h => by simp at h
  | [_], j, h => by simp at h
  | a :: b :: l, 0, h => ⟨by simp [prs], by simp [prs]⟩
  | a :: b :: l, j + 1, h => by
    obtain ⟨h2, e⟩ := prs_at l j (by simp only [List.length_cons] at h; omega)
    refine ⟨by simp only [prs, List.length_cons]; omega, ?_⟩
    simp only [prs, List.getElem_cons_succ, e]
    rfl
theorem nx_succ {ws : List Nat} {I j : Nat} (h : 2 * j + 1 < (lev (wf ws) (lv ws) I).length) : nx ws I (j + 1) = put (Tr.wt (wf ws)) (.nd ((lev (wf ws) (lv ws) I)[2 * j]'(by omega)) (lev (wf ws) (lv ws) I)[2 * j + 1]) (nx ws I j) := by
  obtain ⟨h2, e⟩ := prs_at _ j h
  unfold nx
  rw [List.take_succ_eq_append_getElem h2, List.foldl_append, e]; rfl
theorem nx_all (ws : List Nat) (I j : Nat) (h : j = (lev (wf ws) (lv ws) I).length / 2) : nx ws I j = lev (wf ws) (lv ws) (I + 1) := by
  unfold nx
  rw [List.take_of_length_le (by rw [prs_length]; omega), puts_mrg _ (lev_up (lv_up ws) 0) (prs_up (lev_up (lv_up ws) I))]; rfl
theorem nx_length (ws : List Nat) (I j : Nat) (h : j ≤ (lev (wf ws) (lv ws) I).length / 2) : (nx ws I j).length = (lv ws).length + j := by
  unfold nx
  rw [(puts_perm _ _ _).length_eq, List.length_append, List.length_take, prs_length]
  simp [lev]; omega
/-- the answer so far: so many packages counted -/
def acc (ws : List Nat) (T : List Tr) (j : Nat) : List Nat := (List.range ws.length).map fun i => if i ∈ sy ws then sum (Tr.cnt i) (T.take j) else 0
/-- and of the next one so many symbols -/
def acc2 (ws : List Nat) (T : List Tr) (j kk : Nat) : List Nat := (List.range ws.length).map fun i => if i ∈ (sy ws).take kk then sum (Tr.cnt i) (T.take (j + 1)) else if i ∈ sy ws then sum (Tr.cnt i) (T.take j) else 0
theorem acc_zero (ws : List Nat) (T : List Tr) : List.replicate ws.length 0 = acc ws T 0 := by
  unfold acc
  apply List.ext_getElem
  · simp
  · intro i h1 h2; simp [sum_nil]
theorem acc2_zero (ws : List Nat) (T : List Tr) (j : Nat) : acc2 ws T j 0 = acc ws T j := by
  unfold acc2 acc
  apply List.map_congr_left
  intro i _
  rw [List.take_zero, if_neg (by simp)]
theorem acc2_full (ws : List Nat) (T : List Tr) (j : Nat) : acc2 ws T j (sy ws).length = acc ws T (j + 1) := by
  unfold acc2 acc
  apply List.map_congr_left
  intro i _
  rw [List.take_length]
  by_cases h : i ∈ sy ws
  · rw [if_pos h, if_pos h]
  · rw [if_neg h, if_neg h, if_neg h]
theorem not_taken {S : List Nat} (hS : S.Nodup) {k : Nat} (hk : k < S.length) : S[k] ∉ S.take k := fun h => by
  obtain ⟨i, hi, e⟩ := List.getElem_of_mem h
  rw [List.length_take] at hi
  rw [List.getElem_take] at e
  have := (List.getElem_inj hS).1 e
  omega
theorem acc2_at {ws : List Nat} {T : List Tr} {j kk : Nat} (hk : kk < (sy ws).length) : (acc2 ws T j kk).getD (sy ws)[kk] 0 = sum (Tr.cnt (sy ws)[kk]) (T.take j) := by
  have hm := List.getElem_mem hk
  have hi := (sy_lt hm).1
  unfold acc2
  rw [List.getD_eq_getElem?_getD, List.getElem?_map, List.getElem?_range hi]
  show (if (sy ws)[kk] ∈ _ then _ else _) = _
  rw [if_neg (not_taken (sy_nodup ws) hk), if_pos hm]
theorem acc2_succ {ws : List Nat} {T : List Tr} {j kk : Nat} (hk : kk < (sy ws).length) (hj : j < T.length) : (acc2 ws T j kk).set (sy ws)[kk] (sum (Tr.cnt (sy ws)[kk]) (T.take j) + (T[j]).cnt (sy ws)[kk]) = acc2 ws T j (kk + 1) := by
  apply List.ext_getElem
  · simp [acc2]
  · intro i h1 h2
    have hi : i < ws.length := by simpa [acc2] using h2
    rw [List.getElem_set]
    simp only [acc2, List.getElem_map, List.getElem_range]
    rw [List.take_succ_eq_append_getElem hk]
    by_cases e : (sy ws)[kk] = i
    · rw [if_pos e, if_pos (by simp [e]), List.take_succ_eq_append_getElem hj, sum_app, sum_cons, sum_nil, e]; omega
    · rw [if_neg e]
      have h3 : (i ∈ (sy ws).take kk ++ [(sy ws)[kk]]) ↔ i ∈ (sy ws).take kk := by
        rw [List.mem_append, List.mem_singleton]
        constructor
        · rintro (h | h)
          · exact h
          · exact absurd h.symm e
        · exact .inl
      by_cases h4 : i ∈ (sy ws).take kk
      · rw [if_pos h4, if_pos (h3.2 h4)]
      · rw [if_neg h4, if_neg (fun h => h4 (h3.1 h))]
theorem acc_length (ws : List Nat) (T : List Tr) (j : Nat) : (acc ws T j).length = ws.length := by simp [acc]
theorem sum_bound {f : Tr → Nat} {c : Nat} : ∀ {l : List Tr}, (∀ t ∈ l, f t ≤ c) → sum f l ≤ l.length * c
  | [], _ => by simp [sum_nil]
  | t :: l, h => by
    have h1 := h t (by simp)
    have h2 := sum_bound (l := l) fun u hu => h u (by simp [hu])
    rw [sum_cons, List.length_cons, Nat.succ_mul]; omega
theorem lens_acc {ws : List Nat} {I : Nat} (h2 : 2 ≤ (lv ws).length) (hk : (lv ws).length ≤ 2 ^ (I + 1)) : acc ws (lev (wf ws) (lv ws) I) (2 * (lv ws).length - 2) = lens ws (I + 1) := by
  unfold acc lens
  apply List.map_congr_left
  intro i _
  rw [if_neg (show ¬ (lv ws).length < 2 by omega), Nat.add_sub_cancel]
  by_cases h : i ∈ sy ws
  · rw [if_pos h]; rfl
  · rw [if_neg h, (len_full (lv_up ws) (lv_nodup ws) h2 hk).2.2.2 i (fun h3 => h ((lv_perm ws).mem_iff.1 h3))]
theorem LB.put {w : World} {p q : Option Addr} {ws S : List Nat} {og m : Nat} {O : List Nat} {wr : World} (h : LB w p q ws S og m O wr) (hp : ∀ a, p = some a → a.block ≠ og) (hq : ∀ a, q = some a → a.block ≠ og) (hw : w.heap.size ≤ og) (i v : Nat) : LB w p q ws S og m (O.set i v) (wr.setCell ⟨og, i, none⟩ (.int .i64 (v : Int))) :=
  ⟨_root_.Go.Proofs.Ytjnehpkkkmicfaa.Ls.Rd.put h.P hp _, _root_.Go.Proofs.Ytjnehpkkkmicfaa.Ls.Rd.put h.Q hq _, by have := h.A.set i (.int .i64 (v : Int)); rwa [zs_up_set] at this, below_put h.B (a := ⟨og, i, none⟩) hw _⟩
theorem Fit.put {B : Nat} {S : List Nat} {W : Nat → Nat} {w : World} {x : Nat × Value} {t : Tr} (h : Fit B S W w x t) {a : Addr} (ha : a.block < B) (v : Value) : Fit B S W (w.setCell a v) x t := by
  obtain ⟨h1, g, h2, h3, h4⟩ := h
  exact ⟨h1, g, h2, h3, _root_.Go.Proofs.Ytjnehpkkkmicfaa.Ls.Rd.put h4 (fun q e => by cases e; show g ≠ a.block; omega) v⟩
theorem LvJ.put {ws : List Nat} {og : Nat} {ts : List Tr} {v : Value} {wr : World} (h : LvJ ws og ts v wr) (i : Nat) (u : Value) : LvJ ws og ts v (wr.setCell ⟨og, i, none⟩ u) := by
  obtain ⟨g, cap, h1, h2, h3, h4, xs, h5, h6⟩ := h
  exact ⟨g, cap, h1, h2, by simpa using h3, h4, xs, h5.imp fun _ _ h => h.put (a := ⟨og, i, none⟩) (Nat.lt_succ_self _) u, _root_.Go.Proofs.Ytjnehpkkkmicfaa.Ls.Rd.put h6 (fun q e => by cases e; show g ≠ og; omega) u⟩
end Go.Proofs.Ytjnehpkkkmicfaa.Pk

/- PkC PkD PkE PkF PkN -/
import Derived.Test.YtbegngilbngnoaaDoorPkA
import Derived.Test.YtbegngilbngnoaaDoorArr
import Derived.BigRegion
import Derived.StillTailTactics
import Derived.Test.YtbegngilbngnoaaDoorPkB
namespace Go.Proofs.YtbegngilbngnoaaDoor.Pk
open Go.RowKit Go.Lib Rw Ls Od _root_.Go.Proofs.YtbegngilbngnoaaDoor.Nm

/-- the cells of items: of each its weight, and the slice that it has -/
def iv (xs : List (Nat × Value)) : List Value := xs.flatMap fun x => [.int .u64 (x.1 : Int), x.2]
theorem iv_nil : iv [] = [] := rfl
theorem iv_cons (x : Nat × Value) (xs : List (Nat × Value)) : iv (x :: xs) = .int .u64 (x.1 : Int) :: x.2 :: iv xs := rfl
theorem iv_app (xs ys : List (Nat × Value)) : iv (xs ++ ys) = iv xs ++ iv ys := by simp [iv]
theorem iv_length : ∀ xs : List (Nat × Value), (iv xs).length = xs.length * 2
  | [] => rfl
  | x :: xs => by rw [iv_cons, List.length_cons, List.length_cons, iv_length xs, List.length_cons]; omega
theorem iv_drop : ∀ (xs : List (Nat × Value)) (k : Nat), iv (xs.drop k) = (iv xs).drop (k * 2)
  | [], k => by simp [iv]
  | x :: xs, 0 => by simp
  | x :: xs, k + 1 => by rw [List.drop_succ_cons, iv_drop xs k, iv_cons, show (k + 1) * 2 = k * 2 + 1 + 1 by omega, List.drop_succ_cons, List.drop_succ_cons]
theorem iv_take : ∀ (xs : List (Nat × Value)) (k : Nat), iv (xs.take k) = (iv xs).take (k * 2)
  | [], k => by simp [iv]
  | x :: xs, 0 => by simp [iv]
  | x :: xs, k + 1 => by rw [List.take_succ_cons, iv_cons, iv_take xs k, iv_cons, show (k + 1) * 2 = k * 2 + 1 + 1 by omega, List.take_succ_cons, List.take_succ_cons]
theorem iv_at (xs : List (Nat × Value)) (k : Nat) (h : k < xs.length) : (iv xs).getD (k * 2) (.bool false) = .int .u64 (xs[k].1 : Int) ∧ (iv xs).getD (k * 2 + 1) (.bool false) = xs[k].2 := by
  have h1 := iv_drop xs k
  rw [List.drop_eq_getElem_cons h, iv_cons] at h1
  have h2 : ∀ j, (iv xs).getD (k * 2 + j) (.bool false) = ((iv xs).drop (k * 2)).getD j (.bool false) := fun j => by simp [List.getD_eq_getElem?_getD]
  refine ⟨?_, ?_⟩
  · have := h2 0
    rw [Nat.add_zero] at this
    rw [this, ← h1]; rfl
  · rw [h2 1, ← h1]; rfl
/-- one-cell slices -/
def Sl (xs : List (Nat × Value)) : Prop := ∀ x ∈ xs, x.2.oneCell' = true
theorem iv_ones {xs : List (Nat × Value)} (h : Sl xs) : ∀ u ∈ iv xs, u.oneCell' = true := fun u hu => by
  simp only [iv, List.mem_flatMap, List.mem_cons, List.not_mem_nil, or_false] at hu
  obtain ⟨x, hx, rfl | rfl⟩ := hu
  · rfl
  · exact h x hx
theorem put_at {α : Type} {f : α → Nat} {x : α} : ∀ {l : List α} {a : Nat}, a ≤ l.length → (∀ j (h : j < l.length), j < a → f l[j] ≤ f x) → (∀ j (h : j < l.length), a ≤ j → f x < f l[j]) → put f x l = l.take a ++ x :: l.drop a
  | [], a, h, _, _ => by simp [put]
  | y :: l, 0, h, _, h2 => by
    have := h2 0 (by simp) (Nat.le_refl _)
    rw [put, if_neg (by simpa using this)]; rfl
  | y :: l, a + 1, h, h1, h2 => by
    have := h1 0 (by simp) (by omega)
    rw [put, if_pos (by simpa using this), put_at (l := l) (a := a) (by simpa using h) (fun j hj hja => h1 (j + 1) (Nat.succ_lt_succ hj) (by omega)) (fun j hj hja => h2 (j + 1) (Nat.succ_lt_succ hj) (by omega))]
    rfl
theorem put_length {α : Type} (f : α → Nat) (x : α) (l : List α) : (put f x l).length = l.length + 1 := (put_perm f x l).length_eq
/-- items in new memory -/
def ItP (w : World) (xs : List (Nat × Value)) (e : Ending) (w' : World) : Prop := ∃ (g cap : Nat), e = .returned (.slice (some ⟨g, 0, none⟩) xs.length cap) ∧ xs.length ≤ cap ∧ Rd w' (some ⟨g, 0, none⟩) (iv xs) ∧ w.heap.size ≤ g ∧ Below w.heap.size w w'
theorem rd_two {w : World} {g : Nat} {u v : Value} (h : Rd w (some ⟨g, 0, none⟩) [u, v]) : w.cell? ⟨g, 0, none⟩ = some u ∧ w.cell? ⟨g, 1, none⟩ = some v := by
  obtain ⟨b, e, _, h0⟩ := h 0 (by simp)
  obtain ⟨b', e', _, h1⟩ := h 1 (by simp)
  cases e; cases e'
  rw [Addr.add_lit, Nat.zero_add] at h0 h1
  exact ⟨h0, h1⟩
end Go.Proofs.YtbegngilbngnoaaDoor.Pk
namespace Go.Proofs.YtbegngilbngnoaaDoor.Pk
open Go.RowKit Go.Lib Rw Ls Od _root_.Go.Proofs.YtbegngilbngnoaaDoor.Nm

/-- two lists of counts together -/
def addL (a b : List Nat) : List Nat := List.zipWith (· + ·) a b
theorem addL_length {a b : List Nat} {n : Nat} (ha : a.length = n) (hb : b.length = n) : (addL a b).length = n := by simp [addL, ha, hb]
theorem addL_at {a b : List Nat} {k : Nat} (ha : k < a.length) (hb : k < b.length) : (addL a b).getD k 0 = a.getD k 0 + b.getD k 0 := by
  simp [addL, List.getD_eq_getElem?_getD, List.getElem?_zipWith, ha, hb]
/-- as far as it is added, and nothing behind it -/
def addT (a b : List Nat) (n k : Nat) : List Nat := (addL a b).take k ++ List.replicate (n - k) 0
theorem addT_length {a b : List Nat} {n k : Nat} (ha : a.length = n) (hb : b.length = n) (hk : k ≤ n) : (addT a b n k).length = n := by
  unfold addT
  rw [List.length_append, List.length_take, addL_length ha hb, List.length_replicate]; omega
theorem addT_succ {a b : List Nat} {n k : Nat} (ha : a.length = n) (hb : b.length = n) (hk : k < n) : (addT a b n k).set k (a.getD k 0 + b.getD k 0) = addT a b n (k + 1) := by
  have hl := addL_length ha hb
  have hk2 : k < (addL a b).length := by omega
  unfold addT
  rw [show n - k = (n - (k + 1)) + 1 by omega, List.replicate_succ, List.set_append_right _ _ (by rw [List.length_take]; omega), List.length_take, Nat.min_eq_left (by omega), Nat.sub_self, List.set_cons_zero, List.take_succ_eq_append_getElem hk2, List.append_assoc, ← addL_at (by omega) (by omega)]
  congr 2
  rw [List.getD_eq_getElem?_getD, List.getElem?_eq_getElem hk2]; rfl
theorem addT_full {a b : List Nat} {n : Nat} (ha : a.length = n) (hb : b.length = n) : addT a b n n = addL a b := by
  unfold addT
  rw [Nat.sub_self, List.replicate_zero, List.append_nil, List.take_of_length_le (by rw [addL_length ha hb]; exact Nat.le_refl _)]
theorem five_allocs (w : World) (o1 o2 o3 o4 o5 : Obj) : (((((w.alloc o1).alloc o2).alloc o3).alloc o4).alloc o5).drew.heap[w.heap.size]? = some o1 ∧ (((((w.alloc o1).alloc o2).alloc o3).alloc o4).alloc o5).drew.heap[w.heap.size + 1]? = some o2 ∧ (((((w.alloc o1).alloc o2).alloc o3).alloc o4).alloc o5).drew.heap[w.heap.size + 1 + 1]? = some o3 ∧ (((((w.alloc o1).alloc o2).alloc o3).alloc o4).alloc o5).drew.heap[w.heap.size + 1 + 1 + 1]? = some o4 ∧ (((((w.alloc o1).alloc o2).alloc o3).alloc o4).alloc o5).drew.heap[w.heap.size + 1 + 1 + 1 + 1]? = some o5 ∧ RowKit.Below w.heap.size w (((((w.alloc o1).alloc o2).alloc o3).alloc o4).alloc o5).drew ∧ (((((w.alloc o1).alloc o2).alloc o3).alloc o4).alloc o5).drew.heap.size = w.heap.size + 5 := by
  have e1 : (w.alloc o1).heap.size = w.heap.size + 1 := World.size_alloc _ _
  have e2 : ((w.alloc o1).alloc o2).heap.size = w.heap.size + 1 + 1 := by rw [World.size_alloc, e1]
  have e3 : (((w.alloc o1).alloc o2).alloc o3).heap.size = w.heap.size + 1 + 1 + 1 := by rw [World.size_alloc, e2]
  have e4 : ((((w.alloc o1).alloc o2).alloc o3).alloc o4).heap.size = w.heap.size + 1 + 1 + 1 + 1 := by rw [World.size_alloc, e3]
  refine ⟨?_, ?_, ?_, ?_, ?_, ?_, ?_⟩
  · show (((((w.alloc o1).alloc o2).alloc o3).alloc o4).alloc o5).heap[w.heap.size]? = _
    rw [Below.heap_alloc _ _ _ (by omega), Below.heap_alloc _ _ _ (by omega), Below.heap_alloc _ _ _ (by omega), Below.heap_alloc _ _ _ (by omega)]
    exact heap_alloc_new w o1
  · show (((((w.alloc o1).alloc o2).alloc o3).alloc o4).alloc o5).heap[w.heap.size + 1]? = _
    rw [Below.heap_alloc _ _ _ (by omega), Below.heap_alloc _ _ _ (by omega), Below.heap_alloc _ _ _ (by omega), ← e1]
    exact heap_alloc_new (w.alloc o1) o2
  · show (((((w.alloc o1).alloc o2).alloc o3).alloc o4).alloc o5).heap[w.heap.size + 1 + 1]? = _
    rw [Below.heap_alloc _ _ _ (by omega), Below.heap_alloc _ _ _ (by omega), ← e2]
    exact heap_alloc_new _ o3
  · show (((((w.alloc o1).alloc o2).alloc o3).alloc o4).alloc o5).heap[w.heap.size + 1 + 1 + 1]? = _
    rw [Below.heap_alloc _ _ _ (by omega), ← e3]
    exact heap_alloc_new _ o4
  · show (((((w.alloc o1).alloc o2).alloc o3).alloc o4).alloc o5).heap[w.heap.size + 1 + 1 + 1 + 1]? = _
    rw [← e4]
    exact heap_alloc_new _ o5
  · exact ((((((RowKit.Below.refl _ w).alloc (Nat.le_refl _) _).alloc (by omega) _).alloc (by omega) _).alloc (by omega) _).alloc (by omega) _).drew
  · show (((((w.alloc o1).alloc o2).alloc o3).alloc o4).alloc o5).heap.size = _
    rw [World.size_alloc, e4]
theorem zs_up_set (L : List Nat) (k n : Nat) : (zs (up L)).set k (.int .i64 (n : Int)) = zs (up (L.set k n)) := by simp [zs, up, List.map_set]
theorem set_cell_at {w : World} {b k : Nat} {cs : Array Value} {t : TypeId} (v : Value) (h : w.heap[b]? = some (.cells cs t (0, 0))) : (w.setCell ⟨b, k, none⟩ v).heap[b]? = some (.cells (cs.setIfInBounds k v) t (0, 0)) := by
  obtain ⟨hlt, hk⟩ := Array.getElem?_eq_some_iff.1 h
  show (w.heap.modify b _)[b]? = _
  rw [Array.getElem?_eq_getElem (by rw [Array.size_modify]; exact hlt), Array.getElem_modify_self, hk]
  rfl
theorem set_two (w : World) (b : Nat) (a0 a1 v0 v1 : Value) (t : TypeId) (h : w.heap[b]? = some (.cells #[a0, a1] t (0, 0))) : ((w.setCell ⟨b, 0, none⟩ v0).setCell ⟨b, 1, none⟩ v1).heap[b]? = some (.cells #[v0, v1] t (0, 0)) :=
  set_cell_at v1 (set_cell_at v0 h)
/-- an item, its counts in new memory -/
def BoP (w : World) (wt n : Nat) (C : List Nat) (e : Ending) (w' : World) : Prop := ∃ g, e = .returned (.agg #[.int .u64 (wt : Nat), .slice (some ⟨g, 0, none⟩) n n]) ∧ Rd w' (some ⟨g, 0, none⟩) (zs (up C)) ∧ w.heap.size ≤ g ∧ Below w.heap.size w w'
end Go.Proofs.YtbegngilbngnoaaDoor.Pk
namespace Go.Proofs.YtbegngilbngnoaaDoor.Pk
open Go.RowKit Go.Lib Rw Ls Od _root_.Go.Proofs.YtbegngilbngnoaaDoor.Nm

/-- how often each symbol is in a tree -/
def cnts (S : List Nat) (t : Tr) : List Nat := S.map fun i => t.cnt i
theorem cnts_length (S : List Nat) (t : Tr) : (cnts S t).length = S.length := by simp [cnts]
theorem cnts_nd (S : List Nat) (a b : Tr) : cnts S (.nd a b) = addL (cnts S a) (cnts S b) := by
  unfold cnts addL
  induction S with
  | nil => rfl
  | cons i S ih => simp only [List.map_cons, List.zipWith_cons_cons]; rw [ih]; rfl
def Tr.sz : Tr → Nat
  | .lf _ => 1
  | .nd a b => a.sz + b.sz
theorem cnt_sz (x : Nat) : ∀ t : Tr, t.cnt x ≤ t.sz
  | .lf i => by unfold Tr.cnt Tr.sz; split <;> omega
  | .nd a b => by have := cnt_sz x a; have := cnt_sz x b; unfold Tr.cnt Tr.sz; omega
theorem wt_sz {W : Nat → Nat} {m : Nat} (h : ∀ i, W i ≤ m) : ∀ t : Tr, t.wt W ≤ t.sz * m
  | .lf i => by have := h i; unfold Tr.wt Tr.sz; omega
  | .nd a b => by have := wt_sz h a; have := wt_sz h b; unfold Tr.wt Tr.sz; rw [Nat.add_mul]; omega
theorem lev_sz {W : Nat → Nat} {L : List Nat} : ∀ j t, t ∈ lev W L j → t.sz ≤ 2 ^ j
  | 0, t, h => by
    rw [lev, List.mem_map] at h
    obtain ⟨i, _, rfl⟩ := h
    exact Nat.le_refl _
  | j + 1, t, h => by
    rw [lev, mrg_mem] at h
    have hp : 2 ^ j ≥ 1 := Nat.one_le_two_pow
    have he : 2 ^ (j + 1) = 2 ^ j + 2 ^ j := by rw [Nat.pow_succ]; omega
    rcases h with h | h
    · rw [List.mem_map] at h
      obtain ⟨i, _, rfl⟩ := h
      show 1 ≤ _
      omega
    · obtain ⟨a, b, rfl, ha, hb⟩ := prs_mem (W := W) h
      have := lev_sz j a ha; have := lev_sz j b hb
      show a.sz + b.sz ≤ _
      omega
theorem cnts_sz (S : List Nat) (t : Tr) (k : Nat) : (cnts S t).getD k 0 ≤ t.sz := by
  unfold cnts
  rw [List.getD_eq_getElem?_getD, List.getElem?_map]
  cases S[k]? with
  | none => simp
  | some i => exact cnt_sz i t
/-- two lists whose items go together -/
def All2 {α β : Type} (R : α → β → Prop) : List α → List β → Prop
  | [], [] => True
  | x :: xs, y :: ys => R x y ∧ All2 R xs ys
  | _, _ => False
theorem All2.length {α β : Type} {R : α → β → Prop} : ∀ {xs : List α} {ys : List β}, All2 R xs ys → xs.length = ys.length
  | [], [], _ => rfl
  | _ :: _, _ :: _, ⟨_, r⟩ => by simp [All2.length r]
  | [], _ :: _, h => h.elim
  | _ :: _, [], h => h.elim
theorem All2.imp {α β : Type} {R Q : α → β → Prop} (h : ∀ x y, R x y → Q x y) : ∀ {xs : List α} {ys : List β}, All2 R xs ys → All2 Q xs ys
  | [], [], _ => trivial
  | _ :: _, _ :: _, ⟨h1, r⟩ => ⟨h _ _ h1, All2.imp h r⟩
  | [], _ :: _, h => h.elim
  | _ :: _, [], h => h.elim
theorem All2.at {α β : Type} {R : α → β → Prop} : ∀ {xs : List α} {ys : List β}, All2 R xs ys → ∀ i (h1 : i < xs.length) (h2 : i < ys.length), R xs[i] ys[i]
  | _ :: _, _ :: _, ⟨h, _⟩, 0, _, _ => h
  | _ :: _, _ :: _, ⟨_, r⟩, i + 1, h1, h2 => All2.at r i (by simpa using h1) (by simpa using h2)
  | [], _ :: _, h, _, _, _ => h.elim
  | _ :: _, [], h, _, _, _ => h.elim
theorem All2.mem {α β : Type} {R : α → β → Prop} : ∀ {xs : List α} {ys : List β}, All2 R xs ys → ∀ x ∈ xs, ∃ y ∈ ys, R x y
  | _ :: _, y :: _, ⟨h, r⟩, x, hx => by
    rcases List.mem_cons.1 hx with rfl | hx
    · exact ⟨y, List.mem_cons_self .., h⟩
    · obtain ⟨z, hz, h2⟩ := All2.mem r x hx
      exact ⟨z, List.mem_cons_of_mem _ hz, h2⟩
  | [], [], _, x, hx => by simp at hx
  | [], _ :: _, h, _, _ => h.elim
  | _ :: _, [], h, _, _ => h.elim
theorem All2.put {α β : Type} {R : α → β → Prop} {f : α → Nat} {g : β → Nat} (hf : ∀ x y, R x y → f x = g y) {x : α} {y : β} (hxy : R x y) : ∀ {xs : List α} {ys : List β}, All2 R xs ys → All2 R (Pk.put f x xs) (Pk.put g y ys)
  | [], [], _ => ⟨hxy, trivial⟩
  | a :: xs, b :: ys, ⟨h, r⟩ => by
    unfold Pk.put
    rw [hf a b h, hf x y hxy]
    by_cases hc : g b ≤ g y
    · rw [if_pos hc, if_pos hc]; exact ⟨h, All2.put hf hxy r⟩
    · rw [if_neg hc, if_neg hc]; exact ⟨hxy, h, r⟩
  | [], _ :: _, h => h.elim
  | _ :: _, [], h => h.elim
theorem All2.up {α β : Type} {R : α → β → Prop} {f : α → Nat} {g : β → Nat} (hf : ∀ x y, R x y → f x = g y) : ∀ {xs : List α} {ys : List β}, All2 R xs ys → Up g ys → Up f xs
  | [], [], _, _ => List.Pairwise.nil
  | x :: xs, y :: ys, ⟨h, r⟩, hu => by
    obtain ⟨h1, h2⟩ := List.pairwise_cons.1 hu
    refine List.pairwise_cons.2 ⟨fun z hz => ?_, All2.up hf r h2⟩
    obtain ⟨u, hu, h3⟩ := All2.mem r z hz
    rw [hf _ _ h, hf _ _ h3]; exact h1 u hu
  | [], _ :: _, h, _ => h.elim
  | _ :: _, [], h, _ => h.elim
/-- an item as a tree: its weight, and its counts, in a block from B on -/
structure Fit (B : Nat) (S : List Nat) (W : Nat → Nat) (w : World) (x : Nat × Value) (t : Tr) : Prop where
  wt : x.1 = t.wt W
  sl : ∃ g, x.2 = .slice (some ⟨g, 0, none⟩) S.length S.length ∧ B ≤ g ∧ Rd w (some ⟨g, 0, none⟩) (zs (up (cnts S t)))
theorem Fit.below {B : Nat} {S : List Nat} {W : Nat → Nat} {w w' : World} {x : Nat × Value} {t : Tr} (h : Fit B S W w x t) (hb : Below w.heap.size w w') : Fit B S W w' x t := by
  obtain ⟨h1, g, h2, h3, h4⟩ := h
  exact ⟨h1, g, h2, h3, h4.below hb⟩
/-- a row of items as trees -/
def ItR (B : Nat) (S : List Nat) (W : Nat → Nat) (w : World) (A : Option Addr) (ts : List Tr) : Prop := ∃ xs, All2 (Fit B S W w) xs ts ∧ Rd w A (iv xs)
theorem ItR.below {B : Nat} {S : List Nat} {W : Nat → Nat} {w w' : World} {A : Option Addr} {ts : List Tr} (h : ItR B S W w A ts) (hb : Below w.heap.size w w') : ItR B S W w' A ts := by
  obtain ⟨xs, h1, h2⟩ := h
  exact ⟨xs, h1.imp fun _ _ h => h.below hb, h2.below hb⟩
theorem ItR.nil (B : Nat) (S : List Nat) (W : Nat → Nat) (w : World) (A : Option Addr) : ItR B S W w A [] := ⟨[], trivial, Rd.nil _ _⟩
/-- the item at a place -/
theorem ItR.at {B : Nat} {S : List Nat} {W : Nat → Nat} {w : World} {g : Nat} {ts : List Tr} (h : ItR B S W w (some ⟨g, 0, none⟩) ts) (k : Nat) (hk : k < ts.length) : ∃ x, Fit B S W w x ts[k] ∧ w.cell? ⟨g, k * 2, none⟩ = some (.int .u64 (x.1 : Int)) ∧ w.cell? ⟨g, k * 2 + 1, none⟩ = some x.2 := by
  obtain ⟨xs, h1, h2⟩ := h
  have hk2 : k < xs.length := by rw [h1.length]; exact hk
  obtain ⟨a, e, _, c0⟩ := h2 (k * 2) (by rw [iv_length]; omega)
  obtain ⟨a', e', _, c1⟩ := h2 (k * 2 + 1) (by rw [iv_length]; omega)
  cases e; cases e'
  rw [(iv_at xs k hk2).1, Addr.add_lit, Nat.zero_add] at c0
  rw [(iv_at xs k hk2).2, Addr.add_lit, Nat.zero_add] at c1
  exact ⟨xs[k], h1.at k hk2 hk, c0, c1⟩
theorem fit_sl {B : Nat} {S : List Nat} {W : Nat → Nat} {w : World} {xs : List (Nat × Value)} {ts : List Tr} (h : All2 (Fit B S W w) xs ts) : Sl xs := fun x hx => by
  obtain ⟨t, _, _, g, h2, _⟩ := h.mem x hx
  rw [h2]; rfl
/-- what put answers -/
def PuP (B : Nat) (S : List Nat) (W : Nat → Nat) (w : World) (n : Nat) (ts : List Tr) (e : Ending) (w' : World) : Prop := ∃ (g cap : Nat), e = .returned (.slice (some ⟨g, 0, none⟩) n cap) ∧ n ≤ cap ∧ ItR B S W w' (some ⟨g, 0, none⟩) ts ∧ w.heap.size ≤ g ∧ Below w.heap.size w w'
end Go.Proofs.YtbegngilbngnoaaDoor.Pk
namespace Go.Proofs.YtbegngilbngnoaaDoor.Pk
open Go.RowKit Go.Lib Rw Ls Od _root_.Go.Proofs.YtbegngilbngnoaaDoor.Nm

def okL (ws : List Nat) (lim : Int) : Bool := okW ws && decide (1 ≤ lim) && decide (lim ≤ 15)
def lenR (ws : List Nat) (lim : Int) : List Nat × Int := if okL ws lim = true then (if 2 ^ lim.toNat < (sy ws).length then ([], 8) else (lens ws lim.toNat, 0)) else ([], 1)
/-- ints in memory, and why none -/
def IE (W : World) (o : List Nat × Int) (e : Ending) (w' : World) : Prop := ∃ (q : Option Addr) (c : Nat), e = .returned (.tuple #[.slice q o.1.length c, .int .i64 o.2]) ∧ o.1.length ≤ c ∧ Rd w' q (zs (up o.1)) ∧ Below W.heap.size W w'
theorem ie_mk {W w' : World} {o : List Nat × Int} {L : List Nat} {r : Int} {n : Nat} {q : Option Addr} {c : Nat} (ho : o = (L, r)) (hL : L.length = n) (hc : n ≤ c) (hr : Rd w' q (zs (up L))) (hb : Below W.heap.size W w') : IE W o (.returned (.tuple #[.slice q n c, .int .i64 r])) w' := by
  subst ho; subst hL; exact ⟨q, c, rfl, hc, hr, hb⟩
theorem sy_len (ws : List Nat) : (sy ws).length ≤ ws.length := by
  unfold sy
  have := List.length_filter_le (fun i => decide (0 < ws.getD i 0)) (List.range ws.length)
  rwa [List.length_range] at this
theorem sy_lt {ws : List Nat} {i : Nat} (h : i ∈ sy ws) : i < ws.length ∧ 0 < ws.getD i 0 := by
  unfold sy at h
  rw [List.mem_filter, List.mem_range, decide_eq_true_eq] at h
  exact h
theorem lv_len (ws : List Nat) : (lv ws).length = (sy ws).length := (lv_perm ws).length_eq
theorem lens_few {ws : List Nat} {k : Nat} (h : (sy ws).length < 2) : lens ws k = (List.range ws.length).map fun i => if i ∈ sy ws then 1 else 0 := by
  unfold lens
  apply List.map_congr_left
  intro i _
  rw [if_pos (by rw [lv_len]; exact h)]
  have : i ∈ lv ws ↔ i ∈ sy ws := (lv_perm ws).mem_iff
  by_cases hi : i ∈ sy ws
  · rw [if_pos hi, if_pos (this.2 hi)]
  · rw [if_neg hi, if_neg (fun h => hi (this.1 h))]
theorem few_none {ws : List Nat} {k : Nat} (h : (sy ws).length = 0) : lens ws k = List.replicate ws.length 0 := by
  rw [lens_few (by omega), List.eq_nil_of_length_eq_zero h]
  apply List.ext_getElem
  · simp
  · intro i h1 h2; simp
theorem few_one {ws : List Nat} {k x : Nat} (h : sy ws = [x]) : lens ws k = (List.replicate ws.length 0).set x 1 := by
  rw [lens_few (by rw [h]; simp), h]
  apply List.ext_getElem
  · simp
  · intro i h1 h2
    simp only [List.getElem_map, List.getElem_range, List.mem_singleton, List.getElem_set, List.getElem_replicate]
    by_cases e : i = x
    · rw [if_pos e, if_pos e.symm]
    · rw [if_neg e, if_neg (fun h => e h.symm)]
end Go.Proofs.YtbegngilbngnoaaDoor.Pk
namespace Go.Proofs.YtbegngilbngnoaaDoor.Pk
open Go.RowKit Go.Lib Rw Ls Od _root_.Go.Proofs.YtbegngilbngnoaaDoor.Nm

theorem up_at (L : List Nat) (i : Nat) : (up L).getD i 0 = ((L.getD i 0 : Nat) : Int) := by
  unfold up
  rw [List.getD_eq_getElem?_getD, List.getD_eq_getElem?_getD, List.getElem?_map]
  cases L[i]? <;> rfl
/-- each length is at most the limit, and is there where there is a weight -/
theorem lens_one {ws : List Nat} {lim : Nat} (h1 : 1 ≤ lim) (hk : (sy ws).length ≤ 2 ^ lim) {i : Nat} (hi : i < ws.length) : (lens ws lim).getD i 0 ≤ lim ∧ (0 < ws.getD i 0 ↔ 0 < (lens ws lim).getD i 0) := by
  have hm : i ∈ lv ws ↔ 0 < ws.getD i 0 := by rw [lv_mem]; exact ⟨fun h => h.2, fun h => ⟨hi, h⟩⟩
  rw [lens_at hi, ← hm]
  split
  · by_cases h : i ∈ lv ws
    · rw [if_pos h]; exact ⟨h1, by simp [h]⟩
    · rw [if_neg h]; exact ⟨by omega, by simp [h]⟩
  · rename_i h2
    obtain ⟨f1, _, _, f4⟩ := len_full (k := lim - 1) (lv_up ws) (lv_nodup ws) (by omega) (by rw [lv_len, show lim - 1 + 1 = lim by omega]; exact hk)
    by_cases h : i ∈ lv ws
    · have := f1 i h
      exact ⟨by omega, by simp only [h, true_iff]; omega⟩
    · have := f4 i h
      exact ⟨by omega, by simp only [h, false_iff]; omega⟩
/-- what is asked of what has a weight is asked of the leaves -/
theorem sum_lv (ws : List Nat) (g : Nat → Nat) (h0 : ∀ i, i < ws.length → ws.getD i 0 = 0 → g i = 0) : sum g (List.range ws.length) = sum g (lv ws) := by
  rw [sum_perm (lv_perm ws), sy, sum_filter]
  refine sum_congr fun x hx => ?_
  by_cases h : 0 < ws.getD x 0
  · rw [if_pos (decide_eq_true h)]
  · rw [if_neg (by simpa using h)]
    exact h0 x (List.mem_range.1 hx) (by omega)
/-- two leaves or more leave no room -/
theorem lens_room {ws : List Nat} {lim : Nat} (h1 : 1 ≤ lim) (hk : (sy ws).length ≤ 2 ^ lim) (h2 : 2 ≤ (sy ws).length) : tookT (up (lens ws lim)) lim ws.length = 2 ^ lim := by
  obtain ⟨f1, f2, _, f4⟩ := len_full (k := lim - 1) (lv_up ws) (lv_nodup ws) (by rw [lv_len]; exact h2) (by rw [lv_len, show lim - 1 + 1 = lim by omega]; exact hk)
  rw [show lim - 1 + 1 = lim by omega] at f2
  rw [← f2]
  unfold tookT
  rw [sum_lv ws]
  · refine sum_congr fun x hx => ?_
    have hx2 := (lv_mem.1 hx).1
    have := f1 x hx
    have e : (lens ws lim).getD x 0 = len (wf ws) (lv ws) (lim - 1) x := by rw [lens_at hx2, if_neg (by rw [lv_len]; omega)]
    rw [up_at, e, if_pos (by omega), Int.toNat_natCast]
  · intro i hi h0
    have := (lens_one h1 hk hi).2
    rw [up_at, if_neg (by omega)]
theorem lens_cost {ws : List Nat} {lim : Nat} (ho : okW ws = true) (h1 : 1 ≤ lim) (h15 : lim ≤ 15) (hk : (sy ws).length ≤ 2 ^ lim) : costR ws (up (lens ws lim)) = (cost ws (lens ws lim), 0) := by
  have hl : (up (lens ws lim)).length = ws.length := by unfold up; rw [List.length_map, lens_length]
  unfold costR
  rw [if_pos ho, if_pos hl.symm, if_pos]
  · refine Prod.ext ?_ rfl
    unfold costT cost
    refine sum_congr fun x _ => ?_
    rw [up_at, Int.toNat_natCast]
  · rw [List.all_eq_true]
    intro i hi
    obtain ⟨h3, h4⟩ := lens_one h1 hk (List.mem_range.1 hi)
    rw [up_at]
    unfold good
    simp only [Bool.and_eq_true, Bool.not_eq_true', decide_eq_true_eq, Bool.and_eq_false_imp, decide_eq_false_iff_not]
    refine ⟨⟨by omega, by omega⟩, fun h5 => by omega⟩
theorem lens_left {ws : List Nat} {lim : Nat} (ho : okW ws = true) (h1 : 1 ≤ lim) (h15 : lim ≤ 15) (hk : (sy ws).length ≤ 2 ^ lim) : ∃ n : Int, roomR (up (lens ws lim)) lim = (n, 0) ∧ (2 ≤ (sy ws).length → n = 0) := by
  have hl : (up (lens ws lim)).length = ws.length := by unfold up; rw [List.length_map, lens_length]
  have h512 := okW_len ho
  refine ⟨((2 ^ lim : Nat) : Int) - (tookT (up (lens ws lim)) lim ws.length : Nat), ?_, ?_⟩
  · unfold roomR
    rw [if_pos (by unfold okR; simp only [Bool.and_eq_true, decide_eq_true_eq]; omega), if_pos, hl, Int.toNat_natCast]
    rw [List.all_eq_true]
    intro z hz
    obtain ⟨i, hi, he⟩ := List.getElem_of_mem hz
    have h3 := (lens_one h1 hk (by omega : i < ws.length)).1
    have h4 := up_at (lens ws lim) i
    rw [List.getD_eq_getElem?_getD, List.getElem?_eq_getElem hi, Option.getD_some, he] at h4
    simp only [Bool.and_eq_true, decide_eq_true_eq]
    omega
  · intro h2
    rw [lens_room h1 hk h2]; omega
/-- who weighs more has no longer code -/
theorem lens_order {ws : List Nat} {lim : Nat} (h1 : 1 ≤ lim) (hk : (sy ws).length ≤ 2 ^ lim) {i j : Nat} (hi : i < ws.length) (hj : j < ws.length) (h0 : 0 < ws.getD j 0) (hw : ws.getD j 0 < ws.getD i 0) : (lens ws lim).getD i 0 ≤ (lens ws lim).getD j 0 := by
  have mi : i ∈ lv ws := lv_mem.2 ⟨hi, by unfold wf; omega⟩
  have mj : j ∈ lv ws := lv_mem.2 ⟨hj, h0⟩
  rw [lens_at hi, lens_at hj]
  split
  · simp
  · rename_i h2
    exact len_order (lv_up ws) (lv_nodup ws) (by omega) (by rw [lv_len, show lim - 1 + 1 = lim by omega]; exact hk) mi mj hw
theorem cost_len {ws : List Nat} {lim : Nat} (h2 : 2 ≤ (sy ws).length) : cost ws (lens ws lim) = sum (fun i => wf ws i * len (wf ws) (lv ws) (lim - 1) i) (lv ws) := by
  rw [← cost_lv]
  unfold cost
  refine sum_congr fun x hx => ?_
  rw [lens_at (List.mem_range.1 hx), if_neg (by rw [lv_len]; omega)]
  rfl
/-- a wider limit costs no more -/
theorem lens_wider {ws : List Nat} {lim : Nat} (h1 : 1 ≤ lim) (hk : (sy ws).length ≤ 2 ^ lim) : cost ws (lens ws (lim + 1)) ≤ cost ws (lens ws lim) := by
  rcases Nat.lt_or_ge (sy ws).length 2 with h2 | h2
  · refine Nat.le_of_eq ?_
    unfold cost
    refine sum_congr fun x hx => ?_
    have hs : (lv ws).length < 2 := by rw [lv_len]; omega
    simp only [lens_at (List.mem_range.1 hx), if_pos hs]
  · rw [cost_len h2, cost_len h2]
    have := len_wider (k := lim - 1) (lv_up ws) (lv_nodup ws) (by rw [lv_len]; exact h2) (by rw [lv_len, show lim - 1 + 1 = lim by omega]; exact hk)
    rw [show lim - 1 + 1 = lim by omega] at this
    exact this
theorem sum_le {f g : Nat → Nat} : ∀ {l : List Nat}, (∀ x ∈ l, f x ≤ g x) → sum f l ≤ sum g l
  | [], _ => Nat.le_refl _
  | x :: l, h => by rw [sum_cons, sum_cons]; exact Nat.add_le_add (h x (by simp)) (sum_le fun y hy => h y (by simp [hy]))
theorem sum_sub (f : Nat → Nat) {l m : List Nat} (h : l.Sublist m) : sum f l ≤ sum f m := by
  induction h with
  | slnil => exact Nat.le_refl _
  | cons a _ ih => rw [sum_cons]; omega
  | cons_cons a _ ih => rw [sum_cons, sum_cons]; omega
/-- no other lengths that have room cost less -/
theorem lens_least {ws : List Nat} {lim : Nat} (h1 : 1 ≤ lim) (hk : (sy ws).length ≤ 2 ^ lim) {ls : List Int} {n : Int} {b : Nat} (hr : roomR ls lim = (n, 0)) (hn : 0 ≤ n) (hc : costR ws ls = (b, 0)) : cost ws (lens ws lim) ≤ b := by
  unfold costR at hc
  split at hc
  · split at hc
    · rename_i hl
      split at hc
      · rename_i hg
        obtain rfl : costT ws ls ws.length = b := congrArg Prod.fst hc
        unfold roomR at hr
        split at hr
        · split at hr
          · rename_i ha
            have hn2 : ((2 ^ lim : Nat) : Int) - (tookT ls lim ls.length : Nat) = n := by have := congrArg Prod.fst hr; rw [Int.toNat_natCast] at this; exact this
            rw [List.all_eq_true] at hg ha
            have hone : ∀ x ∈ lv ws, 1 ≤ (ls.getD x 0).toNat ∧ (ls.getD x 0).toNat ≤ lim ∧ 0 < ls.getD x 0 := fun x hx => by
              obtain ⟨hx1, hx2⟩ := lv_mem.1 hx
              have g1 := hg x (List.mem_range.2 hx1)
              unfold good at g1
              simp only [Bool.and_eq_true, Bool.not_eq_true', decide_eq_true_eq, Bool.and_eq_false_imp, decide_eq_false_iff_not] at g1
              have g2 : ls.getD x 0 ≠ 0 := fun e => g1.2 e hx2
              have g3 := ha (ls.getD x 0) (by rw [List.getD_eq_getElem?_getD, List.getElem?_eq_getElem (by omega : x < ls.length)]; exact List.getElem_mem _)
              simp only [Bool.and_eq_true, decide_eq_true_eq] at g3
              omega
            have hcost : costT ws ls ws.length = sum (fun i => wf ws i * (ls.getD i 0).toNat) (lv ws) := cost_lv ws _
            rw [hcost]
            rcases Nat.lt_or_ge (sy ws).length 2 with h2 | h2
            · have : cost ws (lens ws lim) = sum (fun i => wf ws i * (if i ∈ lv ws then 1 else 0)) (lv ws) := by
                rw [← cost_lv]
                unfold cost
                refine sum_congr fun x hx => ?_
                rw [lens_at (List.mem_range.1 hx), if_pos (by rw [lv_len]; omega)]
                rfl
              rw [this]
              refine sum_le fun x hx => ?_
              rw [if_pos hx]
              exact Nat.mul_le_mul_left _ (hone x hx).1
            · rw [cost_len h2]
              have hk2 : lim - 1 + 1 = lim := by omega
              refine len_least (lv_up ws) (lv_nodup ws) (by rw [lv_len]; exact h2) (by rw [lv_len, hk2]; exact hk) (fun x => (ls.getD x 0).toNat) (fun x hx => by rw [hk2]; exact ⟨(hone x hx).1, (hone x hx).2.1⟩) ?_
              rw [hk2]
              have ht : tookT ls lim ls.length ≤ 2 ^ lim := by omega
              refine Nat.le_trans ?_ ht
              unfold tookT
              rw [← hl]
              have e1 : sum (fun x => 2 ^ (lim - (ls.getD x 0).toNat)) (lv ws) = sum (fun i => if 0 < ls.getD i 0 then 2 ^ (lim - (ls.getD i 0).toNat) else 0) (lv ws) := sum_congr fun x hx => by rw [if_pos (hone x hx).2.2]
              rw [e1, sum_perm (lv_perm ws)]
              exact sum_sub _ List.filter_sublist
          · exact absurd (congrArg Prod.snd hr) (by simp)
        · exact absurd (congrArg Prod.snd hr) (by simp)
      · exact absurd (congrArg Prod.snd hc) (by simp)
    · exact absurd (congrArg Prod.snd hc) (by simp)
  · exact absurd (congrArg Prod.snd hc) (by simp)
end Go.Proofs.YtbegngilbngnoaaDoor.Pk

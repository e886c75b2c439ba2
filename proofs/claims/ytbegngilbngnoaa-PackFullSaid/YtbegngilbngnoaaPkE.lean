/- Items in memory as trees. -/
import Derived.Test.YtbegngilbngnoaaPkD
namespace Go.Proofs.Ytbegngilbngnoaa.Pk
open Go.RowKit Go.Lib Rw Ls Od _root_.Go.Proofs.Ytbegngilbngnoaa.Nm

/-- how often each symbol is in a tree -/
def cnts (S : List Nat) (t : Tr) : List Nat := S.map fun i => t.cnt i
theorem cnts_length (S : List Nat) (t : Tr) : (cnts S t).length = S.length := by simp [cnts]
theorem cnts_nd (S : List Nat) (a b : Tr) : cnts S (.nd a b) = addL (cnts S a) (cnts S b) := by
  unfold cnts addL
  induction S with
  | nil => rfl
  | cons i S ih => simp only [List.map_cons, List.zipWith_cons_cons]; rw [ih]; rfl
def Tr.sz : Tr → Nat
  | .lf _ => 1
  | .nd a b => a.sz + b.sz
theorem cnt_sz (x : Nat) : ∀ t : Tr, t.cnt x ≤ t.sz
  | .lf i => by unfold Tr.cnt Tr.sz; split <;> omega
  | .nd a b => by have := cnt_sz x a; have := cnt_sz x b; unfold Tr.cnt Tr.sz; omega
theorem wt_sz {W : Nat → Nat} {m : Nat} (h : ∀ i, W i ≤ m) : ∀ t : Tr, t.wt W ≤ t.sz * m
  | .lf i => by have := h i; unfold Tr.wt Tr.sz; omega
  | .nd a b => by have := wt_sz h a; have := wt_sz h b; unfold Tr.wt Tr.sz; rw [Nat.add_mul]; omega
theorem lev_sz {W : Nat → Nat} {L : List Nat} : ∀ j t, t ∈ lev W L j → t.sz ≤ 2 ^ j
  | 0, t, h => by
    rw [lev, List.mem_map] at h
    obtain ⟨i, _, rfl⟩ := h
    exact Nat.le_refl _
  | j + 1, t, h => by
    rw [lev, mrg_mem] at h
    have hp : 2 ^ j ≥ 1 := Nat.one_le_two_pow
    have he : 2 ^ (j + 1) = 2 ^ j + 2 ^ j := by rw [Nat.pow_succ]; omega
    rcases h with h | h
    · rw [List.mem_map] at h
      obtain ⟨i, _, rfl⟩ := h
      show 1 ≤ _
      omega
    · obtain ⟨a, b, rfl, ha, hb⟩ := prs_mem (W := W) h
      have := lev_sz j a ha; have := lev_sz j b hb
      show a.sz + b.sz ≤ _
      omega
theorem cnts_sz (S : List Nat) (t : Tr) (k : Nat) : (cnts S t).getD k 0 ≤ t.sz := by
  unfold cnts
  rw [List.getD_eq_getElem?_getD, List.getElem?_map]
  cases S[k]? with
  | none => simp
  | some i => exact cnt_sz i t
/-- two lists whose items go together -/
def All2 {α β : Type} (R : α → β → Prop) : List α → List β → Prop
  | [], [] => True
  | x :: xs, y :: ys => R x y ∧ All2 R xs ys
  | _, _ => False
theorem All2.length {α β : Type} {R : α → β → Prop} : ∀ {xs : List α} {ys : List β}, All2 R xs ys → xs.length = ys.length
  | [], [], _ => rfl
  | _ :: _, _ :: _, ⟨_, r⟩ => by simp [All2.length r]
  | [], _ :: _, h => h.elim
  | _ :: _, [], h => h.elim
theorem All2.imp {α β : Type} {R Q : α → β → Prop} (h : ∀ x y, R x y → Q x y) : ∀ {xs : List α} {ys : List β}, All2 R xs ys → All2 Q xs ys
  | [], [], _ => trivial
  | _ :: _, _ :: _, ⟨h1, r⟩ => ⟨h _ _ h1, All2.imp h r⟩
  | [], _ :: _, h => h.elim
  | _ :: _, [], h => h.elim
theorem All2.at {α β : Type} {R : α → β → Prop} : ∀ {xs : List α} {ys : List β}, All2 R xs ys → ∀ i (h1 : i < xs.length) (h2 : i < ys.length), R xs[i] ys[i]
  | _ :: _, _ :: _, ⟨h, _⟩, 0, _, _ => h
  | _ :: _, _ :: _, ⟨_, r⟩, i + 1, h1, h2 => All2.at r i (by simpa using h1) (by simpa using h2)
  | [], _ :: _, h, _, _, _ => h.elim
  | _ :: _, [], h, _, _, _ => h.elim
theorem All2.mem {α β : Type} {R : α → β → Prop} : ∀ {xs : List α} {ys : List β}, All2 R xs ys → ∀ x ∈ xs, ∃ y ∈ ys, R x y
  | _ :: _, y :: _, ⟨h, r⟩, x, hx => by
    rcases List.mem_cons.1 hx with rfl | hx
    · exact ⟨y, List.mem_cons_self .., h⟩
    · obtain ⟨z, hz, h2⟩ := All2.mem r x hx
      exact ⟨z, List.mem_cons_of_mem _ hz, h2⟩
  | [], [], _, x, hx => by simp at hx
  | [], _ :: _, h, _, _ => h.elim
  | _ :: _, [], h, _, _ => h.elim
theorem All2.put {α β : Type} {R : α → β → Prop} {f : α → Nat} {g : β → Nat} (hf : ∀ x y, R x y → f x = g y) {x : α} {y : β} (hxy : R x y) : ∀ {xs : List α} {ys : List β}, All2 R xs ys → All2 R (Pk.put f x xs) (Pk.put g y ys)
  | [], [], _ => ⟨hxy, trivial⟩
  | a :: xs, b :: ys, ⟨h, r⟩ => by
    unfold Pk.put
    rw [hf a b h, hf x y hxy]
    by_cases hc : g b ≤ g y
    · rw [if_pos hc, if_pos hc]; exact ⟨h, All2.put hf hxy r⟩
    · rw [if_neg hc, if_neg hc]; exact ⟨hxy, h, r⟩
  | [], _ :: _, h => h.elim
  | _ :: _, [], h => h.elim
theorem All2.up {α β : Type} {R : α → β → Prop} {f : α → Nat} {g : β → Nat} (hf : ∀ x y, R x y → f x = g y) : ∀ {xs : List α} {ys : List β}, All2 R xs ys → Up g ys → Up f xs
  | [], [], _, _ => List.Pairwise.nil
  | x :: xs, y :: ys, ⟨h, r⟩, hu => by
    obtain ⟨h1, h2⟩ := List.pairwise_cons.1 hu
    refine List.pairwise_cons.2 ⟨fun z hz => ?_, All2.up hf r h2⟩
    obtain ⟨u, hu, h3⟩ := All2.mem r z hz
    rw [hf _ _ h, hf _ _ h3]; exact h1 u hu
  | [], _ :: _, h, _ => h.elim
  | _ :: _, [], h, _ => h.elim
/-- an item as a tree: its weight, and its counts, in a block from B on -/
structure Fit (B : Nat) (S : List Nat) (W : Nat → Nat) (w : World) (x : Nat × Value) (t : Tr) : Prop where
  wt : x.1 = t.wt W
  sl : ∃ g, x.2 = .slice (some ⟨g, 0, none⟩) S.length S.length ∧ B ≤ g ∧ Rd w (some ⟨g, 0, none⟩) (zs (up (cnts S t)))
theorem Fit.below {B : Nat} {S : List Nat} {W : Nat → Nat} {w w' : World} {x : Nat × Value} {t : Tr} (h : Fit B S W w x t) (hb : Below w.heap.size w w') : Fit B S W w' x t := by
  obtain ⟨h1, g, h2, h3, h4⟩ := h
  exact ⟨h1, g, h2, h3, h4.below hb⟩
/-- a row of items as trees -/
def ItR (B : Nat) (S : List Nat) (W : Nat → Nat) (w : World) (A : Option Addr) (ts : List Tr) : Prop := ∃ xs, All2 (Fit B S W w) xs ts ∧ Rd w A (iv xs)
theorem ItR.below {B : Nat} {S : List Nat} {W : Nat → Nat} {w w' : World} {A : Option Addr} {ts : List Tr} (h : ItR B S W w A ts) (hb : Below w.heap.size w w') : ItR B S W w' A ts := by
  obtain ⟨xs, h1, h2⟩ := h
  exact ⟨xs, h1.imp fun _ _ h => h.below hb, h2.below hb⟩
theorem ItR.nil (B : Nat) (S : List Nat) (W : Nat → Nat) (w : World) (A : Option Addr) : ItR B S W w A [] := ⟨[], trivial, Rd.nil _ _⟩
/-- the item at a place -/
theorem ItR.at {B : Nat} {S : List Nat} {W : Nat → Nat} {w : World} {g : Nat} {ts : List Tr} (h : ItR B S W w (some ⟨g, 0, none⟩) ts) (k : Nat) (hk : k < ts.length) : ∃ x, Fit B S W w x ts[k] ∧ w.cell? ⟨g, k * 2, none⟩ = some (.int .u64 (x.1 : Int)) ∧ w.cell? ⟨g, k * 2 + 1, none⟩ = some x.2 := by
  obtain ⟨xs, h1, h2⟩ := h
  have hk2 : k < xs.length := by rw [h1.length]; exact hk
  obtain ⟨a, e, _, c0⟩ := h2 (k * 2) (by rw [iv_length]; omega)
  obtain ⟨a', e', _, c1⟩ := h2 (k * 2 + 1) (by rw [iv_length]; omega)
  cases e; cases e'
  rw [(iv_at xs k hk2).1, Addr.add_lit, Nat.zero_add] at c0
  rw [(iv_at xs k hk2).2, Addr.add_lit, Nat.zero_add] at c1
  exact ⟨xs[k], h1.at k hk2 hk, c0, c1⟩
theorem fit_sl {B : Nat} {S : List Nat} {W : Nat → Nat} {w : World} {xs : List (Nat × Value)} {ts : List Tr} (h : All2 (Fit B S W w) xs ts) : Sl xs := fun x hx => by
  obtain ⟨t, _, _, g, h2, _⟩ := h.mem x hx
  rw [h2]; rfl
/-- what put answers -/
def PuP (B : Nat) (S : List Nat) (W : Nat → Nat) (w : World) (n : Nat) (ts : List Tr) (e : Ending) (w' : World) : Prop := ∃ (g cap : Nat), e = .returned (.slice (some ⟨g, 0, none⟩) n cap) ∧ n ≤ cap ∧ ItR B S W w' (some ⟨g, 0, none⟩) ts ∧ w.heap.size ≤ g ∧ Below w.heap.size w w'
theorem put_tr {B : Nat} {S : List Nat} {W : Nat → Nat} {w : World} {g n c : Nat} {ts : List Tr} {x : Nat × Value} {t : Tr} (hn : n = ts.length) (hl : n ≤ 1000000) (hc : n ≤ c) (hu : Up (Tr.wt W) ts) (hr : ItR B S W w (some ⟨g, 0, none⟩) ts) (hg : g < w.heap.size) (hx : Fit B S W w x t) :
    Calls Try.prog 22 #[.slice (some ⟨g, 0, none⟩) n c, .agg #[.int .u64 (x.1 : Int), x.2]] w (PuP B S W w (n + 1) (put (Tr.wt W) t ts)) := by
  obtain ⟨xs, h1, h2⟩ := hr
  have hf : ∀ x t, Fit B S W w x t → x.1 = t.wt W := fun _ _ h => h.wt
  refine (rput_any xs (h1.up hf hu) (fit_sl h1) x.1 x.2 (by obtain ⟨_, g, h, _⟩ := hx; rw [h]; rfl) g n c w (by rw [hn, h1.length]) hl hc h2 hg).mono ?_
  rintro e w' ⟨g', cap, rfl, hc', hr', hg', hb⟩
  rw [put_length] at hc' ⊢
  rw [h1.length, ← hn] at hc' ⊢
  exact ⟨g', cap, rfl, hc', ⟨_, (h1.put hf hx).imp fun _ _ h => h.below hb, hr'⟩, hg', hb⟩
theorem put_tr0 {B : Nat} {S : List Nat} {W : Nat → Nat} {w : World} {x : Nat × Value} {t : Tr} (hx : Fit B S W w x t) :
    Calls Try.prog 22 #[.slice none 0 0, .agg #[.int .u64 (x.1 : Int), x.2]] w (PuP B S W w 1 (put (Tr.wt W) t [])) := by
  have hf : ∀ x t, Fit B S W w x t → x.1 = t.wt W := fun _ _ h => h.wt
  refine (rputN_any x.1 x.2 (by obtain ⟨_, g, h, _⟩ := hx; rw [h]; rfl) w).mono ?_
  rintro e w' ⟨g', cap, rfl, hc', hr', hg', hb⟩
  have h1 : All2 (Fit B S W w) [] [] := trivial
  exact ⟨g', cap, rfl, hc', ⟨_, (h1.put hf hx).imp fun _ _ h => h.below hb, hr'⟩, hg', hb⟩
theorem both_tr {B : Nat} {S : List Nat} {W : Nat → Nat} {w : World} {x y : Nat × Value} {t u : Tr} (hx : Fit B S W w x t) (hy : Fit B S W w y u) (hS : S.length ≤ 1000000) (hB : B ≤ w.heap.size) (hw : (Tr.nd t u).wt W < 18446744073709551616) (hz : (Tr.nd t u).sz ≤ 1000000000) :
    Calls Try.prog 23 #[.agg #[.int .u64 (x.1 : Int), x.2], .agg #[.int .u64 (y.1 : Int), y.2]] w fun e w' => ∃ z : Nat × Value, e = .returned (.agg #[.int .u64 (z.1 : Int), z.2]) ∧ Fit B S W w' z (.nd t u) ∧ Below w.heap.size w w' := by
  obtain ⟨h1, g, h2, h3, h4⟩ := hx
  obtain ⟨k1, q, k2, k3, k4⟩ := hy
  have e : (Tr.nd t u).wt W = x.1 + y.1 := by rw [h1, k1]; rfl
  rw [h2, k2]
  refine (rboth_any (cnts S t) (cnts S u) (some ⟨g, 0, none⟩) (some ⟨q, 0, none⟩) x.1 y.1 S.length S.length S.length w (cnts_length _ _) (cnts_length _ _) hS h4 k4 (by rw [← e]; exact hw) (fun k => by
    have := cnts_sz S t k; have := cnts_sz S u k
    have : (Tr.nd t u).sz = t.sz + u.sz := rfl
    omega)).mono ?_
  rintro e w' ⟨r, rfl, hr, hg, hb⟩
  exact ⟨(x.1 + y.1, .slice (some ⟨r, 0, none⟩) S.length S.length), rfl, ⟨by rw [e], r, rfl, by omega, by rw [cnts_nd]; exact hr⟩, hb⟩
end Go.Proofs.Ytbegngilbngnoaa.Pk

/- Ahead of the walk of put: the model, and what a loop over an iterator keeps. -/
import Derived.Test.YthkgdjclgphodaaLsRound
namespace Go.Proofs.Ythkgdjclgphodaa.Ls
open Go.RowKit Rw Nm

/-- what Put answers, and the keys behind it -/
def pe (K : Keys) (x : List Nat) : Int := if kat K (wn K 1) = [] then 3 else if x ≠ [] ∧ lexL x (kat K (wn K 1)) = true then 12 else 0
def pk (K : Keys) (x : List Nat) : Keys := if pe K x = 0 then K.set (wn K 1) x else K

theorem PutS_ok {K : Keys} {k : Nat} {s : Nat × List Nat} (h : s.1 < k ∧ s.2.length = k ∧ ∀ n, n < k → s.2.getD n 0 < k) {n : Nat} (hn : n < k) :
    (putS K s n).1 < k ∧ (putS K s n).2.length = k ∧ ∀ j, j < k → (putS K s n).2.getD j 0 < k := by
  obtain ⟨h1, h2, h3⟩ := h
  unfold putS
  split
  · refine ⟨h3 n hn, by simpa using h2, fun j hj => ?_⟩
    by_cases e : n = j
    · subst e; rw [getD_set_self _ (by omega)]; exact h1
    · rw [getD_set_other _ e]; exact h3 j hj
  · exact ⟨h1, h2, h3⟩

theorem row_cells {w : World} {g : Nat} {row : Option Nat} (hr : ∀ r, row = some r → ∃ o : Obj, w.heap[r]? = some o ∧ o.isCells = false) {i : Nat} {v : Value} (hc : w.cell? ⟨g, i, none⟩ = some v) : row ≠ some g := fun e => by
  obtain ⟨o, ho, hn⟩ := hr g e
  unfold World.cell? at hc
  rw [show (⟨g, i, none⟩ : Addr).block = g from rfl, ho] at hc
  cases o <;> simp [Obj.isCells] at hn hc
theorem grown_bar {w w' : World} {row : Option Nat} (hg : w.grownBy w' row) : Bar w w' (fun k => row = some k) := ⟨hg.os, hg.tape, hg.output, hg.size, fun k hk hp => hg.block k hk (fun e => hp e.symm)⟩
theorem Bx.kept {w w' : World} {row : Option Nat} {g : Nat} {cs : List Value} (h : Bx w g cs) (h1 : 0 < cs.length) (hg : w.grownBy w' row) (hr : ∀ r, row = some r → ∃ o : Obj, w.heap[r]? = some o ∧ o.isCells = false) : Bx w' g cs :=
  h.bar (grown_bar hg) (row_cells hr (h.cell 0 h1))
theorem own_kept {w w' : World} {row : Option Nat} {B : Nat} {e : TypeId} {s : Nat} {v : Value} {n : Nat} {xs : List Value} (h : w.ownsRow B e s v n xs) (hg : w.grownBy w' row) (hr : ∀ r, row = some r → ∃ o : Obj, w.heap[r]? = some o ∧ o.isCells = false) : w'.ownsRow B e s v n xs := by
  refine own_bar h (grown_bar hg) (fun g hgb hrow => ?_)
  rcases h.2 with ⟨rfl, _⟩ | ⟨g', cap, cur, hv, _, hh, _⟩
  · cases hgb
  · rw [hv] at hgb
    cases hgb
    obtain ⟨o, ho, hn⟩ := hr _ hrow
    rw [hh] at ho
    cases ho
    simp [Obj.isCells] at hn
theorem Rd.kept {w w' : World} {row : Option Nat} {A : Option Addr} {xs : List Value} (h : Rd w A xs) (hg : w.grownBy w' row) (hr : ∀ r, row = some r → ∃ o : Obj, w.heap[r]? = some o ∧ o.isCells = false) : Rd w' A xs := fun i hi => by
  obtain ⟨a, e, hl, hc⟩ := h i hi
  exact ⟨a, e, Nat.lt_of_lt_of_le hl hg.size, cell_kept hc hg hr⟩
theorem Wk.kept {w w' : World} {row : Option Nat} {B g gk gt ck ct : Nat} {K : Keys} {T : List Int} (h : Wk w B g gk gt ck ct K T) (hg : w.grownBy w' row) (hr : ∀ r, row = some r → ∃ o : Obj, w.heap[r]? = some o ∧ o.isCells = false) : Wk w' B g gk gt ck ct K T := by
  obtain ⟨hb, ⟨V, hk, he⟩, ht, n1, n2, n3, ge⟩ := h
  refine ⟨hb.kept (by simp) hg hr, ⟨V, own_kept hk hg hr, he.1, fun i hi => ?_⟩, own_kept ht hg hr, n1, n2, n3, ge⟩
  obtain ⟨q, c, e, hrd, hl, ho⟩ := he.2 i hi
  exact ⟨q, c, e, Rd.kept hrd hg hr, hl, ho⟩
theorem Wk.bar {w w' : World} {p : Nat → Prop} {B g gk gt ck ct : Nat} {K : Keys} {T : List Int} (h : Wk w B g gk gt ck ct K T) (hb : Bar w w' p) (hp : ∀ k, k < w.heap.size → B ≤ k → ¬ p k) : Wk w' B g gk gt ck ct K T := by
  obtain ⟨hbx, ⟨V, hk, he⟩, ht, n1, n2, n3, ge⟩ := h
  refine ⟨hbx.bar hb (hp _ hbx.lt ge), ⟨V, own_bar hk hb (fun k e => hp k (hk.lt k e).2 (hk.lt k e).1), he.1, fun i hi => ?_⟩, own_bar ht hb (fun k e => hp k (ht.lt k e).2 (ht.lt k e).1), n1, n2, n3, ge⟩
  obtain ⟨q, c, e, hrd, hl, ho⟩ := he.2 i hi
  refine ⟨q, c, e, fun j hj => ?_, hl, ho⟩
  obtain ⟨a, e2, hlt, hc⟩ := hrd j hj
  exact ⟨a, e2, Nat.lt_of_lt_of_le hlt hb.size, by rw [hb.cell (by rw [add_block]; exact hlt) (by rw [add_block]; exact hp _ hlt (ho a e2).1)]; exact hc⟩
theorem Wk.below {w w' : World} {B g gk gt ck ct : Nat} {K : Keys} {T : List Int} (h : Wk w B g gk gt ck ct K T) (hb : Below w.heap.size w w') : Wk w' B g gk gt ck ct K T := h.bar (Bar.of_below hb (fun _ => False)) (fun _ _ _ h => h)
theorem Wk.recs {w : World} {B g gk gt ck ct : Nat} {K : Keys} {T : List Int} (h : Wk w B g gk gt ck ct K T) : RecsAt w (some ⟨gk, 0, none⟩) K := fun i hi => by
  obtain ⟨V, hk, he⟩ := h.keys
  obtain ⟨q, c, e, hrd, hl, _⟩ := he.2 i hi
  refine ⟨⟨gk, 0, none⟩, q, c, rfl, (hk.lt gk rfl).2, ?_, hrd, by omega⟩
  have hv : i < V.length := by rw [he.1]; exact hi
  have := hk.cells (g := gk) rfl i (V.getD i (.bool false)) (by simp [List.getD_eq_getElem?_getD, hv])
  rw [e] at this
  simpa [Addr.add_lit] using this
theorem Wk.node {w : World} {B g gk gt ck ct : Nat} {K : Keys} {T : List Nat} (h : Wk w B g gk gt ck ct K (up T)) {i : Nat} (hi : i < T.length) : w.cell? ⟨gt, i, none⟩ = some (.int .i64 (T.getD i 0 : Nat)) ∧ w.frozen? ⟨gt, i, none⟩ = false := by
  refine ⟨?_, h.tree.frozenAt i⟩
  have := h.tree.cells (g := gt) rfl i (.int .i64 (T.getD i 0 : Nat)) (by
    have e : (zs (up T))[i]? = some ((zs (up T)).getD i (.bool false)) := by rw [List.getD_eq_getElem?_getD, List.getElem?_eq_getElem (by rw [zs_length, up_length]; exact hi)]; rfl
    rw [e, zs_getD _ _ (by rw [up_length]; exact hi), up_getD _ _ hi])
  simpa [Addr.add_lit] using this
theorem Wk.setNode {w : World} {B g gk gt ck ct : Nat} {K : Keys} {T : List Nat} (h : Wk w B g gk gt ck ct K (up T)) (i v : Nat) : Wk (w.setCell ⟨gt, i, none⟩ (.int .i64 (v : Nat))) B g gk gt ck ct K (up (T.set i v)) := by
  obtain ⟨hbx, ⟨V, hk, he⟩, ht, n1, n2, n3, ge⟩ := h
  have hb : Bar w (w.setCell ⟨gt, i, none⟩ (.int .i64 (v : Nat))) (fun k => k = gt) := (Bar.refl w (fun k => k = gt)).setCell rfl _
  refine ⟨?_, ⟨V, own_bar hk hb (fun k e => by simp [Value.ownBlock] at e; omega), he.bar hb (fun k h => .inr (.inr h))⟩, ?_, n1, n2, n3, ge⟩
  · have := hbx.bar hb n2
    simpa [up_length] using this
  · have := (ht.stored i (.int .i64 (v : Nat))).1
    rw [zs_set, up_set] at this
    simpa [up_length] using this
theorem Wk.other {w : World} {B g gk gt ck ct : Nat} {K : Keys} {T : List Int} (h : Wk w B g gk gt ck ct K T) {a : Addr} (n1 : a.block ≠ g) (n2 : a.block ≠ gk) (n3 : a.block ≠ gt)
    (hn : ∀ i, i < K.length → ∀ q c j, w.cell? (⟨gk, i, none⟩ : Addr) = some (.slice (some q) j c) → 0 < j → q.block ≠ a.block) (v : Value) : Wk (w.setCell a v) B g gk gt ck ct K T := by
  obtain ⟨hbx, ⟨V, hk, he⟩, ht, m1, m2, m3, ge⟩ := h
  have hb : Bar w (w.setCell a v) (fun k => k = a.block) := (Bar.refl w (fun k => k = a.block)).setCell rfl _
  refine ⟨hbx.bar hb (fun e => n1 e.symm), ⟨V, own_bar hk hb (fun k e => by simp [Value.ownBlock] at e; omega), he.1, fun i hi => ?_⟩, own_bar ht hb (fun k e => by simp [Value.ownBlock] at e; omega), m1, m2, m3, ge⟩
  obtain ⟨q, c, e, hrd, hl, ho⟩ := he.2 i hi
  refine ⟨q, c, e, fun t htl => ?_, hl, ho⟩
  obtain ⟨a', e', hlt, hc⟩ := hrd t htl
  have hv : i < V.length := by rw [he.1]; exact hi
  have := hk.cells (g := gk) rfl i (V.getD i (.bool false)) (by simp [List.getD_eq_getElem?_getD, hv])
  rw [e, e'] at this
  have hne := hn i hi a' c (K.getD i []).length (by simpa [Addr.add_lit] using this) (by rw [nums_length] at htl; omega)
  refine ⟨a', e', by simpa using hlt, ?_⟩
  rw [World.cell?_setCell_other w _ _ v (fun h => hne (by rw [← add_block a' t, ← h]))]
  exact hc
/-- a tree at work, and a block that none of it lies in -/
structure WkO (w : World) (B g gk gt ck ct bl : Nat) (K : Keys) (T : List Nat) : Prop where
  wk : Wk w B g gk gt ck ct K (up T)
  o1 : bl ≠ g
  o2 : bl ≠ gk
  o3 : bl ≠ gt
  away : ∀ i, i < K.length → ∀ q c j, w.cell? (⟨gk, i, none⟩ : Addr) = some (.slice (some q) j c) → 0 < j → q.block ≠ bl
theorem WkO.bar' {w w' : World} {p : Nat → Prop} {B g gk gt ck ct bl : Nat} {K : Keys} {T T' : List Nat} (h : WkO w B g gk gt ck ct bl K T) (hw : Wk w' B g gk gt ck ct K (up T')) (hb : Bar w w' p) (hp : 0 < K.length → ¬ p gk) : WkO w' B g gk gt ck ct bl K T' := by
  refine ⟨hw, h.o1, h.o2, h.o3, fun i hi q c j hc hj => ?_⟩
  obtain ⟨V, hk, _⟩ := h.wk.keys
  rw [hb.cell (a := ⟨gk, i, none⟩) (hk.lt gk rfl).2 (hp (by omega))] at hc
  exact h.away i hi q c j hc hj
theorem WkO.kept {w w' : World} {row : Option Nat} {B g gk gt ck ct bl : Nat} {K : Keys} {T : List Nat} (h : WkO w B g gk gt ck ct bl K T) (hg : w.grownBy w' row) (hr : ∀ r, row = some r → ∃ o : Obj, w.heap[r]? = some o ∧ o.isCells = false) : WkO w' B g gk gt ck ct bl K T :=
  h.bar' (h.wk.kept hg hr) (grown_bar hg) (fun h0 => by obtain ⟨a, q, c, e, _, hc, _⟩ := h.wk.recs 0 h0; cases e; exact row_cells hr (by simpa [Addr.add_lit] using hc))
theorem WkO.below {w w' : World} {B g gk gt ck ct bl : Nat} {K : Keys} {T : List Nat} (h : WkO w B g gk gt ck ct bl K T) (hb : Below w.heap.size w w') : WkO w' B g gk gt ck ct bl K T :=
  h.bar' (h.wk.below hb) (Bar.of_below hb (fun _ => False)) (fun _ h => h)
theorem WkO.setNode {w : World} {B g gk gt ck ct bl : Nat} {K : Keys} {T : List Nat} (h : WkO w B g gk gt ck ct bl K T) (i v : Nat) : WkO (w.setCell ⟨gt, i, none⟩ (.int .i64 (v : Nat))) B g gk gt ck ct bl K (T.set i v) :=
  h.bar' (h.wk.setNode i v) ((Bar.refl w (fun k => k = gt)).setCell rfl _) (fun _ => h.wk.n3)
theorem WkO.setLeaf {w : World} {B g gk gt ck ct bl : Nat} {K : Keys} {T : List Nat} (h : WkO w B g gk gt ck ct bl K T) (v : Value) : WkO (w.setCell ⟨bl, 0, none⟩ v) B g gk gt ck ct bl K T :=
  h.bar' (h.wk.other h.o1 h.o2 h.o3 h.away v) ((Bar.refl w (fun k => k = bl)).setCell rfl _) (fun _ e => h.o2 e.symm)
theorem WkO.setKey {w : World} {B g gk gt ck ct bl c' : Nat} {K : Keys} {T : List Nat} {x : List Nat} {q' : Option Addr} (h : WkO w B g gk gt ck ct bl K T) (hr : Rd w q' (nums x)) (hl : x.length ≤ 17592186044416)
    (hn : ∀ a, q' = some a → B ≤ a.block ∧ a.block ≠ g ∧ a.block ≠ gk ∧ a.block ≠ gt ∧ a.block ≠ bl) (i : Nat) (hi : i < K.length) : WkO (w.setCell ⟨gk, i, none⟩ (.slice q' x.length c')) B g gk gt ck ct bl (K.set i x) T := by
  obtain ⟨⟨hbx, ⟨V, hk, he⟩, ht, n1, n2, n3, ge⟩, o1, o2, o3, aw⟩ := h
  have hb : Bar w (w.setCell ⟨gk, i, none⟩ (.slice q' x.length c')) (fun k => k = gk) := (Bar.refl w (fun k => k = gk)).setCell rfl _
  have hst := (hk.stored i (.slice q' x.length c')).1
  refine ⟨⟨?_, ⟨V.set i (.slice q' x.length c'), ?_, ?_⟩, own_bar ht hb (fun k e => by simp [Value.ownBlock] at e; omega), n1, n2, n3, ge⟩, o1, o2, o3, ?_⟩
  · rw [List.length_set]; exact hbx.bar hb n1
  · rw [List.length_set]; exact hst
  · exact (he.bar hb (fun k h => .inr (.inl h))).set ⟨q', c', rfl, Rd.bar hr hb (fun a e => (hn a e).2.2.1), hl, fun a e => ⟨(hn a e).1, fun h => by have := hn a e; omega⟩⟩ i
  · intro j hj q c m hc hm
    rw [List.length_set] at hj
    by_cases e : j = i
    · subst e
      obtain ⟨a, q0, c0, ea, _, hc0, _⟩ := (Wk.recs ⟨hbx, ⟨V, hk, he⟩, ht, n1, n2, n3, ge⟩) j hi
      cases ea
      rw [World.cell?_setCell_same' _ _ _ (by rw [Addr.add_lit, Nat.zero_add] at hc0; rw [hc0]; rfl)] at hc
      cases hc
      exact (hn q rfl).2.2.2.2
    · rw [World.cell?_setCell_other w _ _ _ (fun h => by injection h with _ h2 _; exact e (by first | exact h2 | exact h2.symm))] at hc
      exact aw j hj q c m hc hm
/-- what has been laid since lies apart -/
theorem Wk.apart {w : World} {B g gk gt ck ct bl : Nat} {K : Keys} {T : List Nat} (h : Wk w B g gk gt ck ct K (up T)) {w' : World} (hb : Below w.heap.size w w') (hl : w.heap.size ≤ bl) : WkO w' B g gk gt ck ct bl K T := by
  obtain ⟨V, hk, he⟩ := h.keys
  have h1 := h.box.lt; have h2 := (hk.lt gk rfl).2; have h3 := (h.tree.lt gt rfl).2
  refine ⟨h.below hb, by omega, by omega, by omega, fun i hi q c j hc hj => ?_⟩
  obtain ⟨a, q', c', e, _, hc', hrd, _⟩ := h.recs i hi
  cases e
  rw [hb.cell (p := ⟨gk, i, none⟩) h2] at hc
  rw [Addr.add_lit] at hc'
  simp only [Nat.zero_add] at hc'
  rw [hc'] at hc
  cases hc
  obtain ⟨a, e, hlt⟩ := hrd.form (by rw [nums_length]; exact hj)
  cases e
  omega
end Go.Proofs.Ythkgdjclgphodaa.Ls

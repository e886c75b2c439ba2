/- A disk at work: rows of the call's own; what a step may touch. No function of the program in sight. -/
import Derived.Test.YtgpheofdeflhdaaDkWalkG
import Derived.Deep.RegionLaw
import Derived.Deep.AppendLies
import Derived.Deep.Onto
import Derived.Laws.MakeOwn
import Derived.Test.YtgpheofdeflhdaaRow
namespace Go.Proofs.Ytgpheofdeflhdaa.Dk
open Go.RowKit Go.Op

/-- nothing but some blocks may have changed -/
structure Bar (w w' : World) (p : Nat → Prop) : Prop where
  os : w'.os = w.os
  tape : w'.tape = w.tape
  output : w'.output = w.output
  size : w.heap.size ≤ w'.heap.size
  block : ∀ k, k < w.heap.size → ¬ p k → w'.heap[k]? = w.heap[k]?
theorem Bar.refl (w : World) (p : Nat → Prop) : Bar w w p := ⟨rfl, rfl, rfl, Nat.le_refl _, fun _ _ _ => rfl⟩
theorem Bar.trans {a b c : World} {p : Nat → Prop} (h : Bar a b p) (k : Bar b c p) : Bar a c p :=
  ⟨k.os.trans h.os, k.tape.trans h.tape, k.output.trans h.output, Nat.le_trans h.size k.size, fun i hi hp => (k.block i (Nat.lt_of_lt_of_le hi h.size) hp).trans (h.block i hi hp)⟩
theorem Bar.mono {a b : World} {p q : Nat → Prop} (h : Bar a b p) (hpq : ∀ k, k < a.heap.size → p k → q k) : Bar a b q :=
  ⟨h.os, h.tape, h.output, h.size, fun i hi hq => h.block i hi (fun hp => hq (hpq i hi hp))⟩
theorem Bar.below {w w' : World} {p : Nat → Prop} {B : Nat} (h : Bar w w' p) (hp : ∀ k, k < w.heap.size → p k → B ≤ k) (hB : B ≤ w.heap.size) : Below B w w' :=
  ⟨h.os, h.tape, h.output, h.size, fun k hk => h.block k (Nat.lt_of_lt_of_le hk hB) (fun hq => by have := hp k (Nat.lt_of_lt_of_le hk hB) hq; omega)⟩
theorem Bar.of_below {w w' : World} (h : Below w.heap.size w w') (p : Nat → Prop) : Bar w w' p := ⟨h.os, h.tape, h.output, h.size, fun k hk _ => h.block k hk⟩
theorem Bar.setCell {a w : World} {p : Nat → Prop} (h : Bar a w p) {q : Addr} (hq : p q.block) (u : Value) : Bar a (w.setCell q u) p :=
  ⟨h.os, h.tape, h.output, Nat.le_trans h.size (by simp), fun k hk hp => by rw [Below.heap_setCell w q u k (fun e => hp (by rw [e]; exact hq))]; exact h.block k hk hp⟩
theorem Bar.cell {w w' : World} {p : Nat → Prop} (h : Bar w w' p) {a : Addr} (ha : a.block < w.heap.size) (hp : ¬ p a.block) : w'.cell? a = w.cell? a := World.cell?_of_block (h.block _ ha hp)
theorem Bar.frozen {w w' : World} {p : Nat → Prop} (h : Bar w w' p) {a : Addr} (ha : a.block < w.heap.size) (hp : ¬ p a.block) : w'.frozen? a = w.frozen? a := World.frozen?_of_block (h.block _ ha hp)
theorem Boxed.bar {w w' : World} {p : Nat → Prop} {g : Nat} {cs : List Value} (h : Boxed w g cs) (hb : Bar w w' p) (hp : ¬ p g) : Boxed w' g cs :=
  ⟨Nat.lt_of_lt_of_le h.lt hb.size, fun i hi => by rw [hb.cell h.lt hp]; exact h.cell i hi, fun i hi => by rw [hb.frozen h.lt hp]; exact h.free i hi⟩
theorem own_bar {w w' : World} {p : Nat → Prop} {B : Nat} {e : TypeId} {s : Nat} {v : Value} {n : Nat} {xs : List Value} (h : w.ownsRow B e s v n xs) (hb : Bar w w' p) (hp : ∀ g, v.ownBlock = some g → ¬ p g) : w'.ownsRow B e s v n xs := by
  have hlt := h.lt
  refine ⟨h.1, ?_⟩
  rcases h.2 with h2 | ⟨g, cap, cur, hv, hg, hh, r⟩
  · exact .inl h2
  · refine .inr ⟨g, cap, cur, hv, hg, ?_, r⟩
    rw [hb.block g (hlt g (by rw [hv]; rfl)).2 (hp g (by rw [hv]; rfl))]; exact hh

/-- a store into a variable -/
theorem Boxed.set {w : World} {g : Nat} {cs : List Value} (h : Boxed w g cs) {i : Nat} (hi : i < cs.length) (v : Value) : Boxed (w.setCell ⟨g, i, none⟩ v) g (cs.set i v) := by
  obtain ⟨lt, cell, free⟩ := h
  refine ⟨by simpa using lt, fun j hj => ?_, fun j hj => ?_⟩
  · rw [List.length_set] at hj
    by_cases e : j = i
    · subst e
      have hc := cell j hj
      rw [World.cell?_setCell_same' _ _ _ (by rw [hc]; rfl)]
      simp [List.getD_eq_getElem?_getD, hj]
    · rw [World.cell?_setCell_other w _ _ v (fun h => by injection h with _ h2 _; exact e (by first | exact h2 | exact h2.symm)), cell j hj]
      simp [List.getD_eq_getElem?_getD, List.getElem?_set_ne (fun h => e h.symm)]
  · rw [List.length_set] at hj
    rw [World.frozen?_setCell]; exact free j hj

/-- an element more, where there is room: at a step of a region that draws its order -/
theorem step_push {P : Program} {ops : Array Oper} {o : Oper} {a : Act} {K : Act → World → Prop} {Q : Exit → Act → World → Prop} {E : Prop} (W : World) (hgd : o.guard = none) (s x : Operand) (t : TypeId)
    (ho : o.op = .call { callee := .builtin .append, args := #[s, x], argTypes := #[t, t] })
    (base : Nat) (e : TypeId) (i : TypeInfo) (size : Nat) (h1 : P.underlying t = some (.slice e)) (h2 : P.info? e = some i) (h4 : i.size = size)
    (g n cap : Nat) (xs : List Value) (hs : a.eval s = .slice (some ⟨g, 0, none⟩) n cap) (hown : W.ownsRow base e size (.slice (some ⟨g, 0, none⟩) n cap) n xs)
    (news : List Value) (hx : a.eval x = .slice (some ⟨W.heap.size, 0, none⟩) 1 1) (hl : news.length = size) (h1c : news.all (fun u => u.oneCell') = true) (b1 : n + 1 ≤ cap)
    (hK : ∀ w', w'.ownsRow base e size (.slice (some ⟨g, 0, none⟩) (n + 1) cap) (n + 1) (xs ++ news) → Bar W w' (fun k => k = g) → K (a.put o.dst (.slice (some ⟨g, 0, none⟩) (n + 1) cap)) w') :
    if Region.wanted o (yielded ops a.tmps) = true then Oper.wp P o a (W.alloc (.cells news.toArray e)) K Q else E := by
  have hw : Region.wanted o (yielded ops a.tmps) = true := by simp [Region.wanted, hgd]
  rw [if_pos hw]
  have hown2 := Rw.own_below hown ((Below.refl _ W).alloc (Nat.le_refl _) (.cells news.toArray e))
  have hc : ∀ j u, news[j]? = some u → (W.alloc (.cells news.toArray e)).cell? ((⟨W.heap.size, 0, none⟩ : Addr).add j) = some u := by
    intro j u hj
    exact World.news_of_block (cs := news.toArray) (heap_alloc_new W _) j u (by simpa using hj)
  obtain ⟨w', hrun, r1, r2⟩ := run_append_fits (P := P) (W.alloc (.cells news.toArray e)) base t o.type e i size h1 h2 h4 g n cap xs hown2 ⟨W.heap.size, 0, none⟩ 1 1 news (by omega) hc (fun u hu => List.all_eq_true.1 h1c u hu) b1
  unfold Oper.wp
  simp [execOp, ho, resolve, invoke, builtin, hs, hx, hrun, Result.andThen]
  refine hK w' r1 ⟨r2.os, r2.tape, r2.output, Nat.le_trans (by simp) r2.size, fun k hk hp => ?_⟩
  rw [r2.block k (by simp; omega) (by simpa using hp), Below.heap_alloc W _ k hk]

def eRow (E : List Ext) : List Value := E.flatMap fun x => [.string x.1, .string x.2]
def wRow (L : List Wr) : List Value := L.flatMap fun x => [.string x.1, .int .i64 x.2.1, .string x.2.2]
theorem eRow_app (E F : List Ext) : eRow (E ++ F) = eRow E ++ eRow F := by simp [eRow]
theorem wRow_app (E F : List Wr) : wRow (E ++ F) = wRow E ++ wRow F := by simp [wRow]
theorem eRow_length (E : List Ext) : (eRow E).length = E.length * 2 := by
  induction E with
  | nil => rfl
  | cons x E ih =>
    have : eRow (x :: E) = [.string x.1, .string x.2] ++ eRow E := rfl
    rw [this, List.length_append, ih, List.length_cons]; simp; omega
theorem wRow_length (E : List Wr) : (wRow E).length = E.length * 3 := by
  induction E with
  | nil => rfl
  | cons x E ih =>
    have : wRow (x :: E) = [.string x.1, .int .i64 x.2.1, .string x.2.2] ++ wRow E := rfl
    rw [this, List.length_append, ih, List.length_cons]; simp; omega
theorem eRow_get : ∀ (E : List Ext) (i : Nat), i < E.length → (eRow E)[i * 2]? = some (.string (E.getD i default).1) ∧ (eRow E)[i * 2 + 1]? = some (.string (E.getD i default).2)
  | [], i, h => absurd h (by simp)
  | x :: E, 0, _ => ⟨rfl, rfl⟩
  | x :: E, i + 1, h => by
    have e : eRow (x :: E) = .string x.1 :: .string x.2 :: eRow E := rfl
    have h2 := eRow_get E i (by simpa using h)
    rw [e, show (i + 1) * 2 = i * 2 + 1 + 1 by omega, show i * 2 + 1 + 1 + 1 = i * 2 + 1 + 1 + 1 from rfl]
    simp only [List.getElem?_cons_succ, List.getD_cons_succ]
    exact h2
theorem wRow_get : ∀ (E : List Wr) (i : Nat), i < E.length → (wRow E)[i * 3]? = some (.string (E.getD i default).1) ∧ (wRow E)[i * 3 + 1]? = some (.int .i64 (E.getD i default).2.1) ∧ (wRow E)[i * 3 + 2]? = some (.string (E.getD i default).2.2)
  | [], i, h => absurd h (by simp)
  | x :: E, 0, _ => ⟨rfl, rfl, rfl⟩
  | x :: E, i + 1, h => by
    have e : wRow (x :: E) = .string x.1 :: .int .i64 x.2.1 :: .string x.2.2 :: wRow E := rfl
    have h2 := wRow_get E i (by simpa using h)
    rw [e, show (i + 1) * 3 = i * 3 + 1 + 1 + 1 by omega, show i * 3 + 1 + 1 + 1 + 1 = i * 3 + 1 + 1 + 1 + 1 from rfl, show i * 3 + 1 + 1 + 1 + 2 = i * 3 + 2 + 1 + 1 + 1 by omega]
    simp only [List.getElem?_cons_succ, List.getD_cons_succ]
    exact h2
/-- lengths that the machine can hold -/
def EOk (E : List Ext) : Prop := ∀ i, i < E.length → (E.getD i default).1.size ≤ 140737488355328 ∧ (E.getD i default).2.size ≤ 140737488355328
def WOk (L : List Wr) : Prop := ∀ i, i < L.length → (L.getD i default).1.size ≤ 140737488355328 ∧ (L.getD i default).2.2.size ≤ 140737488355328
theorem ExtAt.ok {w : World} {p : Option Addr} {E : List Ext} (h : ExtAt w p E) : EOk E := fun i hi => by obtain ⟨_, _, _, _, _, _, a, b⟩ := h i hi; exact ⟨a, b⟩
theorem WrsAt.ok {w : World} {p : Option Addr} {E : List Wr} (h : WrsAt w p E) : WOk E := fun i hi => by obtain ⟨_, _, _, _, _, _, _, a, b⟩ := h i hi; exact ⟨a, b⟩
/-- a row of the call's own, as it is read -/
theorem extAt_own {w : World} {B : Nat} {e : TypeId} {g n c : Nat} {E : List Ext} (h : w.ownsRow B e 2 (.slice (some ⟨g, 0, none⟩) n c) n (eRow E)) (ho : EOk E) : ExtAt w (some ⟨g, 0, none⟩) E := fun i hi => by
  have hg := (h.lt g rfl).2
  have h2 := eRow_get E i hi
  have c1 := h.cells (g := g) rfl (i * 2) _ h2.1
  have c2 := h.cells (g := g) rfl (i * 2 + 1) _ h2.2
  simp only [Addr.add_lit] at c1 c2
  exact ⟨g, 0, rfl, hg, c1, by rw [Nat.add_assoc]; exact c2, (ho i hi).1, (ho i hi).2⟩
theorem wrsAt_own {w : World} {B : Nat} {e : TypeId} {g n c : Nat} {E : List Wr} (h : w.ownsRow B e 3 (.slice (some ⟨g, 0, none⟩) n c) n (wRow E)) (ho : WOk E) : WrsAt w (some ⟨g, 0, none⟩) E := fun i hi => by
  have hg := (h.lt g rfl).2
  have h2 := wRow_get E i hi
  have c1 := h.cells (g := g) rfl (i * 3) _ h2.1
  have c2 := h.cells (g := g) rfl (i * 3 + 1) _ h2.2.1
  have c3 := h.cells (g := g) rfl (i * 3 + 2) _ h2.2.2
  simp only [Addr.add_lit] at c1 c2 c3
  exact ⟨g, 0, rfl, hg, c1, by rw [Nat.add_assoc]; exact c2, by rw [Nat.add_assoc]; exact c3, (ho i hi).1, (ho i hi).2⟩
end Go.Proofs.Ytgpheofdeflhdaa.Dk

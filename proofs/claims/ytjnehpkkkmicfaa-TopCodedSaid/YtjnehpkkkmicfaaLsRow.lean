/- A slice, wherever it lies, behind a row of the call's own; variables in blocks; what a step may touch. No function of the program in sight. -/
import Derived.Test.YtjnehpkkkmicfaaRow
import Derived.Laws.OwnMore
import Derived.Deep.RegionLaw
import Derived.Deep.AppendLies
import Derived.Deep.Onto
import Derived.Laws.MakeOwn
namespace Go.Proofs.Ytjnehpkkkmicfaa.Ls
open Go.RowKit Go.Op Rw

theorem run_append_zero {P : Program} {w : World} (base : Nat) (t ty e : TypeId) (i : TypeInfo) (size : Nat) (ht : P.underlying t = some (.slice e)) (hi : P.info? e = some i)
    (v : Value) (n : Nat) (xs : List Value) (hown : w.ownsRow base e size v n xs) (A : Option Addr) (c : Nat) :
    (Builtin.append_ #[t, t] ty #[v, .slice A 0 c]).run P w = .ok v w := by
  cases A with
  | none =>
    rcases hown.2 with ⟨rfl, rfl⟩ | ⟨g, cap, cur, rfl, _, _, hnc, _⟩
    · simp [Builtin.append_, run_underlying ht, sizeOf, typeInfo, hi, Builtin.lenOf, Builtin.firstCells]
    · simp [Builtin.append_, run_underlying ht, sizeOf, typeInfo, hi, Builtin.lenOf, Builtin.firstCells, hnc, storeCells]
  | some a =>
    have hl : (loadCells a 0).run P w = .ok #[] w := rfl
    rcases hown.2 with ⟨rfl, rfl⟩ | ⟨g, cap, cur, rfl, _, _, hnc, _⟩
    · simp [Builtin.append_, run_underlying ht, sizeOf, typeInfo, hi, Builtin.lenOf, Builtin.firstCells, hl, Result.andThen]
    · simp [Builtin.append_, run_underlying ht, sizeOf, typeInfo, hi, Builtin.lenOf, Builtin.firstCells, hnc, storeCells, hl, Result.andThen]

theorem appendRd {P : Program} {W : World} {ops : Array Oper} {rest : List Oper} {o : Oper} {a : Act} {Q : Exit → Act → World → Prop} (hgd : o.guard = none) (s x : Operand) (t : TypeId)
    (ho : o.op = .call { callee := .builtin .append, args := #[s, x], argTypes := #[t, t] })
    (base : Nat) (e : TypeId) (i : TypeInfo) (z : Value) (bytes : Nat) (ht : P.underlying t = some (.slice e)) (hi : P.info? e = some i) (hz : i.zero = some z)
    (hsize : i.size = 1) (hby : i.bytes = bytes) (hzs : z.cells.size = 1)
    (g0 n cap0 : Nat) (xs : List Value) (hs : a.eval s = .slice (some ⟨g0, 0, none⟩) n cap0) (hown : W.ownsRow base e 1 (.slice (some ⟨g0, 0, none⟩) n cap0) n xs)
    (A : Option Addr) (m c : Nat) (news : List Value) (hx : a.eval x = .slice A m c) (hr : Rd W A news) (hl : news.length = m) (h1 : ∀ u ∈ news, u.oneCell' = true)
    (h63 : n + m ≤ maxLen) (hbytes : (n + m) * bytes ≤ 140737488355328) (hbase : base ≤ W.heap.size)
    (h : ∀ g cap w', w'.ownsRow base e 1 (.slice (some ⟨g, 0, none⟩) (n + m) cap) (n + m) (xs ++ news) → W.grownBy w' (some g0) → (g = g0 ∨ W.heap.size ≤ g) → g < w'.heap.size → Below base W w' → wpList P ops Q rest (a.put o.dst (.slice (some ⟨g, 0, none⟩) (n + m) cap)) w') :
    wpList P ops Q (o :: rest) a W := by
  have hg0 := hown.lt g0 rfl
  by_cases hm : m = 0
  · subst hm
    have hne : news = [] := List.eq_nil_of_length_eq_zero hl
    subst hne
    refine wpList_plain hgd fun K hK => ?_
    have hrun := run_append_zero (P := P) (w := W) base t o.type e i 1 ht hi _ n xs hown A c
    unfold Oper.wp
    simp [execOp, ho, resolve, invoke, builtin, hs, hx, hrun, Result.andThen]
    refine hK _ _ ?_
    have := h g0 cap0 W (by simpa using hown) (World.grownBy.refl W _) (.inl rfl) hg0.2 (Below.refl _ _)
    simpa using this
  · obtain ⟨ad, rfl, hlt⟩ := hr.form (by omega)
    refine wpList_append_lies _ hgd s x t ho base e i z 1 bytes ht hi hz hsize hby hzs (by decide) _ n xs hs hown ad m c news hx (by omega) ?_ h1 (by omega) h63 hbytes hbase W.heap.size rfl ?_
    · intro j u hj
      have hj2 : j < news.length := by
        rcases Nat.lt_or_ge j news.length with h | h
        · exact h
        · rw [List.getElem?_eq_none h] at hj; cases hj
      rw [hr.at hj2, List.getD_eq_getElem?_getD, hj]; rfl
    · intro g cap w' h2 h3 h4 h5
      have hob : (Value.slice (some ⟨g0, 0, none⟩) n cap0).ownBlock = some g0 := rfl
      rw [hob] at h3 h4
      refine h g cap w' h2 h3 (h4.imp (fun e => by cases e; rfl) (fun e => by omega)) h5 ((Below.refl _ W).grown h3 hbase (fun k e => by cases e; exact hg0.1))

/-- a variable in a block of its own -/
structure Bx (w : World) (g : Nat) (cs : List Value) : Prop where
  lt : g < w.heap.size
  cell : ∀ i, i < cs.length → w.cell? ⟨g, i, none⟩ = some (cs.getD i (.bool false))
  free : ∀ i, i < cs.length → w.frozen? ⟨g, i, none⟩ = false
theorem Bx.below {w w' : World} {g : Nat} {cs : List Value} (h : Bx w g cs) (hb : Below w.heap.size w w') : Bx w' g cs :=
  ⟨Nat.lt_of_lt_of_le h.lt hb.size, fun i hi => by rw [hb.cell h.lt]; exact h.cell i hi, fun i hi => by rw [hb.frozen h.lt]; exact h.free i hi⟩
theorem Bx.new (w : World) (cs : Array Value) (t : TypeId) : Bx (w.alloc (.cells cs t)) w.heap.size cs.toList := by
  have hg := heap_alloc_new w (.cells cs t)
  refine ⟨by simp, fun i hi => ?_, fun i hi => ?_⟩
  · rw [cell_of_row _ _ i _ t (0, 0) hg]
    rw [Array.length_toList] at hi
    simp [List.getD_eq_getElem?_getD, hi]
  · unfold World.frozen?
    rw [hg]
    simp
theorem Bx.set {w : World} {g : Nat} {cs : List Value} (h : Bx w g cs) {i : Nat} (hi : i < cs.length) (v : Value) : Bx (w.setCell ⟨g, i, none⟩ v) g (cs.set i v) := by
  obtain ⟨lt, cell, free⟩ := h
  refine ⟨by simpa using lt, fun j hj => ?_, fun j hj => ?_⟩
  · rw [List.length_set] at hj
    by_cases e : j = i
    · subst e
      have hc := cell j hj
      rw [World.cell?_setCell_same' _ _ _ (by rw [hc]; rfl)]
      simp [List.getD_eq_getElem?_getD, hj]
    · rw [World.cell?_setCell_other w _ _ v (fun h => by injection h with _ h2 _; exact e (by first | exact h2 | exact h2.symm)), cell j hj]
      simp [List.getD_eq_getElem?_getD, List.getElem?_set_ne (fun h => e h.symm)]
  · rw [List.length_set] at hj
    rw [World.frozen?_setCell]; exact free j hj
theorem Bx.other {w : World} {g : Nat} {cs : List Value} (h : Bx w g cs) {a : Addr} (ha : a.block ≠ g) (v : Value) : Bx (w.setCell a v) g cs :=
  ⟨by simpa using h.lt, fun i hi => by rw [World.cell?_setCell_other w _ _ v (fun e => ha (by rw [e]))]; exact h.cell i hi, fun i hi => by rw [World.frozen?_setCell]; exact h.free i hi⟩
theorem below_put {B : Nat} {w W : World} (h : Below B w W) {a : Addr} (ha : B ≤ a.block) (v : Value) : Below B w (W.setCell a v) := h.setCell (p := a) ha v
theorem below_drewN {B : Nat} {w W : World} (h : Below B w W) (n : Nat) : Below B w (W.drewN n) := h.trans ⟨rfl, rfl, rfl, Nat.le_refl _, fun _ _ => rfl⟩
theorem Rd.put {w : World} {A : Option Addr} {xs : List Value} (h : Rd w A xs) {a : Addr} (ha : ∀ q, A = some q → q.block ≠ a.block) (v : Value) : Rd (w.setCell a v) A xs := fun i hi => by
  obtain ⟨q, e, hl, hc⟩ := h i hi
  refine ⟨q, e, by simpa using hl, ?_⟩
  rw [World.cell?_setCell_other w _ _ v (fun h => ha q e (by rw [← add_block q i, h]))]
  exact hc
/-- nothing but some blocks may have changed -/
structure Bar (w w' : World) (p : Nat → Prop) : Prop where
  os : w'.os = w.os
  tape : w'.tape = w.tape
  output : w'.output = w.output
  size : w.heap.size ≤ w'.heap.size
  block : ∀ k, k < w.heap.size → ¬ p k → w'.heap[k]? = w.heap[k]?
theorem Bar.refl (w : World) (p : Nat → Prop) : Bar w w p := ⟨rfl, rfl, rfl, Nat.le_refl _, fun _ _ _ => rfl⟩
theorem Bar.trans {a b c : World} {p : Nat → Prop} (h : Bar a b p) (k : Bar b c p) : Bar a c p :=
  ⟨k.os.trans h.os, k.tape.trans h.tape, k.output.trans h.output, Nat.le_trans h.size k.size, fun i hi hp => (k.block i (Nat.lt_of_lt_of_le hi h.size) hp).trans (h.block i hi hp)⟩
theorem Bar.mono {a b : World} {p q : Nat → Prop} (h : Bar a b p) (hpq : ∀ k, k < a.heap.size → p k → q k) : Bar a b q :=
  ⟨h.os, h.tape, h.output, h.size, fun i hi hq => h.block i hi (fun hp => hq (hpq i hi hp))⟩
theorem Bar.below {w w' : World} {p : Nat → Prop} {B : Nat} (h : Bar w w' p) (hp : ∀ k, k < w.heap.size → p k → B ≤ k) (hB : B ≤ w.heap.size) : Below B w w' :=
  ⟨h.os, h.tape, h.output, h.size, fun k hk => h.block k (Nat.lt_of_lt_of_le hk hB) (fun hq => by have := hp k (Nat.lt_of_lt_of_le hk hB) hq; omega)⟩
theorem Bar.of_below {w w' : World} (h : Below w.heap.size w w') (p : Nat → Prop) : Bar w w' p := ⟨h.os, h.tape, h.output, h.size, fun k hk _ => h.block k hk⟩
theorem Bar.setCell {a w : World} {p : Nat → Prop} (h : Bar a w p) {q : Addr} (hq : p q.block) (u : Value) : Bar a (w.setCell q u) p :=
  ⟨h.os, h.tape, h.output, Nat.le_trans h.size (by simp), fun k hk hp => by rw [Below.heap_setCell w q u k (fun e => hp (by rw [e]; exact hq))]; exact h.block k hk hp⟩
theorem Bar.cell {w w' : World} {p : Nat → Prop} (h : Bar w w' p) {a : Addr} (ha : a.block < w.heap.size) (hp : ¬ p a.block) : w'.cell? a = w.cell? a := World.cell?_of_block (h.block _ ha hp)
theorem Bar.frozen {w w' : World} {p : Nat → Prop} (h : Bar w w' p) {a : Addr} (ha : a.block < w.heap.size) (hp : ¬ p a.block) : w'.frozen? a = w.frozen? a := World.frozen?_of_block (h.block _ ha hp)
theorem own_bar {w w' : World} {p : Nat → Prop} {B : Nat} {e : TypeId} {s : Nat} {v : Value} {n : Nat} {xs : List Value} (h : w.ownsRow B e s v n xs) (hb : Bar w w' p) (hp : ∀ g, v.ownBlock = some g → ¬ p g) : w'.ownsRow B e s v n xs := by
  have hlt := h.lt
  refine ⟨h.1, ?_⟩
  rcases h.2 with h2 | ⟨g, cap, cur, hv, hg, hh, r⟩
  · exact .inl h2
  · refine .inr ⟨g, cap, cur, hv, hg, ?_, r⟩
    rw [hb.block g (hlt g (by rw [hv]; rfl)).2 (hp g (by rw [hv]; rfl))]; exact hh

theorem Bx.bar {w w' : World} {p : Nat → Prop} {g : Nat} {cs : List Value} (h : Bx w g cs) (hb : Bar w w' p) (hp : ¬ p g) : Bx w' g cs :=
  ⟨Nat.lt_of_lt_of_le h.lt hb.size, fun i hi => by rw [hb.cell h.lt hp]; exact h.cell i hi, fun i hi => by rw [hb.frozen h.lt hp]; exact h.free i hi⟩
theorem Rd.bar {w w' : World} {p : Nat → Prop} {A : Option Addr} {xs : List Value} (h : Rd w A xs) (hb : Bar w w' p) (hp : ∀ a, A = some a → ¬ p a.block) : Rd w' A xs := fun i hi => by
  obtain ⟨a, e, hl, hc⟩ := h i hi
  exact ⟨a, e, Nat.lt_of_lt_of_le hl hb.size, by rw [hb.cell (by rw [add_block]; exact hl) (by rw [add_block]; exact hp a e)]; exact hc⟩

/-- an element more, where there is room: at a step of a region that draws its order -/
theorem step_push {P : Program} {ops : Array Oper} {o : Oper} {a : Act} {K : Act → World → Prop} {Q : Exit → Act → World → Prop} {E : Prop} (W : World) (hgd : o.guard = none) (s x : Operand) (t : TypeId)
    (ho : o.op = .call { callee := .builtin .append, args := #[s, x], argTypes := #[t, t] })
    (base : Nat) (e : TypeId) (i : TypeInfo) (size : Nat) (h1 : P.underlying t = some (.slice e)) (h2 : P.info? e = some i) (h4 : i.size = size)
    (g n cap : Nat) (xs : List Value) (hs : a.eval s = .slice (some ⟨g, 0, none⟩) n cap) (hown : W.ownsRow base e size (.slice (some ⟨g, 0, none⟩) n cap) n xs)
    (news : List Value) (hx : a.eval x = .slice (some ⟨W.heap.size, 0, none⟩) 1 1) (hl : news.length = size) (h1c : news.all (fun u => u.oneCell') = true) (b1 : n + 1 ≤ cap)
    (hK : ∀ w', w'.ownsRow base e size (.slice (some ⟨g, 0, none⟩) (n + 1) cap) (n + 1) (xs ++ news) → Bar W w' (fun k => k = g) → K (a.put o.dst (.slice (some ⟨g, 0, none⟩) (n + 1) cap)) w') :
    if Region.wanted o (yielded ops a.tmps) = true then Oper.wp P o a (W.alloc (.cells news.toArray e)) K Q else E := by
  have hw : Region.wanted o (yielded ops a.tmps) = true := by simp [Region.wanted, hgd]
  rw [if_pos hw]
  have hown2 := Rw.own_below hown ((Below.refl _ W).alloc (Nat.le_refl _) (.cells news.toArray e))
  have hc : ∀ j u, news[j]? = some u → (W.alloc (.cells news.toArray e)).cell? ((⟨W.heap.size, 0, none⟩ : Addr).add j) = some u := by
    intro j u hj
    exact World.news_of_block (cs := news.toArray) (heap_alloc_new W _) j u (by simpa using hj)
  obtain ⟨w', hrun, r1, r2⟩ := run_append_fits (P := P) (W.alloc (.cells news.toArray e)) base t o.type e i size h1 h2 h4 g n cap xs hown2 ⟨W.heap.size, 0, none⟩ 1 1 news (by omega) hc (fun u hu => List.all_eq_true.1 h1c u hu) b1
  unfold Oper.wp
  simp [execOp, ho, resolve, invoke, builtin, hs, hx, hrun, Result.andThen]
  refine hK w' r1 ⟨r2.os, r2.tape, r2.output, Nat.le_trans (by simp) r2.size, fun k hk hp => ?_⟩
  rw [r2.block k (by simp; omega) (by simpa using hp), Below.heap_alloc W _ k hk]

end Go.Proofs.Ytjnehpkkkmicfaa.Ls

/- The document's Copy. -/
import Derived.Test.YthkgdjclgphodaaLsRefA
namespace Go.Proofs.Ythkgdjclgphodaa.Ls
open Go.RowKit Go.Op Rw Nm

theorem info_u64s1 : (Try.prog.info? 32).map (fun i => (i.zero, i.size, i.bytes)) = some (some (.slice none 0 0), 1, 24) := info_u64s
/-- append whatever slice to a row that is new, at a step of a region that draws its order -/
theorem step_appendRd {P : Program} {W : World} {ops : Array Oper} {o : Oper} {a : Act} {K : Act → World → Prop} {Q : Exit → Act → World → Prop} {E : Prop} (hgd : o.guard = none) (s x : Operand) (t : TypeId)
    (ho : o.op = .call { callee := .builtin .append, args := #[s, x], argTypes := #[t, t] })
    (base : Nat) (e : TypeId) (i : TypeInfo) (z : Value) (bytes : Nat) (ht : P.underlying t = some (.slice e)) (hi : P.info? e = some i) (hz : i.zero = some z)
    (hsize : i.size = 1) (hby : i.bytes = bytes) (hzs : z.cells.size = 1)
    (g0 n cap0 : Nat) (xs : List Value) (hs : a.eval s = .slice (some ⟨g0, 0, none⟩) n cap0) (hown : W.ownsRow base e 1 (.slice (some ⟨g0, 0, none⟩) n cap0) n xs)
    (A : Option Addr) (m c : Nat) (news : List Value) (hx : a.eval x = .slice A m c) (hr : Rd W A news) (hl : news.length = m) (h1 : ∀ u ∈ news, u.oneCell' = true)
    (h63 : n + m ≤ maxLen) (hbytes : (n + m) * bytes ≤ 140737488355328) (hbase : base ≤ W.heap.size)
    (h : ∀ g cap w', w'.ownsRow base e 1 (.slice (some ⟨g, 0, none⟩) (n + m) cap) (n + m) (xs ++ news) → Below base W w' → K (a.put o.dst (.slice (some ⟨g, 0, none⟩) (n + m) cap)) w') :
    if Region.wanted o (yielded ops a.tmps) = true then Oper.wp P o a W K Q else E := by
  have hg0 := hown.lt g0 rfl
  by_cases hm : m = 0
  · subst hm
    have hne : news = [] := List.eq_nil_of_length_eq_zero hl
    subst hne
    have hw : Region.wanted o (yielded ops a.tmps) = true := by simp [Region.wanted, hgd]
    rw [if_pos hw]
    have hrun := run_append_zero (P := P) (w := W) base t o.type e i 1 ht hi _ n xs hown A c
    unfold Oper.wp
    simp [execOp, ho, resolve, invoke, builtin, hs, hx, hrun, Result.andThen]
    have := h g0 cap0 W (by simpa using hown) (Below.refl _ _)
    rw [Nat.add_zero] at this
    exact this
  · obtain ⟨ad, rfl, hlt⟩ := hr.form (by omega)
    refine step_append_lies _ hgd s x t ho base e i z 1 bytes ht hi hz hsize hby hzs (by decide) _ n xs hs hown ad m c news hx (by omega) ?_ h1 (by omega) h63 hbytes hbase W.heap.size rfl ?_
    · intro j u hj
      have hj2 : j < news.length := by
        rcases Nat.lt_or_ge j news.length with h | h
        · exact h
        · rw [List.getElem?_eq_none h] at hj; cases hj
      rw [hr.at hj2, List.getD_eq_getElem?_getD, hj]; rfl
    · intro g cap w' h2 h3 h4 h5
      have hob : (Value.slice (some ⟨g0, 0, none⟩) n cap0).ownBlock = some g0 := rfl
      rw [hob] at h3
      exact h g cap w' h2 ((Below.refl _ W).grown h3 hbase (fun k e => by cases e; exact hg0.1))

/-- the same, to a row of nothing -/
theorem step_cloneRd {P : Program} {W : World} {ops : Array Oper} {o : Oper} {a : Act} {K : Act → World → Prop} {Q : Exit → Act → World → Prop} {E : Prop} (hgd : o.guard = none) (s x : Operand) (t : TypeId)
    (ho : o.op = .call { callee := .builtin .append, args := #[s, x], argTypes := #[t, t] })
    (base : Nat) (e : TypeId) (i : TypeInfo) (z : Value) (bytes : Nat) (ht : P.underlying t = some (.slice e)) (hi : P.info? e = some i) (hz : i.zero = some z)
    (hsize : i.size = 1) (hby : i.bytes = bytes) (hzs : z.cells.size = 1)
    (g0 : Nat) (hs : a.eval s = .slice (some ⟨g0, 0, none⟩) 0 0) (hown : W.ownsRow base e 1 (.slice (some ⟨g0, 0, none⟩) 0 0) 0 [])
    (A : Option Addr) (m c : Nat) (news : List Value) (hx : a.eval x = .slice A m c) (hr : Rd W A news) (hl : news.length = m) (h1 : ∀ u ∈ news, u.oneCell' = true)
    (h63 : m ≤ maxLen) (hbytes : m * bytes ≤ 140737488355328) (hbase : base ≤ W.heap.size)
    (h : ∀ g cap w', w'.ownsRow base e 1 (.slice (some ⟨g, 0, none⟩) m cap) m news → Below base W w' → K (a.put o.dst (.slice (some ⟨g, 0, none⟩) m cap)) w') :
    if Region.wanted o (yielded ops a.tmps) = true then Oper.wp P o a W K Q else E :=
  step_appendRd hgd s x t ho base e i z bytes ht hi hz hsize hby hzs g0 0 0 [] hs hown A m c news hx hr hl h1 (by rw [Nat.zero_add]; exact h63) (by rw [Nat.zero_add]; exact hbytes) hbase
    (fun g cap w' h2 h3 => by rw [Nat.zero_add, List.nil_append] at h2; rw [Nat.zero_add]; exact h g cap w' h2 h3)

/-- a key of a copy -/
def CpEl (w : World) (B bo : Nat) (v : Value) (x : List Nat) (u : Value) : Prop :=
  ∃ (q : Option Addr) (c : Nat), u = .slice q x.length c ∧ Rd w q (nums x) ∧ x.length ≤ 17592186044416 ∧ ∀ a, q = some a → B ≤ a.block ∧ a.block < w.heap.size ∧ a.block ≠ bo ∧ v.ownBlock ≠ some a.block
/-- a copy under way: k keys are there -/
structure CpI (w0 w : World) (bo : Nat) (v tv : Value) (K : Keys) (k : Nat) (V : List Value) : Prop where
  box : Bx w bo [v, tv]
  row : w.ownsRow w0.heap.size 32 1 v k V
  els : V.length = k ∧ ∀ i, i < k → CpEl w (w0.heap.size + 2) bo v (K.getD i []) (V.getD i (.bool false))
  off : v.ownBlock ≠ some bo
  bel : Below w0.heap.size w0 w
  bo : w0.heap.size + 2 ≤ bo
theorem CpEl.bar {w w' : World} {B bo : Nat} {v : Value} {x : List Nat} {u : Value} {p : Nat → Prop} (h : CpEl w B bo v x u) (hb : Bar w w' p) (hp : ∀ k, p k → k = bo ∨ v.ownBlock = some k) : CpEl w' B bo v x u := by
  obtain ⟨q, c, rfl, hr, hl, ho⟩ := h
  exact ⟨q, c, rfl, Rd.bar hr hb (fun a e h => by rcases hp _ h with h | h; exact (ho a e).2.2.1 h; exact (ho a e).2.2.2 h), hl, fun a e => ⟨(ho a e).1, Nat.lt_of_lt_of_le (ho a e).2.1 hb.size, (ho a e).2.2⟩⟩
theorem CpI.below {w0 w w' : World} {bo : Nat} {v tv : Value} {K : Keys} {k : Nat} {V : List Value} (h : CpI w0 w bo v tv K k V) (hb : Below w.heap.size w w') : CpI w0 w' bo v tv K k V :=
  ⟨h.box.below hb, own_below h.row hb, ⟨h.els.1, fun i hi => (h.els.2 i hi).bar (Bar.of_below hb (fun _ => False)) (fun _ h => h.elim)⟩, h.off, h.bel.trans (hb.mono h.bel.size), h.bo⟩
/-- a key more -/
theorem CpI.snoc {w0 w w1 w2 : World} {bo g cap : Nat} {v tv : Value} {K : Keys} {k : Nat} {V : List Value} {q : Option Addr} {c : Nat} {x : List Nat} (h : CpI w0 w bo v tv K k V) (hx : x = K.getD k [])
    (hb1 : Below w.heap.size w w1) (hr : Rd w1 q (nums x)) (hl : x.length ≤ 17592186044416) (hn : ∀ a, q = some a → w.heap.size ≤ a.block ∧ a.block < w1.heap.size)
    (hown : w2.ownsRow w0.heap.size 32 1 (.slice (some ⟨g, 0, none⟩) (k + 1) cap) (k + 1) (V ++ [.slice q x.length c])) (hg : w1.grownBy w2 v.ownBlock) (hgg : v.ownBlock = some g ∨ g = w1.heap.size) :
    (w2.cell? ⟨bo, 0, none⟩ = some v ∧ w2.frozen? ⟨bo, 0, none⟩ = false) ∧ CpI w0 (w2.setCell ⟨bo, 0, none⟩ (.slice (some ⟨g, 0, none⟩) (k + 1) cap)) bo (.slice (some ⟨g, 0, none⟩) (k + 1) cap) tv K (k + 1) (V ++ [.slice q x.length c]) := by
  have h1 := h.below hb1
  have hbar : Bar w1 w2 (fun k => v.ownBlock = some k) := ⟨hg.os, hg.tape, hg.output, hg.size, fun k hk hp => hg.block k hk (fun e => hp e.symm)⟩
  have hbx := h1.box.bar hbar (fun e => h.off e)
  have hbl := h1.box.lt
  have hne : g ≠ bo := by
    rcases hgg with e | e
    · intro e2; subst e2; exact h.off e
    · omega
  have hbar2 : Bar w2 (w2.setCell ⟨bo, 0, none⟩ (.slice (some ⟨g, 0, none⟩) (k + 1) cap)) (fun k => k = bo) := (Bar.refl w2 (fun k => k = bo)).setCell rfl _
  have hvb : ∀ b, v.ownBlock = some b → w0.heap.size ≤ b := fun b e => (h.row.lt b e).1
  have hnew : ∀ u y, CpEl w1 (w0.heap.size + 2) bo v y u → CpEl (w2.setCell ⟨bo, 0, none⟩ (.slice (some ⟨g, 0, none⟩) (k + 1) cap)) (w0.heap.size + 2) bo (.slice (some ⟨g, 0, none⟩) (k + 1) cap) y u := by
    rintro u y ⟨q', c', rfl, hr', hl', ho'⟩
    refine ⟨q', c', rfl, ?_, hl', fun a e => ?_⟩
    · exact Rd.bar (Rd.bar hr' hbar (fun a e => (ho' a e).2.2.2)) hbar2 (fun a e => (ho' a e).2.2.1)
    · obtain ⟨p1, p2, p3, p4⟩ := ho' a e
      refine ⟨p1, ?_, p3, fun e2 => ?_⟩
      · have := hbar.size; simp; omega
      · have e3 : g = a.block := by simpa [Value.ownBlock] using e2
        rcases hgg with e4 | e4
        · rw [e3] at e4; exact p4 e4
        · omega
  refine ⟨⟨hbx.cell 0 (by simp), hbx.free 0 (by simp)⟩, ⟨?_, ?_, ⟨by simp [h.els.1], fun i hi => ?_⟩, by simp [Value.ownBlock]; exact hne, ?_, h.bo⟩⟩
  · exact hbx.set (i := 0) (by simp) _
  · exact own_bar hown hbar2 (fun k e => by simp [Value.ownBlock] at e; omega)
  · by_cases e : i = k
    · subst e
      have e2 : (V ++ [Value.slice q x.length c]).getD i (.bool false) = .slice q x.length c := by rw [← h.els.1]; simp [List.getD_eq_getElem?_getD]
      rw [e2, ← hx]
      refine hnew _ _ ⟨q, c, rfl, hr, hl, fun a e => ?_⟩
      obtain ⟨p1, p2⟩ := hn a e
      have hsz := h.bel.size
      have hbl0 := h.box.lt
      have hb0 := h.bo
      exact ⟨by omega, p2, by omega, fun e2 => by have := (h.row.lt _ e2).2; omega⟩
    · have hi2 : i < k := by omega
      have e2 : (V ++ [Value.slice q x.length c]).getD i (.bool false) = V.getD i (.bool false) := by simp [List.getD_eq_getElem?_getD, List.getElem?_append_left (by rw [h.els.1]; exact hi2 : i < V.length)]
      rw [e2]
      exact hnew _ _ (h1.els.2 i hi2)
  · exact ((h1.bel.trans (hbar.below (fun k _ e => hvb k e) h1.bel.size))).setCell (p := ⟨bo, 0, none⟩) (by have := h.bo; show w0.heap.size ≤ bo; omega) _

/-- what Copy answers: the keys' row is the call's own -/
def CopyP (w : World) (K : Keys) (T : List Int) (e : Ending) (w' : World) : Prop :=
  ∃ (pk : Option Addr) (ck : Nat) (V : List Value) (q : Option Addr) (d bo : Nat), e = .returned (.agg #[.slice pk K.length ck, .slice q T.length d]) ∧ w'.ownsRow w.heap.size 32 1 (.slice pk K.length ck) K.length V ∧
    (V.length = K.length ∧ ∀ i, i < K.length → CpEl w' w.heap.size bo (.slice pk K.length ck) (K.getD i []) (V.getD i (.bool false))) ∧ Rd w' q (zs T) ∧ (∀ a, q = some a → w.heap.size ≤ a.block ∧ (Value.slice pk K.length ck).ownBlock ≠ some a.block) ∧ Below w.heap.size w w'
section
variable {K : Keys} {T : List Int} {p q : Option Addr} {c d : Nat} {w : World}
set_option maxHeartbeats 8000000 in
set_option maxRecDepth 100000 in
theorem copy_any (h : LsAt w p K q T) (hkb : Kb K) (hK : K.length ≤ 5864062014805) (hT : T.length ≤ 17592186044416) :
    Calls Try.prog 12 #[.agg #[.slice p K.length c, .slice q T.length d]] w fun e w' => CopyP w K T e w' := by
  obtain ⟨i0, hi, hz0, hz1, hz2⟩ := info_parts info_int
  obtain ⟨i1, hi1, hy0, hy1, hy2⟩ := info_parts info_u64
  obtain ⟨i2, hi2, hx0, hx1, hx2⟩ := info_parts info_u64s
  obtain ⟨n, hn⟩ : ∃ n, n = K.length := ⟨_, rfl⟩
  obtain ⟨m, hm⟩ : ∃ m, m = T.length := ⟨_, rfl⟩
  obtain ⟨W1, hW1⟩ : ∃ W1, W1 = w.alloc (.cells #[.slice p n c, .slice q m d] 25) := ⟨_, rfl⟩
  obtain ⟨W2, hW2⟩ : ∃ W2, W2 = W1.alloc (.cells #[.slice none 0 0, .slice none 0 0] 25) := ⟨_, rfl⟩
  obtain ⟨W3, hW3⟩ : ∃ W3, W3 = W2.alloc (.cells #[] 3) := ⟨_, rfl⟩
  have s1 : W1.heap.size = w.heap.size + 1 := by rw [hW1]; simp
  have s2 : W2.heap.size = w.heap.size + 1 + 1 := by rw [hW2]; simp [s1]
  have a0 : Below w.heap.size w W1 := by rw [hW1]; exact (Below.refl _ _).alloc (Nat.le_refl _) _
  have a1 : Below W1.heap.size W1 W2 := by rw [hW2]; exact (Below.refl _ _).alloc (Nat.le_refl _) _
  have a2 : Below W2.heap.size W2 W3 := by rw [hW3]; exact (Below.refl _ _).alloc (Nat.le_refl _) _
  have t0 : Below w.heap.size w W3 := (a0.trans (a1.mono a0.size)).trans (a2.mono (Nat.le_trans a0.size a1.size))
  have bx : Bx W3 w.heap.size [.slice p n c, .slice q m d] := by
    have := Bx.new w #[.slice p n c, .slice q m d] 25
    rw [← hW1] at this
    exact (this.below a1).below a2
  have by1 : Bx W3 (w.heap.size + 1) [.slice none 0 0, .slice none 0 0] := by
    have := Bx.new W1 #[.slice none 0 0, .slice none 0 0] 25
    rw [← hW2, s1] at this
    exact this.below a2
  have own0 : W3.ownsRow (w.heap.size + 1 + 1) 3 1 (.slice (some ⟨W2.heap.size, 0, none⟩) 0 0) 0 [] := by
    rw [hW3]
    exact World.ownsRow_lit (e := 3) (base := w.heap.size + 1 + 1) (size := 1) W2 #[] 0 (by omega) (by decide) rfl
  have rdT := h.tree.below t0
  have u0 : W3.cell? ⟨w.heap.size, 0, none⟩ = some (.slice p n c) := bx.cell 0 (by simp)
  have u1 : W3.cell? ⟨w.heap.size, 1, none⟩ = some (.slice q m d) := bx.cell 1 (by simp)
  have HKe : Hid (∀ W, Below w.heap.size w W → ∀ j, j < n → ∃ (a : Addr) (q : Option Addr) (d : Nat), p = some a ∧ W.cell? (a.add j) = some (.slice q (K.getD j []).length d) ∧ Rd W q (nums (K.getD j []))) := Lib.hid fun W hW j hj => by
    obtain ⟨a, q, d, e, _, hc, hr, _⟩ := (h.below hW).keys j (by rw [← hn]; exact hj)
    exact ⟨a, q, d, e, hc, hr⟩
  have HKB : Hid (∀ j, j < n → (K.getD j []).length ≤ 17592186044416) := Lib.hid fun j hj => hkb j (by rw [← hn]; exact hj)
  have hnb : n ≤ 5864062014805 := by rw [hn]; exact hK
  have hmb : m ≤ 17592186044416 := by rw [hm]; exact hT
  have hzl : (zs T).length = m := by rw [zs_length, hm]
  have T0 := Lib.hid t0; have HW1 := Lib.hid hW1; have HW2 := Lib.hid hW2; have HW3 := Lib.hid hW3; have HBX := Lib.hid bx; have HBY := Lib.hid by1; have HN := Lib.hid hn; have HM := Lib.hid hm; have S2 := Lib.hid s2
  rw [← hn, ← hm]
  have HOWN : Hid ((((w.alloc (.cells #[.slice p n c, .slice q m d] 25)).alloc (.cells #[.slice none 0 0, .slice none 0 0] 25)).alloc (.cells #[] 3)).ownsRow (w.heap.size + 1 + 1) 3 1 (.slice (some ⟨w.heap.size + 1 + 1, 0, none⟩) 0 0) 0 []) := Lib.hid (by
    rw [← hW1, ← hW2, ← hW3]; rw [s2] at own0; exact own0)
  have RDT : Hid (Rd (((w.alloc (.cells #[.slice p n c, .slice q m d] 25)).alloc (.cells #[.slice none 0 0, .slice none 0 0] 25)).alloc (.cells #[] 3)) q (zs T)) := Lib.hid (by
    rw [← hW1, ← hW2, ← hW3]; exact rdT)
  clear h hkb hK hT hn hm a0 a1 a2 t0 bx by1 hW1 hW2 hW3 s1 own0 rdT
  go_enter Try.func12, Try.ntmps12
  go_wp2_with (at_builtin; refine appendRd rfl _ _ 23 rfl (w.heap.size + 1 + 1) 3 i0 (.int .i64 0) 8 Try.underlying23 hi hz0 hz1 hz2 rfl (w.heap.size + 1 + 1) 0 0 [] rfl HOWN.out q m d (zs T) rfl RDT.out hzl (zs_one T) (by unfold maxLen; omega) (by omega) (by simp <;> omega) ?_)
  rw [← HW1.out, ← HW2.out, ← HW3.out]
  intro g cap w1 hown1 _ _ hgl hb1
  obtain ⟨W4, hW4⟩ : ∃ W4, W4 = w1.alloc (.cells #[.slice none 0 0, .slice (some ⟨g, 0, none⟩) m cap] 25) := ⟨_, rfl⟩
  have a4 : Below w1.heap.size w1 W4 := by rw [hW4]; exact (Below.refl _ _).alloc (Nat.le_refl _) _
  have hB1 : Below w.heap.size w w1 := T0.out.trans (hb1.mono (by omega))
  have hB4 : Below w.heap.size w W4 := hB1.trans (a4.mono hB1.size)
  have bo4 := Bx.new w1 #[.slice none 0 0, .slice (some ⟨g, 0, none⟩) m cap] 25
  rw [← hW4] at bo4
  have x1 : Bx w1 w.heap.size [.slice p n c, .slice q m d] ∧ Bx w1 (w.heap.size + 1) [.slice none 0 0, .slice none 0 0] := ⟨HBX.out.belowB hb1 (by omega), HBY.out.belowB hb1 (by omega)⟩
  have hyb : w.heap.size + 1 < w1.heap.size := x1.2.lt
  have cp0 : CpI w W4 w1.heap.size (.slice none 0 0) (.slice (some ⟨g, 0, none⟩) m cap) K 0 [] := ⟨bo4, World.ownsRow_nil _ _ _ _, ⟨rfl, fun i hi => absurd hi (by omega)⟩, by simp [Value.ownBlock], hB4, hyb⟩
  have rt0 : Rd W4 (some ⟨g, 0, none⟩) (zs T) := (Rd.of_own hown1).below a4
  have hg1 := hown1.lt g rfl
  have x4 := x1.1.below a4
  have y4 := x1.2.below a4
  have v0 : w1.cell? ⟨w.heap.size, 0, none⟩ = some (.slice p n c) := x1.1.cell 0 (by simp)
  have v1 : w1.cell? ⟨w.heap.size, 1, none⟩ = some (.slice q m d) := x1.1.cell 1 (by simp)
  have v2 := x1.1.lt
  have CP := Lib.hid cp0; have RT := Lib.hid rt0; have HW4 := Lib.hid hW4; have Y4 := Lib.hid y4
  clear cp0 rt0 x1 x4 y4 hown1 hb1 a4 hB1 hB4 bo4 hW4 u0 u1
  go_wp2_with fail
  rw [← HW4.out]
  have bol : w1.heap.size < W4.heap.size := CP.out.box.lt
  clear HW4 HW1 HW2 HW3
  go_loopw [5, 14] (fun _ v wr => ∃ (k : Nat) (u : Value) (V : List Value), k ≤ n ∧ v = .int .i64 k ∧ CpI w wr w1.heap.size u (.slice (some ⟨g, 0, none⟩) m cap) K k V ∧ Rd wr (some ⟨g, 0, none⟩) (zs T) ∧ (u.ownBlock ≠ some g ∧ u.ownBlock ≠ some (w.heap.size + 1)) ∧ Bx wr (w.heap.size + 1) [.slice none 0 0, .slice none 0 0]) (fun _ v _ => n - (intOf v).toNat)
  case atStart => exact ⟨0, _, [], by omega, rfl, CP.out, RT.out, ⟨by simp [Value.ownBlock], by simp [Value.ownBlock]⟩, Y4.out⟩
  case round =>
    obtain ⟨k, u, V, hk, rfl, hcp, hrt, hug, hy⟩ := hrel
    by_cases hlt : k < n
    · obtain ⟨a, qk, dk, rfl, ca, hrk⟩ := HKe.out wr hcp.bel k hlt
      obtain ⟨x, hx⟩ : ∃ x, x = K.getD k [] := ⟨_, rfl⟩
      have hxl : x.length ≤ 17592186044416 := by rw [hx]; exact HKB.out k hlt
      rw [← hx] at ca hrk
      have q4 : wr.cell? ⟨w1.heap.size, 0, none⟩ = some u := hcp.box.cell 0 (by simp)
      have q5 : w1.heap.size < wr.heap.size := hcp.box.lt
      have hwr := hcp.bel.size
      have hdr : Below wr.heap.size wr wr.drew := Below.drew (Below.refl _ wr)
      have HOA : Hid ((wr.drew.alloc (.cells #[] 52)).ownsRow wr.heap.size 52 1 (.slice (some ⟨wr.heap.size, 0, none⟩) 0 0) 0 []) := Lib.hid (World.ownsRow_lit (e := 52) (base := wr.heap.size) (size := 1) wr.drew #[] 0 (Nat.le_refl _) (by decide) rfl)
      have hal : Below wr.heap.size wr (wr.drew.alloc (.cells #[] 52)) := hdr.alloc (Nat.le_refl _) _
      have HRA : Hid (Rd (wr.drew.alloc (.cells #[] 52)) qk (nums x)) := Lib.hid (hrk.below hal)
      have HAL := Lib.hid hal
      have HCP := Lib.hid hcp
      have HF : Hid (∀ gq cq W, W.ownsRow wr.heap.size 52 1 (.slice (some ⟨gq, 0, none⟩) x.length cq) x.length (nums x) → Below wr.heap.size (wr.drew.alloc (.cells #[] 52)) W →
          Below wr.heap.size wr W ∧ W.cell? ⟨w1.heap.size, 0, none⟩ = some u ∧ w1.heap.size < W.heap.size ∧ (W.alloc (.cells #[.slice (some ⟨gq, 0, none⟩) x.length cq] 32)).ownsRow w.heap.size 32 1 u k V ∧ w.heap.size ≤ (W.alloc (.cells #[.slice (some ⟨gq, 0, none⟩) x.length cq] 32)).heap.size) := Lib.hid fun gq cq W _ hb => by
        have hbw := HAL.out.trans hb
        have hc := HCP.out.below hbw
        have hsz := hbw.size
        refine ⟨hbw, hc.box.cell 0 (by simp), hc.box.lt, own_below hc.row ((Below.refl _ _).alloc (Nat.le_refl _) _), ?_⟩
        simp; omega
      have HG : Hid (∀ gq cq W g2 c2 W2, W.ownsRow wr.heap.size 52 1 (.slice (some ⟨gq, 0, none⟩) x.length cq) x.length (nums x) → Below wr.heap.size (wr.drew.alloc (.cells #[] 52)) W →
          W2.ownsRow w.heap.size 32 1 (.slice (some ⟨g2, 0, none⟩) (k + 1) c2) (k + 1) (V ++ [.slice (some ⟨gq, 0, none⟩) x.length cq]) → (W.alloc (.cells #[.slice (some ⟨gq, 0, none⟩) x.length cq] 32)).grownBy W2 u.ownBlock → (u.ownBlock = some g2 ∨ g2 = (W.alloc (.cells #[.slice (some ⟨gq, 0, none⟩) x.length cq] 32)).heap.size) →
          (W2.cell? ⟨w1.heap.size, 0, none⟩ = some u ∧ W2.frozen? ⟨w1.heap.size, 0, none⟩ = false) ∧ Hid (CpI w (W2.setCell ⟨w1.heap.size, 0, none⟩ (.slice (some ⟨g2, 0, none⟩) (k + 1) c2)) w1.heap.size (.slice (some ⟨g2, 0, none⟩) (k + 1) c2) (.slice (some ⟨g, 0, none⟩) m cap) K (k + 1) (V ++ [.slice (some ⟨gq, 0, none⟩) x.length cq]) ∧
            Rd (W2.setCell ⟨w1.heap.size, 0, none⟩ (.slice (some ⟨g2, 0, none⟩) (k + 1) c2)) (some ⟨g, 0, none⟩) (zs T) ∧ ((Value.slice (some ⟨g2, 0, none⟩) (k + 1) c2).ownBlock ≠ some g ∧ (Value.slice (some ⟨g2, 0, none⟩) (k + 1) c2).ownBlock ≠ some (w.heap.size + 1)) ∧ Bx (W2.setCell ⟨w1.heap.size, 0, none⟩ (.slice (some ⟨g2, 0, none⟩) (k + 1) c2)) (w.heap.size + 1) [.slice none 0 0, .slice none 0 0])) := Lib.hid (by
        intro gq cq W g2 c2 W2 ho hb ho2 hg2 hgg
        have hbw := HAL.out.trans hb
        have hba : Below W.heap.size W (W.alloc (.cells #[.slice (some ⟨gq, 0, none⟩) x.length cq] 32)) := (Below.refl _ _).alloc (Nat.le_refl _) _
        have hbw2 := hbw.trans (hba.mono hbw.size)
        have hgq := ho.lt gq rfl
        have hasz : (W.alloc (.cells #[.slice (some ⟨gq, 0, none⟩) x.length cq] 32)).heap.size = W.heap.size + 1 := by simp
        have key := HCP.out.snoc hx hbw2 ((Rd.of_own ho).below hba) hxl (fun a e => by cases e; exact ⟨hgq.1, by have := hgq.2; rw [hasz]; show gq < _; omega⟩) ho2 hg2 hgg
        refine ⟨key.1, Lib.hid ⟨key.2, ?_, ?_, ?_⟩⟩
        · have hbar : Bar (W.alloc (.cells #[.slice (some ⟨gq, 0, none⟩) x.length cq] 32)) W2 (fun k => u.ownBlock = some k) := ⟨hg2.os, hg2.tape, hg2.output, hg2.size, fun k hk hp => hg2.block k hk (fun e => hp e.symm)⟩
          have hbar2 : Bar W2 (W2.setCell ⟨w1.heap.size, 0, none⟩ (.slice (some ⟨g2, 0, none⟩) (k + 1) c2)) (fun k => k = w1.heap.size) := (Bar.refl W2 (fun k => k = w1.heap.size)).setCell rfl _
          exact Rd.bar (Rd.bar (hrt.below hbw2) hbar (fun a e h => by cases e; exact hug.1 h)) hbar2 (fun a e h => by cases e; have : g = w1.heap.size := h; omega)
        · have hside : ∀ b, b < wr.heap.size → u.ownBlock ≠ some b → (Value.slice (some ⟨g2, 0, none⟩) (k + 1) c2).ownBlock ≠ some b := fun b hb0 hub e => by
            have e2 : g2 = b := by simpa [Value.ownBlock] using e
            rcases hgg with e4 | e4
            · rw [e2] at e4; exact hub e4
            · have := hbw.size; rw [hasz] at e4; omega
          exact ⟨hside _ (by omega) hug.1, hside _ (by omega) hug.2⟩
        · have hbar : Bar (W.alloc (.cells #[.slice (some ⟨gq, 0, none⟩) x.length cq] 32)) W2 (fun k => u.ownBlock = some k) := ⟨hg2.os, hg2.tape, hg2.output, hg2.size, fun k hk hp => hg2.block k hk (fun e => hp e.symm)⟩
          exact ((hy.below hbw2).bar hbar hug.2).other (by show w1.heap.size ≠ w.heap.size + 1; omega) _)
      obtain ⟨lx, hlx⟩ : ∃ lx, lx = x.length := ⟨_, rfl⟩
      have hnl : (nums x).length = lx := by rw [nums_length, hlx]
      rw [← hlx] at HF HG hxl ca
      have k0 : (0 : Int) ≤ (k : Int) := by omega
      have k1 : (k : Int) < (n : Int) := by omega
      have HKN : Hid (k + 1 ≤ maxLen ∧ (k + 1) * 24 ≤ 140737488355328) := Lib.hid ⟨by unfold maxLen; omega, by omega⟩
      have HXL : Hid (lx ≤ maxLen ∧ lx * 8 ≤ 140737488355328) := Lib.hid ⟨by unfold maxLen; omega, by omega⟩
      clear hcp hrt hy hwr hdr hal hlx hx hrk
      go_wp2_with fail
      go_region_law (first
        | (refine step_cloneRd (by rfl) _ _ 32 (by rfl) wr.heap.size 52 i1 (.int .u64 0) 8 Try.underlying32 hi1 hy0 hy1 hy2 (by rfl) wr.heap.size (by rfl) HOA.out qk lx dk (nums x) (by rfl) HRA.out hnl (nums_one x) HXL.out.1 HXL.out.2 (by simp) ?_
           intro gq cq wq hownq hbq
           obtain ⟨p1, p2, p3, p4, p5⟩ := HF.out gq cq wq hownq hbq
           have HOQ := Lib.hid hownq; have HBQ := Lib.hid hbq; have P4 := Lib.hid p4; have P5 := Lib.hid p5
           clear hownq hbq p1 p4 p5)
        | (refine step_append_lies _ (by rfl) _ _ 22 (by rfl) w.heap.size 32 i2 (.slice none 0 0) 1 24 Try.underlying22 hi2 hx0 hx1 hx2 (by rfl) (by decide) u k V (by rfl) P4.out ⟨wq.heap.size, 0, none⟩ 1 1 [.slice (some ⟨gq, 0, none⟩) lx cq] (by rfl) (by rfl) (cell_one_new _ _ _) (by simp [Value.oneCell']) (by decide) HKN.out.1 HKN.out.2 P5.out _ rfl ?_
           intro g2 c2 w2 hown2 hg2 hgg2 _
           obtain ⟨⟨r1, r2⟩, HG2⟩ := HG.out gq cq wq g2 c2 w2 HOQ.out HBQ.out hown2 hg2 hgg2
           clear hown2 hg2 hgg2)
        | fail)
      all_goals go_wp2_with fail
      all_goals go_roundw
      all_goals (first | (simp [intOf]; done) | (simp [intOf]; omega) | exact ⟨k + 1, _, _, by omega, by go_num, HG2.out.1, HG2.out.2.1, HG2.out.2.2.1, HG2.out.2.2.2⟩)
    · obtain rfl : n = k := by omega
      obtain ⟨pk, ck, rfl, _⟩ := own_rd hcp.row
      have z0 := hcp.box.cell 0 (by simp)
      have z1 := hcp.box.cell 1 (by simp)
      simp only [List.getD_cons_zero, List.getD_cons_succ] at z0 z1
      have y0 : wr.cell? ⟨w.heap.size + 1, 0, none⟩ = some (.slice none 0 0) := hy.cell 0 (by simp)
      have y1 : wr.cell? ⟨w.heap.size + 1, 1, none⟩ = some (.slice none 0 0) := hy.cell 1 (by simp)
      have f0 : wr.frozen? ⟨w.heap.size + 1, 0, none⟩ = false := hy.free 0 (by simp)
      have f1 : wr.frozen? ⟨w.heap.size + 1, 1, none⟩ = false := hy.free 1 (by simp)
      have HF : Hid (∀ a b, CopyP w K T (.returned (.agg #[.slice pk n ck, .slice (some ⟨g, 0, none⟩) m cap])) ((wr.setCell ⟨w.heap.size + 1, 0, none⟩ a).setCell ⟨w.heap.size + 1, 1, none⟩ b)) := Lib.hid (by
        intro a b
        have hb : Bar wr ((wr.setCell ⟨w.heap.size + 1, 0, none⟩ a).setCell ⟨w.heap.size + 1, 1, none⟩ b) (fun k => k = w.heap.size + 1) := ((Bar.refl wr (fun k => k = w.heap.size + 1)).setCell rfl _).setCell rfl _
        have hne : ∀ b, (Value.slice pk n ck).ownBlock = some b → b ≠ w.heap.size + 1 := fun b e e2 => hug.2 (by rw [e, e2])
        refine ⟨pk, ck, V, some ⟨g, 0, none⟩, cap, w1.heap.size, by rw [← HN.out, ← HM.out], by rw [← HN.out]; exact own_bar hcp.row hb hne, ⟨by rw [← HN.out]; exact hcp.els.1, fun i hi => ?_⟩, Rd.bar hrt hb (fun a e => by cases e; show ¬ g = w.heap.size + 1; omega), fun a e => by cases e; rw [← HN.out]; exact ⟨by show w.heap.size ≤ g; omega, hug.1⟩, ?_⟩
        · rw [← HN.out] at hi ⊢
          obtain ⟨q', c', e, hr, hl, ho⟩ := hcp.els.2 i hi
          refine ⟨q', c', e, Rd.bar hr hb (fun a e2 h => by have := (ho a e2).1; omega), hl, fun a e2 => ?_⟩
          obtain ⟨o1, o2, o3, o4⟩ := ho a e2
          exact ⟨by omega, by simpa using o2, o3, o4⟩
        · exact (hcp.bel.setCell (p := ⟨w.heap.size + 1, 0, none⟩) (by simp) _).setCell (p := ⟨w.heap.size + 1, 1, none⟩) (by simp) _)
      clear hcp hrt hy hug HKe HKB CP RT
      go_wp2_with fail
      (try simp only [Exit.inBlock, Exit.then])
      refine bodyPost_ret (v := .agg #[.slice pk n ck, .slice (some ⟨g, 0, none⟩) m cap]) ?_ rfl ?_
      · simp only [results, Try.results12]
        go_simp
      · exact HF.out _ _
end
end Go.Proofs.Ythkgdjclgphodaa.Ls

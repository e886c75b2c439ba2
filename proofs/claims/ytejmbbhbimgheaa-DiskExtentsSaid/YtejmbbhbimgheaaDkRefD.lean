/- Rows of a disk of the call's own; a slice, wherever it lies, behind such a row. No function of the program in sight. The document's Copy. -/
import Derived.Test.YtejmbbhbimgheaaDkRefM
import Derived.Test.YtejmbbhbimgheaaRd
import Derived.Laws.OwnMore
namespace Go.Proofs.Ytejmbbhbimgheaa.Dk
open Go.RowKit Go.Op Rw

theorem run_append_zero {P : Program} {w : World} (base : Nat) (t ty e : TypeId) (i : TypeInfo) (size : Nat) (ht : P.underlying t = some (.slice e)) (hi : P.info? e = some i)
    (v : Value) (n : Nat) (xs : List Value) (hown : w.ownsRow base e size v n xs) (A : Option Addr) (c : Nat) :
    (Builtin.append_ #[t, t] ty #[v, .slice A 0 c]).run P w = .ok v w := by
  cases A with
  | none =>
    rcases hown.2 with ⟨rfl, rfl⟩ | ⟨g, cap, cur, rfl, _, _, hnc, _⟩
    · simp [Builtin.append_, run_underlying ht, sizeOf, typeInfo, hi, Builtin.lenOf, Builtin.firstCells]
    · simp [Builtin.append_, run_underlying ht, sizeOf, typeInfo, hi, Builtin.lenOf, Builtin.firstCells, hnc, storeCells]
  | some a =>
    have hl : (loadCells a 0).run P w = .ok #[] w := rfl
    rcases hown.2 with ⟨rfl, rfl⟩ | ⟨g, cap, cur, rfl, _, _, hnc, _⟩
    · simp [Builtin.append_, run_underlying ht, sizeOf, typeInfo, hi, Builtin.lenOf, Builtin.firstCells, hl, Result.andThen]
    · simp [Builtin.append_, run_underlying ht, sizeOf, typeInfo, hi, Builtin.lenOf, Builtin.firstCells, hnc, storeCells, hl, Result.andThen]

theorem appendRd {P : Program} {W : World} {ops : Array Oper} {rest : List Oper} {o : Oper} {a : Act} {Q : Exit → Act → World → Prop} (hgd : o.guard = none) (s x : Operand) (t : TypeId)
    (ho : o.op = .call { callee := .builtin .append, args := #[s, x], argTypes := #[t, t] })
    (base : Nat) (e : TypeId) (i : TypeInfo) (z : Value) (size bytes : Nat) (ht : P.underlying t = some (.slice e)) (hi : P.info? e = some i) (hz : i.zero = some z)
    (hsize : i.size = size) (hby : i.bytes = bytes) (hzs : z.cells.size = size) (hsz : 0 < size)
    (g0 n cap0 : Nat) (xs : List Value) (hs : a.eval s = .slice (some ⟨g0, 0, none⟩) n cap0) (hown : W.ownsRow base e size (.slice (some ⟨g0, 0, none⟩) n cap0) n xs)
    (A : Option Addr) (m c : Nat) (news : List Value) (hx : a.eval x = .slice A m c) (hr : Rd W A news) (hl : news.length = m * size) (h1 : ∀ u ∈ news, u.oneCell' = true)
    (h63 : n + m ≤ maxLen) (hbytes : (n + m) * bytes ≤ 140737488355328) (hbase : base ≤ W.heap.size)
    (h : ∀ g cap w', w'.ownsRow base e size (.slice (some ⟨g, 0, none⟩) (n + m) cap) (n + m) (xs ++ news) → W.grownBy w' (some g0) → (g = g0 ∨ W.heap.size ≤ g) → g < w'.heap.size → Below base W w' → wpList P ops Q rest (a.put o.dst (.slice (some ⟨g, 0, none⟩) (n + m) cap)) w') :
    wpList P ops Q (o :: rest) a W := by
  have hg0 := hown.lt g0 rfl
  by_cases hm : m = 0
  · subst hm
    have hne : news = [] := List.eq_nil_of_length_eq_zero (by rw [hl, Nat.zero_mul])
    subst hne
    refine wpList_plain hgd fun K hK => ?_
    have hrun := run_append_zero (P := P) (w := W) base t o.type e i size ht hi _ n xs hown A c
    unfold Oper.wp
    simp [execOp, ho, resolve, invoke, builtin, hs, hx, hrun, Result.andThen]
    refine hK _ _ ?_
    have := h g0 cap0 W (by simpa using hown) (World.grownBy.refl W _) (.inl rfl) hg0.2 (Below.refl _ _)
    simpa using this
  · have hpos : 0 < news.length := by rw [hl]; exact Nat.mul_pos (by omega) hsz
    obtain ⟨ad, rfl, hlt⟩ := hr.form hpos
    refine wpList_append_lies _ hgd s x t ho base e i z size bytes ht hi hz hsize hby hzs hsz _ n xs hs hown ad m c news hx hl ?_ h1 (by omega) h63 hbytes hbase W.heap.size rfl ?_
    · intro j u hj
      have hj2 : j < news.length := by
        rcases Nat.lt_or_ge j news.length with h | h
        · exact h
        · rw [List.getElem?_eq_none h] at hj; cases hj
      rw [hr.at hj2, List.getD_eq_getElem?_getD, hj]; rfl
    · intro g cap w' h2 h3 h4 h5
      have hob : (Value.slice (some ⟨g0, 0, none⟩) n cap0).ownBlock = some g0 := rfl
      rw [hob] at h3 h4
      refine h g cap w' h2 h3 (h4.imp (fun e => by cases e; rfl) (fun e => by omega)) h5 ((Below.refl _ W).grown h3 hbase (fun k e => by cases e; exact hg0.1))

theorem Boxed.belowB {w w' : World} {g B : Nat} {cs : List Value} (h : Boxed w g cs) (hb : Below B w w') (hg : g < B) : Boxed w' g cs :=
  ⟨Nat.lt_of_lt_of_le h.lt hb.size, fun i hi => by rw [hb.cell hg]; exact h.cell i hi, fun i hi => by rw [hb.frozen hg]; exact h.free i hi⟩
theorem getD_of {l : List Value} {i : Nat} {v : Value} (h : l[i]? = some v) : some v = some (l.getD i (.bool false)) := by
  rw [List.getD_eq_getElem?_getD, h]; rfl
theorem ExtAt.rd {w : World} {p : Option Addr} {E : List Ext} (h : ExtAt w p E) : Rd w p (eRow E) := fun i hi => by
  rw [eRow_length] at hi
  obtain ⟨g, o, rfl, hg, c0, c1, _, _⟩ := h (i / 2) (by omega)
  have hr := eRow_get E (i / 2) (by omega)
  refine ⟨⟨g, o, none⟩, rfl, hg, ?_⟩
  rw [Addr.add_lit]
  rcases Nat.mod_two_eq_zero_or_one i with hm | hm
  · have e : i / 2 * 2 = i := by omega
    rw [e] at c0 hr
    rw [c0]; exact getD_of hr.1
  · have e : i / 2 * 2 + 1 = i := by omega
    rw [Nat.add_assoc, e] at c1
    rw [e] at hr
    rw [c1]; exact getD_of hr.2
theorem WrsAt.rd {w : World} {p : Option Addr} {L : List Wr} (h : WrsAt w p L) : Rd w p (wRow L) := fun i hi => by
  rw [wRow_length] at hi
  obtain ⟨g, o, rfl, hg, c0, c1, c2, _, _⟩ := h (i / 3) (by omega)
  have hr := wRow_get L (i / 3) (by omega)
  refine ⟨⟨g, o, none⟩, rfl, hg, ?_⟩
  rw [Addr.add_lit]
  have hm : i % 3 = 0 ∨ i % 3 = 1 ∨ i % 3 = 2 := by omega
  rcases hm with hm | hm | hm
  · have e : i / 3 * 3 = i := by omega
    rw [e] at c0 hr
    rw [c0]; exact getD_of hr.1
  · have e : i / 3 * 3 + 1 = i := by omega
    rw [Nat.add_assoc, e] at c1
    rw [e] at hr
    rw [c1]; exact getD_of hr.2.1
  · have e : i / 3 * 3 + 2 = i := by omega
    rw [Nat.add_assoc, e] at c2
    rw [e] at hr
    rw [c2]; exact getD_of hr.2.2
/-- rows as they are read, of a row of the call's own that may be nil -/
theorem extAt_ownV {w : World} {B : Nat} {e : TypeId} {p : Option Addr} {n c : Nat} {E : List Ext} (h : w.ownsRow B e 2 (.slice p n c) n (eRow E)) (ho : EOk E) : ExtAt w p E := by
  rcases h.2 with ⟨hv, hn⟩ | ⟨g, cap, cur, hv, _⟩
  · have hl := h.1
    rw [eRow_length] at hl
    have : E = [] := List.eq_nil_of_length_eq_zero (by omega)
    subst this
    exact extAt_nil _ _
  · injection hv with hp _ hc
    subst hp hc
    exact extAt_own h ho
theorem wrsAt_ownV {w : World} {B : Nat} {e : TypeId} {p : Option Addr} {n c : Nat} {L : List Wr} (h : w.ownsRow B e 3 (.slice p n c) n (wRow L)) (ho : WOk L) : WrsAt w p L := by
  rcases h.2 with ⟨hv, hn⟩ | ⟨g, cap, cur, hv, _⟩
  · have hl := h.1
    rw [wRow_length] at hl
    have : L = [] := List.eq_nil_of_length_eq_zero (by omega)
    subst this
    exact wrsAt_nil _ _
  · injection hv with hp _ hc
    subst hp hc
    exact wrsAt_own h ho
/-- a disk whose rows are the call's own -/
structure OwnD (W : World) (B : Nat) (D : Dsk) (v : DVal) : Prop where
  hE : v.nE = D.E.length
  E : W.ownsRow B 58 2 (.slice v.pE v.nE v.cE) v.nE (eRow D.E)
  hW : v.nW = D.W.length
  W : W.ownsRow B 63 3 (.slice v.pW v.nW v.cW) v.nW (wRow D.W)
  okE : EOk D.E
  okW : WOk D.W
  lim : Lim D
  apart : ∀ a b : Addr, v.pE = some a → v.pW = some b → a.block ≠ b.block
theorem OwnD.at {W : World} {B : Nat} {D : Dsk} {v : DVal} (h : OwnD W B D v) : VarAt W D v := ⟨h.hE, extAt_ownV h.E h.okE, h.hW, wrsAt_ownV h.W h.okW, h.lim⟩
theorem own_aboveV {w : World} {B : Nat} {e : TypeId} {s n c m : Nat} {p : Option Addr} {xs : List Value} (h : w.ownsRow B e s (.slice p n c) m xs) : ∀ a, p = some a → B ≤ a.block ∧ a.block < w.heap.size := fun a e => by
  subst e
  exact h.lt a.block rfl
theorem own_capV {w : World} {B : Nat} {e : TypeId} {s n c : Nat} {p : Option Addr} {xs : List Value} (h : w.ownsRow B e s (.slice p n c) n xs) : n ≤ c := by
  rcases h.2 with ⟨hv, hn⟩ | ⟨g, cap, cur, hv, _, _, hnc, _⟩
  · omega
  · injection hv with _ _ hc; omega
theorem OwnD.above {W : World} {B : Nat} {D : Dsk} {v : DVal} (h : OwnD W B D v) : v.above B := ⟨fun a e => (own_aboveV h.E a e).1, fun a e => (own_aboveV h.W a e).1⟩
theorem OwnD.below {w w' : World} {B : Nat} {D : Dsk} {v : DVal} (h : OwnD w B D v) (hb : Below w.heap.size w w') : OwnD w' B D v := ⟨h.hE, own_below h.E hb, h.hW, own_below h.W hb, h.okE, h.okW, h.lim, h.apart⟩
theorem OwnD.base {w : World} {B B' : Nat} {D : Dsk} {v : DVal} (h : OwnD w B D v) (hb : B' ≤ B) : OwnD w B' D v := ⟨h.hE, own_base h.E hb, h.hW, own_base h.W hb, h.okE, h.okW, h.lim, h.apart⟩
theorem OwnD.bar {w w' : World} {B : Nat} {D : Dsk} {v : DVal} {p : Nat → Prop} (h : OwnD w B D v) (hb : Bar w w' p) (hp : ∀ a, v.pE = some a ∨ v.pW = some a → ¬ p a.block) : OwnD w' B D v :=
  ⟨h.hE, own_bar h.E hb (fun g e => by
    cases hpe : v.pE with
    | none => rw [hpe] at e; simp [Value.ownBlock] at e
    | some a => rw [hpe] at e; simp only [Value.ownBlock, Option.some.injEq] at e; rw [← e]; exact hp a (.inl hpe)), h.hW, own_bar h.W hb (fun g e => by
    cases hpe : v.pW with
    | none => rw [hpe] at e; simp [Value.ownBlock] at e
    | some a => rw [hpe] at e; simp only [Value.ownBlock, Option.some.injEq] at e; rw [← e]; exact hp a (.inr hpe)), h.okE, h.okW, h.lim, h.apart⟩
theorem eRow_ones (E : List Ext) : ∀ u ∈ eRow E, u.oneCell' = true := List.all_eq_true.1 (eRow_one E)
theorem wRow_ones (L : List Wr) : ∀ u ∈ wRow L, u.oneCell' = true := by
  intro u hu
  obtain ⟨x, _, h⟩ := List.mem_flatMap.1 hu
  simp only [List.mem_cons, List.not_mem_nil, or_false] at h
  rcases h with rfl | rfl | rfl <;> rfl
/-- what a copy may hold -/
structure Few (D : Dsk) : Prop where
  e : D.E.length ≤ 4398046511104
  w : D.W.length ≤ 3518437208883
theorem info_wrD : (Try.prog.info? 63).map (fun i => (i.zero, i.size, i.bytes)) = some (some (.agg #[.string ⟨#[]⟩, .int .i64 0, .string ⟨#[]⟩]), 3, 40) := by kernel_rfl
end Go.Proofs.Ytejmbbhbimgheaa.Dk
namespace Go.Proofs.Ytejmbbhbimgheaa.Dk
open Go.RowKit Go.Op Rw

def CpP (w : World) (D : Dsk) (e : Ending) (w' : World) : Prop := ∃ v : DVal, e = .returned (.agg #[.int .i64 D.size, .slice v.pE v.nE v.cE, .slice v.pW v.nW v.cW, .int .i64 D.fuse, .bool D.down]) ∧ OwnD w' w.heap.size D v ∧ Below w.heap.size w w'
set_option maxHeartbeats 8000000 in
set_option maxRecDepth 100000 in
theorem rCopy_any (D : Dsk) (v : DVal) (w : World) (h : VarAt w D v) (hf : Few D) :
    Calls Try.prog 5 #[.agg #[.int .i64 D.size, .slice v.pE v.nE v.cE, .slice v.pW v.nW v.cW, .int .i64 D.fuse, .bool D.down]] w (CpP w D) := by
  obtain ⟨i0, hi, hz0, hz1, hz2⟩ := info_parts info_ext
  obtain ⟨i1, hi1, hy0, hy1, hy2⟩ := info_parts info_wr
  have okE := Lib.hid h.E.ok; have okW := Lib.hid h.W.ok; have LM := Lib.hid h.lim
  obtain ⟨pE, nE, cE, pW, nW, cW⟩ := v
  obtain ⟨z, E, L, fz, dn⟩ := D
  have hnE : nE = E.length := h.hE
  have hnW : nW = L.length := h.hW
  have hmE : nE ≤ 4398046511104 := by rw [hnE]; exact hf.e
  have hmW : nW ≤ 3518437208883 := by rw [hnW]; exact hf.w
  obtain ⟨W1, hW1⟩ : ∃ W1, W1 = w.alloc (.cells #[.int .i64 z, .slice pE nE cE, .slice pW nW cW, .int .i64 fz, .bool dn] 25) := ⟨_, rfl⟩
  obtain ⟨W2, hW2⟩ : ∃ W2, W2 = W1.alloc (.cells #[.int .i64 0, .slice none 0 0, .slice none 0 0, .int .i64 0, .bool false] 25) := ⟨_, rfl⟩
  obtain ⟨W3, hW3⟩ : ∃ W3, W3 = W2.alloc (.cells #[] 58) := ⟨_, rfl⟩
  have s1 : W1.heap.size = w.heap.size + 1 := by rw [hW1]; simp
  have s2 : W2.heap.size = w.heap.size + 1 + 1 := by rw [hW2]; simp [s1]
  have a0 : Below w.heap.size w W1 := by rw [hW1]; exact (Below.refl _ _).alloc (Nat.le_refl _) _
  have a1 : Below W1.heap.size W1 W2 := by rw [hW2]; exact (Below.refl _ _).alloc (Nat.le_refl _) _
  have a2 : Below W2.heap.size W2 W3 := by rw [hW3]; exact (Below.refl _ _).alloc (Nat.le_refl _) _
  have t0 : Below w.heap.size w W3 := (a0.trans (a1.mono a0.size)).trans (a2.mono (Nat.le_trans a0.size a1.size))
  have bx : Boxed W3 w.heap.size [.int .i64 z, .slice pE nE cE, .slice pW nW cW, .int .i64 fz, .bool dn] := by
    have := Boxed.new w #[.int .i64 z, .slice pE nE cE, .slice pW nW cW, .int .i64 fz, .bool dn] 25
    rw [← hW1] at this
    exact (this.below a1).below a2
  have by1 : Boxed W3 (w.heap.size + 1) [.int .i64 0, .slice none 0 0, .slice none 0 0, .int .i64 0, .bool false] := by
    have := Boxed.new W1 #[.int .i64 0, .slice none 0 0, .slice none 0 0, .int .i64 0, .bool false] 25
    rw [← hW2, s1] at this
    exact this.below a2
  have own0 : W3.ownsRow (w.heap.size + 1 + 1) 58 2 (.slice (some ⟨w.heap.size + 1 + 1, 0, none⟩) 0 0) 0 [] := by
    have := World.ownsRow_lit (e := 58) (base := w.heap.size + 1 + 1) (size := 2) W2 #[] 0 (by omega) (by decide) rfl
    rw [← hW3, s2] at this
    exact this
  have rdE : Rd W3 pE (eRow E) := (h.E.below t0).rd
  have rdW : Rd W3 pW (wRow L) := (h.W.below t0).rd
  have hlE : (eRow E).length = nE * 2 := by rw [eRow_length, hnE]
  have hlW : (wRow L).length = nW * 3 := by rw [wRow_length, hnW]
  have T0 := Lib.hid t0; have HW1 := Lib.hid hW1; have HW2 := Lib.hid hW2; have HW3 := Lib.hid hW3; have HBX := Lib.hid bx; have HBY := Lib.hid by1; have S2 := Lib.hid s2; have HNE := Lib.hid hnE; have HNW := Lib.hid hnW; have RW := Lib.hid rdW; have HRW : Hid (∀ W, Below w.heap.size w W → Rd W pW (wRow L)) := Lib.hid (fun W hb => (h.W.below hb).rd)
  have HOWN : Hid ((((w.alloc (.cells #[.int .i64 z, .slice pE nE cE, .slice pW nW cW, .int .i64 fz, .bool dn] 25)).alloc (.cells #[.int .i64 0, .slice none 0 0, .slice none 0 0, .int .i64 0, .bool false] 25)).alloc (.cells #[] 58)).ownsRow (w.heap.size + 1 + 1) 58 2 (.slice (some ⟨w.heap.size + 1 + 1, 0, none⟩) 0 0) 0 []) := Lib.hid (by rw [← hW1, ← hW2, ← hW3]; exact own0)
  have RDE : Hid (Rd (((w.alloc (.cells #[.int .i64 z, .slice pE nE cE, .slice pW nW cW, .int .i64 fz, .bool dn] 25)).alloc (.cells #[.int .i64 0, .slice none 0 0, .slice none 0 0, .int .i64 0, .bool false] 25)).alloc (.cells #[] 58)) pE (eRow E)) := Lib.hid (by rw [← hW1, ← hW2, ← hW3]; exact rdE)
  clear h hf hnE hnW a0 a1 a2 t0 bx by1 hW1 hW2 hW3 s1 s2 own0 rdE rdW
  simp only
  go_enter Try.func5, Try.ntmps5
  go_wp2_with (at_builtin; refine appendRd rfl _ _ 22 rfl (w.heap.size + 1 + 1) 58 i0 (.agg #[.string ⟨#[]⟩, .string ⟨#[]⟩]) 2 32 Try.underlying22 hi hz0 hz1 hz2 rfl (by decide) (w.heap.size + 1 + 1) 0 0 [] rfl HOWN.out pE nE cE (eRow E) rfl RDE.out hlE (eRow_ones E) (by unfold maxLen; omega) (by omega) (by simp <;> omega) ?_)
  rw [← HW1.out, ← HW2.out, ← HW3.out]
  intro g cap w1 hown1 _ _ hgl hb1
  have hg1 := hown1.lt g rfl
  have x1 := HBX.out.belowB hb1 (by omega)
  have y1 := HBY.out.belowB hb1 (by omega)
  have l1 : w.heap.size + 1 < w1.heap.size := y1.lt
  have l0 : w.heap.size < w1.heap.size := by omega
  have ne0 : ¬ (w.heap.size = w1.heap.size) := by omega
  have ne1 : ¬ (w1.heap.size = w.heap.size) := by omega
  have hB1 : Below w.heap.size w w1 := T0.out.trans (hb1.mono (by omega))
  obtain ⟨S1, hS1⟩ : ∃ S1, S1 = w1.setCell ⟨w.heap.size, 1, none⟩ (.slice (some ⟨g, 0, none⟩) nE cap) := ⟨_, rfl⟩
  obtain ⟨W4, hW4⟩ : ∃ W4, W4 = S1.alloc (.cells #[] 63) := ⟨_, rfl⟩
  have z1 : S1.heap.size = w1.heap.size := by rw [hS1]; simp
  have c1 : Bar w1 S1 (fun k => k = w.heap.size) := by rw [hS1]; exact (Bar.refl _ (fun k => k = w.heap.size)).setCell rfl _
  have c2 : Below S1.heap.size S1 W4 := by rw [hW4]; exact (Below.refl _ _).alloc (Nat.le_refl _) _
  have x4 : Boxed W4 w.heap.size [.int .i64 z, .slice (some ⟨g, 0, none⟩) nE cap, .slice pW nW cW, .int .i64 fz, .bool dn] := by
    have := x1.set (i := 1) (by simp) (.slice (some ⟨g, 0, none⟩) nE cap)
    rw [← hS1] at this
    exact this.below c2
  have y4 : Boxed W4 (w.heap.size + 1) [.int .i64 0, .slice none 0 0, .slice none 0 0, .int .i64 0, .bool false] := (y1.bar c1 (by omega)).below c2
  have r4 : W4.ownsRow (w.heap.size + 1 + 1) 58 2 (.slice (some ⟨g, 0, none⟩) nE cap) nE (eRow E) := own_below (own_bar hown1 c1 (fun k e => by simp [Value.ownBlock] at e; omega)) c2
  have hB4 : Below (w.heap.size) w W4 := by
    rw [hW4, hS1]
    exact (hB1.setCell (p := ⟨w.heap.size, 1, none⟩) (Nat.le_refl _) _).alloc (by simp; omega) _
  have o4 : W4.ownsRow (w.heap.size + 1 + 1) 63 3 (.slice (some ⟨w1.heap.size, 0, none⟩) 0 0) 0 [] := by
    have := World.ownsRow_lit (e := 63) (base := w.heap.size + 1 + 1) (size := 3) S1 #[] 0 (by omega) (by decide) rfl
    rw [← hW4, z1] at this
    exact this
  have s4 : W4.heap.size = w1.heap.size + 1 := by rw [hW4]; simp [z1]
  have d4 : Rd W4 pW (wRow L) := by
    have hb : Below (w.heap.size + 1 + 1) W3 w1 := hb1
    have := RW.out
    exact (HRW.out _ hB4)
  have u0 : w1.cell? ⟨w.heap.size, 0, none⟩ = some (.int .i64 z) := x1.cell 0 (by simp)
  have u1 : w1.cell? ⟨w.heap.size, 1, none⟩ = some (.slice pE nE cE) := x1.cell 1 (by simp)
  have u2 : w1.cell? ⟨w.heap.size, 2, none⟩ = some (.slice pW nW cW) := x1.cell 2 (by simp)
  have f1 : w1.frozen? ⟨w.heap.size, 1, none⟩ = false := x1.free 1 (by simp)
  have X4 := Lib.hid x4; have Y4 := Lib.hid y4; have R4 := Lib.hid r4; have B4 := Lib.hid hB4; have SZ4 := Lib.hid s4; have HS1 := Lib.hid hS1; have HW4 := Lib.hid hW4
  have HG1 := Lib.hid hg1
  have HOW2 : Hid (((w1.setCell ⟨w.heap.size, 1, none⟩ (.slice (some ⟨g, 0, none⟩) nE cap)).alloc (.cells #[] 63)).ownsRow (w.heap.size + 1 + 1) 63 3 (.slice (some ⟨w1.heap.size, 0, none⟩) 0 0) 0 []) := Lib.hid (by rw [← hS1, ← hW4]; exact o4)
  have RD2 : Hid (Rd ((w1.setCell ⟨w.heap.size, 1, none⟩ (.slice (some ⟨g, 0, none⟩) nE cap)).alloc (.cells #[] 63)) pW (wRow L)) := Lib.hid (by rw [← hS1, ← hW4]; exact d4)
  clear hown1 hgl hb1 hg1 x1 y1 hB1 c1 c2 x4 y4 r4 hB4 o4 d4 hS1 hW4 z1 s4
  go_wp2_with (at_builtin; refine appendRd rfl _ _ 23 rfl (w.heap.size + 1 + 1) 63 i1 (.agg #[.string ⟨#[]⟩, .int .i64 0, .string ⟨#[]⟩]) 3 40 Try.underlying23 hi1 hy0 hy1 hy2 rfl (by decide) w1.heap.size 0 0 [] rfl HOW2.out pW nW cW (wRow L) rfl RD2.out hlW (wRow_ones L) (by unfold maxLen; omega) (by omega) (by simp <;> omega) ?_)
  rw [← HS1.out, ← HW4.out]
  intro g2 cap2 w2 hown2 hgr hgl2 hl2 hb2
  have x5 := X4.out.belowB hb2 (by omega)
  have y5 := Y4.out.belowB hb2 (by omega)
  have hg2 := hown2.lt g2 rfl
  have hbar : Bar W4 w2 (fun k => k = w1.heap.size) := ⟨hgr.os, hgr.tape, hgr.output, hgr.size, fun k hk hp => hgr.block k hk (fun e => hp (by injection e))⟩
  have r5 := own_bar R4.out hbar (fun k e => by have := HG1.out; simp [Value.ownBlock] at e; omega)
  have B5 : Below w.heap.size w w2 := B4.out.trans (hb2.mono (by omega))
  have HFin : Hid (∀ W, Bar w2 W (fun k => k = w.heap.size ∨ k = w.heap.size + 1) → CpP w ⟨z, E, L, fz, dn⟩ (.returned (.agg #[.int .i64 z, .slice (some ⟨g, 0, none⟩) nE cap, .slice (some ⟨g2, 0, none⟩) nW cap2, .int .i64 fz, .bool dn])) W) := Lib.hid (fun W hb => by
    have hq1 := HG1.out
    refine ⟨⟨some ⟨g, 0, none⟩, nE, cap, some ⟨g2, 0, none⟩, nW, cap2⟩, rfl, ⟨HNE.out, own_base (own_bar r5 hb (fun k e h => ?_)) (by omega), HNW.out, own_base (own_bar hown2 hb (fun k e h => ?_)) (by omega), okE.out, okW.out, LM.out, ?_⟩, B5.trans (hb.below (B := w.heap.size) (fun k _ h => by omega) B5.size)⟩
    · simp [Value.ownBlock] at e; omega
    · simp [Value.ownBlock] at e; omega
    · intro a b ea eb
      cases ea; cases eb
      show g ≠ g2
      omega)
  have p0 : w2.cell? ⟨w.heap.size, 0, none⟩ = some (.int .i64 z) := x5.cell 0 (by simp)
  have p1 : w2.cell? ⟨w.heap.size, 1, none⟩ = some (.slice (some ⟨g, 0, none⟩) nE cap) := x5.cell 1 (by simp)
  have p2 : w2.cell? ⟨w.heap.size, 2, none⟩ = some (.slice pW nW cW) := x5.cell 2 (by simp)
  have p3 : w2.cell? ⟨w.heap.size, 3, none⟩ = some (.int .i64 fz) := x5.cell 3 (by simp)
  have p4 : w2.cell? ⟨w.heap.size, 4, none⟩ = some (.bool dn) := x5.cell 4 (by simp)
  have e2 : w2.frozen? ⟨w.heap.size, 2, none⟩ = false := x5.free 2 (by simp)
  have q0 : w2.cell? ⟨w.heap.size + 1, 0, none⟩ = some (.int .i64 0) := y5.cell 0 (by simp)
  have q1 : w2.cell? ⟨w.heap.size + 1, 1, none⟩ = some (.slice none 0 0) := y5.cell 1 (by simp)
  have q2 : w2.cell? ⟨w.heap.size + 1, 2, none⟩ = some (.slice none 0 0) := y5.cell 2 (by simp)
  have q3 : w2.cell? ⟨w.heap.size + 1, 3, none⟩ = some (.int .i64 0) := y5.cell 3 (by simp)
  have q4 : w2.cell? ⟨w.heap.size + 1, 4, none⟩ = some (.bool false) := y5.cell 4 (by simp)
  have k0 : w2.frozen? ⟨w.heap.size + 1, 0, none⟩ = false := y5.free 0 (by simp)
  have k1 : w2.frozen? ⟨w.heap.size + 1, 1, none⟩ = false := y5.free 1 (by simp)
  have k2 : w2.frozen? ⟨w.heap.size + 1, 2, none⟩ = false := y5.free 2 (by simp)
  have k3 : w2.frozen? ⟨w.heap.size + 1, 3, none⟩ = false := y5.free 3 (by simp)
  have k4 : w2.frozen? ⟨w.heap.size + 1, 4, none⟩ = false := y5.free 4 (by simp)
  clear x5 y5 hg2 hbar r5 B5 hown2 hgr hgl2 hl2 hb2 u0 u1 u2 f1
  go_wp2_with fail
  (try simp only [Exit.inBlock, Exit.then])
  refine bodyPost_ret (v := .agg #[.int .i64 z, .slice (some ⟨g, 0, none⟩) nE cap, .slice (some ⟨g2, 0, none⟩) nW cap2, .int .i64 fz, .bool dn]) ?_ rfl ?_
  · simp only [results, Try.results5]
    go_simp
  · refine HFin.out _ ?_
    repeat (first | exact Bar.refl _ _ | refine Bar.setCell ?_ (by first | exact Or.inl rfl | exact Or.inr rfl) _)
end Go.Proofs.Ytejmbbhbimgheaa.Dk

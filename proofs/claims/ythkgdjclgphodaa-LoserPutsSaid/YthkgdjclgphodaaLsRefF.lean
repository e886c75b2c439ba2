/- The document's Put. -/
import Derived.Test.YthkgdjclgphodaaLsRefE
namespace Go.Proofs.Ythkgdjclgphodaa.Ls
open Go.RowKit Rw Nm

/-- a key of a copy that is at work -/
def KeyEl (w : World) (B g bo : Nat) (x : List Nat) (u : Value) : Prop :=
  ∃ (q : Option Addr) (c : Nat), u = .slice q x.length c ∧ Rd w q (nums x) ∧ x.length ≤ 17592186044416 ∧ ∀ a, q = some a → B ≤ a.block ∧ a.block < w.heap.size ∧ a.block ≠ g ∧ a.block ≠ bo
/-- the keys of a copy that is at work, in the box bo -/
def KW (B : Nat) (w : World) (g ck bo : Nat) (K : Keys) : Prop :=
  g ≠ bo ∧ ∃ V : List Value, w.ownsRow B 32 1 (.slice (some ⟨g, 0, none⟩) K.length ck) K.length V ∧ V.length = K.length ∧ ∀ i, i < K.length → KeyEl w B g bo (K.getD i []) (V.getD i (.bool false))
theorem KeyEl.bar {w w' : World} {B g bo : Nat} {x : List Nat} {u : Value} {p : Nat → Prop} (h : KeyEl w B g bo x u) (hb : Bar w w' p) (hp : ∀ k, p k → k = g ∨ k = bo ∨ k < B) : KeyEl w' B g bo x u := by
  obtain ⟨q, c, rfl, hr, hl, ho⟩ := h
  refine ⟨q, c, rfl, Rd.bar hr hb (fun a e h => ?_), hl, fun a e => ⟨(ho a e).1, Nat.lt_of_lt_of_le (ho a e).2.1 hb.size, (ho a e).2.2⟩⟩
  obtain ⟨o1, o2, o3, o4⟩ := ho a e
  rcases hp _ h with h | h | h
  · exact o3 h
  · exact o4 h
  · omega
theorem KW.bar {B : Nat} {w w' : World} {g ck bo : Nat} {K : Keys} {p : Nat → Prop} (h : KW B w g ck bo K) (hb : Bar w w' p) (hp : ∀ k, p k → k = bo ∨ k < B) : KW B w' g ck bo K := by
  obtain ⟨hne, V, hrow, hl, he⟩ := h
  refine ⟨hne, V, own_bar hrow hb (fun k e h => ?_), hl, fun i hi => (he i hi).bar hb (fun k h => (hp k h).imp_right id |> fun h => .inr h)⟩
  have e2 : g = k := by simpa [Value.ownBlock] using e
  have h3 := (hrow.lt g rfl).1
  rcases hp k h with h | h <;> omega
theorem KW.below {B : Nat} {w w' : World} {g ck bo : Nat} {K : Keys} (h : KW B w g ck bo K) (hb : Below w.heap.size w w') : KW B w' g ck bo K := h.bar (Bar.of_below hb (fun _ => False)) (fun _ h => h.elim)
theorem KW.recs {B : Nat} {w : World} {g ck bo : Nat} {K : Keys} (h : KW B w g ck bo K) : RecsAt w (some ⟨g, 0, none⟩) K := fun i hi => by
  obtain ⟨_, V, hrow, hl, he⟩ := h
  obtain ⟨q, c, e, hr, hxl, _⟩ := he i hi
  obtain ⟨a, ea, hlt, hc⟩ := (Rd.of_own hrow) i (by rw [hl]; exact hi)
  rw [e] at hc
  exact ⟨a, q, c, ea, hlt, hc, hr, by omega⟩
theorem KW.set {B : Nat} {w : World} {g ck bo i c' : Nat} {K : Keys} {x : List Nat} {q' : Option Addr} (h : KW B w g ck bo K) (hi : i < K.length) (hr : Rd w q' (nums x)) (hxl : x.length ≤ 17592186044416)
    (hn : ∀ a, q' = some a → B ≤ a.block ∧ a.block < w.heap.size ∧ a.block ≠ g ∧ a.block ≠ bo) :
    ((∃ u, w.cell? ⟨g, i, none⟩ = some u) ∧ w.frozen? ⟨g, i, none⟩ = false) ∧ KW B (w.setCell ⟨g, i, none⟩ (.slice q' x.length c')) g ck bo (K.set i x) := by
  have hrec := h.recs i hi
  obtain ⟨hne, V, hrow, hl, he⟩ := h
  obtain ⟨a, q0, c0, ea, _, hc0, _⟩ := hrec
  cases ea
  have hb : Bar w (w.setCell ⟨g, i, none⟩ (.slice q' x.length c')) (fun k => k = g) := (Bar.refl w (fun k => k = g)).setCell rfl _
  refine ⟨⟨⟨_, by rw [Addr.add_lit, Nat.zero_add] at hc0; exact hc0⟩, hrow.frozenAt i⟩, hne, V.set i (.slice q' x.length c'), ?_, by simp [hl], fun j hj => ?_⟩
  · rw [List.length_set]; exact (hrow.stored i (.slice q' x.length c')).1
  · rw [List.length_set] at hj
    by_cases e : i = j
    · subst e
      rw [show (K.set i x).getD i [] = x by simp [List.getD_eq_getElem?_getD, hj], show (V.set i (.slice q' x.length c')).getD i (.bool false) = .slice q' x.length c' by simp [List.getD_eq_getElem?_getD, hl, hj]]
      exact ⟨q', c', rfl, Rd.bar hr hb (fun a e => (hn a e).2.2.1), hxl, fun a e => ⟨(hn a e).1, by simpa using (hn a e).2.1, (hn a e).2.2⟩⟩
    · rw [show (K.set i x).getD j [] = K.getD j [] by simp [List.getD_eq_getElem?_getD, List.getElem?_set_ne e], show (V.set i (.slice q' x.length c')).getD j (.bool false) = V.getD j (.bool false) by simp [List.getD_eq_getElem?_getD, List.getElem?_set_ne e]]
      exact (he j hj).bar hb (fun k h => .inl h)
/-- Copy's answer, at work -/
theorem CopyP.kw {w w' : World} {K : Keys} {T : List Int} {e : Ending} (h : CopyP w K T e w') (h1 : 0 < K.length) :
    ∃ (g ck : Nat) (q : Option Addr) (d : Nat), e = .returned (.agg #[.slice (some ⟨g, 0, none⟩) K.length ck, .slice q T.length d]) ∧ KW w.heap.size w' g ck w'.heap.size K ∧ (∀ a, q = some a → w.heap.size ≤ a.block) ∧ Rd w' q (zs T) ∧ Below w.heap.size w w' := by
  obtain ⟨pk, ck, V, q, d, bo, rfl, hrow, ⟨hl, he⟩, hrt, hq, hb⟩ := h
  rcases hrow.2 with ⟨e, h0⟩ | ⟨g, cap, cur, e, _, hh, _⟩
  · simp only [Value.slice.injEq] at e; omega
  · simp only [Value.slice.injEq] at e
    obtain ⟨rfl, _, rfl⟩ := e
    have hgl : g < w'.heap.size := (Array.getElem?_eq_some_iff.1 hh).1
    refine ⟨g, ck, q, d, rfl, ⟨by omega, V, hrow, hl, fun i hi => ?_⟩, fun a e => (hq a e).1, hrt, hb⟩
    obtain ⟨q', c', e, hr, hxl, ho⟩ := he i hi
    refine ⟨q', c', e, hr, hxl, fun a e => ?_⟩
    obtain ⟨o1, o2, o3, o4⟩ := ho a e
    exact ⟨o1, o2, fun e2 => o4 (by rw [e2]; rfl), by omega⟩

section
variable {K : Keys} {T : List Int} {p q qx : Option Addr} {c d dx : Nat} {w : World} {x : List Nat}
set_option maxHeartbeats 8000000 in
set_option maxRecDepth 100000 in
theorem rput_any (h : LsAt w p K q T) (hkb : Kb K) (hx : Rd w qx (nums x)) (hxl : x.length ≤ 17592186044416) :
    Calls Try.prog 16 #[.agg #[.slice p K.length c, .slice q T.length d], .slice qx x.length dx] w fun e w' => TrP w (apK K T x) (apE K T x) e w' := by
  obtain ⟨i1, hi1, hy0, hy1, hy2⟩ := info_parts info_u64
  obtain ⟨n, hn⟩ : ∃ n, n = K.length := ⟨_, rfl⟩
  obtain ⟨m, hm⟩ : ∃ m, m = T.length := ⟨_, rfl⟩
  obtain ⟨W1, hW1⟩ : ∃ W1, W1 = w.alloc (.cells #[.slice p n c, .slice q m d] 25) := ⟨_, rfl⟩
  obtain ⟨W0, hW0⟩ : ∃ W0, W0 = W1.alloc (.cells #[.slice none 0 0, .slice none 0 0] 25) := ⟨_, rfl⟩
  have s1 : W1.heap.size = w.heap.size + 1 := by rw [hW1]; simp
  have a0 : Below w.heap.size w W1 := by rw [hW1]; exact (Below.refl _ _).alloc (Nat.le_refl _) _
  have a1 : Below W1.heap.size W1 W0 := by rw [hW0]; exact (Below.refl _ _).alloc (Nat.le_refl _) _
  have t0 : Below w.heap.size w W0 := a0.trans (a1.mono a0.size)
  have bx : Bx W0 w.heap.size [.slice p n c, .slice q m d] := by
    have := Bx.new w #[.slice p n c, .slice q m d] 25
    rw [← hW1] at this
    exact this.below a1
  have by1 : Bx W0 (w.heap.size + 1) [.slice none 0 0, .slice none 0 0] := by
    have := Bx.new W1 #[.slice none 0 0, .slice none 0 0] 25
    rw [← hW0, s1] at this
    exact this
  have HTo := Lib.hid (rtop_any (c := c) (d := d) (h.below t0) hkb)
  obtain ⟨lx, hlx⟩ : ∃ lx, lx = x.length := ⟨_, rfl⟩
  rw [← hn, ← hm] at HTo ⊢
  rw [← hlx]
  have u0 : W0.cell? ⟨w.heap.size, 0, none⟩ = some (.slice p n c) := bx.cell 0 (by simp)
  have u1 : W0.cell? ⟨w.heap.size, 1, none⟩ = some (.slice q m d) := bx.cell 1 (by simp)
  have T0 := Lib.hid t0; have HW0 := Lib.hid hW0; have HW1 := Lib.hid hW1; have HBX := Lib.hid bx; have HBY := Lib.hid by1
  rcases chk_cases K T with ⟨h0, hK, hT⟩ | h2
  case inr =>
    have hE : topE K T = 2 := by unfold topE; rw [h2]; rfl
    have hI : topI K T = 0 := by unfold topI; rw [if_neg (by rw [hE]; decide)]
    have hKK : topK K T = [] := by unfold topK; rw [if_neg (by rw [hE]; decide)]
    have hA : apE K T x = 2 := by unfold apE; rw [h2]; rfl
    have hA2 : apK K T x = [] := by unfold apK; rw [h2]; rfl
    rw [hA, hA2]
    clear h hn hm t0 bx by1 h2 hW0 hW1 hx hxl hkb a0 a1 s1 hA hA2 hlx
    go_enter Try.func16, Try.ntmps16
    go_wp2_with fail
    rw [← HW1.out, ← HW0.out]
    refine HTo.out.mono ?_
    rintro e w1 ⟨q1, c1, rfl, _, b1⟩
    rw [hE, hI, hKK]
    have B := Lib.hid (T0.out.trans (b1.mono T0.out.size))
    have e1 := HBY.out.below b1
    have p0 : w1.cell? ⟨w.heap.size + 1, 0, none⟩ = some (.slice none 0 0) := e1.cell 0 (by simp)
    have p1 : w1.cell? ⟨w.heap.size + 1, 1, none⟩ = some (.slice none 0 0) := e1.cell 1 (by simp)
    have f0 : w1.frozen? ⟨w.heap.size + 1, 0, none⟩ = false := e1.free 0 (by simp)
    have f1 : w1.frozen? ⟨w.heap.size + 1, 1, none⟩ = false := e1.free 1 (by simp)
    clear b1 e1
    go_wp2_with fail
    (try simp only [Exit.inBlock, Exit.then])
    refine bodyPost_ret (v := .tuple #[.agg #[.slice none 0 0, .slice none 0 0], .int .i64 2]) ?_ rfl ?_
    · rw [results_cell_tmp rfl]
      go_simp
    · exact tr_no 2 ((B.out.setCell (p := ⟨w.heap.size + 1, 0, none⟩) (by simp) _).setCell (p := ⟨w.heap.size + 1, 1, none⟩) (by simp) _)
  case inl =>
    have hA : apE K T x = pe K x := if_pos h0
    have hA2 : apK K T x = pk K x := if_pos h0
    rw [hA, hA2]
    have hTl : T.length = K.length := by rw [hT, up_length, build_length]
    obtain rfl : m = n := by omega
    obtain ⟨i, hi⟩ : ∃ i, i = wn K 1 := ⟨_, rfl⟩
    have hik : i < K.length := by rw [hi]; exact wn_lt (by omega) (by omega)
    have HC : Hid (∀ W, Below w.heap.size w W → Calls Try.prog 12 #[.agg #[.slice p m c, .slice q m d]] W fun e w' => CopyP W K T e w') := Lib.hid fun W hW => by
      have := copy_any (c := c) (d := d) (h.below hW) hkb (by omega) (by omega)
      rw [← hn, ← hm] at this
      exact this
    have HX : Hid (∀ W, Below w.heap.size w W → Rd W qx (nums x)) := Lib.hid fun W hW => hx.below hW
    have HKI := Lib.hid (hkb i hik)
    have FE : Hid (topE K T = if kat K i = [] then 3 else 0) := Lib.hid (by unfold topE; rw [if_pos h0, ← hi])
    have FI : Hid (topE K T = 0 → topI K T = (i : Nat) ∧ topK K T = kat K i) := Lib.hid fun e => by unfold topI topK; rw [if_pos e, if_pos e, ← hi]; exact ⟨rfl, rfl⟩
    have FZ : Hid (topE K T ≠ 0 → topI K T = 0 ∧ topK K T = []) := Lib.hid fun e => by unfold topI topK; rw [if_neg e, if_neg e]; exact ⟨rfl, rfl⟩
    have HT := Lib.hid hT; have HN := Lib.hid hn; have HM := Lib.hid hm; have HI := Lib.hid hi; have HLX := Lib.hid hlx; have HXL := Lib.hid hxl
    have h1 := hK.1
    have h2 := hK.2
    rw [← hn] at h1 h2 hik
    have S1 := Lib.hid s1
    clear h hn hm t0 bx by1 h0 hW0 hW1 hx hxl hkb a0 a1 s1 hA hA2 hlx hT hTl hK hi
    by_cases hk : kat K i = []
    · have hE : topE K T = 3 := by rw [FE.out, if_pos hk]
      obtain ⟨hI, hKK⟩ := FZ.out (by rw [hE]; decide)
      have hpe : pe K x = 3 := by unfold pe; rw [← HI.out, if_pos hk]
      have hpk : pk K x = K := by unfold pk; rw [if_neg (by rw [hpe]; decide)]
      rw [hpe, hpk]
      clear hk FE FI FZ hpe hpk
      go_enter Try.func16, Try.ntmps16
      go_wp2_with fail
      rw [← HW1.out, ← HW0.out]
      refine HTo.out.mono ?_
      rintro e w1 ⟨q1, c1, rfl, _, b1⟩
      rw [hE, hI, hKK]
      have B1 := Lib.hid (T0.out.trans (b1.mono T0.out.size))
      have X1 := HBX.out.below b1
      have Y1 := Lib.hid (HBY.out.below b1)
      have v0 : w1.cell? ⟨w.heap.size, 0, none⟩ = some (.slice p m c) := X1.cell 0 (by simp)
      have v1 : w1.cell? ⟨w.heap.size, 1, none⟩ = some (.slice q m d) := X1.cell 1 (by simp)
      clear b1 X1 u0 u1 HTo
      go_wp2_with fail
      refine (HC.out _ B1.out).mono ?_
      rintro e w2 hcp
      have HCP := Lib.hid hcp
      obtain ⟨g, ck, qt, dt, rfl, hkw, hqt, hrt, b2⟩ := hcp.kw (by rw [← HN.out]; exact h1)
      rw [← HN.out, ← HM.out]
      obtain ⟨w3, hw3⟩ : ∃ w3, w3 = w2.alloc (.cells #[.slice (some ⟨g, 0, none⟩) m ck, .slice qt m dt] 25) := ⟨_, rfl⟩
      have k3 : Below w2.heap.size w2 w3 := by rw [hw3]; exact (Below.refl _ _).alloc (Nat.le_refl _) _
      have x3 := Bx.new w2 #[.slice (some ⟨g, 0, none⟩) m ck, .slice qt m dt] 25
      rw [← hw3] at x3
      have hb23 := b2.trans (k3.mono b2.size)
      have B3 := Lib.hid (B1.out.trans (hb23.mono B1.out.size))
      have X3 := Lib.hid x3; have Y3 := Lib.hid (Y1.out.below hb23); have KW3 := Lib.hid (hkw.below k3); have HW3 := Lib.hid hw3
      have K23 := Lib.hid k3; have B12 := Lib.hid b2
      have X3z := Lib.hid x3
      clear hcp hkw hqt hrt b2 hw3 k3 x3 hb23 v0 v1
      have y2 := Y1.out.below B12.out
      have p0 : w2.cell? ⟨w.heap.size + 1, 0, none⟩ = some (.slice none 0 0) := y2.cell 0 (by simp)
      have p1 : w2.cell? ⟨w.heap.size + 1, 1, none⟩ = some (.slice none 0 0) := y2.cell 1 (by simp)
      have f0 : w2.frozen? ⟨w.heap.size + 1, 0, none⟩ = false := y2.free 0 (by simp)
      have f1 : w2.frozen? ⟨w.heap.size + 1, 1, none⟩ = false := y2.free 1 (by simp)
      have hb1l : w.heap.size + 1 < w2.heap.size := y2.lt
      clear y2
      go_wp2_with fail
      have y1l : w.heap.size + 1 < w1.heap.size := Y1.out.lt
      (try simp only [Exit.inBlock, Exit.then])
      have HF : Hid (∀ W, Bar w2 W (fun _ => False) → ∀ a b o, TrP w K 3 (.returned (.tuple #[.agg #[.slice (some ⟨g, 0, none⟩) m ck, .slice qt m dt], .int .i64 3])) (((W.setCell ⟨w.heap.size + 1, 0, none⟩ a).setCell ⟨w.heap.size + 1, 1, none⟩ b).alloc o)) := Lib.hid (by
        intro W hW a b o
        obtain ⟨pk', ck', q', d', ee, hls, _⟩ := HCP.out.ls (by have := HN.out; omega) (by have := HM.out; omega)
        have e4 : pk' = some ⟨g, 0, none⟩ ∧ ck' = ck ∧ q' = qt ∧ d' = dt := by simp at ee; exact ⟨ee.1.1.symm, ee.1.2.symm, ee.2.1.symm, ee.2.2.symm⟩
        obtain ⟨rfl, rfl, rfl, rfl⟩ := e4
        have hb : Bar w2 (((W.setCell ⟨w.heap.size + 1, 0, none⟩ a).setCell ⟨w.heap.size + 1, 1, none⟩ b).alloc o) (fun k => k = w.heap.size + 1) :=
          ((((hW.mono (fun _ _ h => h.elim) : Bar w2 W (fun k => k = w.heap.size + 1))).setCell (q := ⟨w.heap.size + 1, 0, none⟩) rfl a).setCell (q := ⟨w.heap.size + 1, 1, none⟩) rfl b).trans (Bar.of_below ((Below.refl _ _).alloc (Nat.le_refl _) o) (fun k => k = w.heap.size + 1))
        have hls2 := hls _ _ hb (fun k hk e => by omega)
        rw [HT.out] at hls2
        have hbw2 := B1.out.trans (B12.out.mono B1.out.size)
        have hbw : Below w.heap.size w W := hbw2.trans ((hW.below (fun _ _ h => h.elim) (Nat.le_refl _)).mono hbw2.size)
        have hul : (up (build K)).length = m := by rw [up_length, build_length, ← HN.out]
        have hfin := (hbw.setCell (p := ⟨w.heap.size + 1, 0, none⟩) (by simp) a).setCell (p := ⟨w.heap.size + 1, 1, none⟩) (by simp) b
        exact ⟨_, _, _, _, by rw [hul, ← HN.out], hls2, hfin.alloc hfin.size o⟩)
      refine bodyPost_ret (v := .tuple #[.agg #[.slice (some ⟨g, 0, none⟩) m ck, .slice qt m dt], .int .i64 3]) ?_ rfl ?_
      · rw [results_cell_tmp rfl]
        go_simp
      · exact HF.out _ (Bar.refl _ _) _ _ _
    · have hE : topE K T = 0 := by rw [FE.out, if_neg hk]
      obtain ⟨hI, hKK⟩ := FI.out hE
      obtain ⟨y, hy⟩ : ∃ y, y = kat K i := ⟨_, rfl⟩
      rw [← hy] at hKK
      have HYL : Hid (y.length ≤ 17592186044416) := Lib.hid (by rw [hy]; exact HKI.out)
      have P2 : Hid (x.length ≠ 0 → lexL x y = true → pe K x = 12 ∧ pk K x = K) := Lib.hid fun e1 e2 => by
        have : pe K x = 12 := by
          unfold pe; rw [← HI.out, if_neg hk, ← hy, if_pos ⟨by rw [ne_eq, ← List.length_eq_zero_iff]; exact e1, e2⟩]
        exact ⟨this, by unfold pk; rw [if_neg (by rw [this]; decide)]⟩
      have P3 : Hid ((x.length = 0 ∨ lexL x y = false) → pe K x = 0 ∧ pk K x = K.set i x) := Lib.hid fun e2 => by
        have : pe K x = 0 := by
          unfold pe; rw [← HI.out, if_neg hk, ← hy, if_neg]
          rintro ⟨a1, a2⟩
          rcases e2 with e2 | e2
          · exact a1 (List.length_eq_zero_iff.1 e2)
          · rw [e2] at a2; cases a2
        exact ⟨this, by unfold pk; rw [if_pos this, HI.out]⟩
      clear hk FE FI FZ hy
      rw [← HLX.out] at P2 P3
      by_cases hl : lx = 0
      · obtain ⟨hpe, hpk⟩ := P3.out (.inl hl)
        rw [hpe, hpk]
        have tl : decide (0 < lx) = false := decide_eq_false (by omega)
        clear P2 P3 hl hpe hpk
        go_enter Try.func16, Try.ntmps16
        go_wp2_with fail
        rw [← HW1.out, ← HW0.out]
        refine HTo.out.mono ?_
        rintro e w1 ⟨q1, c1, rfl, hry, b1⟩
        rw [hE, hI, hKK]
        clear hry
        have B1 := Lib.hid (T0.out.trans (b1.mono T0.out.size))
        have X1 := HBX.out.below b1
        have Y1 := Lib.hid (HBY.out.below b1)
        have v0 : w1.cell? ⟨w.heap.size, 0, none⟩ = some (.slice p m c) := X1.cell 0 (by simp)
        have v1 : w1.cell? ⟨w.heap.size, 1, none⟩ = some (.slice q m d) := X1.cell 1 (by simp)
        clear b1 X1 u0 u1 HTo
        go_wp2_with fail
        refine (HC.out _ B1.out).mono ?_
        rintro e w2 hcp
        have HCP := Lib.hid hcp
        obtain ⟨g, ck, qt, dt, rfl, hkw, hqt, hrt, b2⟩ := hcp.kw (by rw [← HN.out]; exact h1)
        rw [← HN.out, ← HM.out]
        obtain ⟨w3, hw3⟩ : ∃ w3, w3 = w2.alloc (.cells #[.slice (some ⟨g, 0, none⟩) m ck, .slice qt m dt] 25) := ⟨_, rfl⟩
        have k3 : Below w2.heap.size w2 w3 := by rw [hw3]; exact (Below.refl _ _).alloc (Nat.le_refl _) _
        have x3 := Bx.new w2 #[.slice (some ⟨g, 0, none⟩) m ck, .slice qt m dt] 25
        rw [← hw3] at x3
        have hb23 := b2.trans (k3.mono b2.size)
        have B3 := Lib.hid (B1.out.trans (hb23.mono B1.out.size))
        have X3 := Lib.hid x3; have Y3 := Lib.hid (Y1.out.below hb23); have KW3 := Lib.hid (hkw.below k3); have HW3 := Lib.hid hw3
        have K23 := Lib.hid k3; have B12 := Lib.hid b2
        have X3z := Lib.hid x3
        clear hcp hkw hqt hrt b2 hw3 k3 x3 hb23 v0 v1
        have y2 := Y1.out.below B12.out
        have p0 : w2.cell? ⟨w.heap.size + 1, 0, none⟩ = some (.slice none 0 0) := y2.cell 0 (by simp)
        have p1 : w2.cell? ⟨w.heap.size + 1, 1, none⟩ = some (.slice none 0 0) := y2.cell 1 (by simp)
        have f0 : w2.frozen? ⟨w.heap.size + 1, 0, none⟩ = false := y2.free 0 (by simp)
        have f1 : w2.frozen? ⟨w.heap.size + 1, 1, none⟩ = false := y2.free 1 (by simp)
        have hb1l : w.heap.size + 1 < w2.heap.size := y2.lt
        clear y2
        go_wp2_with fail
        rw [← HW3.out]
        obtain ⟨V, hV⟩ : ∃ V, V = w3 := ⟨_, rfl⟩
        rw [← hV]
        have hb3 : Below w3.heap.size w3 V := by rw [hV]; exact Below.refl _ _
        have kwV := KW3.out.below hb3
        have xV := X3.out.below hb3
        have yV := Y3.out.below hb3
        have BV := B3.out.trans (hb3.mono B3.out.size)
        have hbol := xV.lt
        have hb1l2 : w.heap.size + 1 < w1.heap.size := Y1.out.lt
        have h12 : w1.heap.size ≤ w2.heap.size := B12.out.size
        have z0 : V.cell? ⟨w2.heap.size, 0, none⟩ = some (.slice (some ⟨g, 0, none⟩) m ck) := xV.cell 0 (by simp)
        have hdr : Below V.heap.size V V.drew := Below.drew (Below.refl _ V)
        have hal : Below V.heap.size V (V.drew.alloc (.cells #[] 52)) := hdr.alloc (Nat.le_refl _) _
        have HOA : Hid ((V.drew.alloc (.cells #[] 52)).ownsRow V.heap.size 52 1 (.slice (some ⟨V.heap.size, 0, none⟩) 0 0) 0 []) := Lib.hid (World.ownsRow_lit (e := 52) (base := V.heap.size) (size := 1) V.drew #[] 0 (Nat.le_refl _) (by decide) rfl)
        have HRA : Hid (Rd (V.drew.alloc (.cells #[] 52)) qx (nums x)) := Lib.hid ((HX.out V BV).below hal)
        have hnl : (nums x).length = lx := by rw [nums_length]; exact HLX.out.symm
        have HLB : Hid (lx ≤ maxLen ∧ lx * 8 ≤ 140737488355328) := Lib.hid (by have := HXL.out; have h2 := HLX.out; exact ⟨by unfold maxLen; omega, by omega⟩)
        have hKl : (K.set i x).length = m := by rw [List.length_set, ← HN.out]
        have HF : Hid (∀ gq cq W, W.ownsRow V.heap.size 52 1 (.slice (some ⟨gq, 0, none⟩) lx cq) lx (nums x) → Below V.heap.size (V.drew.alloc (.cells #[] 52)) W →
            W.cell? ⟨w2.heap.size, 0, none⟩ = some (.slice (some ⟨g, 0, none⟩) m ck) ∧ (∃ u, W.cell? ⟨g, i, none⟩ = some u) ∧ W.frozen? ⟨g, i, none⟩ = false ∧
            Hid (KW w1.heap.size (W.setCell ⟨g, i, none⟩ (.slice (some ⟨gq, 0, none⟩) lx cq)) g ck w2.heap.size (K.set i x) ∧ Bx (W.setCell ⟨g, i, none⟩ (.slice (some ⟨gq, 0, none⟩) lx cq)) w2.heap.size [.slice (some ⟨g, 0, none⟩) m ck, .slice qt m dt] ∧
              Bx (W.setCell ⟨g, i, none⟩ (.slice (some ⟨gq, 0, none⟩) lx cq)) (w.heap.size + 1) [.slice none 0 0, .slice none 0 0] ∧ Below w.heap.size w (W.setCell ⟨g, i, none⟩ (.slice (some ⟨gq, 0, none⟩) lx cq)))) := Lib.hid (by
          intro gq cq W ho hb
          have hbw := hal.trans hb
          have hxW := xV.below hbw
          have hkW := kwV.below hbw
          have hgq := ho.lt gq rfl
          have hgk : g ≠ w2.heap.size := hkW.1
          have hgB : w1.heap.size ≤ g ∧ g < V.heap.size := by
            obtain ⟨_, V', hr, _⟩ := kwV
            exact hr.lt g rfl
          have key := hkW.set (c' := cq) (i := i) (by rw [← HN.out]; exact hik) (Rd.of_own ho) HXL.out (fun a e => by cases e; show w1.heap.size ≤ gq ∧ gq < W.heap.size ∧ gq ≠ g ∧ gq ≠ w2.heap.size; omega)
          rw [← HLX.out] at key
          refine ⟨hxW.cell 0 (by simp), key.1.1, key.1.2, Lib.hid ⟨key.2, hxW.other (by show g ≠ w2.heap.size; exact hgk) _, (yV.below hbw).other (by show g ≠ w.heap.size + 1; omega) _, ?_⟩⟩
          exact (BV.trans (hbw.mono BV.size)).setCell (p := ⟨g, i, none⟩) (by show w.heap.size ≤ g; omega) _)
        have i0 : (0 : Int) ≤ (i : Int) := by omega
        have i1' : (i : Int) < (m : Int) := by omega
        have hgm : ¬ (g = w2.heap.size) := kwV.1
        have HKL := Lib.hid hKl
        clear kwV xV yV BV hdr hal hKl hV hb3 p0 p1 f0 f1
        go_cut [41] from 35 to 41 (fun v41 wx => KW w1.heap.size wx g ck w2.heap.size (K.set i x) ∧ Bx wx w2.heap.size [.slice (some ⟨g, 0, none⟩) m ck, .slice qt m dt] ∧ Bx wx (w.heap.size + 1) [.slice none 0 0, .slice none 0 0] ∧ Below w.heap.size w wx)
        case first =>
          go_region_law (first
            | (refine step_cloneRd (by rfl) _ _ 32 (by rfl) V.heap.size 52 i1 (.int .u64 0) 8 Try.underlying32 hi1 hy0 hy1 hy2 (by rfl) V.heap.size (by rfl) HOA.out qx lx dx (nums x) (by rfl) HRA.out hnl (nums_one x) HLB.out.1 HLB.out.2 (by simp) ?_
               intro gq cq wq hownq hbq
               obtain ⟨r1, ⟨r2, r3⟩, r4, HX4⟩ := HF.out gq cq wq hownq hbq
               clear hownq hbq)
            | fail)
          all_goals go_wp2_with fail
          all_goals go_meet
          all_goals exact HX4.out
        case rest =>
          obtain ⟨hkw, hbo, hbb, hbw⟩ := hcut
          have HTr : Hid (Calls Try.prog 27 #[.slice (some ⟨g, 0, none⟩) m ck] wc fun e w' => ∃ g', e = .returned (.slice (some ⟨g', 0, none⟩) m m) ∧ Nums w' wc.heap.size g' m (build (K.set i x)) ∧ Below wc.heap.size wc w') := Lib.hid (by
            have := rtree_any (c := ck) (by rw [HKL.out]; exact h1) (by rw [HKL.out]; exact h2) hkw.recs
            rw [HKL.out] at this
            exact this)
          have c0 : wc.cell? ⟨w2.heap.size, 0, none⟩ = some (.slice (some ⟨g, 0, none⟩) m ck) := hbo.cell 0 (by simp)
          have KWc := Lib.hid hkw; have BOc := Lib.hid hbo; have BBc := Lib.hid hbb; have BWc := Lib.hid hbw
          clear hkw hbo hbb hbw HF HOA HRA z0 hnl
          go_wp2_with fail
          refine HTr.out.mono ?_
          rintro e w5 ⟨gt, rfl, hnu, b5⟩
          have bo5 := BOc.out.below b5
          have bb5 := BBc.out.below b5
          have z0 : w5.cell? ⟨w2.heap.size, 0, none⟩ = some (.slice (some ⟨g, 0, none⟩) m ck) := bo5.cell 0 (by simp)
          have z1 : w5.cell? ⟨w2.heap.size, 1, none⟩ = some (.slice qt m dt) := bo5.cell 1 (by simp)
          have zf : w5.frozen? ⟨w2.heap.size, 1, none⟩ = false := bo5.free 1 (by simp)
          have p0 : w5.cell? ⟨w.heap.size + 1, 0, none⟩ = some (.slice none 0 0) := bb5.cell 0 (by simp)
          have p1 : w5.cell? ⟨w.heap.size + 1, 1, none⟩ = some (.slice none 0 0) := bb5.cell 1 (by simp)
          have f0 : w5.frozen? ⟨w.heap.size + 1, 0, none⟩ = false := bb5.free 0 (by simp)
          have f1 : w5.frozen? ⟨w.heap.size + 1, 1, none⟩ = false := bb5.free 1 (by simp)
          have hn1 : ¬ (w.heap.size + 1 = w2.heap.size) := by omega
          have hn2 : ¬ (w2.heap.size = w.heap.size + 1) := by omega
          have HF : Hid (∀ a b c0, TrP w (K.set i x) 0 (.returned (.tuple #[.agg #[.slice (some ⟨g, 0, none⟩) m ck, .slice (some ⟨gt, 0, none⟩) m m], .int .i64 0])) (((w5.setCell ⟨w2.heap.size, 1, none⟩ a).setCell ⟨w.heap.size + 1, 0, none⟩ b).setCell ⟨w.heap.size + 1, 1, none⟩ c0)) := Lib.hid (by
            intro a b c0
            have hbol5 := BOc.out.lt
            have hgt := hnu.lt
            have hb : Bar w5 (((w5.setCell ⟨w2.heap.size, 1, none⟩ a).setCell ⟨w.heap.size + 1, 0, none⟩ b).setCell ⟨w.heap.size + 1, 1, none⟩ c0) (fun k => k = w2.heap.size ∨ k = w.heap.size + 1) :=
              ((((Bar.refl w5 (fun k => k = w2.heap.size ∨ k = w.heap.size + 1)).setCell (q := ⟨w2.heap.size, 1, none⟩) (.inl rfl) a).setCell (q := ⟨w.heap.size + 1, 0, none⟩) (.inr rfl) b).setCell (q := ⟨w.heap.size + 1, 1, none⟩) (.inr rfl) c0)
            have hkf := (KWc.out.below b5).bar hb (fun k h => h.imp id (fun h => by omega))
            have hul : (up (build (K.set i x))).length = m := by rw [up_length, build_length, HKL.out]
            have hwB := BWc.out.trans (b5.mono BWc.out.size)
            have hsw := BWc.out.size
            refine ⟨_, ck, some ⟨gt, 0, none⟩, m, by rw [hul, HKL.out], ⟨hkf.recs, Rd.bar hnu.rd hb (fun a e h => by cases e; rcases h with h | h; exact absurd h (by show ¬ gt = w2.heap.size; omega); exact absurd h (by show ¬ gt = w.heap.size + 1; omega)), by rw [HKL.out]; omega, by rw [hul]; omega⟩, ?_⟩
            exact ((hwB.setCell (p := ⟨w2.heap.size, 1, none⟩) (by show w.heap.size ≤ w2.heap.size; omega) a).setCell (p := ⟨w.heap.size + 1, 0, none⟩) (by simp) b).setCell (p := ⟨w.heap.size + 1, 1, none⟩) (by simp) c0)
          clear hnu b5 bo5 bb5 c0
          go_wp2_with fail
          (try simp only [Exit.inBlock, Exit.then])
          refine bodyPost_ret (v := .tuple #[.agg #[.slice (some ⟨g, 0, none⟩) m ck, .slice (some ⟨gt, 0, none⟩) m m], .int .i64 0]) ?_ rfl ?_
          · rw [results_cell_tmp rfl]
            go_simp
          · exact HF.out _ _ _
      · have tl : decide (0 < lx) = true := decide_eq_true (by omega)
        obtain ⟨u, hu⟩ : ∃ u, u = lexL x y := ⟨_, rfl⟩
        rw [← hu] at P2 P3
        have HU := Lib.hid hu
        clear hu
        cases u with
        | true =>
          obtain ⟨hpe, hpk⟩ := P2.out hl rfl
          rw [hpe, hpk]
          clear P2 P3 hl hpe hpk
          go_enter Try.func16, Try.ntmps16
          go_wp2_with fail
          rw [← HW1.out, ← HW0.out]
          refine HTo.out.mono ?_
          rintro e w1 ⟨q1, c1, rfl, hry, b1⟩
          rw [hE, hI, hKK]
          rw [hKK] at hry
          have hry3 := hry
          have B1 := Lib.hid (T0.out.trans (b1.mono T0.out.size))
          have X1 := HBX.out.below b1
          have Y1 := Lib.hid (HBY.out.below b1)
          have v0 : w1.cell? ⟨w.heap.size, 0, none⟩ = some (.slice p m c) := X1.cell 0 (by simp)
          have v1 : w1.cell? ⟨w.heap.size, 1, none⟩ = some (.slice q m d) := X1.cell 1 (by simp)
          clear b1 X1 u0 u1 HTo
          go_wp2_with fail
          refine (HC.out _ B1.out).mono ?_
          rintro e w2 hcp
          have HCP := Lib.hid hcp
          obtain ⟨g, ck, qt, dt, rfl, hkw, hqt, hrt, b2⟩ := hcp.kw (by rw [← HN.out]; exact h1)
          rw [← HN.out, ← HM.out]
          obtain ⟨w3, hw3⟩ : ∃ w3, w3 = w2.alloc (.cells #[.slice (some ⟨g, 0, none⟩) m ck, .slice qt m dt] 25) := ⟨_, rfl⟩
          have k3 : Below w2.heap.size w2 w3 := by rw [hw3]; exact (Below.refl _ _).alloc (Nat.le_refl _) _
          have x3 := Bx.new w2 #[.slice (some ⟨g, 0, none⟩) m ck, .slice qt m dt] 25
          rw [← hw3] at x3
          have hb23 := b2.trans (k3.mono b2.size)
          have B3 := Lib.hid (B1.out.trans (hb23.mono B1.out.size))
          have X3 := Lib.hid x3; have Y3 := Lib.hid (Y1.out.below hb23); have KW3 := Lib.hid (hkw.below k3); have HW3 := Lib.hid hw3
          have K23 := Lib.hid k3; have B12 := Lib.hid b2
          have X3z := Lib.hid x3
          clear hcp hkw hqt hrt b2 hw3 k3 x3 hb23 v0 v1
          have y2 := Y1.out.below B12.out
          have p0 : w2.cell? ⟨w.heap.size + 1, 0, none⟩ = some (.slice none 0 0) := y2.cell 0 (by simp)
          have p1 : w2.cell? ⟨w.heap.size + 1, 1, none⟩ = some (.slice none 0 0) := y2.cell 1 (by simp)
          have f0 : w2.frozen? ⟨w.heap.size + 1, 0, none⟩ = false := y2.free 0 (by simp)
          have f1 : w2.frozen? ⟨w.heap.size + 1, 1, none⟩ = false := y2.free 1 (by simp)
          have hb1l : w.heap.size + 1 < w2.heap.size := y2.lt
          clear y2
          have HLs : Hid (Calls Try.prog 34 #[.slice qx lx dx, .slice q1 y.length c1] w3 fun e w' => e = .returned (.bool true) ∧ ∃ j, w' = w3.drewN j) := Lib.hid (by
            have := rless_any x y qx q1 dx c1 w3 (HX.out _ B3.out) (((hry3.below B12.out).below K23.out)) (by have := HXL.out; omega) (by have := HYL.out; omega)
            rw [← HU.out, ← HLX.out] at this
            exact this)
          clear hry3 hry
          go_wp2_with fail
          rw [← HW3.out]
          refine HLs.out.mono ?_
          rintro e w4 ⟨rfl, j, rfl⟩
          have y1l : w.heap.size + 1 < w1.heap.size := Y1.out.lt
          have s21 : w1.heap.size ≤ w2.heap.size := B12.out.size
          have p0 : w3.cell? ⟨w.heap.size + 1, 0, none⟩ = some (.slice none 0 0) := Y3.out.cell 0 (by simp)
          have p1 : w3.cell? ⟨w.heap.size + 1, 1, none⟩ = some (.slice none 0 0) := Y3.out.cell 1 (by simp)
          have f0 : w3.frozen? ⟨w.heap.size + 1, 0, none⟩ = false := Y3.out.free 0 (by simp)
          have f1 : w3.frozen? ⟨w.heap.size + 1, 1, none⟩ = false := Y3.out.free 1 (by simp)
          have z0 : w3.cell? ⟨w2.heap.size, 0, none⟩ = some (.slice (some ⟨g, 0, none⟩) m ck) := X3z.out.cell 0 (by simp)
          have z1 : w3.cell? ⟨w2.heap.size, 1, none⟩ = some (.slice qt m dt) := X3z.out.cell 1 (by simp)
          have hdr : Bar w3 (w3.drewN j) (fun _ => False) := Bar.of_below (below_drewN (Below.refl _ _) j) _
          go_wp2_with fail
          (try simp only [Exit.inBlock, Exit.then])
          have HF : Hid (∀ a b, TrP w K 12 (.returned (.tuple #[.agg #[.slice (some ⟨g, 0, none⟩) m ck, .slice qt m dt], .int .i64 12])) (((w3.drewN j).setCell ⟨w.heap.size + 1, 0, none⟩ a).setCell ⟨w.heap.size + 1, 1, none⟩ b)) := Lib.hid (by
            intro a b
            obtain ⟨pk', ck', q', d', ee, hls, _⟩ := HCP.out.ls (by have := HN.out; omega) (by have := HM.out; omega)
            have e4 : pk' = some ⟨g, 0, none⟩ ∧ ck' = ck ∧ q' = qt ∧ d' = dt := by simp at ee; exact ⟨ee.1.1.symm, ee.1.2.symm, ee.2.1.symm, ee.2.2.symm⟩
            obtain ⟨rfl, rfl, rfl, rfl⟩ := e4
            have hb : Bar w2 (((w3.drewN j).setCell ⟨w.heap.size + 1, 0, none⟩ a).setCell ⟨w.heap.size + 1, 1, none⟩ b) (fun k => k = w.heap.size + 1) :=
              ((((Bar.of_below K23.out (fun k => k = w.heap.size + 1)).trans (hdr.mono (fun _ _ h => h.elim))).setCell (q := ⟨w.heap.size + 1, 0, none⟩) rfl a).setCell (q := ⟨w.heap.size + 1, 1, none⟩) rfl b)
            have hls2 := hls _ _ hb (fun k hk e => by omega)
            rw [HT.out] at hls2
            have hbw : Below w.heap.size w (w3.drewN j) := below_drewN B3.out j
            have hul : (up (build K)).length = m := by rw [up_length, build_length, ← HN.out]
            exact ⟨_, _, _, _, by rw [hul, ← HN.out], hls2, (hbw.setCell (p := ⟨w.heap.size + 1, 0, none⟩) (by simp) a).setCell (p := ⟨w.heap.size + 1, 1, none⟩) (by simp) b⟩)
          refine bodyPost_ret (v := .tuple #[.agg #[.slice (some ⟨g, 0, none⟩) m ck, .slice qt m dt], .int .i64 12]) ?_ rfl ?_
          · rw [results_cell_tmp rfl]
            go_simp
          · exact HF.out _ _
        | false =>
          obtain ⟨hpe, hpk⟩ := P3.out (.inr rfl)
          rw [hpe, hpk]
          clear P2 P3 hl hpe hpk
          go_enter Try.func16, Try.ntmps16
          go_wp2_with fail
          rw [← HW1.out, ← HW0.out]
          refine HTo.out.mono ?_
          rintro e w1 ⟨q1, c1, rfl, hry, b1⟩
          rw [hE, hI, hKK]
          rw [hKK] at hry
          have hry3 := hry
          have B1 := Lib.hid (T0.out.trans (b1.mono T0.out.size))
          have X1 := HBX.out.below b1
          have Y1 := Lib.hid (HBY.out.below b1)
          have v0 : w1.cell? ⟨w.heap.size, 0, none⟩ = some (.slice p m c) := X1.cell 0 (by simp)
          have v1 : w1.cell? ⟨w.heap.size, 1, none⟩ = some (.slice q m d) := X1.cell 1 (by simp)
          clear b1 X1 u0 u1 HTo
          go_wp2_with fail
          refine (HC.out _ B1.out).mono ?_
          rintro e w2 hcp
          have HCP := Lib.hid hcp
          obtain ⟨g, ck, qt, dt, rfl, hkw, hqt, hrt, b2⟩ := hcp.kw (by rw [← HN.out]; exact h1)
          rw [← HN.out, ← HM.out]
          obtain ⟨w3, hw3⟩ : ∃ w3, w3 = w2.alloc (.cells #[.slice (some ⟨g, 0, none⟩) m ck, .slice qt m dt] 25) := ⟨_, rfl⟩
          have k3 : Below w2.heap.size w2 w3 := by rw [hw3]; exact (Below.refl _ _).alloc (Nat.le_refl _) _
          have x3 := Bx.new w2 #[.slice (some ⟨g, 0, none⟩) m ck, .slice qt m dt] 25
          rw [← hw3] at x3
          have hb23 := b2.trans (k3.mono b2.size)
          have B3 := Lib.hid (B1.out.trans (hb23.mono B1.out.size))
          have X3 := Lib.hid x3; have Y3 := Lib.hid (Y1.out.below hb23); have KW3 := Lib.hid (hkw.below k3); have HW3 := Lib.hid hw3
          have K23 := Lib.hid k3; have B12 := Lib.hid b2
          have X3z := Lib.hid x3
          clear hcp hkw hqt hrt b2 hw3 k3 x3 hb23 v0 v1
          have y2 := Y1.out.below B12.out
          have p0 : w2.cell? ⟨w.heap.size + 1, 0, none⟩ = some (.slice none 0 0) := y2.cell 0 (by simp)
          have p1 : w2.cell? ⟨w.heap.size + 1, 1, none⟩ = some (.slice none 0 0) := y2.cell 1 (by simp)
          have f0 : w2.frozen? ⟨w.heap.size + 1, 0, none⟩ = false := y2.free 0 (by simp)
          have f1 : w2.frozen? ⟨w.heap.size + 1, 1, none⟩ = false := y2.free 1 (by simp)
          have hb1l : w.heap.size + 1 < w2.heap.size := y2.lt
          clear y2
          have HLs : Hid (Calls Try.prog 34 #[.slice qx lx dx, .slice q1 y.length c1] w3 fun e w' => e = .returned (.bool false) ∧ ∃ j, w' = w3.drewN j) := Lib.hid (by
            have := rless_any x y qx q1 dx c1 w3 (HX.out _ B3.out) (((hry3.below B12.out).below K23.out)) (by have := HXL.out; omega) (by have := HYL.out; omega)
            rw [← HU.out, ← HLX.out] at this
            exact this)
          clear hry3 hry
          go_wp2_with fail
          rw [← HW3.out]
          refine HLs.out.mono ?_
          rintro e w4 ⟨rfl, j, rfl⟩
          go_wp2_with fail
          obtain ⟨V, hV⟩ : ∃ V, V = w3.drewN j := ⟨_, rfl⟩
          rw [← hV]
          have hb3 : Below w3.heap.size w3 V := by rw [hV]; exact below_drewN (Below.refl _ _) j
          have kwV := KW3.out.below hb3
          have xV := X3.out.below hb3
          have yV := Y3.out.below hb3
          have BV := B3.out.trans (hb3.mono B3.out.size)
          have hbol := xV.lt
          have hb1l2 : w.heap.size + 1 < w1.heap.size := Y1.out.lt
          have h12 : w1.heap.size ≤ w2.heap.size := B12.out.size
          have z0 : V.cell? ⟨w2.heap.size, 0, none⟩ = some (.slice (some ⟨g, 0, none⟩) m ck) := xV.cell 0 (by simp)
          have hdr : Below V.heap.size V V.drew := Below.drew (Below.refl _ V)
          have hal : Below V.heap.size V (V.drew.alloc (.cells #[] 52)) := hdr.alloc (Nat.le_refl _) _
          have HOA : Hid ((V.drew.alloc (.cells #[] 52)).ownsRow V.heap.size 52 1 (.slice (some ⟨V.heap.size, 0, none⟩) 0 0) 0 []) := Lib.hid (World.ownsRow_lit (e := 52) (base := V.heap.size) (size := 1) V.drew #[] 0 (Nat.le_refl _) (by decide) rfl)
          have HRA : Hid (Rd (V.drew.alloc (.cells #[] 52)) qx (nums x)) := Lib.hid ((HX.out V BV).below hal)
          have hnl : (nums x).length = lx := by rw [nums_length]; exact HLX.out.symm
          have HLB : Hid (lx ≤ maxLen ∧ lx * 8 ≤ 140737488355328) := Lib.hid (by have := HXL.out; have h2 := HLX.out; exact ⟨by unfold maxLen; omega, by omega⟩)
          have hKl : (K.set i x).length = m := by rw [List.length_set, ← HN.out]
          have HF : Hid (∀ gq cq W, W.ownsRow V.heap.size 52 1 (.slice (some ⟨gq, 0, none⟩) lx cq) lx (nums x) → Below V.heap.size (V.drew.alloc (.cells #[] 52)) W →
              W.cell? ⟨w2.heap.size, 0, none⟩ = some (.slice (some ⟨g, 0, none⟩) m ck) ∧ (∃ u, W.cell? ⟨g, i, none⟩ = some u) ∧ W.frozen? ⟨g, i, none⟩ = false ∧
              Hid (KW w1.heap.size (W.setCell ⟨g, i, none⟩ (.slice (some ⟨gq, 0, none⟩) lx cq)) g ck w2.heap.size (K.set i x) ∧ Bx (W.setCell ⟨g, i, none⟩ (.slice (some ⟨gq, 0, none⟩) lx cq)) w2.heap.size [.slice (some ⟨g, 0, none⟩) m ck, .slice qt m dt] ∧
                Bx (W.setCell ⟨g, i, none⟩ (.slice (some ⟨gq, 0, none⟩) lx cq)) (w.heap.size + 1) [.slice none 0 0, .slice none 0 0] ∧ Below w.heap.size w (W.setCell ⟨g, i, none⟩ (.slice (some ⟨gq, 0, none⟩) lx cq)))) := Lib.hid (by
            intro gq cq W ho hb
            have hbw := hal.trans hb
            have hxW := xV.below hbw
            have hkW := kwV.below hbw
            have hgq := ho.lt gq rfl
            have hgk : g ≠ w2.heap.size := hkW.1
            have hgB : w1.heap.size ≤ g ∧ g < V.heap.size := by
              obtain ⟨_, V', hr, _⟩ := kwV
              exact hr.lt g rfl
            have key := hkW.set (c' := cq) (i := i) (by rw [← HN.out]; exact hik) (Rd.of_own ho) HXL.out (fun a e => by cases e; show w1.heap.size ≤ gq ∧ gq < W.heap.size ∧ gq ≠ g ∧ gq ≠ w2.heap.size; omega)
            rw [← HLX.out] at key
            refine ⟨hxW.cell 0 (by simp), key.1.1, key.1.2, Lib.hid ⟨key.2, hxW.other (by show g ≠ w2.heap.size; exact hgk) _, (yV.below hbw).other (by show g ≠ w.heap.size + 1; omega) _, ?_⟩⟩
            exact (BV.trans (hbw.mono BV.size)).setCell (p := ⟨g, i, none⟩) (by show w.heap.size ≤ g; omega) _)
          have i0 : (0 : Int) ≤ (i : Int) := by omega
          have i1' : (i : Int) < (m : Int) := by omega
          have hgm : ¬ (g = w2.heap.size) := kwV.1
          have HKL := Lib.hid hKl
          clear kwV xV yV BV hdr hal hKl hV hb3 p0 p1 f0 f1
          go_cut [41] from 35 to 41 (fun v41 wx => KW w1.heap.size wx g ck w2.heap.size (K.set i x) ∧ Bx wx w2.heap.size [.slice (some ⟨g, 0, none⟩) m ck, .slice qt m dt] ∧ Bx wx (w.heap.size + 1) [.slice none 0 0, .slice none 0 0] ∧ Below w.heap.size w wx)
          case first =>
            go_region_law (first
              | (refine step_cloneRd (by rfl) _ _ 32 (by rfl) V.heap.size 52 i1 (.int .u64 0) 8 Try.underlying32 hi1 hy0 hy1 hy2 (by rfl) V.heap.size (by rfl) HOA.out qx lx dx (nums x) (by rfl) HRA.out hnl (nums_one x) HLB.out.1 HLB.out.2 (by simp) ?_
                 intro gq cq wq hownq hbq
                 obtain ⟨r1, ⟨r2, r3⟩, r4, HX4⟩ := HF.out gq cq wq hownq hbq
                 clear hownq hbq)
              | fail)
            all_goals go_wp2_with fail
            all_goals go_meet
            all_goals exact HX4.out
          case rest =>
            obtain ⟨hkw, hbo, hbb, hbw⟩ := hcut
            have HTr : Hid (Calls Try.prog 27 #[.slice (some ⟨g, 0, none⟩) m ck] wc fun e w' => ∃ g', e = .returned (.slice (some ⟨g', 0, none⟩) m m) ∧ Nums w' wc.heap.size g' m (build (K.set i x)) ∧ Below wc.heap.size wc w') := Lib.hid (by
              have := rtree_any (c := ck) (by rw [HKL.out]; exact h1) (by rw [HKL.out]; exact h2) hkw.recs
              rw [HKL.out] at this
              exact this)
            have c0 : wc.cell? ⟨w2.heap.size, 0, none⟩ = some (.slice (some ⟨g, 0, none⟩) m ck) := hbo.cell 0 (by simp)
            have KWc := Lib.hid hkw; have BOc := Lib.hid hbo; have BBc := Lib.hid hbb; have BWc := Lib.hid hbw
            clear hkw hbo hbb hbw HF HOA HRA z0 hnl
            go_wp2_with fail
            refine HTr.out.mono ?_
            rintro e w5 ⟨gt, rfl, hnu, b5⟩
            have bo5 := BOc.out.below b5
            have bb5 := BBc.out.below b5
            have z0 : w5.cell? ⟨w2.heap.size, 0, none⟩ = some (.slice (some ⟨g, 0, none⟩) m ck) := bo5.cell 0 (by simp)
            have z1 : w5.cell? ⟨w2.heap.size, 1, none⟩ = some (.slice qt m dt) := bo5.cell 1 (by simp)
            have zf : w5.frozen? ⟨w2.heap.size, 1, none⟩ = false := bo5.free 1 (by simp)
            have p0 : w5.cell? ⟨w.heap.size + 1, 0, none⟩ = some (.slice none 0 0) := bb5.cell 0 (by simp)
            have p1 : w5.cell? ⟨w.heap.size + 1, 1, none⟩ = some (.slice none 0 0) := bb5.cell 1 (by simp)
            have f0 : w5.frozen? ⟨w.heap.size + 1, 0, none⟩ = false := bb5.free 0 (by simp)
            have f1 : w5.frozen? ⟨w.heap.size + 1, 1, none⟩ = false := bb5.free 1 (by simp)
            have hn1 : ¬ (w.heap.size + 1 = w2.heap.size) := by omega
            have hn2 : ¬ (w2.heap.size = w.heap.size + 1) := by omega
            have HF : Hid (∀ a b c0, TrP w (K.set i x) 0 (.returned (.tuple #[.agg #[.slice (some ⟨g, 0, none⟩) m ck, .slice (some ⟨gt, 0, none⟩) m m], .int .i64 0])) (((w5.setCell ⟨w2.heap.size, 1, none⟩ a).setCell ⟨w.heap.size + 1, 0, none⟩ b).setCell ⟨w.heap.size + 1, 1, none⟩ c0)) := Lib.hid (by
              intro a b c0
              have hbol5 := BOc.out.lt
              have hgt := hnu.lt
              have hb : Bar w5 (((w5.setCell ⟨w2.heap.size, 1, none⟩ a).setCell ⟨w.heap.size + 1, 0, none⟩ b).setCell ⟨w.heap.size + 1, 1, none⟩ c0) (fun k => k = w2.heap.size ∨ k = w.heap.size + 1) :=
                ((((Bar.refl w5 (fun k => k = w2.heap.size ∨ k = w.heap.size + 1)).setCell (q := ⟨w2.heap.size, 1, none⟩) (.inl rfl) a).setCell (q := ⟨w.heap.size + 1, 0, none⟩) (.inr rfl) b).setCell (q := ⟨w.heap.size + 1, 1, none⟩) (.inr rfl) c0)
              have hkf := (KWc.out.below b5).bar hb (fun k h => h.imp id (fun h => by omega))
              have hul : (up (build (K.set i x))).length = m := by rw [up_length, build_length, HKL.out]
              have hwB := BWc.out.trans (b5.mono BWc.out.size)
              have hsw := BWc.out.size
              refine ⟨_, ck, some ⟨gt, 0, none⟩, m, by rw [hul, HKL.out], ⟨hkf.recs, Rd.bar hnu.rd hb (fun a e h => by cases e; rcases h with h | h; exact absurd h (by show ¬ gt = w2.heap.size; omega); exact absurd h (by show ¬ gt = w.heap.size + 1; omega)), by rw [HKL.out]; omega, by rw [hul]; omega⟩, ?_⟩
              exact ((hwB.setCell (p := ⟨w2.heap.size, 1, none⟩) (by show w.heap.size ≤ w2.heap.size; omega) a).setCell (p := ⟨w.heap.size + 1, 0, none⟩) (by simp) b).setCell (p := ⟨w.heap.size + 1, 1, none⟩) (by simp) c0)
            clear hnu b5 bo5 bb5 c0
            go_wp2_with fail
            (try simp only [Exit.inBlock, Exit.then])
            refine bodyPost_ret (v := .tuple #[.agg #[.slice (some ⟨g, 0, none⟩) m ck, .slice (some ⟨gt, 0, none⟩) m m], .int .i64 0]) ?_ rfl ?_
            · rw [results_cell_tmp rfl]
              go_simp
            · exact HF.out _ _ _
end
end Go.Proofs.Ythkgdjclgphodaa.Ls

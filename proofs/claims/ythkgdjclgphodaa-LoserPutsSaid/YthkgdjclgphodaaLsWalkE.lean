/- A tree at work; the walk of begin. -/
import Derived.Test.YthkgdjclgphodaaLsWalkD
namespace Go.Proofs.Ythkgdjclgphodaa.Ls
open Go.RowKit Go.Lib Rw Nm

/-- a key, in a row of keys -/
def ElAt (w : World) (B : Nat) (bad : Nat → Prop) (x : List Nat) (v : Value) : Prop :=
  ∃ (q : Option Addr) (c : Nat), v = .slice q x.length c ∧ Rd w q (nums x) ∧ x.length ≤ 17592186044416 ∧ ∀ a, q = some a → B ≤ a.block ∧ ¬ bad a.block
def Els (w : World) (B : Nat) (bad : Nat → Prop) (K : Keys) (V : List Value) : Prop :=
  V.length = K.length ∧ ∀ i, i < K.length → ElAt w B bad (K.getD i []) (V.getD i (.bool false))
theorem ElAt.bar {w w' : World} {B : Nat} {bad p : Nat → Prop} {x : List Nat} {v : Value} (h : ElAt w B bad x v) (hb : Bar w w' p) (hp : ∀ k, p k → bad k) : ElAt w' B bad x v := by
  obtain ⟨q, c, rfl, hr, hl, ho⟩ := h
  exact ⟨q, c, rfl, Rd.bar hr hb (fun a e h => (ho a e).2 (hp _ h)), hl, ho⟩
theorem ElAt.bad {w : World} {B : Nat} {bad bad' : Nat → Prop} {x : List Nat} {v : Value} (h : ElAt w B bad x v) (hp : ∀ k, B ≤ k → bad' k → bad k) : ElAt w B bad' x v := by
  obtain ⟨q, c, rfl, hr, hl, ho⟩ := h
  exact ⟨q, c, rfl, hr, hl, fun a e => ⟨(ho a e).1, fun h => (ho a e).2 (hp _ (ho a e).1 h)⟩⟩
theorem Els.bar {w w' : World} {B : Nat} {bad p : Nat → Prop} {K : Keys} {V : List Value} (h : Els w B bad K V) (hb : Bar w w' p) (hp : ∀ k, p k → bad k) : Els w' B bad K V := ⟨h.1, fun i hi => (h.2 i hi).bar hb hp⟩
theorem Els.nil (w : World) (B : Nat) (bad : Nat → Prop) : Els w B bad [] [] := ⟨rfl, fun i hi => absurd hi (by simp)⟩
theorem Els.snoc {w : World} {B : Nat} {bad : Nat → Prop} {K : Keys} {V : List Value} {x : List Nat} {v : Value} (h : Els w B bad K V) (hx : ElAt w B bad x v) : Els w B bad (K ++ [x]) (V ++ [v]) := by
  refine ⟨by simp [h.1], fun i hi => ?_⟩
  have hl := h.1
  rw [List.length_append, List.length_singleton] at hi
  by_cases e : i = K.length
  · subst e
    have e1 : (K ++ [x]).getD K.length [] = x := by simp [List.getD_eq_getElem?_getD]
    have e2 : (V ++ [v]).getD K.length (.bool false) = v := by rw [← hl]; simp [List.getD_eq_getElem?_getD]
    rw [e1, e2]; exact hx
  · have hi2 : i < K.length := by omega
    have e1 : (K ++ [x]).getD i [] = K.getD i [] := by simp [List.getD_eq_getElem?_getD, List.getElem?_append_left hi2]
    have e2 : (V ++ [v]).getD i (.bool false) = V.getD i (.bool false) := by simp [List.getD_eq_getElem?_getD, List.getElem?_append_left (by omega : i < V.length)]
    rw [e1, e2]; exact h.2 i hi2
theorem Els.set {w : World} {B : Nat} {bad : Nat → Prop} {K : Keys} {V : List Value} {x : List Nat} {v : Value} (h : Els w B bad K V) (hx : ElAt w B bad x v) (i : Nat) : Els w B bad (K.set i x) (V.set i v) := by
  refine ⟨by simp [h.1], fun j hj => ?_⟩
  have hl := h.1
  rw [List.length_set] at hj
  by_cases e : i = j
  · subst e
    have e1 : (K.set i x).getD i [] = x := by simp [List.getD_eq_getElem?_getD, hj]
    have e2 : (V.set i v).getD i (.bool false) = v := by simp [List.getD_eq_getElem?_getD, hl, hj]
    rw [e1, e2]; exact hx
  · have e1 : (K.set i x).getD j [] = K.getD j [] := by simp [List.getD_eq_getElem?_getD, List.getElem?_set_ne e]
    have e2 : (V.set i v).getD j (.bool false) = V.getD j (.bool false) := by simp [List.getD_eq_getElem?_getD, List.getElem?_set_ne e]
    rw [e1, e2]; exact h.2 j hj
theorem take_snoc {K : Keys} {k : Nat} (h : k < K.length) : K.take (k + 1) = K.take k ++ [K.getD k []] := by
  rw [List.take_succ_eq_append_getElem h]
  simp [List.getD_eq_getElem?_getD, List.getElem?_eq_getElem h]

/-- a tree at work -/
structure Wk (w : World) (B g gk gt ck ct : Nat) (K : Keys) (T : List Int) : Prop where
  box : Bx w g [.slice (some ⟨gk, 0, none⟩) K.length ck, .slice (some ⟨gt, 0, none⟩) T.length ct]
  keys : ∃ V, w.ownsRow B 32 1 (.slice (some ⟨gk, 0, none⟩) K.length ck) K.length V ∧ Els w B (fun b => b = g ∨ b = gk ∨ b = gt) K V
  tree : w.ownsRow B 3 1 (.slice (some ⟨gt, 0, none⟩) T.length ct) T.length (zs T)
  n1 : g ≠ gk
  n2 : g ≠ gt
  n3 : gk ≠ gt
  ge : B ≤ g

theorem begA {W0 w' : World} {B n m gt ct : Nat} {Mk : Array Value} {T : List Int} (hB : B < W0.heap.size) (hMs : Mk.size = n * 1) (hn : n ≤ 256)
    (hrow : w'.ownsRow (W0.alloc (.cells Mk 32)).drew.heap.size 3 1 (.slice (some ⟨gt, 0, none⟩) m ct) m (zs T)) (hb : Below (W0.alloc (.cells Mk 32)).drew.heap.size (W0.alloc (.cells Mk 32)).drew w') :
    Bx (w'.alloc (.cells #[.slice (some ⟨W0.heap.size, 0, none⟩) 0 n, .slice (some ⟨gt, 0, none⟩) m ct] 48)) w'.heap.size [.slice (some ⟨W0.heap.size, 0, none⟩) 0 n, .slice (some ⟨gt, 0, none⟩) m ct] ∧
    (w'.alloc (.cells #[.slice (some ⟨W0.heap.size, 0, none⟩) 0 n, .slice (some ⟨gt, 0, none⟩) m ct] 48)).ownsRow B 32 1 (.slice (some ⟨W0.heap.size, 0, none⟩) 0 n) 0 [] ∧
    (w'.alloc (.cells #[.slice (some ⟨W0.heap.size, 0, none⟩) 0 n, .slice (some ⟨gt, 0, none⟩) m ct] 48)).ownsRow B 3 1 (.slice (some ⟨gt, 0, none⟩) m ct) m (zs T) ∧ w'.heap.size ≠ W0.heap.size ∧ w'.heap.size ≠ gt ∧ W0.heap.size ≠ gt ∧ B < w'.heap.size := by
  have bx := Bx.new w' #[.slice (some ⟨W0.heap.size, 0, none⟩) 0 n, .slice (some ⟨gt, 0, none⟩) m ct] 48
  obtain ⟨W2, hW2⟩ : ∃ W2, W2 = w'.alloc (.cells #[.slice (some ⟨W0.heap.size, 0, none⟩) 0 n, .slice (some ⟨gt, 0, none⟩) m ct] 48) := ⟨_, rfl⟩
  have b2 : Below w'.heap.size w' W2 := by rw [hW2]; exact (Below.refl _ _).alloc (Nat.le_refl _) _
  rw [← hW2] at bx ⊢
  have hs : (W0.alloc (.cells Mk 32)).drew.heap.size = W0.heap.size + 1 := by simp
  have r0 := World.ownsRow_made W0 (e := 32) (base := B) (size := 1) Mk n (by omega) (by unfold maxLen; omega) hMs
  have r1 := own_below r0 (Below.drew (Below.refl _ _))
  have r2 := own_below (own_below r1 hb) b2
  have hlt := hrow.lt gt rfl
  have hz := hb.size
  rw [hs] at hlt hz
  exact ⟨bx, r2, own_base (own_below hrow b2) (by rw [hs]; omega), by omega, by omega, by omega, by omega⟩
theorem begB {W0 w' : World} {B n m gt ct : Nat} {Mk : Array Value} {T : List Int} (hB : B < W0.heap.size) (hMs : Mk.size = n * 1) (hn : n ≤ 256)
    (hrow : w'.ownsRow W0.drew.heap.size 3 1 (.slice (some ⟨gt, 0, none⟩) m ct) m (zs T)) (hb : Below W0.drew.heap.size W0.drew w') :
    Bx ((w'.alloc (.cells Mk 32)).alloc (.cells #[.slice (some ⟨w'.heap.size, 0, none⟩) 0 n, .slice (some ⟨gt, 0, none⟩) m ct] 48)) (w'.heap.size + 1) [.slice (some ⟨w'.heap.size, 0, none⟩) 0 n, .slice (some ⟨gt, 0, none⟩) m ct] ∧
    ((w'.alloc (.cells Mk 32)).alloc (.cells #[.slice (some ⟨w'.heap.size, 0, none⟩) 0 n, .slice (some ⟨gt, 0, none⟩) m ct] 48)).ownsRow B 32 1 (.slice (some ⟨w'.heap.size, 0, none⟩) 0 n) 0 [] ∧
    ((w'.alloc (.cells Mk 32)).alloc (.cells #[.slice (some ⟨w'.heap.size, 0, none⟩) 0 n, .slice (some ⟨gt, 0, none⟩) m ct] 48)).ownsRow B 3 1 (.slice (some ⟨gt, 0, none⟩) m ct) m (zs T) ∧ w'.heap.size + 1 ≠ w'.heap.size ∧ w'.heap.size + 1 ≠ gt ∧ w'.heap.size ≠ gt ∧ B < w'.heap.size + 1 := by
  obtain ⟨W1, hW1⟩ : ∃ W1, W1 = w'.alloc (.cells Mk 32) := ⟨_, rfl⟩
  have hs1 : W1.heap.size = w'.heap.size + 1 := by rw [hW1]; simp
  have bx := Bx.new W1 #[.slice (some ⟨w'.heap.size, 0, none⟩) 0 n, .slice (some ⟨gt, 0, none⟩) m ct] 48
  have b1 : Below w'.heap.size w' W1 := by rw [hW1]; exact (Below.refl _ _).alloc (Nat.le_refl _) _
  obtain ⟨W2, hW2⟩ : ∃ W2, W2 = W1.alloc (.cells #[.slice (some ⟨w'.heap.size, 0, none⟩) 0 n, .slice (some ⟨gt, 0, none⟩) m ct] 48) := ⟨_, rfl⟩
  have b2 : Below W1.heap.size W1 W2 := by rw [hW2]; exact (Below.refl _ _).alloc (Nat.le_refl _) _
  have hlt := hrow.lt gt rfl
  have hz := hb.size
  have hs : W0.drew.heap.size = W0.heap.size := rfl
  rw [hs] at hlt hz
  have r0 := World.ownsRow_made w' (e := 32) (base := B) (size := 1) Mk n (by omega) (by unfold maxLen; omega) hMs
  rw [← hW1] at r0
  rw [← hW2, hs1] at bx
  rw [← hW1, ← hW2]
  exact ⟨bx, own_below r0 b2, own_base (own_below (own_below hrow b1) b2) (by rw [hs]; omega), by omega, by omega, by omega, by omega⟩

section
variable {K : Keys} {T : List Int} {p q : Option Addr} {c d : Nat} {w : World}
set_option maxHeartbeats 4000000 in
set_option maxRecDepth 100000 in
theorem begin_any (h : LsAt w p K q T) (h2 : K.length ≤ 256) (hT0 : 0 < T.length) (hT1 : T.length ≤ 256) (hKl : ∀ i, i < K.length → (K.getD i []).length ≤ 17592186044416) :
    Calls Try.prog 25 #[.agg #[.slice p K.length c, .slice q T.length d]] w fun e w' => ∃ g gk gt ck ct, e = .returned (.pointer (some ⟨g, 0, none⟩)) ∧ Wk w' w.heap.size g gk gt ck ct K T ∧ Below w.heap.size w w' := by
  obtain ⟨i0, hi, hz0, hz1, hz2⟩ := info_parts info_u64s
  have HCl : Hid (∀ W, Below w.heap.size w W → Calls Try.prog 39 #[.slice q T.length d] W fun e w' => ∃ g c', e = .returned (.slice (some ⟨g, 0, none⟩) T.length c') ∧ w'.ownsRow W.heap.size 3 1 (.slice (some ⟨g, 0, none⟩) T.length c') T.length (zs T) ∧ Below W.heap.size W w') :=
    Lib.hid fun W hW => cloneI_any T q d W (h.tree.below hW) (by omega) hT0
  have HKe : Hid (∀ W, Below w.heap.size w W → RecsAt W p K) := Lib.hid fun W hW => h.keys.below hW
  have HKL := Lib.hid hKl
  obtain ⟨n, hn⟩ : ∃ n, n = K.length := ⟨_, rfl⟩
  obtain ⟨m, hm⟩ : ∃ m, m = T.length := ⟨_, rfl⟩
  rw [← hn] at h2
  rw [← hm] at HCl hT0 hT1
  rw [← hn, ← hm]
  obtain ⟨Mk, hMk, hMs⟩ : ∃ M : Array Value, (∀ W : World, (Instr.makeSlice 22 (.int .i64 0) (.int .i64 (n : Int))).run Try.prog W = .ok (.slice (some ⟨W.heap.size, 0, none⟩) 0 n) (W.alloc (.cells M 32))) ∧ M.size = n * 1 := by
    refine ⟨madeCells (Value.slice none 0 0).cells (n * 1), fun W => ?_, by rw [size_madeCells]⟩
    have := run_make (P := Try.prog) W 22 32 i0 (.slice none 0 0) Try.underlying22 hi hz0 .i64 .i64 (0 : Int) (n : Int) (by omega) (by omega) (by rw [hz2]; omega) (by omega)
    rw [hz1] at this
    simpa using this
  obtain ⟨W0, hW0⟩ : ∃ W0, W0 = w.alloc (.cells #[.slice p n c, .slice q m d] 25) := ⟨_, rfl⟩
  have t0 : Below w.heap.size w W0 := by rw [hW0]; exact (Below.refl _ _).alloc (Nat.le_refl _) _
  have bx := Bx.new w #[.slice p n c, .slice q m d] 25
  rw [← hW0] at bx
  obtain ⟨BB, hBB⟩ : ∃ BB : World → Prop, BB = fun W => Below W0.heap.size W0 W := ⟨_, rfl⟩
  have hK : ∀ W, BB W → W.cell? ⟨w.heap.size, 0, none⟩ = some (.slice p n c) ∧ W.cell? ⟨w.heap.size, 1, none⟩ = some (.slice q m d) ∧ w.heap.size < W.heap.size := by
    intro W h
    rw [hBB] at h
    exact ⟨(bx.below h).cell 0 (by simp), (bx.below h).cell 1 (by simp), (bx.below h).lt⟩
  have hL : ∀ W W' : World, BB W → Below W.heap.size W W' → BB W' := by
    intro W W' h hb
    rw [hBB] at h ⊢
    exact h.trans (hb.mono h.size)
  have hD : ∀ W, BB W → BB W.drew := fun W h => hL W _ h (Below.drew (Below.refl _ W))
  have hA : ∀ W o, BB W → BB (W.alloc o) := fun W o h => hL W _ h ((Below.refl _ W).alloc (Nat.le_refl _) o)
  have hE : ∀ W, BB W → Below w.heap.size w W ∧ Bx W w.heap.size [.slice p n c, .slice q m d] := by
    intro W h
    rw [hBB] at h
    exact ⟨t0.trans (h.mono t0.size), bx.below h⟩
  have h0 : BB W0 := by rw [hBB]; exact Below.refl _ _
  have HCl2 : Hid (∀ W, BB W → Calls Try.prog 39 #[.slice q m d] W fun e w' => ∃ g c', e = .returned (.slice (some ⟨g, 0, none⟩) m c') ∧ w'.ownsRow W.heap.size 3 1 (.slice (some ⟨g, 0, none⟩) m c') m (zs T) ∧ Below W.heap.size W w') :=
    Lib.hid fun W hW => HCl.out W (hE W hW).1
  obtain ⟨q0, q1, q2⟩ := hK W0 h0
  have HK := Lib.hid hK; have HL := Lib.hid hL; have HD := Lib.hid hD; have HA := Lib.hid hA; have HE := Lib.hid hE; have H0 := Lib.hid h0; have HW0 := Lib.hid hW0; have HN := Lib.hid hn; have HM := Lib.hid hm
  have HMS := Lib.hid hMs
  have HI := Lib.hid hi; have HZ := Lib.hid hz1
  clear hK hL hD hA hE h0 hBB hn hm h bx hW0 t0 hKl HCl hi hz0 hz1 hz2 hMs
  go_enter Try.func25, Try.ntmps25
  go_upto_region 1 with fail
  rw [← HW0.out]
  go_cut [3] from 6 to 15 (fun v3 wx => ∃ g gk gt ct, v3 = .pointer (some ⟨g, 0, none⟩) ∧ Bx wx g [.slice (some ⟨gk, 0, none⟩) 0 n, .slice (some ⟨gt, 0, none⟩) m ct] ∧ wx.ownsRow w.heap.size 32 1 (.slice (some ⟨gk, 0, none⟩) 0 n) 0 [] ∧ wx.ownsRow w.heap.size 3 1 (.slice (some ⟨gt, 0, none⟩) m ct) m (zs T) ∧ g ≠ gk ∧ g ≠ gt ∧ gk ≠ gt ∧ w.heap.size < g ∧ BB wx)
  case first =>
    go_region_law (first
      | (go_simp; go_at_call 39; ((with_reducible refine (HCl2.out _ (by repeat (first | exact H0.out | assumption | apply HD.out | apply HA.out))).mono ?_)); rintro e w' ⟨gt, ct, rfl, hrow, hb⟩; have hw := HL.out _ _ (by repeat (first | exact H0.out | assumption | apply HD.out | apply HA.out)) hb; obtain ⟨q3, q4, q5⟩ := HK.out _ hw)
      | fail)
    all_goals go_wp2_with fail
    all_goals go_meet
    all_goals (first
      | (have hh := begA q2 HMS.out h2 hrow hb; exact ⟨_, _, _, _, rfl, hh.1, hh.2.1, hh.2.2.1, hh.2.2.2.1, hh.2.2.2.2.1, hh.2.2.2.2.2.1, hh.2.2.2.2.2.2, HA.out _ _ hw⟩)
      | (have hh := begB q2 HMS.out h2 hrow hb; exact ⟨_, _, _, _, rfl, hh.1, hh.2.1, hh.2.2.1, hh.2.2.2.1, hh.2.2.2.2.1, hh.2.2.2.2.2.1, hh.2.2.2.2.2.2, HA.out _ _ (HA.out _ _ hw)⟩))
  case rest =>
    clear hMk
    obtain ⟨g, gk, gt, ct, rfl, hbx, hrk, hrt, n1, n2, n3, hg, hbb⟩ := hcut
    obtain ⟨q3, _, _⟩ := HK.out _ hbb
    have HBX := Lib.hid hbx; have HRK := Lib.hid hrk; have HRT := Lib.hid hrt
    have HB := Lib.hid (HE.out _ hbb).1
    have gks := (hrk.lt gk rfl).1
    clear hbx hrk hrt hbb q0 q1 q2 HK HL HD HA HE H0 HW0 HCl2 HMS
    go_wp2_with fail
    go_loopw [5, 19] (fun _ i wr => ∃ (k : Nat) (V : List Value), k ≤ n ∧ i = .int .i64 k ∧ Bx wr g [.slice (some ⟨gk, 0, none⟩) k n, .slice (some ⟨gt, 0, none⟩) m ct] ∧ wr.ownsRow w.heap.size 32 1 (.slice (some ⟨gk, 0, none⟩) k n) k V ∧ Els wr w.heap.size (fun b => b = g ∨ b = gk ∨ b = gt) (K.take k) V ∧ Bar wc wr (fun b => b = g ∨ b = gk)) (fun _ i _ => n - (intOf i).toNat)
    case atStart => exact ⟨0, [], by omega, rfl, HBX.out, HRK.out, Els.nil _ _ _, Bar.refl _ _⟩
    case round =>
      obtain ⟨k, V, hk, rfl, hbx, hrow, hels, hbar⟩ := hrel
      have hbw : Below w.heap.size w wr := HB.out.trans (hbar.below (fun k _ h => by omega) HB.out.size)
      by_cases hlt : k < n
      · obtain ⟨a, qk, cq, rfl, _, ca, hr, _⟩ := HKe.out wr hbw k (by rw [← HN.out]; exact hlt)
        have hxl := HKL.out k (by rw [← HN.out]; exact hlt)
        have htk := take_snoc (K := K) (k := k) (by rw [← HN.out]; exact hlt)
        obtain ⟨x, hx⟩ : ∃ x, x = K.getD k [] := ⟨_, rfl⟩
        rw [← hx] at ca hr hxl htk
        have hgk := (hrow.lt gk rfl).2
        have hgt : gt < wr.heap.size := Nat.lt_of_lt_of_le ((HRT.out.lt gt rfl).2) hbar.size
        have hgl := hbx.lt
        obtain ⟨BB2, hBB2⟩ : ∃ BB2 : World → Prop, BB2 = fun W => Bx W g [.slice (some ⟨gk, 0, none⟩) k n, .slice (some ⟨gt, 0, none⟩) m ct] ∧ W.ownsRow w.heap.size 32 1 (.slice (some ⟨gk, 0, none⟩) k n) k V ∧ Els W w.heap.size (fun b => b = g ∨ b = gk ∨ b = gt) (K.take k) V ∧ Below wr.heap.size wr W := ⟨_, rfl⟩
        have hL : ∀ W W' : World, BB2 W → Below W.heap.size W W' → BB2 W' := by
          intro W W' h hb
          rw [hBB2] at h ⊢
          exact ⟨h.1.below hb, Rw.own_below h.2.1 hb, h.2.2.1.bar (Bar.of_below hb (fun _ => False)) (fun _ h => h.elim), h.2.2.2.trans (hb.mono h.2.2.2.size)⟩
        have hD : ∀ W, BB2 W → BB2 W.drew := fun W h => hL W _ h (Below.drew (Below.refl _ W))
        have h0 : BB2 wr := by rw [hBB2]; exact ⟨hbx, hrow, hels, Below.refl _ _⟩
        have hK : ∀ W, BB2 W → W.cell? ⟨g, 0, none⟩ = some (.slice (some ⟨gk, 0, none⟩) k n) ∧ W.frozen? ⟨g, 0, none⟩ = false ∧ g < W.heap.size := by
          intro W h; rw [hBB2] at h; exact ⟨h.1.cell 0 (by simp), h.1.free 0 (by simp), h.1.lt⟩
        have hR : ∀ W, BB2 W → W.ownsRow w.heap.size 32 1 (.slice (some ⟨gk, 0, none⟩) k n) k V := by
          intro W h; rw [hBB2] at h; exact h.2.1
        have hC : ∀ W, BB2 W → Calls Try.prog 31 #[.slice qk x.length cq] W fun e w' => ∃ q' c', e = .returned (.slice q' x.length c') ∧ BB2 w' ∧ Rd w' q' (nums x) ∧ NewAt wr.heap.size q' := by
          intro W h
          have h2 := h
          rw [hBB2] at h2
          refine (cloneU_any x qk cq W (hr.below h2.2.2.2) hxl).mono ?_
          rintro e w' ⟨q', c', rfl, hr', hnew, hb⟩
          exact ⟨q', c', rfl, hL W w' h hb, hr', fun a e => Nat.le_trans h2.2.2.2.size (hnew a e)⟩
        have hF : ∀ W, BB2 W → ∀ q' c', Rd W q' (nums x) → NewAt wr.heap.size q' → ∀ w1, Bar W w1 (fun k => k = gk) →
            w1.cell? ⟨g, 0, none⟩ = some (.slice (some ⟨gk, 0, none⟩) k n) ∧ w1.frozen? ⟨g, 0, none⟩ = false ∧ Hid (Bx w1 g [.slice (some ⟨gk, 0, none⟩) k n, .slice (some ⟨gt, 0, none⟩) m ct] ∧ Els w1 w.heap.size (fun b => b = g ∨ b = gk ∨ b = gt) (K.take (k + 1)) (V ++ [.slice q' x.length c']) ∧ Bar wc w1 (fun b => b = g ∨ b = gk)) := by
          intro W h q' c' hrq hnew w1 hb1
          rw [hBB2] at h
          have hbx1 := h.1.bar hb1 n1
          refine ⟨hbx1.cell 0 (by simp), hbx1.free 0 (by simp), Lib.hid ⟨hbx1, ?_, (hbar.trans (Bar.of_below h.2.2.2 _)).trans (hb1.mono (fun k _ h => Or.inr h))⟩⟩
          rw [htk]
          refine (h.2.2.1.bar hb1 (fun k h => Or.inr (Or.inl h))).snoc ⟨q', c', rfl, Rd.bar hrq hb1 (fun a e h => ?_), hxl, fun a e => ⟨?_, fun h => ?_⟩⟩
          · have := hnew a e; omega
          · have h3 := hnew a e; have h4 := hbw.size; omega
          · have := hnew a e; rcases h with h | h | h <;> omega
        have HL := Lib.hid hL; have HD := Lib.hid hD; have H0 := Lib.hid h0; have HK := Lib.hid hK; have HR := Lib.hid hR; have HC := Lib.hid hC; have HF := Lib.hid hF
        have HRM : Hid (k + 1 ≤ n) := Lib.hid (by omega)
        obtain ⟨q4, q5, q6⟩ := hK wr h0
        have k0 : (0 : Int) ≤ (k : Int) := by omega
        have k1 : (k : Int) < (n : Int) := by omega
        clear hL hD h0 hK hR hC hF hBB2 hbx hrow hels hbar hbw hr hxl htk hx
        go_wp2_with fail
        clear ca
        go_region_law (first
          | (refine step_push _ (by rfl) _ _ _ (by rfl) w.heap.size 32 i0 1 Try.underlying22 HI.out HZ.out gk k n V (by rfl) (HR.out _ (by repeat (first | exact H0.out | assumption | apply HD.out))) [.slice q' x.length c'] (by rfl) (by rfl) (by rfl) HRM.out ?_; intro w1 hown1 hbar1
             obtain ⟨q7, q8, HX⟩ := HF.out _ hw q' c' hrq hnew w1 hbar1
             have HOW := Lib.hid hown1
             clear hown1 hbar1)
          | (go_simp; go_at_call 31; ((with_reducible refine (HC.out _ (by repeat (first | exact H0.out | assumption | apply HD.out))).mono ?_)); rintro e w' ⟨q', c', rfl, hw, hrq, hnew⟩; obtain ⟨q4, q5, q6⟩ := HK.out _ hw))
        all_goals go_wp2_with fail
        all_goals go_roundw
        all_goals (first | (simp [intOf]; done) | (simp [intOf]; omega) | exact ⟨k + 1, _, by omega, by go_num, HX.out.1.set (by simp) _, own_bar HOW.out ((Bar.refl _ (fun k => k = g)).setCell rfl _) (fun k hk h => by simp [Value.ownBlock] at hk; omega), HX.out.2.1.bar ((Bar.refl _ (fun k => k = g)).setCell rfl _) (fun k h => Or.inl h), HX.out.2.2.setCell (Or.inl rfl) _⟩)
      · obtain rfl : n = k := by omega
        have hfull : K.take n = K := List.take_of_length_le (by rw [← HN.out]; exact Nat.le_refl _)
        rw [hfull] at hels
        have hrt := own_bar HRT.out hbar (fun k hk h => by simp [Value.ownBlock] at hk; omega)
        have F : Hid (Wk wr w.heap.size g gk gt n ct K T ∧ Below w.heap.size w wr) := Lib.hid ⟨⟨by rw [← HN.out, ← HM.out]; exact hbx, ⟨V, by rw [← HN.out]; exact hrow, hels⟩, by rw [← HM.out]; exact hrt, n1, n2, n3, by omega⟩, hbw⟩
        clear hbx hrow hels hbar hbw hrt hfull
        go_wp2_with fail
        go_ret
        exact ⟨g, gk, gt, n, ct, rfl, F.out.1, F.out.2⟩
end
end Go.Proofs.Ythkgdjclgphodaa.Ls

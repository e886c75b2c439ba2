/- The walks of Put and Make. -/
import Derived.Test.YthkgdjclgphodaaLsPath
namespace Go.Proofs.Ythkgdjclgphodaa.Ls
open Go.RowKit Rw Nm

def apE (K : Keys) (T : List Int) (x : List Nat) : Int := if chk K T = 0 then pe K x else 2
def apK (K : Keys) (T : List Int) (x : List Nat) : Keys := if chk K T = 0 then pk K x else []
def mkE (K : Keys) : Int := if 1 ≤ K.length ∧ K.length ≤ 256 then 0 else 1
def mkK (K : Keys) : Keys := if 1 ≤ K.length ∧ K.length ≤ 256 then K else []
/-- a tree and an error, answered -/
def TrP (w : World) (K : Keys) (r : Int) (e : Ending) (w' : World) : Prop :=
  ∃ (p : Option Addr) (c : Nat) (q : Option Addr) (d : Nat), e = .returned (.tuple #[.agg #[.slice p K.length c, .slice q (up (build K)).length d], .int .i64 r]) ∧ LsAt w' p K q (up (build K)) ∧ Below w.heap.size w w'
theorem tr_no {w w' : World} (r : Int) (hb : Below w.heap.size w w') : TrP w [] r (.returned (.tuple #[.agg #[.slice none 0 0, .slice none 0 0], .int .i64 r])) w' :=
  ⟨none, 0, none, 0, rfl, ⟨fun i hi => absurd hi (by simp), by rw [show up (build []) = [] from rfl]; exact Rd.nil _ _, by simp, by simp [build, up]⟩, hb⟩
theorem Bx.belowB {w w' : World} {B g : Nat} {cs : List Value} (h : Bx w g cs) (hb : Below B w w') (hg : g < B) : Bx w' g cs :=
  ⟨Nat.lt_of_lt_of_le h.lt hb.size, fun i hi => by rw [hb.cell (p := ⟨g, i, none⟩) hg]; exact h.cell i hi, fun i hi => by rw [hb.frozen (p := ⟨g, i, none⟩) hg]; exact h.free i hi⟩
theorem Wk.ls {w : World} {B g gk gt ck ct : Nat} {K : Keys} {T : List Int} (h : Wk w B g gk gt ck ct K T) (h1 : K.length ≤ 256) (h2 : T.length ≤ 256) : LsAt w (some ⟨gk, 0, none⟩) K (some ⟨gt, 0, none⟩) T :=
  ⟨h.recs, Rd.of_own h.tree, by omega, by omega⟩
theorem kb_set {K : Keys} {x : List Nat} (h : Kb K) (hx : x.length ≤ 17592186044416) (i : Nat) : Kb (K.set i x) := by
  intro j hj
  rw [List.length_set] at hj
  by_cases e : i = j
  · subst e
    rw [show (K.set i x).getD i [] = x by simp [List.getD_eq_getElem?_getD, hj]]
    exact hx
  · rw [show (K.set i x).getD j [] = K.getD j [] by simp [List.getD_eq_getElem?_getD, List.getElem?_set_ne e]]
    exact h j hj
theorem pk_length (K : Keys) (x : List Nat) : (pk K x).length = K.length := by unfold pk; split <;> simp
theorem kb_pk {K : Keys} {x : List Nat} (h : Kb K) (hx : x.length ≤ 17592186044416) : Kb (pk K x) := by unfold pk; split; exact kb_set h hx _; exact h
theorem kb_ap {K : Keys} {T : List Int} {x : List Nat} (h : Kb K) (hx : x.length ≤ 17592186044416) : Kb (apK K T x) := by
  unfold apK; split; exact kb_pk h hx; exact fun i hi => absurd hi (by simp)
theorem kb_mk {K : Keys} (h : Kb K) : Kb (mkK K) := by unfold mkK; split; exact h; exact fun i hi => absurd hi (by simp)

section
variable {K : Keys} {T : List Int} {p q qx : Option Addr} {c d dx : Nat} {w : World} {x : List Nat}
set_option maxHeartbeats 4000000 in
set_option maxRecDepth 100000 in
theorem aput_any (h : LsAt w p K q T) (hkb : Kb K) (hx : Rd w qx (nums x)) (hxl : x.length ≤ 17592186044416) :
    Calls Try.prog 15 #[.agg #[.slice p K.length c, .slice q T.length d], .slice qx x.length dx] w fun e w' => TrP w (apK K T x) (apE K T x) e w' := by
  obtain ⟨n, hn⟩ : ∃ n, n = K.length := ⟨_, rfl⟩
  obtain ⟨m, hm⟩ : ∃ m, m = T.length := ⟨_, rfl⟩
  obtain ⟨W1, hW1⟩ : ∃ W1, W1 = w.alloc (.cells #[.slice p n c, .slice q m d] 25) := ⟨_, rfl⟩
  obtain ⟨W0, hW0⟩ : ∃ W0, W0 = W1.alloc (.cells #[.slice none 0 0, .slice none 0 0] 25) := ⟨_, rfl⟩
  have s1 : W1.heap.size = w.heap.size + 1 := by rw [hW1]; simp
  have a0 : Below w.heap.size w W1 := by rw [hW1]; exact (Below.refl _ _).alloc (Nat.le_refl _) _
  have a1 : Below W1.heap.size W1 W0 := by rw [hW0]; exact (Below.refl _ _).alloc (Nat.le_refl _) _
  have t0 : Below w.heap.size w W0 := a0.trans (a1.mono a0.size)
  have bx : Bx W0 w.heap.size [.slice p n c, .slice q m d] := by
    have := Bx.new w #[.slice p n c, .slice q m d] 25
    rw [← hW1] at this
    exact this.below a1
  have by1 : Bx W0 (w.heap.size + 1) [.slice none 0 0, .slice none 0 0] := by
    have := Bx.new W1 #[.slice none 0 0, .slice none 0 0] 25
    rw [← hW0, s1] at this
    exact this
  obtain ⟨r, hr⟩ : ∃ r, r = chk K T := ⟨_, rfl⟩
  have HC := Lib.hid (check_any (c := c) (d := d) (h.below t0))
  rw [← hr] at HC
  obtain ⟨lx, hlx⟩ : ∃ lx, lx = x.length := ⟨_, rfl⟩
  rw [← hn, ← hm] at HC ⊢
  rw [← hlx]
  have u0 : W0.cell? ⟨w.heap.size, 0, none⟩ = some (.slice p n c) := bx.cell 0 (by simp)
  have u1 : W0.cell? ⟨w.heap.size, 1, none⟩ = some (.slice q m d) := bx.cell 1 (by simp)
  have T0 := Lib.hid t0; have HW0 := Lib.hid hW0; have HW1 := Lib.hid hW1; have HBX := Lib.hid bx; have HBY := Lib.hid by1
  rcases chk_cases K T with ⟨h0, hK, hT⟩ | h2
  case inr =>
    rw [h2] at hr
    subst hr
    have hE : apE K T x = 2 := by unfold apE; rw [h2]; rfl
    have hK2 : apK K T x = [] := by unfold apK; rw [h2]; rfl
    rw [hE, hK2]
    clear h hn hm t0 bx by1 h2 hW0 hW1 hx hxl hkb a0 a1 s1 hE hK2 hlx
    go_enter Try.func15, Try.ntmps15
    go_wp2_with fail
    rw [← HW1.out, ← HW0.out]
    refine HC.out.mono ?_
    rintro e w1 ⟨rfl, b1⟩
    have B := Lib.hid (T0.out.trans (b1.mono T0.out.size))
    have e1 := HBY.out.below b1
    have p0 : w1.cell? ⟨w.heap.size + 1, 0, none⟩ = some (.slice none 0 0) := e1.cell 0 (by simp)
    have p1 : w1.cell? ⟨w.heap.size + 1, 1, none⟩ = some (.slice none 0 0) := e1.cell 1 (by simp)
    have f0 : w1.frozen? ⟨w.heap.size + 1, 0, none⟩ = false := e1.free 0 (by simp)
    have f1 : w1.frozen? ⟨w.heap.size + 1, 1, none⟩ = false := e1.free 1 (by simp)
    clear b1 e1
    go_wp2_with fail
    (try simp only [Exit.inBlock, Exit.then])
    refine bodyPost_ret (v := .tuple #[.agg #[.slice none 0 0, .slice none 0 0], .int .i64 2]) ?_ rfl ?_
    · rw [results_cell_tmp rfl]
      go_simp
    · exact tr_no 2 ((B.out.setCell (p := ⟨w.heap.size + 1, 0, none⟩) (by simp) _).setCell (p := ⟨w.heap.size + 1, 1, none⟩) (by simp) _)
  case inl =>
    rw [h0] at hr
    subst hr
    have hE : apE K T x = pe K x := if_pos h0
    have hK2 : apK K T x = pk K x := if_pos h0
    rw [hE, hK2]
    have hTl : T.length = K.length := by rw [hT, up_length, build_length]
    have HBe : Hid (∀ W, Below w.heap.size w W → Calls Try.prog 25 #[.agg #[.slice p n c, .slice q m d]] W fun e w' => ∃ g gk gt ck ct, e = .returned (.pointer (some ⟨g, 0, none⟩)) ∧ Wk w' W.heap.size g gk gt ck ct K T ∧ Below W.heap.size W w') := Lib.hid fun W hW => by
      rw [hn, hm]
      exact begin_any (h.below hW) hK.2 (by omega) (by omega) hkb
    have HP : Hid (∀ W W2 g gk gt ck ct, Below w.heap.size w W → Below W.heap.size W W2 → Wk W2 W.heap.size g gk gt ck ct K T → Calls Try.prog 33 #[.pointer (some ⟨g, 0, none⟩), .slice qx lx dx] W2 fun e w' => e = .returned (.int .i64 (pe K x)) ∧ Wk w' W.heap.size g gk gt ck ct (pk K x) (up (build (pk K x))) ∧ Below W.heap.size W2 w') := Lib.hid fun W W2 g gk gt ck ct hW hW2 hwk => by
      rw [hT] at hwk
      rw [hlx]
      exact put_any hwk hK.1 hK.2 ((hx.below hW).below hW2) hxl
    obtain ⟨K2, hKK⟩ : ∃ K2, K2 = pk K x := ⟨_, rfl⟩
    obtain ⟨e2, he2⟩ : ∃ e2, e2 = pe K x := ⟨_, rfl⟩
    have hl2 : K2.length ≤ 256 := by rw [hKK, pk_length]; exact hK.2
    have hl3 : (up (build K2)).length ≤ 256 := by rw [up_length, build_length]; exact hl2
    rw [← hKK, ← he2] at HP ⊢
    have HL2 := Lib.hid hl2; have HL3 := Lib.hid hl3
    clear h hn hm t0 bx by1 h0 hW0 hW1 hx hxl hkb a0 a1 s1 hE hK2 hT hTl hK hKK he2 hlx hl2 hl3
    go_enter Try.func15, Try.ntmps15
    go_wp2_with fail
    rw [← HW1.out, ← HW0.out]
    refine HC.out.mono ?_
    rintro e w1 ⟨rfl, b1⟩
    have hB1 := T0.out.trans (b1.mono T0.out.size)
    have bx1 := HBX.out.below b1
    have e1 := HBY.out.below b1
    have v0 : w1.cell? ⟨w.heap.size, 0, none⟩ = some (.slice p n c) := bx1.cell 0 (by simp)
    have v1 : w1.cell? ⟨w.heap.size, 1, none⟩ = some (.slice q m d) := bx1.cell 1 (by simp)
    have E1 := Lib.hid e1; have B1 := Lib.hid hB1
    clear b1 bx1 hB1 e1 u0 u1
    go_wp2_with fail
    refine (HBe.out _ B1.out).mono ?_
    rintro e w2 ⟨g, gk, gt, ck, ct, rfl, hwk, b2⟩
    have HWK := Lib.hid hwk; have B2 := Lib.hid b2
    clear hwk b2
    go_wp2_with fail
    refine (HP.out w1 w2 g gk gt ck ct B1.out B2.out HWK.out).mono ?_
    rintro e w3 ⟨rfl, hwk3, b3⟩
    have e3 := (E1.out.below B2.out).belowB b3 E1.out.lt
    have z0 := hwk3.box.cell 0 (by simp)
    have z1 := hwk3.box.cell 1 (by simp)
    simp only [List.getD_cons_zero, List.getD_cons_succ] at z0 z1
    have p0 : w3.cell? ⟨w.heap.size + 1, 0, none⟩ = some (.slice none 0 0) := e3.cell 0 (by simp)
    have p1 : w3.cell? ⟨w.heap.size + 1, 1, none⟩ = some (.slice none 0 0) := e3.cell 1 (by simp)
    have f0 : w3.frozen? ⟨w.heap.size + 1, 0, none⟩ = false := e3.free 0 (by simp)
    have f1 : w3.frozen? ⟨w.heap.size + 1, 1, none⟩ = false := e3.free 1 (by simp)
    have hgl := hwk3.box.lt
    have HF : Hid (∀ u v, TrP w K2 e2 (.returned (.tuple #[.agg #[.slice (some ⟨gk, 0, none⟩) K2.length ck, .slice (some ⟨gt, 0, none⟩) (up (build K2)).length ct], .int .i64 e2])) ((w3.setCell ⟨w.heap.size + 1, 0, none⟩ u).setCell ⟨w.heap.size + 1, 1, none⟩ v)) := Lib.hid (by
      intro u v
      have hlt := E1.out.lt
      have hb : Bar w3 ((w3.setCell ⟨w.heap.size + 1, 0, none⟩ u).setCell ⟨w.heap.size + 1, 1, none⟩ v) (fun k => k = w.heap.size + 1) := ((Bar.refl w3 (fun k => k = w.heap.size + 1)).setCell rfl _).setCell rfl _
      have hwk4 := hwk3.bar hb (fun k _ hk e => by omega)
      refine ⟨_, ck, _, ct, rfl, hwk4.ls HL2.out HL3.out, ?_⟩
      have hb3 : Below w.heap.size w w3 := (B1.out.trans (B2.out.mono B1.out.size)).trans (b3.mono B1.out.size)
      exact (hb3.setCell (p := ⟨w.heap.size + 1, 0, none⟩) (by simp) _).setCell (p := ⟨w.heap.size + 1, 1, none⟩) (by simp) _)
    obtain ⟨k2, hk2⟩ : ∃ k2, k2 = K2.length := ⟨_, rfl⟩
    obtain ⟨m2, hm2⟩ : ∃ m2, m2 = (up (build K2)).length := ⟨_, rfl⟩
    rw [← hk2] at z0 HF
    rw [← hm2] at z1 HF
    clear b3 hwk3 e3 hk2 hm2 HL2 HL3
    go_wp2_with fail
    (try simp only [Exit.inBlock, Exit.then])
    refine bodyPost_ret (v := .tuple #[.agg #[.slice (some ⟨gk, 0, none⟩) k2 ck, .slice (some ⟨gt, 0, none⟩) m2 ct], .int .i64 e2]) ?_ rfl ?_
    · rw [results_cell_tmp rfl]
      go_simp
    · exact HF.out _ _
set_option maxHeartbeats 4000000 in
set_option maxRecDepth 100000 in
theorem make_any (h : RecsAt w p K) (hn0 : K.length ≤ 9223372036854775807) (hkb : Kb K) :
    Calls Try.prog 8 #[.slice p K.length c] w fun e w' => TrP w (mkK K) (mkE K) e w' := by
  obtain ⟨n, hn⟩ : ∃ n, n = K.length := ⟨_, rfl⟩
  obtain ⟨W0, hW0⟩ : ∃ W0, W0 = w.alloc (.cells #[.slice none 0 0, .slice none 0 0] 25) := ⟨_, rfl⟩
  have t0 : Below w.heap.size w W0 := by rw [hW0]; exact (Below.refl _ _).alloc (Nat.le_refl _) _
  have by1 : Bx W0 w.heap.size [.slice none 0 0, .slice none 0 0] := by
    have := Bx.new w #[.slice none 0 0, .slice none 0 0] 25
    rwa [← hW0] at this
  rw [← hn]
  have T0 := Lib.hid t0; have HW0 := Lib.hid hW0; have HBY := Lib.hid by1
  by_cases hm : 1 ≤ n ∧ n ≤ 256
  case neg =>
    have hE : mkE K = 1 := by unfold mkE; rw [if_neg (by rw [← hn]; exact hm)]
    have hK2 : mkK K = [] := by unfold mkK; rw [if_neg (by rw [← hn]; exact hm)]
    rw [hE, hK2]
    have HI : Hid (∀ W, Calls Try.prog 24 #[.int .i64 n] W fun e w' => e = .returned (.bool false) ∧ W = w') := Lib.hid fun W => by
      have := isMany_any n W (by omega)
      rwa [decide_eq_false hm] at this
    have p0 : W0.cell? ⟨w.heap.size, 0, none⟩ = some (.slice none 0 0) := by1.cell 0 (by simp)
    have p1 : W0.cell? ⟨w.heap.size, 1, none⟩ = some (.slice none 0 0) := by1.cell 1 (by simp)
    have f0 : W0.frozen? ⟨w.heap.size, 0, none⟩ = false := by1.free 0 (by simp)
    have f1 : W0.frozen? ⟨w.heap.size, 1, none⟩ = false := by1.free 1 (by simp)
    clear h hn0 hkb hn hm t0 by1 hW0 hE hK2
    go_enter Try.func8, Try.ntmps8
    go_wp2_with fail
    rw [← HW0.out]
    refine (HI.out _).mono ?_
    rintro e w1 ⟨rfl, rfl⟩
    go_wp2_with fail
    (try simp only [Exit.inBlock, Exit.then])
    refine bodyPost_ret (v := .tuple #[.agg #[.slice none 0 0, .slice none 0 0], .int .i64 1]) ?_ rfl ?_
    · rw [results_cell_tmp rfl]
      go_simp
    · exact tr_no 1 ((T0.out.setCell (p := ⟨w.heap.size, 0, none⟩) (by simp) _).setCell (p := ⟨w.heap.size, 1, none⟩) (by simp) _)
  case pos =>
    have hE : mkE K = 0 := by unfold mkE; rw [if_pos (by rw [← hn]; exact hm)]
    have hK2 : mkK K = K := by unfold mkK; rw [if_pos (by rw [← hn]; exact hm)]
    rw [hE, hK2]
    have HI : Hid (∀ W, Calls Try.prog 24 #[.int .i64 n] W fun e w' => e = .returned (.bool true) ∧ W = w') := Lib.hid fun W => by
      have := isMany_any n W (by omega)
      rwa [decide_eq_true hm] at this
    have HB : Hid (∀ W, Below w.heap.size w W → Calls Try.prog 26 #[.slice p n c] W fun e w' => ∃ g, e = .returned (.slice (some ⟨g, 0, none⟩) n n) ∧ Nums w' W.heap.size g n (build K) ∧ Below W.heap.size W w') := Lib.hid fun W hW => by
      rw [hn] at hm ⊢
      exact build_any hm.1 hm.2 (h.below hW)
    have hul : (up (build K)).length = n := by rw [up_length, build_length, hn]
    have HBe : Hid (∀ W g, Below w.heap.size w W → Rd W (some ⟨g, 0, none⟩) (zs (up (build K))) → Calls Try.prog 25 #[.agg #[.slice p n c, .slice (some ⟨g, 0, none⟩) n n]] W fun e w' => ∃ g gk gt ck ct, e = .returned (.pointer (some ⟨g, 0, none⟩)) ∧ Wk w' W.heap.size g gk gt ck ct K (up (build K)) ∧ Below W.heap.size W w') := Lib.hid fun W g hW hr => by
      have := begin_any (c := c) (d := n) (⟨h.below hW, hr, hn0, by omega⟩ : LsAt W p K (some ⟨g, 0, none⟩) (up (build K))) (by omega) (by omega) (by omega) hkb
      rw [← hn, hul] at this
      exact this
    have HL2 : Hid (K.length ≤ 256) := Lib.hid (by omega)
    have HL3 : Hid ((up (build K)).length ≤ 256) := Lib.hid (by omega)
    have HN := Lib.hid hn; have HUL := Lib.hid hul
    clear h hn0 hkb hn hm t0 by1 hW0 hE hK2 hul
    go_enter Try.func8, Try.ntmps8
    go_wp2_with fail
    rw [← HW0.out]
    refine (HI.out _).mono ?_
    rintro e w1 ⟨rfl, rfl⟩
    go_wp2_with fail
    refine (HB.out _ T0.out).mono ?_
    rintro e w1 ⟨g0, rfl, hnu, b1⟩
    have B1 := Lib.hid (T0.out.trans (b1.mono T0.out.size))
    have RD := Lib.hid hnu.rd
    have E1 := Lib.hid (HBY.out.below b1)
    clear hnu b1
    go_wp2_with fail
    refine (HBe.out _ _ B1.out RD.out).mono ?_
    rintro e w3 ⟨g, gk, gt, ck, ct, rfl, hwk3, b3⟩
    have e3 := E1.out.below b3
    have z0 := hwk3.box.cell 0 (by simp)
    have z1 := hwk3.box.cell 1 (by simp)
    simp only [List.getD_cons_zero, List.getD_cons_succ] at z0 z1
    have p0 : w3.cell? ⟨w.heap.size, 0, none⟩ = some (.slice none 0 0) := e3.cell 0 (by simp)
    have p1 : w3.cell? ⟨w.heap.size, 1, none⟩ = some (.slice none 0 0) := e3.cell 1 (by simp)
    have f0 : w3.frozen? ⟨w.heap.size, 0, none⟩ = false := e3.free 0 (by simp)
    have f1 : w3.frozen? ⟨w.heap.size, 1, none⟩ = false := e3.free 1 (by simp)
    have hgl := hwk3.box.lt
    have HF : Hid (∀ u v, TrP w K 0 (.returned (.tuple #[.agg #[.slice (some ⟨gk, 0, none⟩) K.length ck, .slice (some ⟨gt, 0, none⟩) (up (build K)).length ct], .int .i64 0])) ((w3.setCell ⟨w.heap.size, 0, none⟩ u).setCell ⟨w.heap.size, 1, none⟩ v)) := Lib.hid (by
      intro u v
      have hlt := E1.out.lt
      have hb : Bar w3 ((w3.setCell ⟨w.heap.size, 0, none⟩ u).setCell ⟨w.heap.size, 1, none⟩ v) (fun k => k = w.heap.size) := ((Bar.refl w3 (fun k => k = w.heap.size)).setCell rfl _).setCell rfl _
      have hwk4 := hwk3.bar hb (fun k _ hk e => by omega)
      refine ⟨_, ck, _, ct, rfl, hwk4.ls HL2.out HL3.out, ?_⟩
      have hb3 : Below w.heap.size w w3 := B1.out.trans (b3.mono B1.out.size)
      exact (hb3.setCell (p := ⟨w.heap.size, 0, none⟩) (by simp) _).setCell (p := ⟨w.heap.size, 1, none⟩) (by simp) _)
    obtain ⟨k2, hk2⟩ : ∃ k2, k2 = K.length := ⟨_, rfl⟩
    obtain ⟨m2, hm2⟩ : ∃ m2, m2 = (up (build K)).length := ⟨_, rfl⟩
    rw [← hk2] at z0 HF
    rw [← hm2] at z1 HF
    clear b3 hwk3 e3 hk2 hm2 HL2 HL3
    go_wp2_with fail
    (try simp only [Exit.inBlock, Exit.then])
    refine bodyPost_ret (v := .tuple #[.agg #[.slice (some ⟨gk, 0, none⟩) k2 ck, .slice (some ⟨gt, 0, none⟩) m2 ct], .int .i64 0]) ?_ rfl ?_
    · rw [results_cell_tmp rfl]
      go_simp
    · exact HF.out _ _
end
end Go.Proofs.Ythkgdjclgphodaa.Ls

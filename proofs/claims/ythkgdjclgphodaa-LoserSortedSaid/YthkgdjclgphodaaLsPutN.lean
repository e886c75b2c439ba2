/- Put once more: what it answers lies in memory of its own. -/
import Derived.Test.YthkgdjclgphodaaLsLawA
namespace Go.Proofs.Ythkgdjclgphodaa.Ls
open Go.RowKit Rw Nm

/-- a tree and an error, answered, in memory that is new -/
def TrQ (w : World) (K : Keys) (r : Int) (e : Ending) (w' : World) : Prop :=
  ∃ (p : Option Addr) (c : Nat) (q : Option Addr) (d : Nat), e = .returned (.tuple #[.agg #[.slice p K.length c, .slice q (up (build K)).length d], .int .i64 r]) ∧ (∀ (w'' : World) (P : Nat → Prop), Bar w' w'' P → (∀ k, w.heap.size ≤ k → ¬ P k) → LsAt w'' p K q (up (build K))) ∧ Below w.heap.size w w'
theorem trq_no {w w' : World} (r : Int) (hb : Below w.heap.size w w') : TrQ w [] r (.returned (.tuple #[.agg #[.slice none 0 0, .slice none 0 0], .int .i64 r])) w' :=
  ⟨none, 0, none, 0, rfl, fun w'' P _ _ => ⟨fun i hi => absurd hi (by simp), by rw [show up (build []) = [] from rfl]; exact Rd.nil _ _, by simp, by simp [build, up]⟩, hb⟩

section
variable {K : Keys} {T : List Int} {p q qx : Option Addr} {c d dx : Nat} {w : World} {x : List Nat}
set_option maxHeartbeats 4000000 in
set_option maxRecDepth 100000 in
theorem aputN_any (h : LsAt w p K q T) (hkb : Kb K) (hx : Rd w qx (nums x)) (hxl : x.length ≤ 17592186044416) :
    Calls Try.prog 15 #[.agg #[.slice p K.length c, .slice q T.length d], .slice qx x.length dx] w fun e w' => TrQ w (apK K T x) (apE K T x) e w' := by
  obtain ⟨n, hn⟩ : ∃ n, n = K.length := ⟨_, rfl⟩
  obtain ⟨m, hm⟩ : ∃ m, m = T.length := ⟨_, rfl⟩
  obtain ⟨W1, hW1⟩ : ∃ W1, W1 = w.alloc (.cells #[.slice p n c, .slice q m d] 25) := ⟨_, rfl⟩
  obtain ⟨W0, hW0⟩ : ∃ W0, W0 = W1.alloc (.cells #[.slice none 0 0, .slice none 0 0] 25) := ⟨_, rfl⟩
  have s1 : W1.heap.size = w.heap.size + 1 := by rw [hW1]; simp
  have a0 : Below w.heap.size w W1 := by rw [hW1]; exact (Below.refl _ _).alloc (Nat.le_refl _) _
  have a1 : Below W1.heap.size W1 W0 := by rw [hW0]; exact (Below.refl _ _).alloc (Nat.le_refl _) _
  have t0 : Below w.heap.size w W0 := a0.trans (a1.mono a0.size)
  have bx : Bx W0 w.heap.size [.slice p n c, .slice q m d] := by
    have := Bx.new w #[.slice p n c, .slice q m d] 25
    rw [← hW1] at this
    exact this.below a1
  have by1 : Bx W0 (w.heap.size + 1) [.slice none 0 0, .slice none 0 0] := by
    have := Bx.new W1 #[.slice none 0 0, .slice none 0 0] 25
    rw [← hW0, s1] at this
    exact this
  obtain ⟨r, hr⟩ : ∃ r, r = chk K T := ⟨_, rfl⟩
  have HC := Lib.hid (check_any (c := c) (d := d) (h.below t0))
  rw [← hr] at HC
  obtain ⟨lx, hlx⟩ : ∃ lx, lx = x.length := ⟨_, rfl⟩
  rw [← hn, ← hm] at HC ⊢
  rw [← hlx]
  have u0 : W0.cell? ⟨w.heap.size, 0, none⟩ = some (.slice p n c) := bx.cell 0 (by simp)
  have u1 : W0.cell? ⟨w.heap.size, 1, none⟩ = some (.slice q m d) := bx.cell 1 (by simp)
  have T0 := Lib.hid t0; have HW0 := Lib.hid hW0; have HW1 := Lib.hid hW1; have HBX := Lib.hid bx; have HBY := Lib.hid by1
  rcases chk_cases K T with ⟨h0, hK, hT⟩ | h2
  case inr =>
    rw [h2] at hr
    subst hr
    have hE : apE K T x = 2 := by unfold apE; rw [h2]; rfl
    have hK2 : apK K T x = [] := by unfold apK; rw [h2]; rfl
    rw [hE, hK2]
    clear h hn hm t0 bx by1 h2 hW0 hW1 hx hxl hkb a0 a1 s1 hE hK2 hlx
    go_enter Try.func15, Try.ntmps15
    go_wp2_with fail
    rw [← HW1.out, ← HW0.out]
    refine HC.out.mono ?_
    rintro e w1 ⟨rfl, b1⟩
    have B := Lib.hid (T0.out.trans (b1.mono T0.out.size))
    have e1 := HBY.out.below b1
    have p0 : w1.cell? ⟨w.heap.size + 1, 0, none⟩ = some (.slice none 0 0) := e1.cell 0 (by simp)
    have p1 : w1.cell? ⟨w.heap.size + 1, 1, none⟩ = some (.slice none 0 0) := e1.cell 1 (by simp)
    have f0 : w1.frozen? ⟨w.heap.size + 1, 0, none⟩ = false := e1.free 0 (by simp)
    have f1 : w1.frozen? ⟨w.heap.size + 1, 1, none⟩ = false := e1.free 1 (by simp)
    clear b1 e1
    go_wp2_with fail
    (try simp only [Exit.inBlock, Exit.then])
    refine bodyPost_ret (v := .tuple #[.agg #[.slice none 0 0, .slice none 0 0], .int .i64 2]) ?_ rfl ?_
    · rw [results_cell_tmp rfl]
      go_simp
    · exact trq_no 2 ((B.out.setCell (p := ⟨w.heap.size + 1, 0, none⟩) (by simp) _).setCell (p := ⟨w.heap.size + 1, 1, none⟩) (by simp) _)
  case inl =>
    rw [h0] at hr
    subst hr
    have hE : apE K T x = pe K x := if_pos h0
    have hK2 : apK K T x = pk K x := if_pos h0
    rw [hE, hK2]
    have hTl : T.length = K.length := by rw [hT, up_length, build_length]
    have HBe : Hid (∀ W, Below w.heap.size w W → Calls Try.prog 25 #[.agg #[.slice p n c, .slice q m d]] W fun e w' => ∃ g gk gt ck ct, e = .returned (.pointer (some ⟨g, 0, none⟩)) ∧ Wk w' W.heap.size g gk gt ck ct K T ∧ Below W.heap.size W w') := Lib.hid fun W hW => by
      rw [hn, hm]
      exact begin_any (h.below hW) hK.2 (by omega) (by omega) hkb
    have HP : Hid (∀ W W2 g gk gt ck ct, Below w.heap.size w W → Below W.heap.size W W2 → Wk W2 W.heap.size g gk gt ck ct K T → Calls Try.prog 33 #[.pointer (some ⟨g, 0, none⟩), .slice qx lx dx] W2 fun e w' => e = .returned (.int .i64 (pe K x)) ∧ Wk w' W.heap.size g gk gt ck ct (pk K x) (up (build (pk K x))) ∧ Below W.heap.size W2 w') := Lib.hid fun W W2 g gk gt ck ct hW hW2 hwk => by
      rw [hT] at hwk
      rw [hlx]
      exact put_any hwk hK.1 hK.2 ((hx.below hW).below hW2) hxl
    obtain ⟨K2, hKK⟩ : ∃ K2, K2 = pk K x := ⟨_, rfl⟩
    obtain ⟨e2, he2⟩ : ∃ e2, e2 = pe K x := ⟨_, rfl⟩
    have hl2 : K2.length ≤ 256 := by rw [hKK, pk_length]; exact hK.2
    have hl3 : (up (build K2)).length ≤ 256 := by rw [up_length, build_length]; exact hl2
    rw [← hKK, ← he2] at HP ⊢
    have HL2 := Lib.hid hl2; have HL3 := Lib.hid hl3
    clear h hn hm t0 bx by1 h0 hW0 hW1 hx hxl hkb a0 a1 s1 hE hK2 hT hTl hK hKK he2 hlx hl2 hl3
    go_enter Try.func15, Try.ntmps15
    go_wp2_with fail
    rw [← HW1.out, ← HW0.out]
    refine HC.out.mono ?_
    rintro e w1 ⟨rfl, b1⟩
    have hB1 := T0.out.trans (b1.mono T0.out.size)
    have bx1 := HBX.out.below b1
    have e1 := HBY.out.below b1
    have v0 : w1.cell? ⟨w.heap.size, 0, none⟩ = some (.slice p n c) := bx1.cell 0 (by simp)
    have v1 : w1.cell? ⟨w.heap.size, 1, none⟩ = some (.slice q m d) := bx1.cell 1 (by simp)
    have E1 := Lib.hid e1; have B1 := Lib.hid hB1
    clear b1 bx1 hB1 e1 u0 u1
    go_wp2_with fail
    refine (HBe.out _ B1.out).mono ?_
    rintro e w2 ⟨g, gk, gt, ck, ct, rfl, hwk, b2⟩
    have HWK := Lib.hid hwk; have B2 := Lib.hid b2
    clear hwk b2
    go_wp2_with fail
    refine (HP.out w1 w2 g gk gt ck ct B1.out B2.out HWK.out).mono ?_
    rintro e w3 ⟨rfl, hwk3, b3⟩
    have e3 := (E1.out.below B2.out).belowB b3 E1.out.lt
    have z0 := hwk3.box.cell 0 (by simp)
    have z1 := hwk3.box.cell 1 (by simp)
    simp only [List.getD_cons_zero, List.getD_cons_succ] at z0 z1
    have p0 : w3.cell? ⟨w.heap.size + 1, 0, none⟩ = some (.slice none 0 0) := e3.cell 0 (by simp)
    have p1 : w3.cell? ⟨w.heap.size + 1, 1, none⟩ = some (.slice none 0 0) := e3.cell 1 (by simp)
    have f0 : w3.frozen? ⟨w.heap.size + 1, 0, none⟩ = false := e3.free 0 (by simp)
    have f1 : w3.frozen? ⟨w.heap.size + 1, 1, none⟩ = false := e3.free 1 (by simp)
    have hgl := hwk3.box.lt
    have HF : Hid (∀ u v, TrQ w K2 e2 (.returned (.tuple #[.agg #[.slice (some ⟨gk, 0, none⟩) K2.length ck, .slice (some ⟨gt, 0, none⟩) (up (build K2)).length ct], .int .i64 e2])) ((w3.setCell ⟨w.heap.size + 1, 0, none⟩ u).setCell ⟨w.heap.size + 1, 1, none⟩ v)) := Lib.hid (by
      intro u v
      have hlt := E1.out.lt
      have hb : Bar w3 ((w3.setCell ⟨w.heap.size + 1, 0, none⟩ u).setCell ⟨w.heap.size + 1, 1, none⟩ v) (fun k => k = w.heap.size + 1) := ((Bar.refl w3 (fun k => k = w.heap.size + 1)).setCell rfl _).setCell rfl _
      have hwk4 := hwk3.bar hb (fun k _ hk e => by omega)
      refine ⟨_, ck, _, ct, rfl, fun w'' P hB hP => (hwk4.bar hB (fun k _ hk => hP k (Nat.le_trans B1.out.size hk))).ls HL2.out HL3.out, ?_⟩
      have hb3 : Below w.heap.size w w3 := (B1.out.trans (B2.out.mono B1.out.size)).trans (b3.mono B1.out.size)
      exact (hb3.setCell (p := ⟨w.heap.size + 1, 0, none⟩) (by simp) _).setCell (p := ⟨w.heap.size + 1, 1, none⟩) (by simp) _)
    obtain ⟨k2, hk2⟩ : ∃ k2, k2 = K2.length := ⟨_, rfl⟩
    obtain ⟨m2, hm2⟩ : ∃ m2, m2 = (up (build K2)).length := ⟨_, rfl⟩
    rw [← hk2] at z0 HF
    rw [← hm2] at z1 HF
    clear b3 hwk3 e3 hk2 hm2 HL2 HL3
    go_wp2_with fail
    (try simp only [Exit.inBlock, Exit.then])
    refine bodyPost_ret (v := .tuple #[.agg #[.slice (some ⟨gk, 0, none⟩) k2 ck, .slice (some ⟨gt, 0, none⟩) m2 ct], .int .i64 e2]) ?_ rfl ?_
    · rw [results_cell_tmp rfl]
      go_simp
    · exact HF.out _ _
end
/-- the same of Top -/
def TopQ (w : World) (K : Keys) (T : List Int) (e : Ending) (w' : World) : Prop :=
  ∃ (q : Option Addr) (c : Nat), e = .returned (.tuple #[.int .i64 (topI K T), .slice q (topK K T).length c, .int .i64 (topE K T)]) ∧ Rd w' q (nums (topK K T)) ∧ (∀ a, q = some a → w.heap.size ≤ a.block) ∧ Below w.heap.size w w'
theorem topq_no {w w' : World} {K : Keys} {T : List Int} (r : Int) (h : topE K T = r) (h0 : r ≠ 0) (hb : Below w.heap.size w w') : TopQ w K T (.returned (.tuple #[.int .i64 0, .slice none 0 0, .int .i64 r])) w' := by
  have h1 : topE K T ≠ 0 := by rw [h]; exact h0
  have e1 : topI K T = 0 := if_neg h1
  have e2 : topK K T = [] := if_neg h1
  exact ⟨none, 0, by rw [e1, e2, h]; rfl, by rw [e2]; exact Rd.nil _ _, fun a e => (by cases e), hb⟩
section
variable {K : Keys} {T : List Int} {p q : Option Addr} {c d : Nat} {w : World}
set_option maxHeartbeats 4000000 in
set_option maxRecDepth 100000 in
theorem topN_any (h : LsAt w p K q T) (hkb : Kb K) :
    Calls Try.prog 13 #[.agg #[.slice p K.length c, .slice q T.length d]] w fun e w' => TopQ w K T e w' := by
  obtain ⟨n, hn⟩ : ∃ n, n = K.length := ⟨_, rfl⟩
  obtain ⟨m, hm⟩ : ∃ m, m = T.length := ⟨_, rfl⟩
  obtain ⟨W0, hW0⟩ : ∃ W0, W0 = w.alloc (.cells #[.slice p n c, .slice q m d] 25) := ⟨_, rfl⟩
  have t0 : Below w.heap.size w W0 := by rw [hW0]; exact (Below.refl _ _).alloc (Nat.le_refl _) _
  have bx := Bx.new w #[.slice p n c, .slice q m d] 25
  rw [← hW0] at bx
  obtain ⟨r, hr⟩ : ∃ r, r = chk K T := ⟨_, rfl⟩
  have HC := Lib.hid (check_any (c := c) (d := d) (h.below t0))
  rw [← hr] at HC
  rw [← hn, ← hm] at HC ⊢
  have u0 : W0.cell? ⟨w.heap.size, 0, none⟩ = some (.slice p n c) := bx.cell 0 (by simp)
  have u1 : W0.cell? ⟨w.heap.size, 1, none⟩ = some (.slice q m d) := bx.cell 1 (by simp)
  have T0 := Lib.hid t0; have HW0 := Lib.hid hW0; have HBX := Lib.hid bx
  rcases chk_cases K T with ⟨h0, hK, hT⟩ | h2
  case inr =>
    rw [h2] at hr
    subst hr
    have hE : topE K T = 2 := by unfold topE; rw [h2]; rfl
    clear h hkb hn hm t0 bx h2 hW0
    go_enter Try.func13, Try.ntmps13
    go_wp2_with fail
    rw [← HW0.out]
    refine HC.out.mono ?_
    rintro e w1 ⟨rfl, b1⟩
    have B := Lib.hid (T0.out.trans (b1.mono T0.out.size))
    clear b1
    go_wp2_with fail
    refine bodyPost_ret (v := .tuple #[.int .i64 0, .slice none 0 0, .int .i64 2]) (by simp [results, Try.results13, go_sem]) rfl ?_
    exact topq_no 2 hE (by decide) B.out
  case inl =>
    rw [h0] at hr
    subst hr
    obtain ⟨i, hi⟩ : ∃ i, i = wn K 1 := ⟨_, rfl⟩
    have HLS : Hid (∀ W, Below w.heap.size w W → LsAt W p K q T) := Lib.hid fun W hW => h.below hW
    have HR := Lib.hid (fun W g (hW : Below w.heap.size w W) (hb : Bx W g [.slice p n c, .slice q m d]) => box_reads (HLS.out W hW) hT hK.1 hn hm hi hb)
    have HKI := Lib.hid (hkb i (by rw [hi]; exact wn_lt (by omega) (by omega)))
    have FE : Hid (topE K T = if kat K i = [] then 3 else 0) := Lib.hid (by unfold topE; rw [if_pos h0, ← hi])
    have FI : Hid (topE K T = 0 → topI K T = (i : Nat) ∧ topK K T = kat K i) := Lib.hid fun e => by unfold topI topK; rw [if_pos e, if_pos e, ← hi]; exact ⟨rfl, rfl⟩
    clear h hkb hn hm t0 bx hW0 h0 hK hT hi HLS
    go_enter Try.func13, Try.ntmps13
    go_wp2_with fail
    rw [← HW0.out]
    refine HC.out.mono ?_
    rintro e w1 ⟨rfl, b1⟩
    have hB1 := T0.out.trans (b1.mono T0.out.size)
    have bx1 := HBX.out.below b1
    have v0 : w1.cell? ⟨w.heap.size, 0, none⟩ = some (.slice p n c) := bx1.cell 0 (by simp)
    have v1 : w1.cell? ⟨w.heap.size, 1, none⟩ = some (.slice q m d) := bx1.cell 1 (by simp)
    obtain ⟨w2, hw2⟩ : ∃ w2, w2 = w1.alloc (.cells #[.slice p n c, .slice q m d] 48) := ⟨_, rfl⟩
    have bx2 := Bx.new w1 #[.slice p n c, .slice q m d] 48
    rw [← hw2] at bx2
    have hB2 : Below w.heap.size w w2 := hB1.trans (by rw [hw2]; exact (Below.refl _ _).alloc hB1.size _)
    obtain ⟨a, b, qk, dk, ea, eb, hnm, hin, z0, z1, z2, z3, z4⟩ := HR.out w2 _ hB2 bx2
    obtain ⟨x, hx⟩ : ∃ x, x = kat K i := ⟨_, rfl⟩
    rw [← hx] at z3 z4 FE FI
    have HE := Lib.hid (isEmpty_any z0 z1 (by omega) z2 hin z3)
    have HBe : Hid (∀ j, Calls Try.prog 32 #[.pointer (some ⟨w1.heap.size, 0, none⟩)] (w2.drewN j) fun e w' => e = .returned (.slice qk x.length dk) ∧ ∃ n, w' = (w2.drewN j).drewN n) :=
      Lib.hid fun j => best_any (by simpa using z0) (by simpa using z1) (by omega) (by simpa using z2) hin (by simpa using z3)
    have HWi : Hid (∀ j, Calls Try.prog 30 #[.pointer (some ⟨w1.heap.size, 0, none⟩)] (w2.drewN j) fun e w' => e = .returned (.int .i64 (i : Nat)) ∧ w2.drewN j = w') :=
      Lib.hid fun j => winner_any (by simpa using z1) (by omega) (by simpa using z2)
    have HCl : Hid (∀ j, Calls Try.prog 31 #[.slice qk x.length dk] (w2.drewN j) fun e w' => ∃ q' c', e = .returned (.slice q' x.length c') ∧ Rd w' q' (nums x) ∧ NewAt (w2.drewN j).heap.size q' ∧ Below (w2.drewN j).heap.size (w2.drewN j) w') :=
      Lib.hid fun j => cloneU_any x qk dk _ (z4.drewN j) (by rw [hx]; exact HKI.out)
    have HB2 : Hid (∀ j, Below w.heap.size w (w2.drewN j)) := Lib.hid fun j => below_drewN hB2 j
    have HW2 := Lib.hid hw2
    obtain ⟨lx, hlx⟩ : ∃ lx, lx = x.length := ⟨_, rfl⟩
    rw [← hlx] at HE HBe HCl
    clear b1 hB1 bx1 bx2 hB2 hw2 z0 z1 z2 z3 z4 ea eb hnm hin hx u0 u1
    by_cases hx0 : lx = 0
    · have hE : topE K T = 3 := by rw [FE.out, if_pos (List.length_eq_zero_iff.1 (by omega))]
      have t : decide (lx = 0) = true := decide_eq_true hx0
      clear hlx hx0 HBe HWi HCl FI
      go_wp2_with fail
      rw [← HW2.out]
      refine HE.out.mono ?_
      rintro e w3 ⟨rfl, j, rfl⟩
      go_wp2_with fail
      refine bodyPost_ret (v := .tuple #[.int .i64 0, .slice none 0 0, .int .i64 3]) (by simp [results, Try.results13, go_sem]) rfl ?_
      exact topq_no 3 hE (by decide) (HB2.out _)
    · have hE : topE K T = 0 := by rw [FE.out, if_neg (fun e => hx0 (by rw [hlx, e]; rfl))]
      have t : decide (lx = 0) = false := decide_eq_false hx0
      have HLX := Lib.hid hlx
      clear hlx hx0
      go_wp2_with fail
      rw [← HW2.out]
      refine HE.out.mono ?_
      rintro e w3 ⟨rfl, j, rfl⟩
      go_wp2_with fail
      refine (HWi.out _).mono ?_
      rintro e w3 ⟨rfl, rfl⟩
      go_wp2_with fail
      refine (HBe.out _).mono ?_
      rintro e w3 ⟨rfl, j2, rfl⟩
      go_wp2_with fail
      refine (HCl.out _).mono ?_
      rintro e w3 ⟨q', c', rfl, hr, hnew, hb⟩
      have F : Hid (TopQ w K T (.returned (.tuple #[.int .i64 (i : Nat), .slice q' lx c', .int .i64 0])) w3) := Lib.hid (by
        obtain ⟨e1, e2⟩ := FI.out hE
        refine ⟨q', c', by rw [e1, e2, hE, HLX.out], by rw [e2]; exact hr, fun a e => Nat.le_trans (HB2.out _).size (hnew a e), (HB2.out _).trans (hb.mono (HB2.out _).size)⟩)
      clear hr hb hnew
      go_wp2_with fail
      refine bodyPost_ret (v := .tuple #[.int .i64 (i : Nat), .slice q' lx c', .int .i64 0]) (by simp [results, Try.results13, go_sem]) rfl ?_
      exact F.out
end
end Go.Proofs.Ythkgdjclgphodaa.Ls

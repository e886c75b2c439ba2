/- The document's Make and Same. -/
import Derived.Test.YthkgdjclgphodaaLsRefB
namespace Go.Proofs.Ythkgdjclgphodaa.Ls
open Go.RowKit Rw Nm

theorem copy_recs {w : World} {B D bo n ck : Nat} {pk : Option Addr} {V : List Value} {K : Keys} (hn : n = K.length) (hrow : w.ownsRow B 32 1 (.slice pk n ck) n V) (hl : V.length = n) (he : ∀ i, i < n → CpEl w D bo (.slice pk n ck) (K.getD i []) (V.getD i (.bool false))) : RecsAt w pk K := by
  intro i hi
  rw [← hn] at hi
  obtain ⟨q, c, e, hr, hxl, _⟩ := he i hi
  have hrd := Rd.of_own hrow
  obtain ⟨a, ea, hlt, hc⟩ := hrd i (by rw [hl]; exact hi)
  rw [e] at hc
  exact ⟨a, q, c, ea, hlt, hc, hr, by omega⟩
theorem CopyP.ls {w w' : World} {K : Keys} {T : List Int} {e : Ending} (h : CopyP w K T e w') (h1 : K.length ≤ 9223372036854775807) (h2 : T.length ≤ 9223372036854775807) :
    ∃ (pk : Option Addr) (ck : Nat) (q : Option Addr) (d : Nat), e = .returned (.agg #[.slice pk K.length ck, .slice q T.length d]) ∧ (∀ (w'' : World) (p : Nat → Prop), Bar w' w'' p → (∀ k, w.heap.size ≤ k → ¬ p k) → LsAt w'' pk K q T) ∧ Below w.heap.size w w' := by
  obtain ⟨pk, ck, V, q, d, bo, rfl, hrow, ⟨hl, he⟩, hrt, hq, hb⟩ := h
  refine ⟨pk, ck, q, d, rfl, fun w'' p hbar hp => ⟨copy_recs (B := w.heap.size) (D := w.heap.size) (bo := bo) rfl (own_bar hrow hbar (fun g e => hp g (hrow.lt g e).1)) hl (fun i hi => ?_), Rd.bar hrt hbar (fun a e => hp _ (hq a e).1), h1, h2⟩, hb⟩
  obtain ⟨q', c', e, hr, hxl, ho⟩ := he i hi
  exact ⟨q', c', e, Rd.bar hr hbar (fun a e2 => hp _ (by have := (ho a e2).1; omega)), hxl, fun a e2 => ⟨(ho a e2).1, Nat.lt_of_lt_of_le (ho a e2).2.1 hbar.size, (ho a e2).2.2⟩⟩

section
variable {K : Keys} {p : Option Addr} {c : Nat} {w : World}
set_option maxHeartbeats 4000000 in
set_option maxRecDepth 100000 in
theorem rmake_any (h : RecsAt w p K) (hn0 : K.length ≤ 9223372036854775807) (hkb : Kb K) :
    Calls Try.prog 9 #[.slice p K.length c] w fun e w' => TrP w (mkK K) (mkE K) e w' := by
  obtain ⟨n, hn⟩ : ∃ n, n = K.length := ⟨_, rfl⟩
  obtain ⟨W0, hW0⟩ : ∃ W0, W0 = w.alloc (.cells #[.slice none 0 0, .slice none 0 0] 25) := ⟨_, rfl⟩
  have t0 : Below w.heap.size w W0 := by rw [hW0]; exact (Below.refl _ _).alloc (Nat.le_refl _) _
  have by1 : Bx W0 w.heap.size [.slice none 0 0, .slice none 0 0] := by
    have := Bx.new w #[.slice none 0 0, .slice none 0 0] 25
    rwa [← hW0] at this
  rw [← hn]
  have T0 := Lib.hid t0; have HW0 := Lib.hid hW0; have HBY := Lib.hid by1
  have p0 : W0.cell? ⟨w.heap.size, 0, none⟩ = some (.slice none 0 0) := by1.cell 0 (by simp)
  have p1 : W0.cell? ⟨w.heap.size, 1, none⟩ = some (.slice none 0 0) := by1.cell 1 (by simp)
  have f0 : W0.frozen? ⟨w.heap.size, 0, none⟩ = false := by1.free 0 (by simp)
  have f1 : W0.frozen? ⟨w.heap.size, 1, none⟩ = false := by1.free 1 (by simp)
  by_cases hm : 1 ≤ n ∧ n ≤ 256
  case neg =>
    have hE : mkE K = 1 := by unfold mkE; rw [if_neg (by rw [← hn]; exact hm)]
    have hK2 : mkK K = [] := by unfold mkK; rw [if_neg (by rw [← hn]; exact hm)]
    rw [hE, hK2]
    by_cases h1 : n < 1
    · clear h hn0 hkb hn hm t0 by1 hW0 hE hK2
      obtain rfl : n = 0 := by omega
      go_enter Try.func9, Try.ntmps9
      go_wp2_with fail
      rw [← HW0.out]
      (try simp only [Exit.inBlock, Exit.then])
      refine bodyPost_ret (v := .tuple #[.agg #[.slice none 0 0, .slice none 0 0], .int .i64 1]) ?_ rfl ?_
      · rw [results_cell_tmp rfl]
        go_simp
      · exact tr_no 1 T0.out
    · have h2 : 256 < n := by omega
      clear h hn0 hkb hn hm t0 by1 hW0 hE hK2
      go_enter Try.func9, Try.ntmps9
      go_wp2_with fail
      rw [← HW0.out]
      (try simp only [Exit.inBlock, Exit.then])
      refine bodyPost_ret (v := .tuple #[.agg #[.slice none 0 0, .slice none 0 0], .int .i64 1]) ?_ rfl ?_
      · rw [results_cell_tmp rfl]
        go_simp
      · exact tr_no 1 T0.out
  case pos =>
    have hE : mkE K = 0 := by unfold mkE; rw [if_pos (by rw [← hn]; exact hm)]
    have hK2 : mkK K = K := by unfold mkK; rw [if_pos (by rw [← hn]; exact hm)]
    rw [hE, hK2]
    have HB : Hid (∀ W, Below w.heap.size w W → Calls Try.prog 27 #[.slice p n c] W fun e w' => ∃ g, e = .returned (.slice (some ⟨g, 0, none⟩) n n) ∧ Nums w' W.heap.size g n (build K) ∧ Below W.heap.size W w') := Lib.hid fun W hW => by
      rw [hn] at hm ⊢
      exact rtree_any hm.1 hm.2 (h.below hW)
    have hul : (up (build K)).length = n := by rw [up_length, build_length, hn]
    have HC : Hid (∀ W g, Below w.heap.size w W → Rd W (some ⟨g, 0, none⟩) (zs (up (build K))) → Calls Try.prog 12 #[.agg #[.slice p n c, .slice (some ⟨g, 0, none⟩) n n]] W fun e w' => ∃ (pk : Option Addr) (ck : Nat) (q : Option Addr) (d : Nat), e = .returned (.agg #[.slice pk n ck, .slice q n d]) ∧ (∀ (w'' : World) (p : Nat → Prop), Bar w' w'' p → (∀ k, W.heap.size ≤ k → ¬ p k) → LsAt w'' pk K q (up (build K))) ∧ Below W.heap.size W w') := Lib.hid fun W g hW hr => by
      have := copy_any (c := c) (d := n) (⟨h.below hW, hr, hn0, by omega⟩ : LsAt W p K (some ⟨g, 0, none⟩) (up (build K))) hkb (by omega) (by omega)
      rw [← hn, hul] at this
      refine this.mono fun e w' hc => ?_
      have := hc.ls hn0 (by omega)
      rw [← hn, hul] at this
      exact this
    have HN := Lib.hid hn; have HUL := Lib.hid hul
    have h1 : 1 ≤ n := hm.1
    have h2 : n ≤ 256 := hm.2
    clear h hn0 hkb hn hm t0 by1 hW0 hE hK2 hul
    go_enter Try.func9, Try.ntmps9
    go_wp2_with fail
    rw [← HW0.out]
    refine (HB.out _ T0.out).mono ?_
    rintro e w1 ⟨g0, rfl, hnu, b1⟩
    have B1 := Lib.hid (T0.out.trans (b1.mono T0.out.size))
    have RD := Lib.hid hnu.rd
    have E1 := Lib.hid (HBY.out.below b1)
    clear hnu b1 p0 p1 f0 f1
    go_wp2_with fail
    refine (HC.out _ _ B1.out RD.out).mono ?_
    rintro e w3 ⟨pk, ck, q, d, rfl, hls, b3⟩
    have e3 := E1.out.below b3
    have p0 : w3.cell? ⟨w.heap.size, 0, none⟩ = some (.slice none 0 0) := e3.cell 0 (by simp)
    have p1 : w3.cell? ⟨w.heap.size, 1, none⟩ = some (.slice none 0 0) := e3.cell 1 (by simp)
    have f0 : w3.frozen? ⟨w.heap.size, 0, none⟩ = false := e3.free 0 (by simp)
    have f1 : w3.frozen? ⟨w.heap.size, 1, none⟩ = false := e3.free 1 (by simp)
    have HF : Hid (∀ u v, TrP w K 0 (.returned (.tuple #[.agg #[.slice pk n ck, .slice q n d], .int .i64 0])) ((w3.setCell ⟨w.heap.size, 0, none⟩ u).setCell ⟨w.heap.size, 1, none⟩ v)) := Lib.hid (by
      intro u v
      have hb3 : Below w.heap.size w w3 := B1.out.trans (b3.mono B1.out.size)
      have hlt := E1.out.lt
      have hb : Bar w3 ((w3.setCell ⟨w.heap.size, 0, none⟩ u).setCell ⟨w.heap.size, 1, none⟩ v) (fun k => k = w.heap.size) := ((Bar.refl w3 (fun k => k = w.heap.size)).setCell rfl _).setCell rfl _
      refine ⟨pk, ck, q, d, by rw [HUL.out, ← HN.out], hls _ _ hb (fun k hk e => by omega), (hb3.setCell (p := ⟨w.heap.size, 0, none⟩) (by simp) _).setCell (p := ⟨w.heap.size, 1, none⟩) (by simp) _⟩)
    clear b3 e3 hls
    go_wp2_with fail
    (try simp only [Exit.inBlock, Exit.then])
    refine bodyPost_ret (v := .tuple #[.agg #[.slice pk n ck, .slice q n d], .int .i64 0]) ?_ rfl ?_
    · rw [results_cell_tmp rfl]
      go_simp
    · exact HF.out _ _
end
section
variable {K1 K2 : Keys} {T1 T2 : List Int} {p1 p2 q1 q2 : Option Addr} {c1 c2 d1 d2 : Nat} {w : World}
set_option maxHeartbeats 8000000 in
set_option maxRecDepth 100000 in
theorem rsame_any (h1 : LsAt w p1 K1 q1 T1) (h2 : LsAt w p2 K2 q2 T2) :
    Calls Try.prog 11 #[.agg #[.slice p1 K1.length c1, .slice q1 T1.length d1], .agg #[.slice p2 K2.length c2, .slice q2 T2.length d2]] w fun e w' => e = .returned (.bool (decide (T1 = T2 ∧ K1 = K2))) ∧ Below w.heap.size w w' := by
  obtain ⟨n1, hn1⟩ : ∃ n, n = K1.length := ⟨_, rfl⟩
  obtain ⟨n2, hn2⟩ : ∃ n, n = K2.length := ⟨_, rfl⟩
  obtain ⟨m1, hm1⟩ : ∃ n, n = T1.length := ⟨_, rfl⟩
  obtain ⟨m2, hm2⟩ : ∃ n, n = T2.length := ⟨_, rfl⟩
  obtain ⟨W1, hW1⟩ : ∃ W1, W1 = w.alloc (.cells #[.slice p1 n1 c1, .slice q1 m1 d1] 25) := ⟨_, rfl⟩
  obtain ⟨W2, hW2⟩ : ∃ W2, W2 = W1.alloc (.cells #[.slice p2 n2 c2, .slice q2 m2 d2] 25) := ⟨_, rfl⟩
  have s1 : W1.heap.size = w.heap.size + 1 := by rw [hW1]; simp
  have a0 : Below w.heap.size w W1 := by rw [hW1]; exact (Below.refl _ _).alloc (Nat.le_refl _) _
  have a1 : Below W1.heap.size W1 W2 := by rw [hW2]; exact (Below.refl _ _).alloc (Nat.le_refl _) _
  have t0 : Below w.heap.size w W2 := a0.trans (a1.mono a0.size)
  have bx : Bx W2 w.heap.size [.slice p1 n1 c1, .slice q1 m1 d1] := by
    have := Bx.new w #[.slice p1 n1 c1, .slice q1 m1 d1] 25
    rw [← hW1] at this
    exact this.below a1
  have by1 : Bx W2 (w.heap.size + 1) [.slice p2 n2 c2, .slice q2 m2 d2] := by
    have := Bx.new W1 #[.slice p2 n2 c2, .slice q2 m2 d2] 25
    rw [← hW2, s1] at this
    exact this
  have u0 : W2.cell? ⟨w.heap.size, 0, none⟩ = some (.slice p1 n1 c1) := bx.cell 0 (by simp)
  have u1 : W2.cell? ⟨w.heap.size, 1, none⟩ = some (.slice q1 m1 d1) := bx.cell 1 (by simp)
  have v0 : W2.cell? ⟨w.heap.size + 1, 0, none⟩ = some (.slice p2 n2 c2) := by1.cell 0 (by simp)
  have v1 : W2.cell? ⟨w.heap.size + 1, 1, none⟩ = some (.slice q2 m2 d2) := by1.cell 1 (by simp)
  have T0 : Hid (∀ z, Below w.heap.size w (W2.drewN z)) := Lib.hid fun z => below_drewN t0 z
  have R1 := Lib.hid (h1.tree.below t0)
  have R2 := Lib.hid (h2.tree.below t0)
  have HS : Hid (Calls Try.prog 28 #[.slice p1 n1 c1, .slice p2 n2 c2] W2 fun e w' => e = .returned (.bool (decide (K1 = K2))) ∧ ∃ j, w' = W2.drewN j) := Lib.hid (by
    rw [hn1, hn2]
    exact same_any K1 K2 p1 p2 c1 c2 _ (h1.keys.below t0) (h2.keys.below t0) h1.many h2.many)
  have HL1 := h1.long; have HL2 := h2.long
  rw [← hm1] at HL1; rw [← hm2] at HL2
  rw [← hn1, ← hn2, ← hm1, ← hm2]
  have HW1 := Lib.hid hW1; have HW2 := Lib.hid hW2; have HM1 := Lib.hid hm1; have HM2 := Lib.hid hm2
  have HLT : Hid (w.heap.size + 1 < W2.heap.size) := Lib.hid by1.lt
  clear h1 h2 hn1 hn2 a0 a1 t0 bx by1 hW1 hW2 s1
  by_cases hm : m1 = m2
  case neg =>
    have F : Hid (false = decide (T1 = T2 ∧ K1 = K2)) := Lib.hid (decide_eq_false (fun h => hm (by rw [hm1, hm2, h.1]))).symm
    have t : ((m1 : Int) != (m2 : Int)) = true := by rw [bne_iff_ne]; omega
    clear hm1 hm2 hm
    go_enter Try.func11, Try.ntmps11
    go_wp2_with fail
    rw [← HW1.out, ← HW2.out]
    go_ret
    exact ⟨ret_bool F.out, T0.out 0⟩
  case pos =>
    subst hm
    have t : ((m1 : Int) != (m1 : Int)) = false := by simp
    clear hm1 hm2
    by_cases hk : K1 = K2
    case neg =>
      have F : Hid (false = decide (T1 = T2 ∧ K1 = K2)) := Lib.hid (decide_eq_false (fun h => hk h.2)).symm
      rw [decide_eq_false hk] at HS
      clear hk
      go_enter Try.func11, Try.ntmps11
      go_wp2_with fail
      rw [← HW1.out, ← HW2.out]
      refine HS.out.mono ?_
      rintro e w' ⟨rfl, j, rfl⟩
      go_wp2_with fail
      go_ret
      exact ⟨ret_bool F.out, T0.out _⟩
    case pos =>
      have F : Hid (decide (T1 = T2) = decide (T1 = T2 ∧ K1 = K2)) := Lib.hid (by simp [hk])
      rw [decide_eq_true hk] at HS
      clear hk
      go_enter Try.func11, Try.ntmps11
      go_wp2_with fail
      rw [← HW1.out, ← HW2.out]
      refine HS.out.mono ?_
      rintro e w' ⟨rfl, j, rfl⟩
      go_wp2_with fail
      go_loopw [4, 5, 24] (fun _ _ v wr => ∃ k z : Nat, k ≤ m1 ∧ v = .int .i64 k ∧ T1.take k = T2.take k ∧ wr = W2.drewN z) (fun _ _ v _ => m1 - (intOf v).toNat)
      case atStart => exact ⟨0, j, by omega, rfl, rfl, rfl⟩
      case round =>
        obtain ⟨k, z, hk, rfl, hl, rfl⟩ := hrel
        by_cases hlt : k < m1
        · have hst := ints_step T1 T2 k (by rw [← HM1.out]; exact hlt) (by rw [← HM2.out]; exact hlt) hl
          obtain ⟨a, rfl, ca⟩ := rd_z R1.out k (by rw [← HM1.out]; exact hlt)
          obtain ⟨b, rfl, cb⟩ := rd_z R2.out k (by rw [← HM2.out]; exact hlt)
          obtain ⟨X, hX⟩ : ∃ X, X = T1.getD k 0 := ⟨_, rfl⟩
          obtain ⟨Y, hY⟩ : ∃ Y, Y = T2.getD k 0 := ⟨_, rfl⟩
          rw [← hX] at hst ca
          rw [← hY] at hst cb
          have k0 : (0 : Int) ≤ (k : Int) := by omega
          have k1 : (k : Int) < (m1 : Int) := by omega
          by_cases he : X = Y
          · have HL := Lib.hid (hst.1 he)
            have t2 : (X != Y) = false := by rw [bne_eq_false_iff_eq]; exact he
            clear hX hY hst hl he
            go_wp2_with fail
            go_quiet (fail)
            go_wp2_with fail
            go_roundw
            case rel => exact ⟨k + 1, _, by omega, by go_num, HL.out, rfl⟩
            case measure => simp [intOf]; omega
          · have F2 : Hid (false = decide (T1 = T2 ∧ K1 = K2)) := Lib.hid (decide_eq_false (fun h => he (hst.2 (by rw [h.1])))).symm
            have t2 : (X != Y) = true := by rw [bne_iff_ne]; exact he
            clear hX hY hst hl he
            go_wp2_with fail
            go_quiet (fail)
            go_wp2_with fail
            go_ret
            exact ⟨ret_bool F2.out, by rw [World.drewN_drewN]; exact T0.out _⟩
        · obtain rfl : k = m1 := by omega
          have F2 : Hid (true = decide (T1 = T2 ∧ K1 = K2)) := Lib.hid (by
            rw [← F.out, decide_eq_true]
            rwa [List.take_of_length_le (by rw [← HM1.out]; omega), List.take_of_length_le (by rw [← HM2.out]; omega)] at hl)
          clear hl
          go_wp2_with fail
          go_ret
          exact ⟨ret_bool F2.out, T0.out _⟩
end
end Go.Proofs.Ythkgdjclgphodaa.Ls

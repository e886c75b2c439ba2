/- LoserPuts: the law's walk. -/
import Derived.Test.YthkgdjclgphodaaLsRefF
import Derived.Test.YthkgdjclgphodaaLsLawB
namespace Go.Proofs.Ythkgdjclgphodaa.Ls
open Go.RowKit Rw Nm

section
variable {K : Keys} {T : List Int} {p q qx : Option Addr} {c d dx : Nat} {w : World} {x : List Nat}
set_option maxHeartbeats 16000000 in
set_option maxRecDepth 100000 in
theorem puts_law (leaf : Int) (h : LsAt w p K q T) (hkb : Kb K) (hK : K.length ≤ 5864062014805) (hT : T.length ≤ 17592186044416) (hx : Rd w qx (nums x)) (hxl : x.length ≤ 17592186044416) :
    Calls Try.prog 4 #[.agg #[.slice p K.length c, .slice q T.length d], .slice qx x.length dx, .int .i64 leaf] w fun e w' => e = .returned (.bool true) ∧ Below w.heap.size w w' := by
  have hK9 := h.many
  have hT9 := h.long
  obtain ⟨n, hn⟩ : ∃ n, n = K.length := ⟨_, rfl⟩
  obtain ⟨m, hm⟩ : ∃ m, m = T.length := ⟨_, rfl⟩
  obtain ⟨lx, hlx⟩ : ∃ lx, lx = x.length := ⟨_, rfl⟩
  obtain ⟨W0, hW0⟩ : ∃ W0, W0 = w.alloc (.cells #[.slice p n c, .slice q m d] 25) := ⟨_, rfl⟩
  have t0 : Below w.heap.size w W0 := by rw [hW0]; exact (Below.refl _ _).alloc (Nat.le_refl _) _
  have bx := Bx.new w #[.slice p n c, .slice q m d] 25
  rw [← hW0] at bx
  obtain ⟨I, hI⟩ : ∃ I, I = topI K T := ⟨_, rfl⟩
  obtain ⟨E1, hE1⟩ : ∃ I, I = topE K T := ⟨_, rfl⟩
  obtain ⟨TK, hTK⟩ : ∃ I, I = topK K T := ⟨_, rfl⟩
  obtain ⟨E2, hE2⟩ : ∃ I, I = apE K T x := ⟨_, rfl⟩
  obtain ⟨AK, hAK⟩ : ∃ I, I = apK K T x := ⟨_, rfl⟩
  obtain ⟨E3, hE3⟩ : ∃ I, I = pathE K T leaf := ⟨_, rfl⟩
  obtain ⟨PL, hPL⟩ : ∃ I, I = pathL K T leaf := ⟨_, rfl⟩
  obtain ⟨C, hC⟩ : ∃ I, I = chk K T := ⟨_, rfl⟩
  obtain ⟨kl, hkl⟩ : ∃ l, l = TK.length := ⟨_, rfl⟩
  obtain ⟨an, han⟩ : ∃ l, l = AK.length := ⟨_, rfl⟩
  obtain ⟨am, ham⟩ : ∃ l, l = (up (build AK)).length := ⟨_, rfl⟩
  obtain ⟨pl, hpl⟩ : ∃ l, l = PL.length := ⟨_, rfl⟩
  -- what each call answers
  have HCo : Hid (∀ W, Below w.heap.size w W → Calls Try.prog 12 #[.agg #[.slice p n c, .slice q m d]] W fun e w' => ∃ (pk : Option Addr) (ck : Nat) (qk : Option Addr) (dk : Nat), e = .returned (.agg #[.slice pk n ck, .slice qk m dk]) ∧ LsAt w' pk K qk T ∧ Below W.heap.size W w') := Lib.hid fun W hW => by
    rw [hn, hm]
    refine (copy_any (h.below hW) hkb hK hT).mono fun e w' hc => ?_
    obtain ⟨pk, ck, qk, dk, rfl, hls, hb⟩ := hc.ls hK9 hT9
    exact ⟨pk, ck, qk, dk, rfl, hls _ (fun _ => False) (Bar.refl _ _) (fun _ _ h => h), hb⟩
  have HTop : Hid (∀ W p' c' q' d', LsAt W p' K q' T → Calls Try.prog 13 #[.agg #[.slice p' n c', .slice q' m d']] W fun e w' => ∃ (q2 : Option Addr) (c2 : Nat), e = .returned (.tuple #[.int .i64 I, .slice q2 kl c2, .int .i64 E1]) ∧ Rd w' q2 (nums TK) ∧ Below W.heap.size W w') := Lib.hid fun W p' c' q' d' hl => by
    have := top_any (c := c') (d := d') hl hkb
    unfold TopP at this
    rw [← hn, ← hm, ← hI, ← hE1, ← hTK, ← hkl] at this
    exact this
  have HRTop : Hid (∀ W, Below w.heap.size w W → Calls Try.prog 14 #[.agg #[.slice p n c, .slice q m d]] W fun e w' => ∃ (q2 : Option Addr) (c2 : Nat), e = .returned (.tuple #[.int .i64 I, .slice q2 kl c2, .int .i64 E1]) ∧ Rd w' q2 (nums TK) ∧ Below W.heap.size W w') := Lib.hid fun W hW => by
    have := rtop_any (c := c) (d := d) (h.below hW) hkb
    unfold TopP at this
    rw [← hn, ← hm, ← hI, ← hE1, ← hTK, ← hkl] at this
    exact this
  have HPut : Hid (∀ W p' c' q' d', LsAt W p' K q' T → Below w.heap.size w W → Calls Try.prog 15 #[.agg #[.slice p' n c', .slice q' m d'], .slice qx lx dx] W fun e w' => ∃ (p2 : Option Addr) (c2 : Nat) (q2 : Option Addr) (d2 : Nat), e = .returned (.tuple #[.agg #[.slice p2 an c2, .slice q2 am d2], .int .i64 E2]) ∧ LsAt w' p2 AK q2 (up (build AK)) ∧ Below W.heap.size W w') := Lib.hid fun W p' c' q' d' hl hW => by
    have := aput_any (c := c') (d := d') (dx := dx) hl hkb (hx.below hW) hxl
    unfold TrP at this
    rw [← hn, ← hm, ← hE2, ← hAK, ← han, ← ham, ← hlx] at this
    exact this
  have HRPut : Hid (∀ W, Below w.heap.size w W → Calls Try.prog 16 #[.agg #[.slice p n c, .slice q m d], .slice qx lx dx] W fun e w' => ∃ (p2 : Option Addr) (c2 : Nat) (q2 : Option Addr) (d2 : Nat), e = .returned (.tuple #[.agg #[.slice p2 an c2, .slice q2 am d2], .int .i64 E2]) ∧ LsAt w' p2 AK q2 (up (build AK)) ∧ Below W.heap.size W w') := Lib.hid fun W hW => by
    have := rput_any (c := c) (d := d) (dx := dx) (h.below hW) hkb (hx.below hW) hxl
    unfold TrP at this
    rw [← hn, ← hm, ← hE2, ← hAK, ← han, ← ham, ← hlx] at this
    exact this
  have HPa : Hid (∀ W p' c' q' d', LsAt W p' K q' T → Calls Try.prog 17 #[.agg #[.slice p' n c', .slice q' m d'], .int .i64 leaf] W fun e w' => ∃ (q2 : Option Addr) (c2 : Nat), e = .returned (.tuple #[.slice q2 pl c2, .int .i64 E3]) ∧ Rd w' q2 (zs (up PL)) ∧ Below W.heap.size W w') := Lib.hid fun W p' c' q' d' hl => by
    have := path_any (c := c') (d := d') leaf hl
    unfold PathP at this
    rw [← hn, ← hm, ← hE3, ← hPL, ← hpl] at this
    exact this
  have HRPa : Hid (∀ W, Below w.heap.size w W → Calls Try.prog 18 #[.agg #[.slice p n c, .slice q m d], .int .i64 leaf] W fun e w' => ∃ (q2 : Option Addr) (c2 : Nat), e = .returned (.tuple #[.slice q2 pl c2, .int .i64 E3]) ∧ Rd w' q2 (zs (up PL)) ∧ Below W.heap.size W w') := Lib.hid fun W hW => by
    have := rpath_any (c := c) (d := d) leaf (h.below hW)
    unfold PathP at this
    rw [← hn, ← hm, ← hE3, ← hPL, ← hpl] at this
    exact this
  have HCk : Hid (∀ W p' c' q' d', LsAt W p' K q' T → Calls Try.prog 21 #[.agg #[.slice p' n c', .slice q' m d']] W fun e w' => e = .returned (.int .i64 C) ∧ Below W.heap.size W w') := Lib.hid fun W p' c' q' d' hl => by
    have := check_any (c := c') (d := d') hl
    rw [← hn, ← hm, ← hC] at this
    exact this
  have HRCk : Hid (∀ W, Below w.heap.size w W → Calls Try.prog 22 #[.agg #[.slice p n c, .slice q m d]] W fun e w' => e = .returned (.int .i64 C) ∧ Below W.heap.size W w') := Lib.hid fun W hW => by
    have := rcheck_any (c := c) (d := d) (h.below hW)
    rw [← hn, ← hm, ← hC] at this
    exact this
  have HS1 : Hid (∀ W p' c' q' d', LsAt W p' K q' T → Below w.heap.size w W → Calls Try.prog 11 #[.agg #[.slice p' n c', .slice q' m d'], .agg #[.slice p n c, .slice q m d]] W fun e w' => e = .returned (.bool true) ∧ Below W.heap.size W w') := Lib.hid fun W p' c' q' d' hl hW => by
    have := rsame_any (c1 := c') (d1 := d') (c2 := c) (d2 := d) hl (h.below hW)
    rw [← hn, ← hm, decide_eq_true ⟨rfl, rfl⟩] at this
    exact this
  have HS2 : Hid (∀ W p1 c1 q1 d1 p2 c2 q2 d2, LsAt W p1 AK q1 (up (build AK)) → LsAt W p2 AK q2 (up (build AK)) → Calls Try.prog 11 #[.agg #[.slice p1 an c1, .slice q1 am d1], .agg #[.slice p2 an c2, .slice q2 am d2]] W fun e w' => e = .returned (.bool true) ∧ Below W.heap.size W w') := Lib.hid fun W p1 c1 q1 d1 p2 c2 q2 d2 hl1 hl2 => by
    have := rsame_any (c1 := c1) (d1 := d1) (c2 := c2) (d2 := d2) hl1 hl2
    rw [← han, ← ham, decide_eq_true ⟨rfl, rfl⟩] at this
    exact this
  have HLS : Hid (∀ W, Below w.heap.size w W → LsAt W p K q T) := Lib.hid fun W hW => h.below hW
  have HTKl : Hid (TK.length ≤ 9223372036854775807) := Lib.hid (by
    rw [hTK]; unfold topK; split
    · rename_i he
      obtain ⟨_, hK2, _⟩ := top_facts he
      have := hkb (wn K 1) (wn_lt (by omega) (by omega))
      unfold kat; omega
    · simp)
  have HPLl : Hid ((up PL).length ≤ 9223372036854775807 ∧ pl = (up PL).length) := Lib.hid ⟨by
    rw [up_length, hPL]; unfold pathL; split
    · rename_i he
      obtain ⟨hK2, hl0, hl1, _⟩ := path_facts he
      have : (path ((K.length + leaf.toNat) / 2)).length ≤ 1000 := path_short (by omega)
      omega
    · simp, by rw [up_length]; exact hpl⟩
  have T0 := Lib.hid t0; have BX := Lib.hid bx; have HW0 := Lib.hid hW0; have HKL := Lib.hid hkl
  rw [← hn, ← hm, ← hlx]
  clear h hkb hK hT hx hxl hK9 hT9 hn hm hlx hW0 t0 bx hI hE1 hTK hE2 hAK hE3 hPL hC hkl han ham hpl
  go_enter Try.func4, Try.ntmps4
  go_wp2_with fail
  rw [← HW0.out]
  refine (HCo.out _ T0.out).mono ?_
  rintro e w1 ⟨pg, cg, qg, dg, rfl, lg, hb⟩
  obtain ⟨W1, hW1⟩ : ∃ W, W = w1.alloc (.cells #[.slice pg n cg, .slice qg m dg] 25) := ⟨_, rfl⟩
  have kW1 : Below w1.heap.size w1 W1 := by rw [hW1]; exact (Below.refl _ _).alloc (Nat.le_refl _) _
  have xW1 := Bx.new w1 #[.slice pg n cg, .slice qg m dg] 25
  rw [← hW1] at xW1
  have hb1 := hb.trans (kW1.mono hb.size)
  have B1 := Lib.hid (T0.out.trans (hb1.mono T0.out.size)); have BX1 := Lib.hid (BX.out.below hb1); have XG1 := Lib.hid xW1; have LG1 := Lib.hid (lg.below kW1); have HW1 := Lib.hid hW1
  clear hb hb1 kW1 xW1 lg hW1 HW0 BX T0 HCo
  go_wp2_with fail
  rw [← HW1.out]
  refine (HTop.out _ _ _ _ _ LG1.out).mono ?_
  rintro e w2 ⟨q2, c2, rfl, rk, hb⟩
  have B2 := Lib.hid (B1.out.trans (hb.mono B1.out.size)); have BX2 := Lib.hid (BX1.out.below hb); have XG2 := Lib.hid (XG1.out.below hb); have LG2 := Lib.hid (LG1.out.below hb); have RK2 := Lib.hid rk
  have v0 : w2.cell? ⟨w.heap.size, 0, none⟩ = some (.slice p n c) := BX2.out.cell 0 (by simp)
  have v1 : w2.cell? ⟨w.heap.size, 1, none⟩ = some (.slice q m d) := BX2.out.cell 1 (by simp)
  clear hb rk B1 BX1 XG1 LG1 HW1 HTop
  go_wp2_with fail
  refine (HRTop.out _ B2.out).mono ?_
  rintro e w3 ⟨q3, c3, rfl, rl, hb⟩
  have B3 := Lib.hid (B2.out.trans (hb.mono B2.out.size)); have BX3 := Lib.hid (BX2.out.below hb); have XG3 := Lib.hid (XG2.out.below hb); have LG3 := Lib.hid (LG2.out.below hb); have RK3 := Lib.hid (RK2.out.below hb); have RL3 := Lib.hid rl
  have g0 : w3.cell? ⟨w1.heap.size, 0, none⟩ = some (.slice pg n cg) := XG3.out.cell 0 (by simp)
  have g1 : w3.cell? ⟨w1.heap.size, 1, none⟩ = some (.slice qg m dg) := XG3.out.cell 1 (by simp)
  clear hb rl v0 v1 B2 BX2 XG2 LG2 RK2 HRTop
  go_wp2_with fail
  refine (HPut.out _ _ _ _ _ LG3.out B3.out).mono ?_
  rintro e w4 ⟨pa, ca, qa, da, rfl, la, hb⟩
  obtain ⟨W4, hW4⟩ : ∃ W, W = w4.alloc (.cells #[.slice pa an ca, .slice qa am da] 25) := ⟨_, rfl⟩
  have kW4 : Below w4.heap.size w4 W4 := by rw [hW4]; exact (Below.refl _ _).alloc (Nat.le_refl _) _
  have xW4 := Bx.new w4 #[.slice pa an ca, .slice qa am da] 25
  rw [← hW4] at xW4
  have hb4 := hb.trans (kW4.mono hb.size)
  have B4 := Lib.hid (B3.out.trans (hb4.mono B3.out.size)); have BX4 := Lib.hid (BX3.out.below hb4); have XG4 := Lib.hid (XG3.out.below hb4); have LG4 := Lib.hid (LG3.out.below hb4); have RK4 := Lib.hid (RK3.out.below hb4); have RL4 := Lib.hid (RL3.out.below hb4); have XA4 := Lib.hid xW4; have LA4 := Lib.hid (la.below kW4); have HW4 := Lib.hid hW4
  have v0 : w4.cell? ⟨w.heap.size, 0, none⟩ = some (.slice p n c) := (BX3.out.below hb).cell 0 (by simp)
  have v1 : w4.cell? ⟨w.heap.size, 1, none⟩ = some (.slice q m d) := (BX3.out.below hb).cell 1 (by simp)
  have vl := (BX3.out.below hb).lt
  clear hb hb4 kW4 xW4 la hW4 g0 g1 B3 BX3 XG3 LG3 RK3 RL3 HPut
  go_wp2_with fail
  rw [← HW4.out]
  refine (HRPut.out _ B4.out).mono ?_
  rintro e w5 ⟨pb, cb, qb, db, rfl, lb, hb⟩
  obtain ⟨W5, hW5⟩ : ∃ W, W = w5.alloc (.cells #[.slice pb an cb, .slice qb am db] 25) := ⟨_, rfl⟩
  have kW5 : Below w5.heap.size w5 W5 := by rw [hW5]; exact (Below.refl _ _).alloc (Nat.le_refl _) _
  have xW5 := Bx.new w5 #[.slice pb an cb, .slice qb am db] 25
  rw [← hW5] at xW5
  have hb5 := hb.trans (kW5.mono hb.size)
  have B5 := Lib.hid (B4.out.trans (hb5.mono B4.out.size)); have BX5 := Lib.hid (BX4.out.below hb5); have XG5 := Lib.hid (XG4.out.below hb5); have LG5 := Lib.hid (LG4.out.below hb5); have RK5 := Lib.hid (RK4.out.below hb5); have RL5 := Lib.hid (RL4.out.below hb5); have XA5 := Lib.hid (XA4.out.below hb5); have LA5 := Lib.hid (LA4.out.below hb5); have XB5 := Lib.hid xW5; have LB5 := Lib.hid (lb.below kW5); have HW5 := Lib.hid hW5
  have g0 : w5.cell? ⟨w1.heap.size, 0, none⟩ = some (.slice pg n cg) := (XG4.out.below hb).cell 0 (by simp)
  have g1 : w5.cell? ⟨w1.heap.size, 1, none⟩ = some (.slice qg m dg) := (XG4.out.below hb).cell 1 (by simp)
  have gl := (XG4.out.below hb).lt
  clear hb hb5 kW5 xW5 lb hW5 v0 v1 vl B4 BX4 XG4 LG4 RK4 RL4 XA4 LA4 HW4 HRPut
  go_wp2_with fail
  rw [← HW5.out]
  refine (HPa.out _ _ _ _ _ LG5.out).mono ?_
  rintro e w6 ⟨q6, c6, rfl, rp, hb⟩
  have B6 := Lib.hid (B5.out.trans (hb.mono B5.out.size)); have BX6 := Lib.hid (BX5.out.below hb); have XG6 := Lib.hid (XG5.out.below hb); have LG6 := Lib.hid (LG5.out.below hb); have RK6 := Lib.hid (RK5.out.below hb); have RL6 := Lib.hid (RL5.out.below hb); have XA6 := Lib.hid (XA5.out.below hb); have LA6 := Lib.hid (LA5.out.below hb); have XB6 := Lib.hid (XB5.out.below hb); have LB6 := Lib.hid (LB5.out.below hb); have RP6 := Lib.hid rp
  have v0 : w6.cell? ⟨w.heap.size, 0, none⟩ = some (.slice p n c) := BX6.out.cell 0 (by simp)
  have v1 : w6.cell? ⟨w.heap.size, 1, none⟩ = some (.slice q m d) := BX6.out.cell 1 (by simp)
  clear hb rp g0 g1 gl B5 BX5 XG5 LG5 RK5 RL5 XA5 LA5 XB5 LB5 HW5 HPa
  go_wp2_with fail
  refine (HRPa.out _ B6.out).mono ?_
  rintro e w7 ⟨q7, c7, rfl, rq, hb⟩
  have B7 := B6.out.trans (hb.mono B6.out.size)
  have BX7 := BX6.out.below hb
  have XG7 := XG6.out.below hb
  have LG7 := LG6.out.below hb
  have RK7 := RK6.out.below hb
  have RL7 := RL6.out.below hb
  have XA7 := XA6.out.below hb
  have LA7 := LA6.out.below hb
  have XB7 := XB6.out.below hb
  have LB7 := LB6.out.below hb
  have RP7 := RP6.out.below hb
  obtain ⟨BB, hBB⟩ : ∃ BB : World → Prop, BB = fun W => Below w7.heap.size w7 W := ⟨_, rfl⟩
  have hK : ∀ W, BB W → BB W ∧ W.cell? ⟨w.heap.size, 0, none⟩ = some (.slice p n c) ∧ W.cell? ⟨w.heap.size, 1, none⟩ = some (.slice q m d) ∧ W.cell? ⟨w1.heap.size, 0, none⟩ = some (.slice pg n cg) ∧ W.cell? ⟨w1.heap.size, 1, none⟩ = some (.slice qg m dg) ∧ W.cell? ⟨w4.heap.size, 0, none⟩ = some (.slice pa an ca) ∧ W.cell? ⟨w4.heap.size, 1, none⟩ = some (.slice qa am da) ∧ W.cell? ⟨w5.heap.size, 0, none⟩ = some (.slice pb an cb) ∧ W.cell? ⟨w5.heap.size, 1, none⟩ = some (.slice qb am db) := by
    intro W h
    refine ⟨h, ?_⟩
    rw [hBB] at h
    exact ⟨(BX7.below h).cell 0 (by simp), (BX7.below h).cell 1 (by simp), (XG7.below h).cell 0 (by simp), (XG7.below h).cell 1 (by simp), (XA7.below h).cell 0 (by simp), (XA7.below h).cell 1 (by simp), (XB7.below h).cell 0 (by simp), (XB7.below h).cell 1 (by simp)⟩
  have hL : ∀ W W' : World, BB W → Below W.heap.size W W' → BB W' := by
    intro W W' h hb
    rw [hBB] at h ⊢
    exact h.trans (hb.mono h.size)
  have hD : ∀ W, BB W → BB W.drew := fun W h => hL W _ h (Below.drew (Below.refl _ W))
  have hE : ∀ W, BB W → Below w.heap.size w W := by
    intro W h
    rw [hBB] at h
    exact B7.trans (h.mono B7.size)
  have h0 : BB w7 := by rw [hBB]; exact Below.refl _ _
  have HSo : Hid (∀ W, BB W → Calls Try.prog 19 #[.slice q2 kl c2, .slice q3 kl c3] W fun e w' => e = .returned (.bool true) ∧ ∃ j, w' = W.drewN j) := Lib.hid fun W hW => by
    rw [hBB] at hW
    have := sameOne_any TK TK q2 q3 c2 c3 W (RK7.below hW) (RL7.below hW) HTKl.out HTKl.out
    rw [decide_eq_true rfl, ← HKL.out] at this
    exact this
  have HSa : Hid (∀ W, BB W → Calls Try.prog 11 #[.agg #[.slice pa an ca, .slice qa am da], .agg #[.slice pb an cb, .slice qb am db]] W fun e w' => e = .returned (.bool true) ∧ Below W.heap.size W w') := Lib.hid fun W hW => by
    rw [hBB] at hW
    exact HS2.out W _ _ _ _ _ _ _ _ (LA7.below hW) (LB7.below hW)
  have HSn : Hid (∀ W, BB W → Calls Try.prog 20 #[.slice q6 pl c6, .slice q7 pl c7] W fun e w' => e = .returned (.bool true) ∧ ∃ j, w' = W.drewN j) := Lib.hid fun W hW => by
    rw [hBB] at hW
    have := samenum_any (up PL) (up PL) q6 q7 c6 c7 W (RP7.below hW) (rq.below hW) HPLl.out.1 HPLl.out.1
    rw [decide_eq_true rfl, ← HPLl.out.2] at this
    exact this
  have HC1 : Hid (∀ W, BB W → Calls Try.prog 21 #[.agg #[.slice pg n cg, .slice qg m dg]] W fun e w' => e = .returned (.int .i64 C) ∧ Below W.heap.size W w') := Lib.hid fun W hW => by
    rw [hBB] at hW
    exact HCk.out W _ _ _ _ (LG7.below hW)
  have HC2 : Hid (∀ W, BB W → Calls Try.prog 22 #[.agg #[.slice p n c, .slice q m d]] W fun e w' => e = .returned (.int .i64 C) ∧ Below W.heap.size W w') := Lib.hid fun W hW => HRCk.out W (hE W hW)
  have HSg : Hid (∀ W, BB W → Calls Try.prog 11 #[.agg #[.slice pg n cg, .slice qg m dg], .agg #[.slice p n c, .slice q m d]] W fun e w' => e = .returned (.bool true) ∧ Below W.heap.size W w') := Lib.hid fun W hW => by
    have hW2 := hE W hW
    rw [hBB] at hW
    exact HS1.out W _ _ _ _ (LG7.below hW) hW2
  have HDN : Hid (∀ W k, BB W → BB (W.drewN k)) := Lib.hid fun W k h => hL W _ h (below_drewN (Below.refl _ W) k)
  have HK := Lib.hid hK; have HL := Lib.hid hL; have HD := Lib.hid hD; have HE := Lib.hid hE; have H0 := Lib.hid h0
  clear hK hL hD hE h0 hBB B7 BX7 XG7 LG7 RK7 RL7 XA7 LA7 XB7 LB7 RP7 rq hb v0 v1 B6 BX6 XG6 LG6 RK6 RL6 XA6 LA6 XB6 LB6 RP6 HRPa HS1 HS2 HCk HRCk HLS HTKl HPLl
  go_wp2_with fail
  go_region_held3 (fun W => BB W ∧ W.cell? ⟨w.heap.size, 0, none⟩ = some (.slice p n c) ∧ W.cell? ⟨w.heap.size, 1, none⟩ = some (.slice q m d) ∧ W.cell? ⟨w1.heap.size, 0, none⟩ = some (.slice pg n cg) ∧ W.cell? ⟨w1.heap.size, 1, none⟩ = some (.slice qg m dg) ∧ W.cell? ⟨w4.heap.size, 0, none⟩ = some (.slice pa an ca) ∧ W.cell? ⟨w4.heap.size, 1, none⟩ = some (.slice qa am da) ∧ W.cell? ⟨w5.heap.size, 0, none⟩ = some (.slice pb an cb) ∧ W.cell? ⟨w5.heap.size, 1, none⟩ = some (.slice qb am db)) ((refine HK.out _ ?_; repeat (first | exact H0.out | assumption | apply HD.out | apply HDN.out))) (first
    | (go_at_call 10; ((with_reducible refine (lives_any _).mono ?_)); rintro e w' ⟨rfl, hb⟩; have hw := HL.out _ _ (by repeat (first | exact H0.out | assumption | apply HD.out | apply HDN.out)) hb; clear hb)
    | (go_at_call 19; ((with_reducible refine (HSo.out _ (by repeat (first | exact H0.out | assumption | apply HD.out | apply HDN.out))).mono ?_)); rintro e w' ⟨rfl, k, rfl⟩)
    | (go_at_call 11; ((with_reducible refine (HSa.out _ (by repeat (first | exact H0.out | assumption | apply HD.out | apply HDN.out))).mono ?_)); rintro e w' ⟨rfl, hb⟩; have hw := HL.out _ _ (by repeat (first | exact H0.out | assumption | apply HD.out | apply HDN.out)) hb; clear hb)
    | (go_at_call 11; ((with_reducible refine (HSg.out _ (by repeat (first | exact H0.out | assumption | apply HD.out | apply HDN.out))).mono ?_)); rintro e w' ⟨rfl, hb⟩; have hw := HL.out _ _ (by repeat (first | exact H0.out | assumption | apply HD.out | apply HDN.out)) hb; clear hb)
    | (go_at_call 20; ((with_reducible refine (HSn.out _ (by repeat (first | exact H0.out | assumption | apply HD.out | apply HDN.out))).mono ?_)); rintro e w' ⟨rfl, k, rfl⟩)
    | (go_at_call 21; ((with_reducible refine (HC1.out _ (by repeat (first | exact H0.out | assumption | apply HD.out | apply HDN.out))).mono ?_)); rintro e w' ⟨rfl, hb⟩; have hw := HL.out _ _ (by repeat (first | exact H0.out | assumption | apply HD.out | apply HDN.out)) hb; clear hb)
    | (go_at_call 22; ((with_reducible refine (HC2.out _ (by repeat (first | exact H0.out | assumption | apply HD.out | apply HDN.out))).mono ?_)); rintro e w' ⟨rfl, hb⟩; have hw := HL.out _ _ (by repeat (first | exact H0.out | assumption | apply HD.out | apply HDN.out)) hb; clear hb))
  all_goals go_wp2_with fail
  all_goals go_ret
  all_goals exact ⟨by first | rfl | simp, HE.out _ (by repeat (first | exact H0.out | assumption | apply HD.out | apply HDN.out))⟩
end
end Go.Proofs.Ythkgdjclgphodaa.Ls

/- The walk of put. -/
import Derived.Test.YtjbbkcnfilnmcaaDoorBitPut
namespace Go.Proofs.YtjbbkcnfilnmcaaDoor.Bt
open Go.RowKit

theorem part_val (v rs step : Nat) (hv : v < 18446744073709551616) (hs : step ≤ 8) :
    bits .and .u64 ((v : Int) / 2 ^ rs) (IntKind.u64.wrap (IntKind.u64.wrap (2 ^ step) - 1)) = ((v / 2 ^ rs % 2 ^ step : Nat) : Int) := by
  have hp := pow_small hs
  have hp1 := Nat.two_pow_pos step
  have e2 : (v : Int) / 2 ^ rs = ((v / 2 ^ rs : Nat) : Int) := by simp
  have e3 : (2 : Int) ^ step = ((2 ^ step : Nat) : Int) := by simp
  have e4 : ((2 ^ step : Nat) : Int) - 1 = ((2 ^ step - 1 : Nat) : Int) := by omega
  have hcs : v / 2 ^ rs ≤ v := Nat.div_le_self _ _
  rw [e2, e3, wrap_nat (by omega), e4, wrap_nat (by omega), u64_and_nat _ _ (by omega) (by omega), Nat.and_two_pow_sub_one_eq_mod]

theorem or_val (c : UInt8) (part sh step : Nat) (h1 : step ≤ 8) (h2 : sh ≤ 8) (hp : part < 2 ^ step) :
    bits .or .u8 (c.toNat : Int) (IntKind.u64.wrap ((part : Int) * 2 ^ sh) % 256) = ((orb c (part * 2 ^ sh)).toNat : Int) := by
  have q1 := pow_small h1
  have q2 := pow_small h2
  have hm : part * 2 ^ sh ≤ 256 * 256 := Nat.mul_le_mul (by omega) q2
  have e1 : ((part : Int) * 2 ^ sh) = ((part * 2 ^ sh : Nat) : Int) := by simp
  have e2 : ((part * 2 ^ sh : Nat) : Int) % 256 = ((part * 2 ^ sh % 256 : Nat) : Int) := by omega
  have h3 : c.toNat ||| (part * 2 ^ sh % 256) < 2 ^ 8 := Nat.or_lt_two_pow (by have := c.toNat_lt; omega) (by omega)
  rw [e1, wrap_nat (by omega), e2, u8_or_nat _ _ c.toNat_lt (by omega)]
  unfold orb
  simp
theorem nbits_join (v a b k : Nat) : nbits (v / 2 ^ k) (a + b) = nbits (v / 2 ^ (k + b)) a ++ nbits (v / 2 ^ k % 2 ^ b) b := by
  apply ext_getD (by simp [nbits_length])
  intro i hi
  rw [nbits_length] at hi
  rw [nbits_getD, if_pos hi, Nat.testBit_div_two_pow]
  by_cases hd : i < a
  · rw [List.getD_eq_getElem?_getD, List.getElem?_append_left (by rw [nbits_length]; exact hd), ← List.getD_eq_getElem?_getD, nbits_getD, if_pos hd, Nat.testBit_div_two_pow]
    congr 1; omega
  · rw [List.getD_eq_getElem?_getD, List.getElem?_append_right (by rw [nbits_length]; omega), nbits_length, ← List.getD_eq_getElem?_getD, nbits_getD, if_pos (by omega), Nat.testBit_mod_two_pow, Nat.testBit_div_two_pow]
    have : decide (b - 1 - (i - a) < b) = true := by simp; omega
    rw [this, Bool.true_and]
    congr 1; omega

set_option maxHeartbeats 8000000 in
set_option maxRecDepth 100000 in
theorem put_any (p v r : Nat) (L : List UInt8) (X : List Bool) (w : World) (B : Nat) (hW : Work w B p L X.length) (hX : Packs L X) (hr : r ≤ 64) (hXr : X.length + r ≤ 1048576) (hv : v < 18446744073709551616) (hB : B ≤ w.heap.size) :
    Calls Tryd.prog 13 #[.pointer (some ⟨p, 0, none⟩), .int .u64 v, .int .i64 r] w fun e w' => e = .returned (.tuple #[]) ∧ (∃ L', Work w' B p L' (X.length + r : Nat) ∧ Packs L' (X ++ nbits v r)) ∧ Below B w w' ∧ Kept w w' := by
  obtain ⟨i0, hi, hz0, hz1, hz2⟩ := info_parts info_u8
  have HW := Lib.hid hW; have HX := Lib.hid hX
  clear hW hX
  go_enter Tryd.func13, Tryd.ntmps13
  go_wp2_with fail
  go_loopw [2, 6, 7, 8] (fun rr _ _ _ wr => ∃ (d : Nat) (L' : List UInt8), d ≤ r ∧ rr = .int .i64 (r - d : Nat) ∧ Work wr B p L' (X.length + d : Nat) ∧ Packs L' (X ++ nbits (v / 2 ^ (r - d)) d) ∧ Below B w wr ∧ Kept w wr) (fun rr _ _ _ _ => (intOf rr).toNat)
  case atStart => exact ⟨0, L, by omega, rfl, HW.out, by simpa [nbits] using HX.out, Below.refl _ _, Kept.refl _⟩
  case round =>
    obtain ⟨d, L', hd, rfl, hwk, hpk, hbl, hkp⟩ := hrel
    by_cases hlt : d < r
    · obtain ⟨Y, hY⟩ : ∃ Y, Y = X ++ nbits (v / 2 ^ (r - d)) d := ⟨_, rfl⟩
      have hYl : Y.length = X.length + d := by rw [hY, List.length_append, nbits_length]
      rw [← hY] at hpk
      rw [← hYl] at hwk
      obtain ⟨q, hq⟩ : ∃ q, q = r - d := ⟨_, rfl⟩
      rw [← hq]
      obtain ⟨N, hN⟩ : ∃ N, N = Y.length := ⟨_, rfl⟩
      rw [← hN] at hwk
      have hNb : N + q ≤ 1048576 := by omega
      have hq64 : q ≤ 64 := by omega
      have hq1 : 1 ≤ q := by omega
      obtain ⟨left, hleft⟩ : ∃ left, left = 8 - N % 8 := ⟨_, rfl⟩
      obtain ⟨step, hstep⟩ : ∃ step, step = min left q := ⟨_, rfl⟩
      obtain ⟨j, hj⟩ : ∃ j, j = N / 8 := ⟨_, rfl⟩
      obtain ⟨sh, hsh⟩ : ∃ sh, sh = left - step := ⟨_, rfl⟩
      obtain ⟨rs, hrs⟩ : ∃ rs, rs = q - step := ⟨_, rfl⟩
      obtain ⟨part, hpart⟩ : ∃ part, part = v / 2 ^ rs % 2 ^ step := ⟨_, rfl⟩
      have e1 : (8 : Int) - (N : Int) % 8 = (left : Int) := by omega
      have e2 : min (left : Int) (q : Int) = (step : Int) := by omega
      have e3 : (left : Int) - (step : Int) = (sh : Int) := by omega
      have e4 : IntKind.i64.wrap (sh : Int) = (sh : Int) := IntWalk.i64_in _ (by omega)
      have e5 : (q : Int) - (step : Int) = (rs : Int) := by omega
      have e6 : IntKind.i64.wrap (rs : Int) = (rs : Int) := IntWalk.i64_in _ (by omega)
      have e7 : (N : Int) / 8 = (j : Int) := by omega
      have e8 : (N : Int).tdiv 8 = (j : Int) := by rw [Int.tdiv_eq_ediv_of_nonneg (by omega)]; exact e7
      have e9 : IntKind.i64.wrap (j : Int) = (j : Int) := IntWalk.i64_in _ (by omega)
      have i0' : (0 : Int) ≤ (j : Int) := by omega
      have l1 : step ≤ 8 := by omega
      have l2 : sh ≤ 8 := by omega
      have l3 : rs ≤ 64 := by omega
      have l4 : 1 ≤ step := by omega
      have l5 : step ≤ q := by omega
      by_cases h8 : N % 8 = 0
      · have z8 : ((N : Int) % 8 == 0) = true := by rw [beq_iff_eq]; omega
        obtain ⟨own, s0, vr, hblk, hrow, hnn⟩ := hwk
        have st : St wr B p L' N s0 vr := ⟨own, hblk, hrow, hnn⟩
        have c1 := st.c1; have c2 := st.c2; have f1 := st.f 1; have f2 := st.f 2
        have ST := Lib.hid st
        have hLb : L'.length ≤ 200000 := by rw [hpk.1]; omega
        obtain ⟨L1, hL1⟩ : ∃ L1, L1 = L' ++ [0] := ⟨_, rfl⟩
        have hinj : j < L1.length := by rw [hL1, List.length_append, hpk.1]; simp; omega
        have HL1 : Hid (L1 = if Y.length % 8 = 0 then L' ++ [0] else L') := Lib.hid (by rw [if_pos (by rw [← hN]; exact h8)]; exact hL1)
        have HL2 := Lib.hid hL1
        have HPK := Lib.hid hpk
        have HPART := Lib.hid hpart
        have HLEFT := Lib.hid hleft; have HSH := Lib.hid hsh; have HRS := Lib.hid hrs; have HJ := Lib.hid hj; have HQ := Lib.hid hq; have HD := Lib.hid hd; have HY := Lib.hid hY; have HN := Lib.hid hN; have H8 := Lib.hid h8; have HSTEP := Lib.hid hstep; have HYL := Lib.hid hYl
        have hpl : part < 2 ^ step := by rw [hpart]; exact Nat.mod_lt _ (Nat.two_pow_pos _)
        have HPL := Lib.hid hpl; clear hpl
        clear hblk hrow hnn st h8 hleft hstep hj hsh hrs hpart hYl hq hlt hd hY hN hpk hL1
        go_wp2_with (at_builtin; refine wpList_append_own _ rfl _ _ 22 rfl B 5 i0 (.int .u8 0) 1 1 Tryd.underlying22 hi hz0 hz1 hz2 rfl (by decide) _ _ _ rfl (ST.out.row.alloc _) ⟨wr.heap.size, 0, none⟩ 1 1 [.int .u8 0] rfl rfl ?c1 ?c2 ?c3 ?c4 ?c5 ?_)
        case c1 =>
          intro t u ht
          match t, ht with
          | 0, ht => simp at ht; subst ht; simp [Addr.add]
        case c2 => intro u hu; simp at hu; subst hu; rfl
        case c3 => unfold maxLen; omega
        case c4 => omega
        case c5 => have := hbl.size; simp; omega
        intro v' w1 hown' hgrow _
        have hap := ST.out.appended0 _ hgrow hown'
        rw [← HL2.out] at hap
        have k2 := hap.1; have k3 := hap.2.1
        have st2 := hap.2.2.1
        have hap1 := hap.2.2.2
        obtain ⟨g, cap, rfl, hcap⟩ := st2.shape
        have m1 := st2.c1; have m2 := st2.c2; have m3 := st2.f 1
        have mb := st2.byte j hinj
        have BL2 := Lib.hid (((hbl.alloc (by have := hbl.size; omega) (.cells #[.int .u8 0] 5)).grown hgrow (by have := hbl.size; simp; omega) (fun k hk => row_ge ST.out.row k hk)).setCell (p := ⟨p, 2, none⟩) ST.out.own (.slice (some ⟨g, 0, none⟩) L1.length cap))
        have KP2 := Lib.hid (((hkp.alloc (.cells #[.int .u8 0] 5)).grown hgrow (fun g' hg' => row_type (ST.out.alloc (.cells #[.int .u8 0] 5)).row g' hg')).setCell p 2 (.slice (some ⟨g, 0, none⟩) L1.length cap) (fun cs ty fr hk => .inr (by
          rw [hap1] at hk
          simp only [Option.some.injEq, Obj.cells.injEq] at hk
          exact hk.2.1.symm)))
        clear hap1
        have hpv := part_val v rs step hv l1
        rw [HPART.out.symm] at hpv
        obtain ⟨c, hc⟩ : ∃ c, c = L1.getD j 0 := ⟨_, rfl⟩
        rw [← hc] at mb
        have mb1 := mb.1; have mb2 := mb.2
        have i1' : (j : Int) < ((L1.length : Nat) : Int) := by omega
        obtain ⟨y, hy⟩ : ∃ y, y = orb c (part * 2 ^ sh) := ⟨_, rfl⟩
        have hx := or_val c part sh step l1 l2 HPL.out
        rw [← hy] at hx
        have hstep' := put_step HPK.out part step (by have := HSTEP.out; have := HLEFT.out; have := HN.out; omega) l4 HPL.out HL1.out
        have hstep2 : Packs (L1.set j y) (X ++ nbits (v / 2 ^ (r - (d + step))) (d + step)) := by
          have e := hstep'.2
          rw [← HN.out, ← HJ.out, show 8 - N % 8 - step = sh from by have := HLEFT.out; have := HSH.out; omega, ← hc, ← hy, HY.out, List.append_assoc] at e
          have hk : r - (d + step) = rs := by have := HQ.out; have := HRS.out; have := HD.out; omega
          rw [hk, nbits_join, ← HPART.out, show rs + step = r - d from by have := HQ.out; have := HRS.out; have := HD.out; omega]
          exact e
        have HSTEP2 := Lib.hid hstep2
        have ST2 := Lib.hid st2
        have HND : Hid (N = X.length + d) := Lib.hid (by rw [HN.out, HYL.out])
        have HDR : Hid (d + step ≤ r) := Lib.hid (by have := HQ.out; have := HD.out; omega)
        have HRS2 : Hid (rs = r - (d + step)) := Lib.hid (by have := HQ.out; have := HRS.out; have := HD.out; omega)
        clear hap st2 mb hc hy hstep' hstep2
        go_wp2_with fail
        go_quiet (fail)
        go_wp2_with fail
        generalize hW2 : w1.setCell ⟨p, 2, none⟩ (.slice (some ⟨g, 0, none⟩) L1.length cap) = W2 at *
        clear hW2
        go_region
        have st3 := (ST2.out.drewN (nq + 1)).stored j y ((N : Int) + (step : Int))
        have n1 := (St.c1 (ST2.out.drewN (nq + 1)))
        have hne : p ≠ g := fun e => row_ne ST2.out.row ST2.out.block (by rw [e]; rfl)
        have n2 : ((W2.drewN (nq + 1)).setCell ⟨g, j, none⟩ (.int .u8 (y.toNat : Int))).cell? ⟨p, 1, none⟩ = some (.int .i64 (N : Int)) := by
          rw [World.cell?_setCell_other _ _ _ _ (by intro e; apply hne; injection e with e1; exact e1.symm)]; exact n1
        have n3 : ((W2.drewN (nq + 1)).setCell ⟨g, j, none⟩ (.int .u8 (y.toNat : Int))).frozen? ⟨p, 1, none⟩ = false := by
          rw [World.frozen?_setCell]; exact (ST2.out.drewN (nq + 1)).f 1
        have hgB : B ≤ g := row_ge ST2.out.row g rfl
        have bl3 := ((below_drewN BL2.out (nq + 1)).setCell (p := ⟨g, j, none⟩) hgB (.int .u8 (y.toNat : Int))).setCell (p := ⟨p, 1, none⟩) ST2.out.own (.int .i64 ((N : Int) + (step : Int)))
        have kp3 := ((KP2.out.drewN (nq + 1)).setCell g j (.int .u8 (y.toNat : Int)) (row_type (ST2.out.drewN (nq + 1)).row g rfl)).setCell p 1 (.int .i64 ((N : Int) + (step : Int))) (fun cs ty fr hk => by
          rw [heap_setCell_other _ _ _ _ hne] at hk
          have := (ST2.out.drewN (nq + 1)).block
          rw [this] at hk
          simp only [Option.some.injEq, Obj.cells.injEq] at hk
          exact .inr hk.2.1.symm)
        have ST3 := Lib.hid st3; have BL3 := Lib.hid bl3; have KP3 := Lib.hid kp3
        clear st3 bl3 kp3 n1 hne hgB
        go_wp2_with fail
        go_roundw
        case rel => exact ⟨d + step, L1.set j y, HDR.out, by rw [HRS2.out], by have h := ST3.out.work; rw [show ((X.length + (d + step) : Nat) : Int) = (N : Int) + (step : Int) from by have := HND.out; omega]; exact h, HSTEP2.out, BL3.out, KP3.out⟩
        case measure => simp [intOf]; omega
      · have z8 : ((N : Int) % 8 == 0) = false := by rw [beq_eq_false_iff_ne]; omega
        obtain ⟨own, s0, vr, hblk, hrow, hnn⟩ := hwk
        have st : St wr B p L' N s0 vr := ⟨own, hblk, hrow, hnn⟩
        have c1 := st.c1; have c2 := st.c2; have f1 := st.f 1; have f2 := st.f 2
        have ST := Lib.hid st
        have hLb : L'.length ≤ 200000 := by rw [hpk.1]; omega
        obtain ⟨L1, hL1⟩ : ∃ L1, L1 = L' := ⟨_, rfl⟩
        have hinj : j < L1.length := by rw [hL1, hpk.1]; omega
        have HL1 : Hid (L1 = if Y.length % 8 = 0 then L' ++ [0] else L') := Lib.hid (by rw [if_neg (by rw [← hN]; exact h8)]; exact hL1)
        have st2 := ST.out
        rw [← hL1] at st2
        obtain ⟨g, cap, rfl, hcap⟩ := st2.shape
        have m1 := st2.c1; have m2 := st2.c2; have m3 := st2.f 1
        have mb := st2.byte j hinj
        have BL2 := Lib.hid hbl; have KP2 := Lib.hid hkp
        have HPK := Lib.hid hpk
        have HPART := Lib.hid hpart
        have HLEFT := Lib.hid hleft; have HSH := Lib.hid hsh; have HRS := Lib.hid hrs; have HJ := Lib.hid hj; have HQ := Lib.hid hq; have HD := Lib.hid hd; have HY := Lib.hid hY; have HN := Lib.hid hN; have H8 := Lib.hid h8; have HSTEP := Lib.hid hstep; have HYL := Lib.hid hYl
        have hpl : part < 2 ^ step := by rw [hpart]; exact Nat.mod_lt _ (Nat.two_pow_pos _)
        have HPL := Lib.hid hpl; clear hpl
        clear hblk hrow hnn st h8 hleft hstep hj hsh hrs hpart hYl hq hlt hd hY hN hpk hL1
        have hpv := part_val v rs step hv l1
        rw [HPART.out.symm] at hpv
        obtain ⟨c, hc⟩ : ∃ c, c = L1.getD j 0 := ⟨_, rfl⟩
        rw [← hc] at mb
        have mb1 := mb.1; have mb2 := mb.2
        have i1' : (j : Int) < ((L1.length : Nat) : Int) := by omega
        obtain ⟨y, hy⟩ : ∃ y, y = orb c (part * 2 ^ sh) := ⟨_, rfl⟩
        have hx := or_val c part sh step l1 l2 HPL.out
        rw [← hy] at hx
        have hstep' := put_step HPK.out part step (by have := HSTEP.out; have := HLEFT.out; have := HN.out; omega) l4 HPL.out HL1.out
        have hstep2 : Packs (L1.set j y) (X ++ nbits (v / 2 ^ (r - (d + step))) (d + step)) := by
          have e := hstep'.2
          rw [← HN.out, ← HJ.out, show 8 - N % 8 - step = sh from by have := HLEFT.out; have := HSH.out; omega, ← hc, ← hy, HY.out, List.append_assoc] at e
          have hk : r - (d + step) = rs := by have := HQ.out; have := HRS.out; have := HD.out; omega
          rw [hk, nbits_join, ← HPART.out, show rs + step = r - d from by have := HQ.out; have := HRS.out; have := HD.out; omega]
          exact e
        have HSTEP2 := Lib.hid hstep2
        have ST2 := Lib.hid st2
        have HND : Hid (N = X.length + d) := Lib.hid (by rw [HN.out, HYL.out])
        have HDR : Hid (d + step ≤ r) := Lib.hid (by have := HQ.out; have := HD.out; omega)
        have HRS2 : Hid (rs = r - (d + step)) := Lib.hid (by have := HQ.out; have := HRS.out; have := HD.out; omega)
        clear st2 mb hc hy hstep' hstep2
        go_wp2_with fail
        go_quiet (fail)
        go_wp2_with fail
        go_region
        have st3 := (ST2.out.drewN (nq + 1)).stored j y ((N : Int) + (step : Int))
        have n1 := (St.c1 (ST2.out.drewN (nq + 1)))
        have hne : p ≠ g := fun e => row_ne ST2.out.row ST2.out.block (by rw [e]; rfl)
        have n2 : ((wr.drewN (nq + 1)).setCell ⟨g, j, none⟩ (.int .u8 (y.toNat : Int))).cell? ⟨p, 1, none⟩ = some (.int .i64 (N : Int)) := by
          rw [World.cell?_setCell_other _ _ _ _ (by intro e; apply hne; injection e with e1; exact e1.symm)]; exact n1
        have n3 : ((wr.drewN (nq + 1)).setCell ⟨g, j, none⟩ (.int .u8 (y.toNat : Int))).frozen? ⟨p, 1, none⟩ = false := by
          rw [World.frozen?_setCell]; exact (ST2.out.drewN (nq + 1)).f 1
        have hgB : B ≤ g := row_ge ST2.out.row g rfl
        have bl3 := ((below_drewN BL2.out (nq + 1)).setCell (p := ⟨g, j, none⟩) hgB (.int .u8 (y.toNat : Int))).setCell (p := ⟨p, 1, none⟩) ST2.out.own (.int .i64 ((N : Int) + (step : Int)))
        have kp3 := ((KP2.out.drewN (nq + 1)).setCell g j (.int .u8 (y.toNat : Int)) (row_type (ST2.out.drewN (nq + 1)).row g rfl)).setCell p 1 (.int .i64 ((N : Int) + (step : Int))) (fun cs ty fr hk => by
          rw [heap_setCell_other _ _ _ _ hne] at hk
          have := (ST2.out.drewN (nq + 1)).block
          rw [this] at hk
          simp only [Option.some.injEq, Obj.cells.injEq] at hk
          exact .inr hk.2.1.symm)
        have ST3 := Lib.hid st3; have BL3 := Lib.hid bl3; have KP3 := Lib.hid kp3
        clear st3 bl3 kp3 n1 hne hgB
        go_wp2_with fail
        go_roundw
        case rel => exact ⟨d + step, L1.set j y, HDR.out, by rw [HRS2.out], by have h := ST3.out.work; rw [show ((X.length + (d + step) : Nat) : Int) = (N : Int) + (step : Int) from by have := HND.out; omega]; exact h, HSTEP2.out, BL3.out, KP3.out⟩
        case measure => simp [intOf]; omega
    · obtain rfl : d = r := by omega
      have e : nbits (v / 2 ^ (d - d)) d = nbits v d := by rw [Nat.sub_self, Nat.pow_zero, Nat.div_one]
      rw [e] at hpk
      have HPK := Lib.hid hpk; have HWK := Lib.hid hwk
      clear hpk hwk e
      go_wp2_with fail
      go_end0
      exact ⟨rfl, ⟨L', HWK.out, HPK.out⟩, hbl, hkp⟩
end Go.Proofs.YtjbbkcnfilnmcaaDoor.Bt

/- slices.Compact at skew's triples. -/
import Derived.Test.YtonlbcibfbbpgaaSkPD
import Derived.Test.YtonlbcibfbbpgaaOrdIns0
import Derived.Shelf.SlicesE.Compact
import Derived.ChangeKeysEq
import Derived.Laws.StructEq
namespace Go.Proofs.Ytonlbcibfbbpgaa.Sk
open Go.RowKit Go.Lib Go.Sort Rw Ls Od _root_.Go.Proofs.Ytonlbcibfbbpgaa.Nm

theorem eqInT (x y : T3) (W : World) : (Op.equalIn 10000 50 (.agg (encT x).toArray) (.agg (encT y).toArray)).run Try.prog W = .ok (decide (x = y)) W := by
  obtain ⟨a, b, c⟩ := x
  obtain ⟨d, e, f⟩ := y
  obtain ⟨i0, hi0, _, _, _⟩ := info_parts info_u64
  have hz : Try.prog.cellsOf 41 = 1 := by kernel_rfl
  have u1 := Try.underlying41
  have a1 := Try.isAgg41
  have z1 := Try.sizeOf41
  simp only [encT]
  rw [show (10000 : Nat) = 9999 + 1 from rfl, run_equalIn_array (w := W) 9999 _ _ Try.underlying50 hi0, hz]
  have hr : List.range 3 = [0, 1, 2] := rfl
  rw [hr]
  simp only [Op.eqItems]
  go_simp
  by_cases h1 : a = d <;> by_cases h2 : b = e <;> by_cases h3 : c = f <;> simp [h1, h2, h3] <;> omega
theorem eqlT (x y : T3) (W : World) : (binOp .eql 50 (.agg (encT x).toArray) (.agg (encT y).toArray)).run Try.prog W = .ok (.bool (decide (x = y))) W := by
  rw [run_eql_struct, eqInT]; rfl
theorem neqT (x y : T3) (W : World) : (binOp .neq 50 (.agg (encT x).toArray) (.agg (encT y).toArray)).run Try.prog W = .ok (.bool (!decide (x = y))) W := by
  rw [run_neq_struct, eqInT]; rfl
theorem guardT : Try.prog.eqGuardType Try.prog.depth 50 = false := by kernel_rfl
/-- three cells, as the walk spells them, that may be written -/
def At3f (w : World) (g o : Nat) (t : T3) : Prop := (w.cell? ⟨g, o, none⟩ = some (.int .u64 (t.1 : Nat)) ∧ w.cell? ⟨g, o + 1, none⟩ = some (.int .u64 (t.2.1 : Nat)) ∧ w.cell? ⟨g, o + 2, none⟩ = some (.int .u64 (t.2.2 : Nat))) ∧ w.frozen? ⟨g, o, none⟩ = false ∧ w.frozen? ⟨g, o + 1, none⟩ = false ∧ w.frozen? ⟨g, o + 2, none⟩ = false
theorem rowT_at {w : World} {g : Nat} {R : List T3} (h : RowT w g R) {i : Nat} (hi : i < R.length) : At3f w g (i * 3) R[i] := by
  have hl := fT_length R
  have hc : ∀ j, j < 3 → w.cell? ⟨g, i * 3 + j, none⟩ = some ((encT R[i]).getD j (.bool false)) ∧ w.frozen? ⟨g, i * 3 + j, none⟩ = false := fun j hj => by
    have h1 := rowT_cell h (t := i * 3 + j) (by omega)
    have h2 := fT_at R i j hi hj
    rw [Nat.mul_comm] at h2
    rw [List.getD_eq_getElem?_getD, h2, ← List.getD_eq_getElem?_getD] at h1
    exact h1
  exact ⟨⟨(hc 0 (by omega)).1, (hc 1 (by omega)).1, (hc 2 (by omega)).1⟩, (hc 0 (by omega)).2, (hc 1 (by omega)).2, (hc 2 (by omega)).2⟩
theorem setMany_set (R : List T3) (i : Nat) (hi : i < R.length) (x : T3) : setMany (flatK encT 3 R.toArray) (i * 3) (encT x) = flatK encT 3 (R.set i x).toArray := by
  refine ext_get! (by simp) fun t ht => ?_
  have ht' : t < R.length * 3 := by simpa using ht
  have hl : (encT x).length = 3 := rfl
  rw [get_setMany _ _ _ t (by simpa using ht'), get_flatK _ _ _ t (by simpa using ht'), get_flatK _ _ _ t (by simpa using ht'), hl]
  by_cases a : t / 3 = i
  · rw [if_pos (by omega)]
    have e : (R.set i x).toArray[t / 3]! = x := by rw [a]; simp [hi]
    rw [e, show t - i * 3 = t % 3 by omega]
  · rw [if_neg (by omega)]
    have h1 : t / 3 < R.length := by omega
    have e : (R.set i x).toArray[t / 3]! = R.toArray[t / 3]! := by simp [h1, Ne.symm a]
    rw [e]
theorem rowT_set {w : World} {g : Nat} {R : List T3} (h : RowT w g R) {i : Nat} (hi : i < R.length) (x : T3) : RowT (w.setCells g (i * 3) (encT x)) g (R.set i x) := by
  refine ⟨by rw [setCells_size]; exact h.1, ?_⟩
  have h1 := holds_setCells_c h.2 (i * 3) (encT x) (by rw [size_flatK]; show i * 3 + 3 ≤ _; simp; omega)
  rw [setMany_set R i hi x, Nat.zero_add] at h1
  exact h1
theorem zero3 (n : Nat) : (Builtin.zeroCells (Value.agg #[.int .u64 0, .int .u64 0, .int .u64 0]).cells n).toList = List.replicate (n * 3) (.int .u64 0) := by
  apply List.ext_getElem
  · simp [Builtin.zeroCells, Value.cells]
  · intro i h1 h2
    simp [Builtin.zeroCells, Value.cells]
    have h3 : i % 3 < 3 := Nat.mod_lt _ (by decide)
    generalize i % 3 = r at h3
    rcases r with _ | _ | _ | r
    · rfl
    · rfl
    · rfl
    · omega
theorem clearT (w : World) (ty : TypeId) (b o n c : Nat) (hn : 0 < n) (hc : ∀ j, j < n * 3 → (w.cell? ⟨b, o + j, none⟩).isSome = true) (hf : ∀ j, j < n * 3 → w.frozen? ⟨b, o + j, none⟩ = false) :
    (Builtin.clear_ #[47] ty #[.slice (some ⟨b, o, none⟩) n c]).run Try.prog w = .ok (.tuple #[]) (w.setCells b o (List.replicate (n * 3) (.int .u64 0))) := by
  have hst := run_storeCells_cells (P := Try.prog) b o (List.replicate (n * 3) (.int .u64 0)) 0 w (by simpa using hc) (by simpa using hf) (by intro v hv'; rw [List.eq_of_mem_replicate hv']; rfl)
  simp only [Nat.add_zero] at hst
  obtain ⟨m, rfl⟩ : ∃ m, n = m + 1 := ⟨n - 1, by omega⟩
  have hz := zero3 (m + 1)
  have hv := Try.zeroValue50
  simp [Builtin.clear_, run_underlying Try.underlying47, hv, hz, hst]
/-- what Compact answers -/
def CpT (w : World) (g cap : Nat) (M : List T3) (e : Ending) (w' : World) : Prop := ∃ m, e = .returned (.slice (some ⟨g, 0, none⟩) m cap) ∧ m = (Lib.compactUpTo M.toArray M.length).length ∧ m ≤ M.length ∧ Rd w' (some ⟨g, 0, none⟩) (fT (Lib.compactUpTo M.toArray M.length)) ∧ RowKit.Below g w w'
theorem getT (M : List T3) {i : Nat} (hi : i < M.length) : M.toArray[i]! = M[i] := by simp [hi]
set_option maxHeartbeats 8000000 in
set_option maxRecDepth 100000 in
theorem compactT_any (M : List T3) (n g cap : Nat) (w : World) (hn : n = M.length) (hl : n ≤ 1000000) (hcap : n ≤ cap) (hr : RowT w g M) :
    Calls Try.prog 42 #[.slice (some ⟨g, 0, none⟩) n cap] w (CpT w g cap M) := by
  have HN := Lib.hid hn; have HR := Lib.hid hr
  clear hn hr
  have DONE : Hid (∀ W, RowKit.Below g w W → RowT W g M → (∀ j, j < n → Lib.keeps M.toArray j = true) → CpT w g cap M (.returned (.slice (some ⟨g, 0, none⟩) n cap)) W) := Lib.hid (fun W hb hR ha => by
    have e : Lib.compactUpTo M.toArray M.length = M := by
      rw [Lib.compactUpTo_all _ _ (by rw [← HN.out]; exact ha)]
      apply List.ext_getElem (by simp)
      intro i h1 h2
      simp [h2]
    exact ⟨n, rfl, by rw [e, HN.out], by rw [HN.out]; exact Nat.le_refl _, by rw [e]; exact rowT_rd hR, hb⟩)
  by_cases h2 : n < 2
  · have F : Hid (CpT w g cap M (.returned (.slice (some ⟨g, 0, none⟩) n cap)) w) := Lib.hid (DONE.out w (RowKit.Below.refl _ _) HR.out (fun j hj => by
      by_cases e : j = 0
      · exact Lib.keeps_lt_one _ j (by omega)
      · exact Lib.keeps_lt_one _ j (by omega)))
    have t : (n : Int) < 2 := by omega
    clear h2
    go_enter Try.func42, Try.ntmps42
    go_wp2_with fail
    go_ret
    exact F.out
  have t : ¬ (n : Int) < 2 := by omega
  have hgd := guardT
  go_enter Try.func42, Try.ntmps42
  go_wp2_with fail
  go_loopw [3] (fun i wr => ∃ k q : Nat, 1 ≤ k ∧ k ≤ n ∧ i = .int .i64 k ∧ wr = w.drewN q ∧ Hid (∀ j, j < k → Lib.keeps M.toArray j = true)) (fun i _ => n - (intOf i).toNat)
  case atStart => exact ⟨1, 0, by omega, by omega, rfl, rfl, Lib.hid (Lib.keeps_lt_one _)⟩
  case round =>
    obtain ⟨k, q, hk1, hk, rfl, hw, HA⟩ := hrel
    by_cases hlt : k < n
    · obtain ⟨y, rfl⟩ : ∃ y, k = y + 1 := ⟨k - 1, by omega⟩
      have hkl : y + 1 < M.length := by rw [← HN.out]; exact hlt
      have hRW : RowT wr g M := by rw [hw]; exact HR.out
      obtain ⟨⟨a0, a1, a2⟩, _⟩ := rowT_at hRW hkl
      obtain ⟨⟨b0, b1, b2⟩, _⟩ := rowT_at hRW (i := y) (by omega)
      have HX := Lib.hid (getT M hkl); have HY := Lib.hid (getT M (i := y) (by omega))
      obtain ⟨u, hu⟩ : ∃ u, u = M[y + 1] := ⟨_, rfl⟩
      obtain ⟨v, hv⟩ : ∃ v, v = M[y] := ⟨_, rfl⟩
      rw [← hu] at a0 a1 a2 HX
      rw [← hv] at b0 b1 b2 HY
      have hE := fun W => eqInT u v W
      obtain ⟨u1, u2, u3⟩ := u
      obtain ⟨v1, v2, v3⟩ := v
      simp only [encT] at hE
      have k0 : (0 : Int) ≤ (y : Int) := by omega
      have k1 : (y : Int) < (n : Int) := by omega
      have k2 : (y : Int) + 1 < (n : Int) := by omega
      have k3 : (0 : Int) ≤ (y : Int) + 1 := by omega
      have kw : IntKind.i64.wrap (y : Int) = (y : Int) := IntWalk.i64_in _ (by omega)
      have HW := Lib.hid hw; have HRW := Lib.hid hRW
      clear hw hRW hu hv hlt hk1 hk
      by_cases hdup : (u1, u2, u3) = (v1, v2, v3)
      · rw [decide_eq_true hdup] at hE
        have HC0 : Hid (Lib.CompInv M.toArray (y + 1 + 1) (y + 1) M.toArray) := Lib.hid (Lib.CompInv.start HA.out (Lib.keeps_neg (by omega) (by rw [HX.out, Nat.add_sub_cancel, HY.out]; exact hdup)))
        clear hdup HX HY
        obtain ⟨K0, hK0⟩ : ∃ K0, K0 = y + 1 := ⟨_, rfl⟩
        go_wp2_with fail
        go_quiet (fail)
        clear a0 a1 a2 b0 b1 b2
        have HRW1 : Hid (RowT (wr.drewN nq) g M) := HRW
        have HB1 : Hid (RowKit.Below g w (wr.drewN nq)) := Lib.hid (by rw [HW.out]; exact ⟨rfl, rfl, rfl, Nat.le_refl _, fun _ _ => rfl⟩)
        have ek : (y : Int) + 1 = (K0 : Int) := by omega
        have ek2 : y + 1 = K0 := hK0.symm
        rw [ek2] at HC0
        simp only [ek]
        have l0 : (0 : Int) ≤ (K0 : Int) := by omega
        have l1 : (K0 : Int) ≤ (n : Int) := by omega
        have l2 : (K0 : Int) ≤ (cap : Int) := by omega
        have l3 : ¬ (cap = K0) := by omega
        have HK0 : Hid (1 ≤ K0 ∧ K0 < n) := Lib.hid (by omega)
        have HK1 : Hid (K0 + 1 ≤ n ∧ cap ≥ n) := Lib.hid (by omega)
        clear hK0 ek ek2 k0 k1 k2 k3 kw hE hkl HW HRW
        generalize wr.drewN nq = w1 at HRW1 HB1 ⊢
        go_wp2_with fail
        clear l0 l1 l2 l3
        obtain ⟨d, hd⟩ : ∃ d, d = n - K0 := ⟨_, rfl⟩
        obtain ⟨cd, hcd⟩ : ∃ cd, cd = cap - K0 := ⟨_, rfl⟩
        rw [← hd, ← hcd]
        have HD : Hid (n = K0 + d ∧ 1 ≤ d ∧ 1 ≤ K0) := Lib.hid (by have := HK0.out; omega)
        have HCD : Hid (cap = K0 + cd ∧ d ≤ cd) := Lib.hid (by have := HK0.out; omega)
        clear hd hcd HK0 HK1
        go_loopw [3, 5] (fun i j wq => ∃ (kk z : Nat) (R : List T3), i = .int .i64 kk ∧ j = .int .i64 ((z : Int) + 1) ∧ z + 1 ≤ d ∧ Hid (Lib.CompInv M.toArray (K0 + z + 1) kk R.toArray) ∧ Hid (RowT wq g R) ∧ Hid (RowKit.Below g w wq)) (fun _ j _ => d - (intOf j).toNat)
        case atStart => exact ⟨K0, 0, M, rfl, rfl, HD.out.2.1, HC0, HRW1, HB1⟩
        case round =>
          clear HC0 HRW1 HB1
          obtain ⟨kk, z, R, rfl, rfl, hz, HI, HRo, HB⟩ := hrel
          have hRl : R.length = n := by have := HI.out.size; simpa [HN.out] using this
          have hkl := HI.out.lt
          have hD := HD.out
          by_cases hlt : z + 1 < d
          · obtain ⟨⟨a0, a1, a2⟩, _⟩ := rowT_at HRo.out (i := K0 + z + 1) (by omega)
            obtain ⟨⟨b0, b1, b2⟩, _⟩ := rowT_at HRo.out (i := K0 + z) (by omega)
            obtain ⟨⟨o0, o1, o2⟩, p0, p1, p2⟩ := rowT_at HRo.out (i := kk) (by omega)
            have hm1 : K0 + z + 1 < M.length := by rw [← HN.out]; omega
            have hH1 := HI.out.high (K0 + z + 1) (by omega)
            have hH2 := HI.out.high (K0 + z) (by omega)
            rw [getT R (by omega), getT M hm1] at hH1
            rw [getT R (by omega), getT M (by omega)] at hH2
            have HX := Lib.hid (getT M hm1); have HY := Lib.hid (getT M (i := K0 + z) (by omega))
            obtain ⟨u, hu⟩ : ∃ u, u = M[K0 + z + 1] := ⟨_, rfl⟩
            obtain ⟨v, hv⟩ : ∃ v, v = M[K0 + z] := ⟨_, rfl⟩
            rw [hH1, ← hu] at a0 a1 a2
            rw [hH2, ← hv] at b0 b1 b2
            rw [← hu] at HX
            rw [← hv] at HY
            generalize R[kk] = old at o0 o1 o2
            have e1 : (K0 + z + 1) * 3 = K0 * 3 + (z + 1) * 3 := by omega
            have e2 : (K0 + z) * 3 = K0 * 3 + z * 3 := by omega
            rw [e1] at a0 a1 a2
            rw [e2] at b0 b1 b2
            have hE := fun W => eqInT u v W
            have HRS : Hid (∀ q, RowT ((wr.drewN q).setCells g (kk * 3) (encT u)) g (R.set kk u)) := Lib.hid (fun q => rowT_set (show RowT (wr.drewN q) g R from HRo.out) (by omega) u)
            have HBS : Hid (∀ q, RowKit.Below g w ((wr.drewN q).setCells g (kk * 3) (encT u))) := Lib.hid (fun q => setCells_below g g (Nat.le_refl _) _ _ _ _ (below_drewN HB.out q))
            have HKE : Hid (Lib.keeps M.toArray (K0 + z + 1) = decide (u ≠ v)) := Lib.hid (by
              by_cases e : u = v
              · rw [Lib.keeps_neg (by omega) (by rw [HX.out, Nat.add_sub_cancel, HY.out]; exact e), decide_eq_false (by simp [e])]
              · rw [Lib.keeps_pos (by rw [HX.out, Nat.add_sub_cancel, HY.out]; exact e), decide_eq_true e])
            obtain ⟨u1, u2, u3⟩ := u
            obtain ⟨v1, v2, v3⟩ := v
            simp only [encT] at hE HRS HBS
            have k0 : (0 : Int) ≤ (z : Int) := by omega
            have k1 : (z : Int) < (d : Int) := by omega
            have k2 : (z : Int) + 1 < (d : Int) := by omega
            have k3 : (0 : Int) ≤ (z : Int) + 1 := by omega
            have kw : IntKind.i64.wrap (z : Int) = (z : Int) := IntWalk.i64_in _ (by omega)
            have kw2 : IntKind.i64.wrap ((z : Int) + 1 + 1) = (z : Int) + 1 + 1 := IntWalk.i64_in _ (by omega)
            have HL : Hid (z + 1 + 1 ≤ d) := Lib.hid (by omega)
            have HMS : Hid (K0 + z + 1 < M.toArray.size) := Lib.hid (by simpa using hm1)
            have j0 : (0 : Int) ≤ (kk : Int) := by omega
            have j1 : (kk : Int) < (n : Int) := by omega
            clear hu hv hlt hz hH1 hH2 e1 e2 hRl hkl hD hm1 HY
            by_cases huv : (u1, u2, u3) = (v1, v2, v3)
            · rw [decide_eq_true huv] at hE
              have HI2 := Lib.hid (HI.out.skip (by rw [HKE.out, decide_eq_false (by simp [huv])]))
              clear huv o0 o1 o2 p0 p1 p2 j0 j1 HRS HBS
              go_wp2_with fail
              go_quiet (fail)
              go_wp2_with fail
              go_roundw
              case rel => exact ⟨kk, z + 1, R, rfl, by go_num, HL.out, HI2, HRo, Lib.hid (below_drewN HB.out _)⟩
              case measure => simp [intOf]; omega
            · rw [decide_eq_false huv] at hE
              have HI2 := Lib.hid (HI.out.keep HMS.out (by rw [HKE.out, decide_eq_true huv]))
              clear huv
              go_wp2_with fail
              go_quiet (fail)
              go_wp2_with fail
              go_roundw
              case rel => exact ⟨kk + 1, z + 1, R.set kk (u1, u2, u3), by go_num, by go_num, HL.out, by have := HI2.out; rw [HX.out] at this; have h : (R.set kk (u1, u2, u3)).toArray = R.toArray.setIfInBounds kk (u1, u2, u3) := (by simp); rw [h]; exact Lib.hid this, Lib.hid (HRS.out _), Lib.hid (HBS.out _)⟩
              case measure => simp [intOf]; omega
          · have hz1 : z + 1 = d := by omega
            have hkn : kk < n := by omega
            have hkc : ¬ (cap = kk) := by omega
            have j0 : (0 : Int) ≤ (kk : Int) := by omega
            have j1 : (kk : Int) ≤ (n : Int) := by omega
            have j2 : (kk : Int) ≤ (cap : Int) := by omega
            have hw : ∀ j, j < (n - kk) * 3 → wr.cell? ⟨g, kk * 3 + j, none⟩ = some ((fT R).getD (kk * 3 + j) (.bool false)) ∧ wr.frozen? ⟨g, kk * 3 + j, none⟩ = false := fun j hj => rowT_cell HRo.out (by rw [fT_length]; omega)
            have hcl := fun ty => clearT wr ty g (kk * 3) (n - kk) (cap - kk) (by omega) (fun j hj => by rw [(hw j hj).1]; rfl) (fun j hj => (hw j hj).2)
            have F : Hid (CpT w g cap M (.returned (.slice (some ⟨g, 0, none⟩) kk cap)) (wr.setCells g (kk * 3) (List.replicate ((n - kk) * 3) (.int .u64 0)))) := Lib.hid (by
              have hmn : K0 + z + 1 = M.length := by rw [← HN.out]; omega
              have hI := HI.out
              rw [hmn] at hI
              have hT : Lib.compactUpTo M.toArray M.length = R.take kk := by
                apply List.ext_getElem?
                intro j
                by_cases hj : j < kk
                · rw [hI.low j hj, List.getElem?_take, if_pos hj, getT R (by omega), List.getElem?_eq_getElem (by omega)]
                · rw [List.getElem?_eq_none (by rw [hI.len]; omega), List.getElem?_eq_none (by rw [List.length_take]; omega)]
              refine ⟨kk, rfl, hI.len.symm, by rw [← HN.out]; omega, ?_, setCells_below g g (Nat.le_refl _) _ _ _ _ HB.out⟩
              rw [hT]
              intro i hi
              have hi2 : i < kk * 3 := by rw [fT_length, List.length_take] at hi; omega
              refine ⟨_, rfl, by rw [setCells_size]; exact HRo.out.1, ?_⟩
              rw [Addr.add_lit, Nat.zero_add, World.cell?_setCells_out _ _ _ _ _ (fun _ _ => .inl (by show i < kk * 3; exact hi2)), (rowT_cell HRo.out (by rw [fT_length]; omega)).1]
              congr 1
              have e : fT R = fT (R.take kk) ++ fT (R.drop kk) := by rw [← fT_append, List.take_append_drop]
              rw [e, List.getD_eq_getElem?_getD, List.getD_eq_getElem?_getD, List.getElem?_append_left hi])
            have k2 : ¬ ((z : Int) + 1 < (d : Int)) := by omega
            clear hw hz hlt hkl hRl hD
            go_wp2_with fail
            go_ret
            exact F.out
      · rw [decide_eq_false hdup] at hE
        have HA2 : Hid (∀ j, j < y + 1 + 1 → Lib.keeps M.toArray j = true) := Lib.hid (fun j hj => by
          by_cases e : j = y + 1
          · rw [e]; exact Lib.keeps_pos (by rw [HX.out, Nat.add_sub_cancel, HY.out]; exact hdup)
          · exact HA.out j (by omega))
        have kw2 : IntKind.i64.wrap ((y : Int) + 1 + 1) = (y : Int) + 1 + 1 := IntWalk.i64_in _ (by omega)
        clear hdup
        go_wp2_with fail
        go_quiet (fail)
        go_wp2_with fail
        go_roundw
        case rel => exact ⟨y + 1 + 1, q + nq, by omega, by omega, by go_num, by rw [HW.out, World.drewN_drewN], HA2⟩
        case measure => simp [intOf]; omega
    · obtain rfl : k = n := by omega
      have F : Hid (CpT w g cap M (.returned (.slice (some ⟨g, 0, none⟩) k cap)) wr) := Lib.hid (DONE.out wr (by rw [hw]; exact ⟨rfl, rfl, rfl, Nat.le_refl _, fun _ _ => rfl⟩) (by rw [hw]; exact HR.out) HA.out)
      have k1 : ¬ (k : Int) < (k : Int) := by omega
      clear hw
      go_wp2_with fail
      go_ret
      exact F.out
end Go.Proofs.Ytonlbcibfbbpgaa.Sk

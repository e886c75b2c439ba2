/- CanT CanU CanV CanW -/
import Derived.Test.YtjnehpkkkmicfaaBnK
import Derived.BigRegion
import Derived.Deep.RegionHeld3
import Derived.Test.YtjnehpkkkmicfaaBnF
namespace Go.Proofs.Ytjnehpkkkmicfaa.Cn
open Go.RowKit Go.Lib Rw Ls Od _root_.Go.Proofs.Ytjnehpkkkmicfaa.Nm Pk Bt Bk

theorem blk_drew {w : World} {g : Nat} {t : TypeId} {xs : List Value} (h : Blk w g t xs) : Blk w.drew g t xs := h
set_option maxHeartbeats 4000000 in
set_option maxRecDepth 100000 in
theorem symbol_any (ls : List Int) (cd l g i : Nat) (p : Option Addr) (c : Nat) (w : World) (hw : Wk w g p ls.length c ls) (hp : Rd w p (zs ls)) (hr : Rt ls) (h0 : 0 < l) (hl : l < 16) (hcd : cd < 18446744073709551616) (hi : fnd ls cd (l : Int) = some i) :
    Calls Try.prog 35 #[.pointer (some ⟨g, 0, none⟩), .int .u64 (cd : Int), .int .i64 (l : Int)] w fun e w' => e = .returned (.int .i64 (i : Nat)) ∧ w' = w := by
  have c2 := hw.fst hl
  have c0 := hw.row
  have hb := has_of hr hi
  have HK : Hid (∀ k a, k < ls.length → ls.getD k 0 = (l : Int) → cd = fs ls l + cntT ls l k + a → (a = 0 → i = k) ∧ (a ≠ 0 → cd = fs ls l + cntT ls l (k + 1) + (a - 1))) := Lib.hid (fun k a hk hz he => by
    have hln : ln ls k = l := by unfold ln; rw [hz]; rfl
    refine ⟨fun ha => ?_, fun ha => ?_⟩
    · have := hit_at hr hk h0 hln (cd := cd) (by omega)
      rw [hi] at this; exact Option.some.inj this
    · rw [cntT_in (by omega) hln]; omega)
  have HO : Hid (∀ k, k < ls.length → ls.getD k 0 ≠ (l : Int) → cntT ls l (k + 1) = cntT ls l k) := Lib.hid (fun k hk hz => cntT_out (by
    rintro ⟨h1, h2⟩
    have := hr.all k hk
    unfold ln at h2; omega))
  have HE : Hid (cd < fs ls l + cntT ls l ls.length) := Lib.hid hb.2
  have hsm := fs_small hr.room (l := l) (by omega)
  have hml := hr.few
  obtain ⟨m, hm⟩ : ∃ m, m = ls.length := ⟨_, rfl⟩
  obtain ⟨a0, ha⟩ : ∃ a0, a0 = cd - fs ls l := ⟨_, rfl⟩
  have HA : Hid (cd = fs ls l + cntT ls l 0 + a0) := Lib.hid (by unfold cntT; omega)
  rw [← hm] at c0 HK HO HE hml
  have HF : Hid (∀ k, k < m → ∃ a : Addr, p = some a ∧ w.cell? (a.add k) = some (.int .i64 (ls.getD k 0))) := Lib.hid (fun k hk => by
    obtain ⟨b, e, h⟩ := rd_z hp k (by rw [← hm]; exact hk)
    exact ⟨b, e, h⟩)
  obtain ⟨f, hf⟩ : ∃ f, f = fs ls l := ⟨_, rfl⟩
  rw [← hf] at c2 ha
  have s1 : IntKind.u64.wrap ((cd : Int) - (f : Int)) = (a0 : Int) := by rw [show (cd : Int) - (f : Int) = (a0 : Int) by omega]; exact u64_small (by omega) (by omega)
  have k0 : (0 : Int) ≤ (l : Int) := by omega
  have k1 : (l : Int) < 16 := by omega
  have ab : a0 ≤ cd := by omega
  clear hw hr hb hsm hp hi hm ha hf
  go_enter Try.func35, Try.ntmps35
  go_wp2_with fail
  go_loopw [7, 23] (fun av iv wr => ∃ k a : Nat, k ≤ m ∧ a ≤ cd ∧ iv = .int .i64 k ∧ av = .int .u64 a ∧ Hid (cd = fs ls l + cntT ls l k + a) ∧ wr = w) (fun _ iv _ => m - (RowKit.intOf iv).toNat)
  case atStart => exact ⟨0, a0, Nat.zero_le _, ab, rfl, rfl, HA, rfl⟩
  case round =>
    clear HA
    obtain ⟨k, a, hk, hab, rfl, rfl, ha, hw⟩ := hrel
    rw [hw]
    clear hw
    by_cases hlt : k < m
    · obtain ⟨b, rfl, cz⟩ := HF.out k hlt
      have q0 : (0 : Int) ≤ (k : Int) := by omega
      have q1 : (k : Int) < (m : Int) := by omega
      by_cases hz : ls.getD k 0 = (l : Int)
      · rw [hz] at cz
        have hk2 := HK.out k a hlt hz ha.out
        have e1 : ((l : Int) == (l : Int)) = true := by simp
        have e2 : ((l : Int) != (l : Int)) = false := by simp
        by_cases ha0 : a = 0
        · have H1 := Lib.hid (hk2.1 ha0)
          subst ha0
          clear hk2 ha hz
          go_wp2_with fail
          go_ret
          exact ⟨by rw [H1.out]; rfl, rfl⟩
        · have H1 := Lib.hid (hk2.2 ha0)
          have e3 : ((a : Int) == 0) = false := by rw [beq_eq_false_iff_ne]; omega
          have e4 : (a == 0) = false := by rw [beq_eq_false_iff_ne]; exact ha0
          have s2 : IntKind.u64.wrap ((a : Int) - 1) = ((a - 1 : Nat) : Int) := by rw [show (a : Int) - 1 = ((a - 1 : Nat) : Int) by omega]; exact u64_small (by omega) (by omega)
          clear hk2 ha hz
          go_wp2_with fail
          go_roundw
          case rel => exact ⟨k + 1, a - 1, by omega, by omega, by go_num, by first | rfl | go_num, H1, trivial⟩
          case measure => simp [RowKit.intOf]; omega
      · have H1 : Hid (cd = fs ls l + cntT ls l (k + 1) + a) := Lib.hid (by rw [HO.out k hlt hz]; exact ha.out)
        obtain ⟨z, hzz⟩ : ∃ z, z = ls.getD k 0 := ⟨_, rfl⟩
        rw [← hzz] at cz hz
        have e1 : (z == (l : Int)) = false := by rw [beq_eq_false_iff_ne]; exact hz
        have e2 : (z != (l : Int)) = true := by rw [bne_iff_ne]; exact hz
        clear ha hz hzz
        go_wp2_with fail
        go_roundw
        case rel => exact ⟨k + 1, a, by omega, by omega, by go_num, rfl, H1, trivial⟩
        case measure => simp [RowKit.intOf]; omega
    · exfalso
      obtain rfl : k = m := by omega
      have h1 := ha.out; have h2 := HE.out
      omega
set_option maxHeartbeats 4000000 in
set_option maxRecDepth 100000 in
theorem codesP_any (ls : List Int) (g : Nat) (p : Option Addr) (c : Nat) (w : World) (hw : Wk w g p ls.length c ls) (hp : Rd w p (zs ls)) (hr : Rt ls) :
    Calls Try.prog 33 #[.pointer (some ⟨g, 0, none⟩)] w fun e w' => ∃ q : Nat, e = .returned (.slice (some ⟨q, 0, none⟩) ls.length ls.length) ∧ w.heap.size ≤ q ∧ q < w'.heap.size ∧ Rd w' (some ⟨q, 0, none⟩) (nums (codes ls)) ∧ Below w.heap.size w w' := by
  obtain ⟨i0, hi0, hz0, hz1, hz2⟩ := info_parts info_u64
  have hfew := hr.few
  have hgs : g < w.heap.size := Blk.lt hw
  have HP := Lib.hid hp; have HR := Lib.hid hr
  obtain ⟨m, hm⟩ : ∃ m, m = ls.length := ⟨_, rfl⟩
  rw [← hm] at hfew hw ⊢
  obtain ⟨M, hM⟩ : ∃ M, M = madeCells (Value.int .u64 0).cells ((m : Int).toNat * i0.size) := ⟨_, rfl⟩
  have hmk : ∀ W : World, (Instr.makeSlice 25 (.int .i64 (m : Int)) (.int .i64 (m : Int))).run Try.prog W = .ok (.slice (some ⟨W.heap.size, 0, none⟩) m m) (W.alloc (.cells M 23)) := by
    intro W
    have := run_makeSlice W 25 23 i0 (.int .u64 0) Try.underlying25 hi0 hz0 .i64 .i64 (m : Int) (m : Int) (by omega) (by omega) (by rw [hz1]; omega) (by rw [hz2]; omega) (by omega)
    rw [this, ← hM, Int.toNat_natCast]
  have hML : M.toList = nums (cdL ls 0) := by
    rw [hM, hz1, Nat.mul_one, Int.toNat_natCast]
    show (madeCells #[Value.int .u64 0] m).toList = _
    rw [toList_madeCells_one, cdL_zero, hm]
    simp [nums]
  obtain ⟨XL, hXA⟩ : ∃ XL, XL = nums (nxL ls 0) := ⟨_, rfl⟩
  have hiL : (Try.prog.info? 99).map (·.size) = some XL.length := by rw [hXA, nums_length, nxL_length]; kernel_rfl
  obtain ⟨VZ, hVZ⟩ : ∃ VZ, VZ = (nums z16).toArray := ⟨_, rfl⟩
  have z1 := zv_firsts
  rw [← hVZ] at z1
  have hN : ∀ W : World, Blk (W.alloc (.cells VZ 99)) W.heap.size 99 (nums z16) := fun W => by rw [hVZ]; exact Blk.new W _ _
  have hst : ∀ W y, Blk W y 99 (nums z16) → W.setCells y 0 XL = W.setRow y XL.toArray := fun W y h => by
    rw [hXA]; exact h.cellsRow (by rw [nums_length, nums_length, nxL_length]; rfl) (Ls.nums_one _)
  have hld : ∀ W, Wk W g p m c ls → W.rangeAt g 17 XL := fun W h k v hk => by
    have hk2 : k < 16 := by have := (List.getElem?_eq_some_iff.1 hk).1; rwa [hXA, nums_length, nxL_length] at this
    rw [hXA, nxL_zero, nums_at _ (by rw [fsT_length]; exact hk2), fsT_at _ _ hk2 (by omega)] at hk
    cases hk
    exact h.fst hk2
  obtain ⟨BB, hBB⟩ : ∃ BB : World → Prop, BB = fun W => Wk W g p m c ls ∧ Below w.heap.size w W := ⟨_, rfl⟩
  have hL : ∀ W W', BB W → Below W.heap.size W W' → BB W' := fun W W' h hb => by
    rw [hBB] at h ⊢
    exact ⟨Blk.below h.1 hb (Blk.lt h.1), h.2.trans (hb.mono h.2.size)⟩
  have hD : ∀ W, BB W → BB W.drew := fun W h => hL W _ h (Below.drew (Below.refl _ W))
  have hA : ∀ W o, BB W → BB (W.alloc o) := fun W o h => hL W _ h ((Below.refl _ W).alloc (Nat.le_refl _) o)
  have hS : ∀ W y, BB W → w.heap.size ≤ y → BB (W.setCells y 0 XL) := fun W y h hy => by
    rw [hBB] at h ⊢
    have hb := below_setC y w.heap.size hy XL 0 W W (Below.refl _ W)
    exact ⟨Blk.below h.1 hb hgs, h.2.trans hb⟩
  have hK : ∀ W, BB W → BB W ∧ W.cell? ⟨g, 0, none⟩ = some (.slice p m c) ∧ W.rangeAt g 17 XL := fun W h => by
    refine ⟨h, ?_⟩
    rw [hBB] at h
    exact ⟨Wk.row h.1, hld W h.1⟩
  have h0 : BB w := by rw [hBB]; exact ⟨hw, Below.refl _ _⟩
  have HBB : Hid (∀ W, BB W → Wk W g p m c ls ∧ Below w.heap.size w W) := Lib.hid (fun W h => by rw [hBB] at h; exact h)
  have HL := Lib.hid hL; have HD := Lib.hid hD; have HA := Lib.hid hA; have HK := Lib.hid hK; have HS := Lib.hid hS; have H0 := Lib.hid h0
  have HML := Lib.hid hML; have HM := Lib.hid hm; have HN := Lib.hid hN; have HXA := Lib.hid hXA
  have ho : ∀ v ∈ XL, v.oneCell' = true := by rw [hXA]; exact Ls.nums_one _
  have HST := Lib.hid hst
  obtain ⟨FF, hFF⟩ : ∃ FF : World → Nat → Nat → Prop, FF = fun W y q => w.heap.size ≤ y ∧ w.heap.size ≤ q ∧ y ≠ q ∧ Blk W y 99 (nums (nxL ls 0)) ∧ Arr W w.heap.size 23 q m (nums (cdL ls 0)) ∧ Wk W g p m c ls ∧ Below w.heap.size w W := ⟨_, rfl⟩
  have hlm : (cdL ls 0).length = m := by rw [cdL_length, hm]
  have hsM : M.size = m := by rw [← Array.length_toList, hML, nums_length, hlm]
  have arr : ∀ W q, w.heap.size ≤ q → W.heap[q]? = some (.cells M 23 (0, 0)) → Arr W w.heap.size 23 q m (nums (cdL ls 0)) := fun W q hq h => by
    refine ⟨by rw [nums_length, hlm, Nat.mul_one], .inr ⟨q, m, M, rfl, hq, h, Nat.le_refl _, by unfold maxLen; omega, by rw [hsM]; omega, ?_⟩⟩
    rw [hML]
    exact List.take_of_length_le (by rw [nums_length, hlm]; omega)
  have hB0 : ∀ W, BB W → Wk W g p m c ls ∧ Below w.heap.size w W := HBB.out
  have f1 : FF (((w.alloc (.cells M 23)).alloc (.cells VZ 99)).drew.setCells (w.heap.size + 1) 0 XL) (w.heap.size + 1) w.heap.size := by
    have b := hN (w.alloc (.cells M 23))
    have e1 : (w.alloc (.cells M 23)).heap.size = w.heap.size + 1 := by simp
    rw [e1] at b
    have h1 := hB0 _ (hS _ (w.heap.size + 1) (hD _ (hA _ (.cells VZ 99) (hA _ (.cells M 23) h0))) (by omega))
    have hq : ((w.alloc (.cells M 23)).alloc (.cells VZ 99)).drew.heap[w.heap.size]? = some (.cells M 23 (0, 0)) := heap_alloc2_old w _ _
    rw [hFF]
    refine ⟨by omega, Nat.le_refl _, by omega, ?_, arr _ _ (Nat.le_refl _) ?_, h1.1, h1.2⟩
    · rw [hst _ _ (blk_drew b), hXA]; exact Blk.row (blk_drew b) _
    · rw [hst _ _ (blk_drew b), setRow_other _ _ _ _ (by omega)]; exact hq
  have f2 : FF (((w.alloc (.cells VZ 99)).alloc (.cells M 23)).drew.setCells w.heap.size 0 XL) w.heap.size (w.heap.size + 1) := by
    have b := (hN w).alloc (.cells M 23)
    have h1 := hB0 _ (hS _ w.heap.size (hD _ (hA _ (.cells M 23) (hA _ (.cells VZ 99) h0))) (by omega))
    have hq : ((w.alloc (.cells VZ 99)).alloc (.cells M 23)).drew.heap[w.heap.size + 1]? = some (.cells M 23 (0, 0)) := heap_alloc2_new w _ _
    rw [hFF]
    refine ⟨Nat.le_refl _, by omega, by omega, ?_, arr _ _ (by omega) ?_, h1.1, h1.2⟩
    · rw [hst _ _ (blk_drew b), hXA]; exact Blk.row (blk_drew b) _
    · rw [hst _ _ (blk_drew b), setRow_other _ _ _ _ (by omega)]; exact hq
  have z3 : ((w.alloc (.cells VZ 99)).drew.setCells w.heap.size 0 XL).heap.size = w.heap.size + 1 := by
    rw [hst _ _ (blk_drew (hN w))]; simp [World.setRow, World.drew]
  have f3 : FF (((w.alloc (.cells VZ 99)).drew.setCells w.heap.size 0 XL).alloc (.cells M 23)) w.heap.size (w.heap.size + 1) := by
    have h1 := hB0 _ (hA _ (.cells M 23) (hS _ w.heap.size (hD _ (hA _ (.cells VZ 99) h0)) (by omega)))
    rw [hFF]
    refine ⟨Nat.le_refl _, by omega, by omega, ?_, arr _ _ (by omega) ?_, h1.1, h1.2⟩
    · refine Blk.alloc ?_ _
      rw [hst _ _ (blk_drew (hN w)), hXA]; exact Blk.row (blk_drew (hN w)) _
    · rw [← z3]; exact heap_alloc_new _ _
  have HFF : Hid (∀ W y q, FF W y q → w.heap.size ≤ y ∧ w.heap.size ≤ q ∧ y ≠ q ∧ Blk W y 99 (nums (nxL ls 0)) ∧ Arr W w.heap.size 23 q m (nums (cdL ls 0)) ∧ Wk W g p m c ls ∧ Below w.heap.size w W) := Lib.hid (fun W y q h => by rw [hFF] at h; exact h)
  have F1 := Lib.hid f1; have F2 := Lib.hid f2; have F3 := Lib.hid f3; have Z3 := Lib.hid z3
  clear f1 f2 f3 z3 hB0 arr hsM hlm hFF
  have hth : ∀ W y, Blk W y 99 (nums z16) → W.drew.there y 0 16 := fun W y h j hj => by
    have hc := h.cell (k := j) (v := (nums z16)[j]'(by rw [nums_length]; exact hj)) (List.getElem?_eq_getElem _)
    have hf := h.free j
    rw [Nat.zero_add]
    refine ⟨?_, hf⟩
    have e : W.drew.cell? ⟨y, j, none⟩ = W.cell? ⟨y, j, none⟩ := rfl
    rw [e, hc]; rfl
  have e1 : (w.alloc (.cells M 23)).heap.size = w.heap.size + 1 := by simp
  have t1 := hth _ _ (hN (w.alloc (.cells M 23)))
  rw [e1] at t1
  have t2 := hth _ _ ((hN w).alloc (.cells M 23))
  have t3 := hth _ _ (hN w)
  have xl : XL.length = 16 := by rw [hXA, nums_length, nxL_length]
  have u99 := Try.underlying99
  obtain ⟨q0, q1⟩ := (HK.out _ h0).2
  clear hBB hL hD hA hK hS h0 hM hML hm hw hp hr hN hld hst hXA hVZ hth e1
  go_enter Try.func33, Try.ntmps33
  go_wp2_with fail
  go_region_held3 (fun W => BB W ∧ W.cell? ⟨g, 0, none⟩ = some (.slice p m c) ∧ W.rangeAt g 17 XL) (refine HK.out _ ?_ <;> repeat (first | exact H0.out | assumption | apply HD.out | apply HA.out | apply HS.out | omega)) (first | fail)
  all_goals (first
    | (obtain ⟨W5, hW5⟩ : ∃ W5, W5 = ((w.alloc (.cells M 23)).alloc (.cells VZ 99)).drew.setCells (w.heap.size + 1) 0 XL := ⟨_, rfl⟩
       rw [← hW5]
       have F := F1.out
       rw [← hW5] at F
       obtain ⟨y, hy⟩ : ∃ y, y = w.heap.size + 1 := ⟨_, rfl⟩
       obtain ⟨q, hq⟩ : ∃ q, q = w.heap.size := ⟨_, rfl⟩
       rw [← hy] at F ⊢
       rw [← hq] at F ⊢)
    | (obtain ⟨W5, hW5⟩ : ∃ W5, W5 = ((w.alloc (.cells VZ 99)).alloc (.cells M 23)).drew.setCells w.heap.size 0 XL := ⟨_, rfl⟩
       rw [← hW5]
       have F := F2.out
       rw [← hW5] at F
       obtain ⟨q, hq⟩ : ∃ q, q = w.heap.size + 1 := ⟨_, rfl⟩
       obtain ⟨y, hy⟩ : ∃ y, y = w.heap.size := ⟨_, rfl⟩
       rw [← hq] at F ⊢
       rw [← hy] at F ⊢)
    | (try rw [Z3.out]
       obtain ⟨W5, hW5⟩ : ∃ W5, W5 = ((w.alloc (.cells VZ 99)).drew.setCells w.heap.size 0 XL).alloc (.cells M 23) := ⟨_, rfl⟩
       rw [← hW5]
       have F := F3.out
       rw [← hW5] at F
       obtain ⟨q, hq⟩ : ∃ q, q = w.heap.size + 1 := ⟨_, rfl⟩
       obtain ⟨y, hy⟩ : ∃ y, y = w.heap.size := ⟨_, rfl⟩
       rw [← hq] at F ⊢
       rw [← hy] at F ⊢))
  all_goals (
    clear hW5 hy hq F1 F2 F3 Z3 t1 t2 t3 hmk z1 HA HD HS HL HK H0
    obtain ⟨hy, hq, hne, hn, ha, hw, hb⟩ := HFF.out _ _ _ F
    have c0 := hw.row
    have HN0 := Lib.hid hn; have HA0 := Lib.hid ha; have HW0 := Lib.hid hw; have HB0 := Lib.hid hb
    clear F HFF HBB q0 q1 hn ha hw hb ho)
  all_goals go_wp2_with fail
  all_goals clear c0
  all_goals go_loopw [22] (fun iv wr => ∃ k : Nat, k ≤ m ∧ iv = .int .i64 k ∧ Hid (Blk wr y 99 (nums (nxL ls k))) ∧ Hid (Arr wr w.heap.size 23 q m (nums (cdL ls k))) ∧ Hid (Below w.heap.size w wr)) (fun iv _ => m - (RowKit.intOf iv).toNat)
  all_goals try (case atStart => exact ⟨0, Nat.zero_le _, rfl, HN0, HA0, HB0⟩)
  all_goals
    clear HN0 HA0 HB0 HW0
    obtain ⟨k, hk, rfl, hn, ha, hb⟩ := hrel
    by_cases hlt : k < m
    · have hkl : k < ls.length := by rw [← HM.out]; exact hlt
      obtain ⟨b, rfl, cz⟩ := rd_z (HP.out.below hb.out) k hkl
      obtain ⟨x, hx⟩ : ∃ x, x = ln ls k := ⟨_, rfl⟩
      have h15 := HR.out.all k hkl
      have ex : ls.getD k 0 = (x : Int) := by rw [hx]; unfold ln; omega
      rw [ex] at cz
      have hx15 : x < 16 := by omega
      have k0 : (0 : Int) ≤ (k : Int) := by omega
      have k1 : (k : Int) < (m : Int) := by omega
      by_cases hg : 0 < x
      · have f1 : decide ((0 : Int) < (x : Int)) = true := decide_eq_true (by omega)
        have f2 : decide (0 < x) = true := decide_eq_true hg
        have x0 : (0 : Int) ≤ (x : Int) := by omega
        have x1 : (x : Int) < 16 := by omega
        have cs := hn.out.cell (nums_at (nxL ls k) (k := x) (by rw [nxL_length]; exact hx15))
        rw [nxL_at ls k hx15] at cs
        have fz := hn.out.free x
        have cq := ha.out.cell hlt
        have fq := ha.out.free k
        generalize (nums (cdL ls k)).getD k (.bool false) = ov at cq
        obtain ⟨v, hv⟩ : ∃ v, v = fs ls x + cntT ls x k := ⟨_, rfl⟩
        have hcode : code ls k = v := by rw [hv, hx]; exact code_fs hkl (by omega) (by omega)
        have hvb : v < 65536 := by
          have h1 := fs_small HR.out.room (l := x) (by omega)
          have h2 := cntT_mono ls x (a := k) ls.length (by omega)
          omega
        rw [← hv] at cs
        have v1 : IntKind.u64.wrap ((v : Int) + 1) = ((v + 1 : Nat) : Int) := u64_small (by omega) (by omega)
        have S5 := (hn.out.other (a := ⟨q, k, none⟩) hne (.int .u64 (v : Int))).set x (.int .u64 ((v + 1 : Nat) : Int))
        rw [nums_set2, hv, hx, nxL_set (by omega), ← hx, ← hv] at S5
        have S6 := (ha.out.set k (.int .u64 (v : Int))).other (a := ⟨y, x, none⟩) hne (.int .u64 ((v + 1 : Nat) : Int))
        rw [nums_set2, ← hcode, cdL_set (by omega), hcode] at S6
        have H1 := Lib.hid S5
        have H2 := Lib.hid S6
        have H3 := Lib.hid (below_put (below_put hb.out (a := ⟨q, k, none⟩) hq (.int .u64 (v : Int))) (a := ⟨y, x, none⟩) hy (.int .u64 ((v + 1 : Nat) : Int)))
        have hne2 : ¬ (q = y) := fun e => hne e.symm
        clear S5 S6 hv hx ex h15 hn ha hb hg hcode
        go_wp2_with fail
        go_roundw
        case rel => exact ⟨k + 1, by omega, by go_num, H1, H2, H3⟩
        case measure => simp [RowKit.intOf]; omega
      · have f1 : decide ((0 : Int) < (x : Int)) = false := decide_eq_false (by omega)
        have f2 : decide (0 < x) = false := decide_eq_false hg
        have H1 : Hid (Blk wr y 99 (nums (nxL ls (k + 1)))) := Lib.hid (by rw [nxL_same (by omega)]; exact hn.out)
        have H2 : Hid (Arr wr w.heap.size 23 q m (nums (cdL ls (k + 1)))) := Lib.hid (by rw [cdL_same (by omega)]; exact ha.out)
        clear hx ex h15 hn ha hg
        go_wp2_with fail
        go_roundw
        case rel => exact ⟨k + 1, by omega, by go_num, H1, H2, hb⟩
        case measure => simp [RowKit.intOf]; omega
    · obtain rfl : k = m := by omega
      have k1 : ¬ (k : Int) < (k : Int) := by omega
      have ha2 := ha.out
      rw [HM.out, cdL_end, ← HM.out] at ha2
      have HRD := Lib.hid ha2.rd
      have hqs := ha2.lt.2
      clear ha ha2
      go_wp2_with fail
      go_ret
      exact ⟨_, rfl, hq, hqs, HRD.out, hb.out⟩
end Go.Proofs.Ytjnehpkkkmicfaa.Cn
namespace Go.Proofs.Ytjnehpkkkmicfaa.Cn
open Go.RowKit Go.Lib Rw Ls Od _root_.Go.Proofs.Ytjnehpkkkmicfaa.Nm Pk Bt Bk

theorem lg_le (L : List Nat) : ∀ l, lgT L l ≤ l
  | 0 => Nat.le_refl _
  | l + 1 => by have := lg_le L l; unfold lgT; split <;> omega
theorem lg_zero {L : List Nat} : ∀ l, ∀ k, lgT L l < k → k ≤ l → L.getD k 0 = 0
  | 0, k, h1, h2 => by omega
  | l + 1, k, h1, h2 => by
    unfold lgT at h1
    split at h1
    · rename_i h3
      rcases Nat.lt_or_ge k (l + 1) with h | h
      · exact lg_zero l k h1 (by omega)
      · have : k = l + 1 := by omega
        subst this; exact h3
    · omega
theorem lg_some {L : List Nat} : ∀ l, 0 < lgT L l → L.getD (lgT L l) 0 ≠ 0
  | 0, h => by simp [lgT] at h
  | l + 1, h => by
    unfold lgT at h ⊢
    split
    · rename_i h3; rw [if_pos h3] at h; exact lg_some l h
    · rename_i h3; exact h3
theorem lg_more {ls : List Int} (hr : Rt ls) (wd : Nat) : moreB ls wd = decide (wd < lgT (cntL ls ls.length) 15) := by
  have hle := lg_le (cntL ls ls.length) 15
  by_cases h : wd < lgT (cntL ls ls.length) 15
  · rw [decide_eq_true h]
    have h1 := lg_some (L := cntL ls ls.length) 15 (by omega)
    rw [cntL_at _ _ (by omega)] at h1
    obtain ⟨k, a, b, c, _⟩ := cnt_reach (ls := ls) (c := 0) ls.length (Nat.pos_of_ne_zero h1)
    exact more_iff.2 ⟨k, a, by omega⟩
  · rw [decide_eq_false h, ← Bool.not_eq_true, more_iff]
    rintro ⟨i, hi, hw⟩
    have h15 := hr.ln15 hi
    have h1 := lg_zero (L := cntL ls ls.length) 15 (ln ls i) (by omega) h15
    rw [cntL_at _ _ (by omega)] at h1
    have h2 := cntT_in (ls := ls) (l := ln ls i) (k := i) (by omega) rfl
    have h3 := cntT_mono ls (ln ls i) (a := i + 1) ls.length hi
    omega
theorem frGo_hit {ls : List Int} {num wd f l i : Nat} (h : fnd ls (num / 2 ^ (wd - l)) (l : Int) = some i) : frGo ls num wd (f + 1) l = (i, l, 0) := by unfold frGo; rw [h]
theorem frGo_miss {ls : List Int} {num wd f l : Nat} (h : fnd ls (num / 2 ^ (wd - l)) (l : Int) = none) : frGo ls num wd (f + 1) l = frGo ls num wd f (l + 1) := by rw [frGo, h]
def FrP (w : World) (o : Nat × Nat × Int) (e : Ending) (w' : World) : Prop := e = .returned (.tuple #[.int .i64 (o.1 : Int), .int .i64 (o.2.1 : Int), .int .i64 o.2.2]) ∧ Below w.heap.size w w'
theorem frp_mk {w w' : World} {o : Nat × Nat × Int} {a b : Nat} {e : Int} (h : o = (a, b, e)) (hb : Below w.heap.size w w') : FrP w o (.returned (.tuple #[.int .i64 (a : Int), .int .i64 (b : Int), .int .i64 e])) w' := by subst h; exact ⟨rfl, hb⟩
set_option maxHeartbeats 4000000 in
set_option maxRecDepth 100000 in
theorem first_any (ls : List Int) (num wd g : Nat) (p : Option Addr) (c : Nat) (w : World) (hw : Wk w g p ls.length c ls) (hp : Rd w p (zs ls)) (hr : Rt ls) (hwd : wd ≤ 15) (hnum : num < 2 ^ wd) :
    Calls Try.prog 47 #[.pointer (some ⟨g, 0, none⟩), .int .u64 (num : Int), .int .i64 (wd : Int)] w (FrP w (frR ls num wd)) := by
  have hn64 : num < 18446744073709551616 := Nat.lt_of_lt_of_le hnum (Nat.le_trans (Nat.pow_le_pow_right (n := 2) (by decide) hwd) (by decide))
  have HH := Lib.hid (fun (cd l : Nat) (h1 : l < 16) (h2 : cd < 18446744073709551616) => has_any ls cd l g p ls.length c w hw hr h1 h2)
  have HS := Lib.hid (fun (cd l i : Nat) (h0 : 0 < l) (h1 : l < 16) (h2 : cd < 18446744073709551616) (h3 : fnd ls cd (l : Int) = some i) => symbol_any ls cd l g i p c w hw hp hr h0 h1 h2 h3)
  have HI : Hid (∀ (cd l : Nat), hasB ls cd l = true → ∃ i, fnd ls cd (l : Int) = some i) := Lib.hid (fun cd l h => (has_iff hr).1 h)
  have HO : Hid (∀ (cd l : Nat), hasB ls cd l = false → fnd ls cd (l : Int) = none) := Lib.hid (fun cd l h => has_no hr h)
  have HM : Hid (moreB ls wd = decide (wd < lgT (cntL ls ls.length) 15)) := Lib.hid (lg_more hr wd)
  have HL := Lib.hid (longest_any (cntL ls ls.length) (cntL_length _ _) w)
  have hrg : w.rangeAt g 1 (zs (up (cntL ls ls.length))) := fun j v hj => by
    have hj2 : j < 16 := by have := (List.getElem?_eq_some_iff.1 hj).1; rwa [cells_len, cntL_length] at this
    rw [zs_at _ (by rw [cntL_length]; exact hj2), cntL_at _ _ hj2] at hj
    cases hj
    exact hw.cnt hj2
  have HRG := Lib.hid hrg
  have HC : Hid ((Try.prog.info? 66).map (·.size) = some (zs (up (cntL ls ls.length))).length) := Lib.hid (sz_counts (by rw [cells_len, cntL_length]))
  obtain ⟨o, ho⟩ : ∃ o, o = frR ls num wd := ⟨_, rfl⟩
  have HX : Hid (o = frGo ls num wd (wd + 1 - 1) 1) := Lib.hid ho
  rw [← ho]
  obtain ⟨Lg, hLg⟩ : ∃ Lg, Lg = lgT (cntL ls ls.length) 15 := ⟨_, rfl⟩
  obtain ⟨XL, hXL⟩ : ∃ XL, XL = zs (up (cntL ls ls.length)) := ⟨_, rfl⟩
  rw [← hXL] at HL HRG HC
  rw [← hLg] at HL HM
  have F0 : Hid (∀ l, frGo ls num wd 0 l = (0, 0, if moreB ls wd = true then 5 else 7)) := Lib.hid (fun l => rfl)
  clear hw hp hr hrg ho hLg hXL hnum
  go_enter Try.func47, Try.ntmps47
  go_wp2_with fail
  go_loopw [9] (fun lv wr => ∃ l : Nat, 1 ≤ l ∧ l ≤ wd + 1 ∧ lv = .int .i64 l ∧ Hid (o = frGo ls num wd (wd + 1 - l) l) ∧ wr = w) (fun lv _ => wd + 1 - (RowKit.intOf lv).toNat)
  case atStart => exact ⟨1, by omega, by omega, rfl, HX, rfl⟩
  case round =>
    clear HX
    obtain ⟨l, hl1, hl2, rfl, hx, hw⟩ := hrel
    rw [hw]
    clear hw
    by_cases hlt : l ≤ wd
    · have k0 : (l : Int) ≤ (wd : Int) := by omega
      have s1 : IntKind.i64.wrap ((wd : Int) - (l : Int)) = ((wd - l : Nat) : Int) := by rw [show (wd : Int) - (l : Int) = ((wd - l : Nat) : Int) by omega]; exact IntWalk.i64_in _ (by omega)
      obtain ⟨cd, hcd⟩ : ∃ cd, cd = num / 2 ^ (wd - l) := ⟨_, rfl⟩
      have ecd : (num : Int) / 2 ^ (wd - l) = (cd : Int) := by rw [hcd]; simp
      have hcb : cd < 18446744073709551616 := by rw [hcd]; exact Nat.lt_of_le_of_lt (Nat.div_le_self _ _) hn64
      have HF := Lib.hid (HH.out cd l (by omega) hcb)
      have HCD := Lib.hid hcd
      clear hcd
      cases hhas : hasB ls cd l with
      | true =>
        rw [hhas] at HF
        obtain ⟨i, hi⟩ := HI.out cd l hhas
        have HF2 := Lib.hid (HS.out cd l i (by omega) (by omega) hcb hi)
        have HE : Hid (o = (i, l, 0)) := Lib.hid (by
          rw [hx.out, show wd + 1 - l = (wd - l) + 1 by omega]
          exact frGo_hit (by rw [← HCD.out]; exact hi))
        clear hx hi hhas hcb
        go_wp2_with fail
        refine HF.out.mono ?_
        rintro e w2 ⟨rfl, hw2⟩
        rw [hw2]
        clear hw2
        go_wp2_with fail
        refine HF2.out.mono ?_
        rintro e w3 ⟨rfl, hw3⟩
        rw [hw3]
        clear hw3
        go_wp2_with fail
        refine bodyPost_ret (v := .tuple #[.int .i64 (i : Int), .int .i64 (l : Int), .int .i64 0]) (by simp [results, Try.results47, go_sem]) rfl ?_
        exact frp_mk HE.out (Below.refl _ _)
      | false =>
        rw [hhas] at HF
        have H1 : Hid (o = frGo ls num wd (wd + 1 - (l + 1)) (l + 1)) := Lib.hid (by
          rw [hx.out, show wd + 1 - l = (wd - l) + 1 by omega, frGo_miss (by rw [← HCD.out]; exact HO.out cd l hhas), show wd + 1 - (l + 1) = wd - l by omega])
        clear hx hhas hcb
        go_wp2_with fail
        refine HF.out.mono ?_
        rintro e w2 ⟨rfl, hw2⟩
        rw [hw2]
        clear hw2
        go_wp2_with fail
        go_roundw
        case rel => exact ⟨l + 1, by omega, by omega, by go_num, H1, trivial⟩
        case measure => simp [RowKit.intOf]; omega
    · obtain rfl : l = wd + 1 := by omega
      have k0 : ¬ ((((wd + 1 : Nat)) : Int) ≤ (wd : Int)) := by omega
      have HE : Hid (o = (0, 0, if wd < Lg then 5 else 7)) := Lib.hid (by
        rw [hx.out, Nat.sub_self, F0.out, HM.out]
        simp)
      clear hx
      by_cases hg : wd < Lg
      · have f1 : decide ((wd : Int) < (Lg : Int)) = true := decide_eq_true (by omega)
        have f2 : decide (wd < Lg) = true := decide_eq_true hg
        rw [if_pos hg] at HE
        clear hg
        go_wp2_with (refine wpList_load_mid rfl 66 (.tmp 32) rfl g 1 rfl XL _ HRG.out Try.underlying66 rfl HC.out ?_)
        refine HL.out.mono ?_
        rintro e w2 ⟨rfl, hb⟩
        have HB := Lib.hid hb
        clear hb
        go_wp2_with fail
        refine bodyPost_ret (v := .tuple #[.int .i64 0, .int .i64 0, .int .i64 5]) (by simp [results, Try.results47, go_sem]) rfl ?_
        exact frp_mk HE.out HB.out
      · have f1 : decide ((wd : Int) < (Lg : Int)) = false := decide_eq_false (by omega)
        have f2 : decide (wd < Lg) = false := decide_eq_false hg
        rw [if_neg hg] at HE
        clear hg
        go_wp2_with (refine wpList_load_mid rfl 66 (.tmp 32) rfl g 1 rfl XL _ HRG.out Try.underlying66 rfl HC.out ?_)
        refine HL.out.mono ?_
        rintro e w2 ⟨rfl, hb⟩
        have HB := Lib.hid hb
        clear hb
        go_wp2_with fail
        refine bodyPost_ret (v := .tuple #[.int .i64 0, .int .i64 0, .int .i64 7]) (by simp [results, Try.results47, go_sem]) rfl ?_
        exact frp_mk HE.out HB.out
end Go.Proofs.Ytjnehpkkkmicfaa.Cn
namespace Go.Proofs.Ytjnehpkkkmicfaa.Cn
open Go.RowKit Go.Lib Rw Ls Od _root_.Go.Proofs.Ytjnehpkkkmicfaa.Nm Pk Bt Bk

theorem room_all {ls : List Int} (h : (roomR ls 15).2 = 0) : ls.length ≤ 512 ∧ ∀ i, i < ls.length → 0 ≤ ls.getD i 0 ∧ ls.getD i 0 ≤ 15 := by
  unfold roomR at h
  split at h
  · rename_i ho
    split at h
    · rename_i ha
      unfold okR at ho
      simp only [Bool.and_eq_true, decide_eq_true_eq] at ho
      refine ⟨ho.2, fun i hi => ?_⟩
      rw [List.all_eq_true] at ha
      have := ha (ls[i]) (List.getElem_mem hi)
      simp only [Bool.and_eq_true, decide_eq_true_eq] at this
      rw [List.getD_eq_getElem?_getD, List.getElem?_eq_getElem hi]
      exact this
    · exact absurd h (by simp)
  · exact absurd h (by simp)
theorem cnt_ones {ls : List Int} : ∀ k, (∀ i, i < k → 0 < ls.getD i 0 → ls.getD i 0 = 1) → ∀ l, cntT ls l k = if l = 1 then someT ls k else 0
  | 0, _, l => by simp [cntT, someT]
  | k + 1, h, l => by
    have ih := cnt_ones (ls := ls) k (fun i hi => h i (by omega)) l
    rw [cntT, someT, ih]
    by_cases h0 : 0 < ls.getD k 0
    · have h1 := h k (by omega) h0
      have hl : ln ls k = 1 := by unfold ln; rw [h1]; rfl
      rw [if_pos h0]
      by_cases e : l = 1
      · rw [if_pos e, if_pos e, if_pos (by omega)]
      · rw [if_neg e, if_neg e, if_neg (by omega)]
    · have hl : ln ls k = 0 := by unfold ln; omega
      have e0 : ¬ (0 < ln ls k ∧ ln ls k = l) := by omega
      rw [if_neg h0, if_neg e0]; rfl
theorem last_one {ls : List Int} : ∀ k, (∀ i, i < k → 0 < ls.getD i 0 → ls.getD i 0 = 1) → someT ls k ≠ 0 → lastT ls k = 1
  | 0, _, h => by simp [someT] at h
  | k + 1, h, hs => by
    rw [someT] at hs
    rw [lastT]
    by_cases h0 : 0 < ls.getD k 0
    · rw [if_pos h0]; exact h k (by omega) h0
    · rw [if_neg h0] at hs ⊢
      exact last_one k (fun i hi => h i (by omega)) hs
theorem cntL_get {ls : List Int} {k : Nat} {L : List Nat} (h : cntL ls k = L) {l : Nat} (hl : l < 16) : cntT ls l k = L.getD l 0 := by rw [← h, cntL_at _ _ hl]
theorem few_iff {ls : List Int} (h : (roomR ls 15).2 = 0) : (decide (cntL ls ls.length = z16) || decide (cntL ls ls.length = o16)) = true ↔ (someT ls ls.length = 0 ∨ someT ls ls.length = 1 ∧ lastT ls ls.length = 1) := by
  have hb := (room_all h).2
  have reach : ∀ i, i < ls.length → 0 < ls.getD i 0 → 0 < cntT ls (ln ls i) ls.length ∧ ln ls i < 16 ∧ 0 < ln ls i := fun i hi h0 => by
    have h1 := cntT_in (ls := ls) (l := ln ls i) (k := i) (ln_pos.2 h0) rfl
    have h2 := cntT_mono ls (ln ls i) (a := i + 1) ls.length hi
    have := hb i hi
    refine ⟨by omega, by unfold ln; omega, ln_pos.2 h0⟩
  simp only [Bool.or_eq_true, decide_eq_true_eq]
  constructor
  · rintro (e | e)
    · left
      have ho : ∀ i, i < ls.length → 0 < ls.getD i 0 → ls.getD i 0 = 1 := fun i hi h0 => by
        obtain ⟨a, b, _⟩ := reach i hi h0
        rw [cntL_get e b] at a
        have hz : z16.getD (ln ls i) 0 = 0 := by
          unfold z16
          rw [List.getD_eq_getElem?_getD, List.getElem?_replicate]
          split <;> rfl
        omega
      have := cnt_ones ls.length ho 1
      rw [if_pos rfl, cntL_get e (by omega)] at this
      rw [← this]; rfl
    · right
      have ho : ∀ i, i < ls.length → 0 < ls.getD i 0 → ls.getD i 0 = 1 := fun i hi h0 => by
        obtain ⟨a, b, c⟩ := reach i hi h0
        rw [cntL_get e b] at a
        have : ln ls i = 1 := by
          generalize ln ls i = x at a b c
          have hx : x = 1 ∨ x = 2 ∨ x = 3 ∨ x = 4 ∨ x = 5 ∨ x = 6 ∨ x = 7 ∨ x = 8 ∨ x = 9 ∨ x = 10 ∨ x = 11 ∨ x = 12 ∨ x = 13 ∨ x = 14 ∨ x = 15 := by omega
          rcases hx with rfl | rfl | rfl | rfl | rfl | rfl | rfl | rfl | rfl | rfl | rfl | rfl | rfl | rfl | rfl <;> first | rfl | (exact absurd a (by decide))
        unfold ln at this; omega
      have h1 := cnt_ones ls.length ho 1
      rw [if_pos rfl, cntL_get e (by omega)] at h1
      have h2 : someT ls ls.length = 1 := h1.symm
      exact ⟨h2, last_one ls.length ho (by omega)⟩
  · rintro (e | ⟨e, e2⟩)
    · left
      have ho : ∀ i, i < ls.length → 0 < ls.getD i 0 → ls.getD i 0 = 1 := fun i hi h0 => by
        have := some_zero ls.length e i hi; have := ln_pos.2 h0; omega
      have hc := cnt_ones ls.length ho
      apply List.ext_getElem (by rw [cntL_length]; rfl)
      intro l h1 h2
      rw [cntL_length] at h1
      have := hc l
      rw [e] at this
      simp only [cntL, List.getElem_map, List.getElem_range, z16, List.getElem_replicate]
      rw [this]; split <;> rfl
    · right
      have ho : ∀ i, i < ls.length → 0 < ls.getD i 0 → ls.getD i 0 = 1 := fun i hi h0 => by
        rw [some_one ls.length e i hi (ln_pos.2 h0), e2]
      have hc := cnt_ones ls.length ho
      rw [e] at hc
      unfold cntL
      simp only [hc]
      rfl
set_option maxHeartbeats 4000000 in
set_option maxRecDepth 100000 in
theorem pcheckc_any (ls : List Int) (p : Option Addr) (c : Nat) (w : World) (hp : Rd w p (zs ls)) (hl : ls.length ≤ 17592186044416) :
    Calls Try.prog 17 #[.slice p ls.length c] w fun e w' => e = .returned (.int .i64 (chkC ls)) ∧ Below w.heap.size w w' := by
  have H := Lib.hid (proom_any ls 15 p c w hp hl (by omega))
  obtain ⟨X, hX⟩ : ∃ X, X = chkC ls := ⟨_, rfl⟩
  have HX : Hid (X = if okC ls then 0 else 7) := Lib.hid hX
  rw [← hX]
  have HO : Hid (okC ls ↔ ((roomR ls 15).2 = 0 ∧ ((roomR ls 15).1 = 0 ∨ (decide (cntL ls ls.length = z16) || decide (cntL ls ls.length = o16)) = true))) := Lib.hid (by
    unfold okC
    constructor
    · rintro ⟨a, b⟩; exact ⟨a, b.elim .inl fun b => .inr ((few_iff a).2 b)⟩
    · rintro ⟨a, b⟩; exact ⟨a, b.elim .inl fun b => .inr ((few_iff a).1 b)⟩)
  have HC : Hid (∀ W, Below w.heap.size w W → (roomR ls 15).2 = 0 → Calls Try.prog 38 #[.slice p ls.length c] W fun e w' => e = .returned (.agg (zs (up (cntL ls ls.length))).toArray) ∧ Below W.heap.size W w') := Lib.hid (fun W hb he => count_any ls p c W (hp.below hb) hl (room_all he).2)
  have HF := Lib.hid (fun W => few_any (cntL ls ls.length) (cntL_length _ _) W)
  generalize (zs (up (cntL ls ls.length))).toArray = VL at *
  generalize (decide (cntL ls ls.length = z16) || decide (cntL ls ls.length = o16)) = fb at *
  obtain ⟨R, hR⟩ : ∃ R, R = (roomR ls 15).1 := ⟨_, rfl⟩
  obtain ⟨E, hE⟩ : ∃ E, E = (roomR ls 15).2 := ⟨_, rfl⟩
  rw [← hR, ← hE] at H HO
  rw [← hE] at HC
  obtain ⟨m, hm⟩ : ∃ m, m = ls.length := ⟨_, rfl⟩
  rw [← hm] at H HC ⊢
  clear hp hl hR hE hX hm
  by_cases he : E = 0
  case neg =>
    have F : Hid (X = 7) := Lib.hid (by rw [HX.out, if_neg (fun h => he (HO.out.1 h).1)])
    have e1 : (E == 0) = false := by rw [beq_eq_false_iff_ne]; exact he
    have e2 : (E != 0) = true := by rw [bne_iff_ne]; exact he
    clear he
    go_enter Try.func17, Try.ntmps17
    go_wp2_with fail
    refine H.out.mono ?_
    rintro e w1 ⟨rfl, hb⟩
    have HB := Lib.hid hb
    clear hb
    go_wp2_with fail
    go_ret
    exact ⟨by rw [F.out]; rfl, HB.out⟩
  subst he
  by_cases hr : R = 0
  · have F : Hid (X = 0) := Lib.hid (by rw [HX.out, if_pos (HO.out.2 ⟨rfl, .inl hr⟩)])
    have e1 : (R == 0) = true := by rw [beq_iff_eq]; exact hr
    have e2 : (R != 0) = false := by rw [bne_eq_false_iff_eq]; exact hr
    clear hr
    go_enter Try.func17, Try.ntmps17
    go_wp2_with fail
    refine H.out.mono ?_
    rintro e w1 ⟨rfl, hb⟩
    have HB := Lib.hid hb
    clear hb
    go_wp2_with fail
    go_ret
    exact ⟨by rw [F.out]; rfl, HB.out⟩
  · have e1 : (R == 0) = false := by rw [beq_eq_false_iff_ne]; exact hr
    have e2 : (R != 0) = true := by rw [bne_iff_ne]; exact hr
    cases fb with
    | true =>
      have F : Hid (X = 0) := Lib.hid (by rw [HX.out, if_pos (HO.out.2 ⟨rfl, .inr rfl⟩)])
      clear hr HO
      go_enter Try.func17, Try.ntmps17
      go_wp2_with fail
      refine H.out.mono ?_
      rintro e w1 ⟨rfl, hb⟩
      have HB := Lib.hid hb
      clear hb
      go_wp2_with fail
      refine (HC.out _ HB.out trivial).mono ?_
      rintro e w2 ⟨rfl, hb⟩
      replace HB := Lib.hid (HB.out.trans (hb.mono HB.out.size))
      clear hb
      go_wp2_with fail
      refine (HF.out _).mono ?_
      rintro e w3 ⟨rfl, hb⟩
      replace HB := Lib.hid (HB.out.trans (hb.mono HB.out.size))
      clear hb
      go_wp2_with fail
      go_ret
      exact ⟨by rw [F.out]; rfl, HB.out⟩
    | false =>
      have F : Hid (X = 7) := Lib.hid (by rw [HX.out, if_neg (fun h => (HO.out.1 h).2.elim hr (fun h => by cases h))])
      clear hr HO
      go_enter Try.func17, Try.ntmps17
      go_wp2_with fail
      refine H.out.mono ?_
      rintro e w1 ⟨rfl, hb⟩
      have HB := Lib.hid hb
      clear hb
      go_wp2_with fail
      refine (HC.out _ HB.out trivial).mono ?_
      rintro e w2 ⟨rfl, hb⟩
      replace HB := Lib.hid (HB.out.trans (hb.mono HB.out.size))
      clear hb
      go_wp2_with fail
      refine (HF.out _).mono ?_
      rintro e w3 ⟨rfl, hb⟩
      replace HB := Lib.hid (HB.out.trans (hb.mono HB.out.size))
      clear hb
      go_wp2_with fail
      go_ret
      exact ⟨by rw [F.out]; rfl, HB.out⟩
set_option maxHeartbeats 4000000 in
set_option maxRecDepth 100000 in
theorem pcodes_any (ls : List Int) (p : Option Addr) (c : Nat) (w : World) (hp : Rd w p (zs ls)) (hl : ls.length ≤ 17592186044416) :
    Calls Try.prog 12 #[.slice p ls.length c] w (NU w (codesR ls)) := by
  have H := Lib.hid (pcheckc_any ls p c w hp hl)
  have HP := Lib.hid hp
  obtain ⟨m, hm⟩ : ∃ m, m = ls.length := ⟨_, rfl⟩
  have HM := Lib.hid hm
  by_cases hok : okC ls
  case neg =>
    have F : Hid (codesR ls = ([], 7)) := Lib.hid (by unfold codesR; rw [if_neg hok])
    have F2 : Hid (chkC ls = 7) := Lib.hid (by unfold chkC; rw [if_neg hok])
    rw [← hm] at H ⊢
    clear hok hp hl hm
    go_enter Try.func12, Try.ntmps12
    go_wp2_with fail
    refine H.out.mono ?_
    rintro e w1 ⟨rfl, hb⟩
    rw [F2.out]
    have HB := Lib.hid hb
    clear hb
    go_wp2_with fail
    refine bodyPost_ret (v := .tuple #[.slice none 0 0, .int .i64 7]) (by simp [results, Try.results12, go_sem]) rfl ?_
    exact nu_mk F.out rfl (Nat.le_refl _) (Rd.nil _ _) HB.out
  have F : Hid (codesR ls = (codes ls, 0)) := Lib.hid (by unfold codesR; rw [if_pos hok])
  have F2 : Hid (chkC ls = 0) := Lib.hid (by unfold chkC; rw [if_pos hok])
  have HN : Hid (∀ W, Below w.heap.size w W → Calls Try.prog 32 #[.slice p ls.length c] W fun e w' => ∃ g, e = .returned (.pointer (some ⟨g, 0, none⟩)) ∧ W.heap.size ≤ g ∧ Wk w' g p ls.length c ls ∧ Below W.heap.size W w') := Lib.hid (fun W hb => begin_any ls p c W (hp.below hb) (rt_of hok))
  have HK : Hid (∀ W g, Below w.heap.size w W → Wk W g p ls.length c ls → Calls Try.prog 33 #[.pointer (some ⟨g, 0, none⟩)] W fun e w' => ∃ q : Nat, e = .returned (.slice (some ⟨q, 0, none⟩) ls.length ls.length) ∧ W.heap.size ≤ q ∧ q < w'.heap.size ∧ Rd w' (some ⟨q, 0, none⟩) (nums (codes ls)) ∧ Below W.heap.size W w') := Lib.hid (fun W g hb hw => codesP_any ls g p c W hw (hp.below hb) (rt_of hok))
  rw [← hm] at H HN HK ⊢
  clear hok hp hl hm
  go_enter Try.func12, Try.ntmps12
  go_wp2_with fail
  refine H.out.mono ?_
  rintro e w1 ⟨rfl, hb⟩
  rw [F2.out]
  have HB := Lib.hid hb
  clear hb
  go_wp2_with fail
  refine (HN.out _ HB.out).mono ?_
  rintro e w2 ⟨g, rfl, hg, hw, hb⟩
  have HW := Lib.hid hw
  replace HB := Lib.hid (HB.out.trans (hb.mono HB.out.size))
  clear hb hw hg
  go_wp2_with fail
  refine (HK.out _ g HB.out HW.out).mono ?_
  rintro e w3 ⟨q, rfl, -, -, hq, hb⟩
  have HQ := Lib.hid hq
  replace HB := Lib.hid (HB.out.trans (hb.mono HB.out.size))
  clear hb hq
  go_wp2_with fail
  refine bodyPost_ret (v := .tuple #[.slice (some ⟨q, 0, none⟩) m m, .int .i64 0]) (by simp [results, Try.results12, go_sem]) rfl ?_
  exact nu_mk F.out (by rw [codes_length, ← HM.out]) (Nat.le_refl _) HQ.out HB.out
set_option maxHeartbeats 4000000 in
set_option maxRecDepth 100000 in
theorem pfindc_any (ls : List Int) (cd : Nat) (z : Int) (p : Option Addr) (c : Nat) (w : World) (hp : Rd w p (zs ls)) (hl : ls.length ≤ 17592186044416) (hcd : cd < 18446744073709551616) :
    Calls Try.prog 14 #[.slice p ls.length c, .int .u64 (cd : Int), .int .i64 z] w fun e w' => e = .returned (.tuple #[.int .i64 (findR ls cd z).1, .int .i64 (findR ls cd z).2]) ∧ Below w.heap.size w w' := by
  have H := Lib.hid (pcheckc_any ls p c w hp hl)
  obtain ⟨m, hm⟩ : ∃ m, m = ls.length := ⟨_, rfl⟩
  obtain ⟨o, ho⟩ : ∃ o, o = findR ls cd z := ⟨_, rfl⟩
  have HO := Lib.hid ho
  rw [← ho]
  obtain ⟨oa, ob⟩ := o
  by_cases hok : okC ls
  case neg =>
    have F : Hid (oa = 0 ∧ ob = 7) := Lib.hid (by have h := ho; rw [find_no hok] at h; cases h; exact ⟨rfl, rfl⟩)
    have F2 : Hid (chkC ls = 7) := Lib.hid (by unfold chkC; rw [if_neg hok])
    rw [← hm] at H ⊢
    clear hok hp hl hm ho
    go_enter Try.func14, Try.ntmps14
    go_wp2_with fail
    refine H.out.mono ?_
    rintro e w1 ⟨rfl, hb⟩
    rw [F2.out]
    have HB := Lib.hid hb
    clear hb
    go_wp2_with fail
    refine bodyPost_ret (v := .tuple #[.int .i64 0, .int .i64 7]) (by simp [results, Try.results14, go_sem]) rfl ?_
    exact ⟨by rw [F.out.1, F.out.2], HB.out⟩
  have F2 : Hid (chkC ls = 0) := Lib.hid (by unfold chkC; rw [if_pos hok])
  have hr := rt_of hok
  by_cases hz : 1 ≤ z ∧ z ≤ 15
  case neg =>
    have F : Hid (oa = 0 ∧ ob = 3) := Lib.hid (by
      have h := ho
      have hn : fnd ls cd z = none := fnd_miss fun j hj => by
        rw [← Bool.not_eq_true]
        intro hf
        have h2 := (fit_iff hj).1 hf
        have := hr.all j hj
        omega
      rw [find_none hok hn] at h; cases h; exact ⟨rfl, rfl⟩)
    rw [← hm] at H ⊢
    by_cases h1 : z < 1
    · have f1 : decide (z < 1) = true := decide_eq_true h1
      clear hok hp hl hm ho hr hz
      go_enter Try.func14, Try.ntmps14
      go_wp2_with fail
      refine H.out.mono ?_
      rintro e w1 ⟨rfl, hb⟩
      rw [F2.out]
      have HB := Lib.hid hb
      clear hb
      go_wp2_with fail
      refine bodyPost_ret (v := .tuple #[.int .i64 0, .int .i64 3]) (by simp [results, Try.results14, go_sem]) rfl ?_
      exact ⟨by rw [F.out.1, F.out.2], HB.out⟩
    · have f1 : decide (z < 1) = false := decide_eq_false h1
      have f2 : decide (15 < z) = true := decide_eq_true (by omega)
      clear hok hp hl hm ho hr hz
      go_enter Try.func14, Try.ntmps14
      go_wp2_with fail
      refine H.out.mono ?_
      rintro e w1 ⟨rfl, hb⟩
      rw [F2.out]
      have HB := Lib.hid hb
      clear hb
      go_wp2_with fail
      refine bodyPost_ret (v := .tuple #[.int .i64 0, .int .i64 3]) (by simp [results, Try.results14, go_sem]) rfl ?_
      exact ⟨by rw [F.out.1, F.out.2], HB.out⟩
  obtain ⟨l, rfl⟩ : ∃ l : Nat, z = (l : Int) := ⟨z.toNat, by omega⟩
  have hl15 : l < 16 := by omega
  have hl0 : 0 < l := by omega
  have f1 : decide ((l : Int) < 1) = false := decide_eq_false (by omega)
  have f2 : decide (15 < (l : Int)) = false := decide_eq_false (by omega)
  have f3 : decide (15 < l) = false := decide_eq_false (by omega)
  have f4 : decide (l < 1) = false := decide_eq_false (by omega)
  have f5 : (l == 0) = false := by rw [beq_eq_false_iff_ne]; omega
  have f6 : decide (l = 0) = false := decide_eq_false (by omega)
  have HN : Hid (∀ W, Below w.heap.size w W → Calls Try.prog 32 #[.slice p ls.length c] W fun e w' => ∃ g, e = .returned (.pointer (some ⟨g, 0, none⟩)) ∧ W.heap.size ≤ g ∧ Wk w' g p ls.length c ls ∧ Below W.heap.size W w') := Lib.hid (fun W hb => begin_any ls p c W (hp.below hb) hr)
  have HH : Hid (∀ W g, Below w.heap.size w W → Wk W g p ls.length c ls → Calls Try.prog 34 #[.pointer (some ⟨g, 0, none⟩), .int .u64 (cd : Int), .int .i64 (l : Int)] W fun e w' => e = .returned (.bool (hasB ls cd l)) ∧ w' = W) := Lib.hid (fun W g _ hw => has_any ls cd l g p _ c W hw hr hl15 hcd)
  have HS : Hid (∀ W g i, Below w.heap.size w W → Wk W g p ls.length c ls → fnd ls cd (l : Int) = some i → Calls Try.prog 35 #[.pointer (some ⟨g, 0, none⟩), .int .u64 (cd : Int), .int .i64 (l : Int)] W fun e w' => e = .returned (.int .i64 (i : Nat)) ∧ w' = W) := Lib.hid (fun W g i hb hw hi => symbol_any ls cd l g i p c W hw (hp.below hb) hr hl0 hl15 hcd hi)
  rw [← hm] at H HN HH HS ⊢
  cases hhas : hasB ls cd l with
  | true =>
    obtain ⟨i, hi⟩ := (has_iff hr).1 hhas
    have F : Hid (oa = (i : Int) ∧ ob = 0) := Lib.hid (by have h := ho; rw [find_some hok hi] at h; cases h; exact ⟨rfl, rfl⟩)
    rw [hhas] at HH
    have HFI := Lib.hid hi
    clear hok hp hl hm ho hr hhas hi hz hcd
    go_enter Try.func14, Try.ntmps14
    go_wp2_with fail
    refine H.out.mono ?_
    rintro e w1 ⟨rfl, hb⟩
    rw [F2.out]
    have HB := Lib.hid hb
    clear hb
    go_wp2_with fail
    refine (HN.out _ HB.out).mono ?_
    rintro e w2 ⟨g, rfl, hg, hw, hb⟩
    have HW := Lib.hid hw
    replace HB := Lib.hid (HB.out.trans (hb.mono HB.out.size))
    clear hb hw hg
    go_wp2_with fail
    refine (HH.out _ g HB.out HW.out).mono ?_
    rintro e w3 ⟨rfl, hw⟩
    rw [hw]
    clear hw
    go_wp2_with fail
    refine (HS.out _ g i HB.out HW.out HFI.out).mono ?_
    rintro e w3 ⟨rfl, hw⟩
    rw [hw]
    clear hw
    go_wp2_with fail
    refine bodyPost_ret (v := .tuple #[.int .i64 (i : Int), .int .i64 0]) (by simp [results, Try.results14, go_sem]) rfl ?_
    exact ⟨by rw [F.out.1, F.out.2], HB.out⟩
  | false =>
    have F : Hid (oa = 0 ∧ ob = 3) := Lib.hid (by have h := ho; rw [find_none hok (has_no hr hhas)] at h; cases h; exact ⟨rfl, rfl⟩)
    rw [hhas] at HH
    clear hok hp hl hm ho hr hhas hz hcd
    go_enter Try.func14, Try.ntmps14
    go_wp2_with fail
    refine H.out.mono ?_
    rintro e w1 ⟨rfl, hb⟩
    rw [F2.out]
    have HB := Lib.hid hb
    clear hb
    go_wp2_with fail
    refine (HN.out _ HB.out).mono ?_
    rintro e w2 ⟨g, rfl, hg, hw, hb⟩
    have HW := Lib.hid hw
    replace HB := Lib.hid (HB.out.trans (hb.mono HB.out.size))
    clear hb hw hg
    go_wp2_with fail
    refine (HH.out _ g HB.out HW.out).mono ?_
    rintro e w3 ⟨rfl, hw⟩
    rw [hw]
    clear hw
    go_wp2_with fail
    refine bodyPost_ret (v := .tuple #[.int .i64 0, .int .i64 3]) (by simp [results, Try.results14, go_sem]) rfl ?_
    exact ⟨by rw [F.out.1, F.out.2], HB.out⟩
end Go.Proofs.Ytjnehpkkkmicfaa.Cn
namespace Go.Proofs.Ytjnehpkkkmicfaa.Cn
open Go.RowKit Go.Lib Rw Ls Od _root_.Go.Proofs.Ytjnehpkkkmicfaa.Nm Pk Bt Bk

theorem frGo_shape (ls : List Int) (num wd : Nat) : ∀ f l, (∃ i l', frGo ls num wd f l = (i, l', 0) ∧ i < ls.length ∧ l ≤ l' ∧ l' < l + f) ∨ (∃ E : Int, frGo ls num wd f l = (0, 0, E) ∧ (E = 5 ∨ E = 7))
  | 0, l => by
    right
    refine ⟨_, rfl, ?_⟩
    split
    · exact .inl rfl
    · exact .inr rfl
  | f + 1, l => by
    unfold frGo
    cases e : fnd ls (num / 2 ^ (wd - l)) (l : Int) with
    | some i => exact .inl ⟨i, l, rfl, (fnd_some e).1, Nat.le_refl _, by omega⟩
    | none =>
      rcases frGo_shape ls num wd f (l + 1) with ⟨i, l', h1, h2, h3, h4⟩ | h
      · exact .inl ⟨i, l', h1, h2, by omega, by omega⟩
      · exact .inr h
set_option maxHeartbeats 4000000 in
set_option maxRecDepth 100000 in
theorem pread_any (s : ByteArray) (n z : Int) (ls : List Int) (p : Option Addr) (c : Nat) (w : World) (hs : s.size ≤ maxLen) (hp : Rd w p (zs ls)) (hl : ls.length ≤ 17592186044416) :
    Calls Try.prog 21 #[.agg #[.string s, .int .i64 n], .int .i64 z, .slice p ls.length c] w (RdP w (rdR s n z ls)) := by
  have HC := Lib.hid (fun W => check_any s n W hs)
  have HK := Lib.hid (fun W (hb : Below w.heap.size w W) => pcheckc_any ls p c W (hp.below hb) hl)
  have HBX : Hid (Below w.heap.size w (w.alloc (.cells #[.string s, .int .i64 n] 35))) := Lib.hid ((Below.refl _ _).alloc (Nat.le_refl _) _)
  have HNB : Hid (Box (w.alloc (.cells #[.string s, .int .i64 n] 35)) w.heap.size s n) := Lib.hid (Box.new w s n)
  have HP := Lib.hid hp
  obtain ⟨m, hm⟩ : ∃ m, m = ls.length := ⟨_, rfl⟩
  rcases chk_cases s n with hc | hc
  case inr =>
    have F : Hid (rdR s n z ls = (0, 0, 2)) := Lib.hid (by unfold rdR; rw [if_neg (by omega)])
    rw [hc] at HC
    rw [← hm] at HK ⊢
    clear hc hm hp hl
    go_enter Try.func21, Try.ntmps21
    go_wp2_with fail
    refine (HC.out _).mono ?_
    rintro e w1 ⟨rfl, b1⟩
    have B1 := Lib.hid (HBX.out.trans (b1.mono HBX.out.size))
    clear b1
    go_wp2_with fail
    refine bodyPost_ret (v := .tuple #[.int .u64 0, .int .i64 0, .int .i64 2]) (by simp [results, Try.results21, go_sem]) rfl ?_
    exact rdp_mk F.out B1.out
  have HC0 := Lib.hid hc
  have hR := chk_zero hc
  rw [hc] at HC
  clear hc
  by_cases hok : okC ls
  case neg =>
    have F : Hid (rdR s n z ls = (0, 0, 7)) := Lib.hid (by unfold rdR; rw [if_pos HC0.out, if_neg hok])
    have F2 : Hid (chkC ls = 7) := Lib.hid (by unfold chkC; rw [if_neg hok])
    rw [← hm] at HK ⊢
    clear hok hm hp hl hR
    go_enter Try.func21, Try.ntmps21
    go_wp2_with fail
    refine (HC.out _).mono ?_
    rintro e w1 ⟨rfl, b1⟩
    have B1 := Lib.hid (HBX.out.trans (b1.mono HBX.out.size))
    clear b1
    go_wp2_with fail
    refine (HK.out _ B1.out).mono ?_
    rintro e w2 ⟨rfl, b2⟩
    rw [F2.out]
    have B2 := Lib.hid (B1.out.trans (b2.mono B1.out.size))
    clear b2
    go_wp2_with fail
    refine bodyPost_ret (v := .tuple #[.int .u64 0, .int .i64 0, .int .i64 7]) (by simp [results, Try.results21, go_sem]) rfl ?_
    exact rdp_mk F.out B2.out
  have F2 : Hid (chkC ls = 0) := Lib.hid (by unfold chkC; rw [if_pos hok])
  obtain ⟨N, rfl⟩ : ∃ N : Nat, n = (N : Int) := ⟨n.toNat, by have := hR.1; omega⟩
  have hN : N ≤ 1048576 := by have := hR.2.1; omega
  by_cases hz : z < 0 ∨ (N : Int) < z
  · have F : Hid (rdR s N z ls = (0, 0, 1)) := Lib.hid (by unfold rdR; rw [if_pos HC0.out, if_pos hok, if_pos hz])
    rw [← hm] at HK ⊢
    clear hok hm hp hl hR
    by_cases h1 : z < 0
    · have f1 : decide (z < 0) = true := decide_eq_true h1
      clear hz
      go_enter Try.func21, Try.ntmps21
      go_wp2_with fail
      refine (HC.out _).mono ?_
      rintro e w1 ⟨rfl, b1⟩
      have B1 := Lib.hid (HBX.out.trans (b1.mono HBX.out.size))
      clear b1
      go_wp2_with fail
      refine (HK.out _ B1.out).mono ?_
      rintro e w2 ⟨rfl, b2⟩
      rw [F2.out]
      have B2 := Lib.hid (B1.out.trans (b2.mono B1.out.size))
      clear b2
      go_wp2_with fail
      refine bodyPost_ret (v := .tuple #[.int .u64 0, .int .i64 0, .int .i64 1]) (by simp [results, Try.results21, go_sem]) rfl ?_
      exact rdp_mk F.out B2.out
    · have f1 : decide (z < 0) = false := decide_eq_false h1
      have f2 : decide ((N : Int) < z) = true := decide_eq_true (by omega)
      clear hz
      go_enter Try.func21, Try.ntmps21
      go_wp2_with fail
      refine (HC.out _).mono ?_
      rintro e w1 ⟨rfl, b1⟩
      have B1 := Lib.hid (HBX.out.trans (b1.mono HBX.out.size))
      have X1 := HNB.out.below b1
      clear b1
      go_wp2_with fail
      refine (HK.out _ B1.out).mono ?_
      rintro e w2 ⟨rfl, b2⟩
      rw [F2.out]
      have B2 := Lib.hid (B1.out.trans (b2.mono B1.out.size))
      have X2 := X1.below b2
      have x1 := X2.c1
      clear b2 X1 X2
      go_wp2_with fail
      refine bodyPost_ret (v := .tuple #[.int .u64 0, .int .i64 0, .int .i64 1]) (by simp [results, Try.results21, go_sem]) rfl ?_
      exact rdp_mk F.out B2.out
  have hr := rt_of hok
  obtain ⟨Z, rfl⟩ : ∃ Z : Nat, z = (Z : Int) := ⟨z.toNat, by omega⟩
  have hZ : Z ≤ N := by omega
  obtain ⟨wd, hwd⟩ : ∃ wd, wd = min (N - Z) 15 := ⟨_, rfl⟩
  have emin : min (((N - Z : Nat)) : Int) 15 = (wd : Int) := by
    rcases Nat.le_total (N - Z) 15 with h | h
    · rw [hwd, Nat.min_eq_left h, Int.min_eq_left (by omega)]
    · rw [hwd, Nat.min_eq_right h, Int.min_eq_right (by omega)]; rfl
  have hxl : (bl (Bt.bytes s) N).length = N := bl_length _ _
  obtain ⟨nm, hnm⟩ : ∃ nm, nm = num (((bl (Bt.bytes s) N).drop Z).take wd) := ⟨_, rfl⟩
  have hnb : nm < 2 ^ wd := by
    have := num_lt (((bl (Bt.bytes s) N).drop Z).take wd)
    rw [List.length_take, List.length_drop, hxl, ← hnm] at this
    exact Nat.lt_of_lt_of_le this (Nat.pow_le_pow_right (by decide) (Nat.min_le_left _ _))
  have hge : getE s N Z wd = 0 := by
    unfold getE
    rw [if_neg (by have := HC0.out; omega), if_neg (by omega), if_neg (by omega)]
  have hgv : getV s N Z wd = nm := by
    unfold getV
    rw [if_pos hge, hnm]
    simp
  have HG := Lib.hid (fun W => get_any s N Z wd W hs)
  rw [hge, hgv] at HG
  have HN : Hid (∀ W, Below w.heap.size w W → Calls Try.prog 32 #[.slice p ls.length c] W fun e w' => ∃ g, e = .returned (.pointer (some ⟨g, 0, none⟩)) ∧ W.heap.size ≤ g ∧ Wk w' g p ls.length c ls ∧ Below W.heap.size W w') := Lib.hid (fun W hb => begin_any ls p c W (hp.below hb) hr)
  have HF : Hid (∀ W g, Below w.heap.size w W → Wk W g p ls.length c ls → Calls Try.prog 47 #[.pointer (some ⟨g, 0, none⟩), .int .u64 (nm : Int), .int .i64 (wd : Int)] W (FrP W (frR ls nm wd))) := Lib.hid (fun W g hb hw => first_any ls nm wd g p c W hw (hp.below hb) hr (by omega) hnb)
  have HX : Hid (rdR s N Z ls = ((out3 Z (frR ls nm wd)).1, ((out3 Z (frR ls nm wd)).2.1 : Int), (out3 Z (frR ls nm wd)).2.2)) := Lib.hid (by
    unfold rdR
    rw [if_pos HC0.out, if_pos hok, if_neg hz]
    have := rd_first hok (X := bl (Bt.bytes s) N) (p := Z) (wd := wd) (by rw [hxl]; exact hZ) (by rw [hxl]; exact hwd)
    rw [← hnm] at this
    simp only [Int.toNat_natCast]
    rw [this])
  have SH := frGo_shape ls nm wd wd 1
  have hlf := hr.few
  rw [← hm] at HK HN HF hlf ⊢
  have hfr : frR ls nm wd = frGo ls nm wd wd 1 := rfl
  rw [← hfr, ← hm] at SH
  have f1 : decide ((Z : Int) < 0) = false := decide_eq_false (by omega)
  have f2 : decide ((N : Int) < (Z : Int)) = false := decide_eq_false (by omega)
  have f3 : decide (N < Z) = false := decide_eq_false (by omega)
  have s1 : IntKind.i64.wrap ((N : Int) - (Z : Int)) = ((N - Z : Nat) : Int) := by rw [show (N : Int) - (Z : Int) = ((N - Z : Nat) : Int) by omega]; exact IntWalk.i64_in _ (by omega)
  have hw15 : wd ≤ 15 := by omega
  clear hok hm hp hl hR hz hxl hnm hge hgv hr hs hnb hfr hwd
  rcases SH with ⟨i, l', h1, h2, h3, h4⟩ | ⟨E, h1, hE⟩
  · have F : Hid (rdR s N Z ls = (i, (((Z + l' : Nat)) : Int), 0)) := Lib.hid (by rw [HX.out, h1]; rfl)
    rw [h1] at HF
    have s2 : IntKind.i64.wrap ((Z : Int) + (l' : Int)) = ((Z + l' : Nat) : Int) := IntWalk.i64_in _ (by omega)
    have s3 : IntKind.u64.wrap (i : Int) = (i : Int) := u64_small (by omega) (by omega)
    clear h1 HX
    go_enter Try.func21, Try.ntmps21
    go_wp2_with fail
    refine (HC.out _).mono ?_
    rintro e w1 ⟨rfl, b1⟩
    have B1 := Lib.hid (HBX.out.trans (b1.mono HBX.out.size))
    have X1 := HNB.out.below b1
    clear b1
    go_wp2_with fail
    refine (HK.out _ B1.out).mono ?_
    rintro e w2 ⟨rfl, b2⟩
    rw [F2.out]
    have B2 := Lib.hid (B1.out.trans (b2.mono B1.out.size))
    have X2 := X1.below b2
    have x0 := X2.c0; have x1 := X2.c1
    clear b2 X1 X2
    go_wp2_with fail
    refine (HG.out _).mono ?_
    rintro e w3 ⟨rfl, b3⟩
    have B3 := Lib.hid (B2.out.trans (b3.mono B2.out.size))
    clear b3 x0 x1
    go_wp2_with fail
    refine (HN.out _ B3.out).mono ?_
    rintro e w4 ⟨g, rfl, hg, hw, b4⟩
    have HW := Lib.hid hw
    have B4 := Lib.hid (B3.out.trans (b4.mono B3.out.size))
    clear b4 hw hg
    go_wp2_with fail
    refine (HF.out _ g B4.out HW.out).mono ?_
    rintro e w5 ⟨rfl, b5⟩
    have B5 := Lib.hid (B4.out.trans (b5.mono B4.out.size))
    clear b5
    go_wp2_with fail
    refine bodyPost_ret (v := .tuple #[.int .u64 (i : Int), .int .i64 ((Z + l' : Nat) : Int), .int .i64 0]) (by simp [results, Try.results21, go_sem]) rfl ?_
    exact rdp_mk F.out B5.out
  · rw [h1] at HF
    rcases hE with rfl | rfl
    · have F : Hid (rdR s N Z ls = (0, 0, 5)) := Lib.hid (by rw [HX.out, h1]; rfl)
      clear h1 HX
      go_enter Try.func21, Try.ntmps21
      go_wp2_with fail
      refine (HC.out _).mono ?_
      rintro e w1 ⟨rfl, b1⟩
      have B1 := Lib.hid (HBX.out.trans (b1.mono HBX.out.size))
      have X1 := HNB.out.below b1
      clear b1
      go_wp2_with fail
      refine (HK.out _ B1.out).mono ?_
      rintro e w2 ⟨rfl, b2⟩
      rw [F2.out]
      have B2 := Lib.hid (B1.out.trans (b2.mono B1.out.size))
      have X2 := X1.below b2
      have x0 := X2.c0; have x1 := X2.c1
      clear b2 X1 X2
      go_wp2_with fail
      refine (HG.out _).mono ?_
      rintro e w3 ⟨rfl, b3⟩
      have B3 := Lib.hid (B2.out.trans (b3.mono B2.out.size))
      clear b3 x0 x1
      go_wp2_with fail
      refine (HN.out _ B3.out).mono ?_
      rintro e w4 ⟨g, rfl, hg, hw, b4⟩
      have HW := Lib.hid hw
      have B4 := Lib.hid (B3.out.trans (b4.mono B3.out.size))
      clear b4 hw hg
      go_wp2_with fail
      refine (HF.out _ g B4.out HW.out).mono ?_
      rintro e w5 ⟨rfl, b5⟩
      have B5 := Lib.hid (B4.out.trans (b5.mono B4.out.size))
      clear b5
      go_wp2_with fail
      refine bodyPost_ret (v := .tuple #[.int .u64 0, .int .i64 0, .int .i64 5]) (by simp [results, Try.results21, go_sem]) rfl ?_
      exact rdp_mk F.out B5.out
    · have F : Hid (rdR s N Z ls = (0, 0, 7)) := Lib.hid (by rw [HX.out, h1]; rfl)
      clear h1 HX
      go_enter Try.func21, Try.ntmps21
      go_wp2_with fail
      refine (HC.out _).mono ?_
      rintro e w1 ⟨rfl, b1⟩
      have B1 := Lib.hid (HBX.out.trans (b1.mono HBX.out.size))
      have X1 := HNB.out.below b1
      clear b1
      go_wp2_with fail
      refine (HK.out _ B1.out).mono ?_
      rintro e w2 ⟨rfl, b2⟩
      rw [F2.out]
      have B2 := Lib.hid (B1.out.trans (b2.mono B1.out.size))
      have X2 := X1.below b2
      have x0 := X2.c0; have x1 := X2.c1
      clear b2 X1 X2
      go_wp2_with fail
      refine (HG.out _).mono ?_
      rintro e w3 ⟨rfl, b3⟩
      have B3 := Lib.hid (B2.out.trans (b3.mono B2.out.size))
      clear b3 x0 x1
      go_wp2_with fail
      refine (HN.out _ B3.out).mono ?_
      rintro e w4 ⟨g, rfl, hg, hw, b4⟩
      have HW := Lib.hid hw
      have B4 := Lib.hid (B3.out.trans (b4.mono B3.out.size))
      clear b4 hw hg
      go_wp2_with fail
      refine (HF.out _ g B4.out HW.out).mono ?_
      rintro e w5 ⟨rfl, b5⟩
      have B5 := Lib.hid (B4.out.trans (b5.mono B4.out.size))
      clear b5
      go_wp2_with fail
      refine bodyPost_ret (v := .tuple #[.int .u64 0, .int .i64 0, .int .i64 7]) (by simp [results, Try.results21, go_sem]) rfl ?_
      exact rdp_mk F.out B5.out
end Go.Proofs.Ytjnehpkkkmicfaa.Cn

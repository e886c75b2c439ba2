/- The walk of a known level's key. The walk of a level's know. -/
import Derived.Test.YtonlbcibfbbpgaaSkPN
import Derived.StillTailTactics
import Derived.BigRegion
namespace Go.Proofs.Ytonlbcibfbbpgaa.Sk
open Go.RowKit Go.Lib Go.Sort Rw Ls Od _root_.Go.Proofs.Ytonlbcibfbbpgaa.Nm

set_option maxHeartbeats 4000000 in
set_option maxRecDepth 100000 in
theorem key_any (l R : List Nat) (p q r : Option Addr) (n c m d n1 cr i rest : Nat) (W : World) (hn : n = l.length) (hn1 : n1 = R.length) (hi : i ≤ 1000000) (hp : Rd W p (nums l)) (hr : Rd W r (nums R)) :
    Calls Try.prog 52 #[.agg #[.slice p n c, .slice q m d, .slice r n1 cr], .int .i64 i, .int .i64 rest] W fun e w' => e = .returned (.agg (encT (keyT l R i rest)).toArray) ∧ ∃ q os', w' = grow (W.drewN q) os' := by
  have mixed : Try.prog.follows Departure.mixedOrders = true := by kernel_rfl
  obtain ⟨V, hV⟩ : ∃ V, V = (W.alloc (.cells #[.slice p n c, .slice q m d, .slice r n1 cr] 77)).alloc (.cells #[.int .u64 0, .int .u64 0, .int .u64 0] 50) := ⟨_, rfl⟩
  have b1 : RowKit.Below W.heap.size W V := by rw [hV]; exact ((RowKit.Below.refl _ W).alloc (Nat.le_refl _) _).alloc (by simp) _
  have rp := hp.below b1
  have rr := hr.below b1
  obtain ⟨i1, hi1⟩ : ∃ i1, i1 = i + 1 := ⟨_, rfl⟩
  obtain ⟨i2, hi2⟩ : ∃ i2, i2 = i + 2 := ⟨_, rfl⟩
  have C0 := Lib.hid (fun (z : Nat) => at_any l p n c i (V.drewN z) hn (rp.drewN z))
  have C1 := Lib.hid (fun (z : Nat) => at_any l p n c i1 (V.drewN z) hn (rp.drewN z))
  have D1 := Lib.hid (fun (z : Nat) => at_any R r n1 cr i1 (V.drewN z) hn1 (rr.drewN z))
  have D2 := Lib.hid (fun (z : Nat) => at_any R r n1 cr i2 (V.drewN z) hn1 (rr.drewN z))
  have hbV : V.heap[W.heap.size]? = some (.cells #[.slice p n c, .slice q m d, .slice r n1 cr] 77 (0, 0)) := by
    rw [hV]; exact (Below.heap_alloc _ _ _ (by simp)).trans (World.alloc_heap_new W _)
  have k0 : V.drew.cell? ⟨W.heap.size, 0, none⟩ = some (.slice p n c) := by show V.cell? _ = _; simp [World.cell?, hbV]
  have k2 : V.drew.cell? ⟨W.heap.size, 2, none⟩ = some (.slice r n1 cr) := by show V.cell? _ = _; simp [World.cell?, hbV]
  have a1 : (i : Int) + 1 = (i1 : Int) := by omega
  have a2 : (i : Int) + 2 = (i2 : Int) := by omega
  have w1 : IntKind.i64.wrap (i1 : Int) = (i1 : Int) := IntWalk.i64_in _ (by omega)
  have w2 : IntKind.i64.wrap (i2 : Int) = (i2 : Int) := IntWalk.i64_in _ (by omega)
  unfold keyT
  rw [← hi1, ← hi2]
  obtain ⟨y0, hy0⟩ : ∃ y, y = l.getD i 0 := ⟨_, rfl⟩
  obtain ⟨y1, hy1⟩ : ∃ y, y = l.getD i1 0 := ⟨_, rfl⟩
  obtain ⟨z1, hz1⟩ : ∃ y, y = R.getD i1 0 := ⟨_, rfl⟩
  obtain ⟨z2, hz2⟩ : ∃ y, y = R.getD i2 0 := ⟨_, rfl⟩
  rw [← hy0] at C0 ⊢
  rw [← hy1] at C1 ⊢
  rw [← hz1] at D1 ⊢
  rw [← hz2] at D2 ⊢
  have HV := Lib.hid hV
  clear hy0 hy1 hz1 hz2 hi1 hi2 rp rr hp hr b1 hn hn1 hV
  by_cases h1 : rest = 1
  · rw [if_pos h1]
    have t1 : ((rest : Int) == 1) = true := by rw [beq_iff_eq]; omega
    simp only [encT]
    go_enter Try.func52, Try.ntmps52
    go_wp2_with fail
    rw [← HV.out]
    go_still_tail 11, mixed
    still_call (C0.out 1)
    repeat still_step
    still_call (D1.out 1)
    repeat still_step
    refine wpStill_nil ?_
    change wpList _ _ _ _ _ V.drew
    rw [HV.out]
    go_wp2_with fail
    refine bodyPost_ret (v := .agg #[.int .u64 (y0 : Nat), .int .u64 (z1 : Nat), .int .u64 0]) (by simp [results, Try.results52, go_sem]) rfl ?_
    exact ⟨rfl, 1, #[_, _], by rw [alloc_eq_grow, alloc_eq_grow, grow_grow]; rfl⟩
  · rw [if_neg h1]
    have t1 : ((rest : Int) == 1) = false := by rw [beq_eq_false_iff_ne]; omega
    have t2 : (rest == 1) = false := by rw [beq_eq_false_iff_ne]; exact h1
    simp only [encT]
    go_enter Try.func52, Try.ntmps52
    go_wp2_with fail
    rw [← HV.out]
    go_still_tail 17, mixed
    still_call (C0.out 1)
    repeat still_step
    still_call (C1.out 1)
    repeat still_step
    still_call (D2.out 1)
    repeat still_step
    refine wpStill_nil ?_
    change wpList _ _ _ _ _ V.drew
    rw [HV.out]
    go_wp2_with fail
    refine bodyPost_ret (v := .agg #[.int .u64 (y0 : Nat), .int .u64 (y1 : Nat), .int .u64 (z2 : Nat)]) (by simp [results, Try.results52, go_sem]) rfl ?_
    exact ⟨rfl, 1, #[_, _], by rw [alloc_eq_grow, alloc_eq_grow, grow_grow]; rfl⟩

end Go.Proofs.Ytonlbcibfbbpgaa.Sk
namespace Go.Proofs.Ytonlbcibfbbpgaa.Sk
open Go.RowKit Go.Lib Go.Sort Rw Ls Od _root_.Go.Proofs.Ytonlbcibfbbpgaa.Nm

theorem nums_set (L : List Nat) (k n : Nat) : (nums L).set k (.int .u64 (n : Int)) = nums (L.set k n) := by simp [nums, List.map_set]
theorem set_at {w : World} {b k : Nat} {cs : Array Value} {t : TypeId} (v : Value) (h : w.heap[b]? = some (.cells cs t (0, 0))) : (w.setCell ⟨b, k, none⟩ v).heap[b]? = some (.cells (cs.setIfInBounds k v) t (0, 0)) := by
  obtain ⟨hlt, hk⟩ := Array.getElem?_eq_some_iff.1 h
  show (w.heap.modify b _)[b]? = _
  rw [Array.getElem?_eq_getElem (by rw [Array.size_modify]; exact hlt), Array.getElem_modify_self, hk]
  rfl
theorem set3_block (w : World) (b : Nat) (a0 a1 a2 v0 v1 v2 : Value) (t : TypeId) (h : w.heap[b]? = some (.cells #[a0, a1, a2] t (0, 0))) : (((w.setCell ⟨b, 0, none⟩ v0).setCell ⟨b, 1, none⟩ v1).setCell ⟨b, 2, none⟩ v2).heap[b]? = some (.cells #[v0, v1, v2] t (0, 0)) :=
  set_at v2 (set_at v1 (set_at v0 h))
theorem four_allocs (w : World) (o1 o2 o3 o4 : Obj) : ((((w.alloc o1).alloc o2).alloc o3).alloc o4).drew.heap[w.heap.size]? = some o1 ∧ ((((w.alloc o1).alloc o2).alloc o3).alloc o4).drew.heap[w.heap.size + 1]? = some o2 ∧ ((((w.alloc o1).alloc o2).alloc o3).alloc o4).drew.heap[w.heap.size + 1 + 1]? = some o3 ∧ ((((w.alloc o1).alloc o2).alloc o3).alloc o4).drew.heap[w.heap.size + 1 + 1 + 1]? = some o4 ∧ RowKit.Below w.heap.size w ((((w.alloc o1).alloc o2).alloc o3).alloc o4).drew ∧ ((((w.alloc o1).alloc o2).alloc o3).alloc o4).drew.heap.size = w.heap.size + 4 := by
  have e1 : (w.alloc o1).heap.size = w.heap.size + 1 := World.size_alloc _ _
  have e2 : ((w.alloc o1).alloc o2).heap.size = w.heap.size + 1 + 1 := by rw [World.size_alloc, e1]
  have e3 : (((w.alloc o1).alloc o2).alloc o3).heap.size = w.heap.size + 1 + 1 + 1 := by rw [World.size_alloc, e2]
  refine ⟨?_, ?_, ?_, ?_, ?_, ?_⟩
  · show ((((w.alloc o1).alloc o2).alloc o3).alloc o4).heap[w.heap.size]? = _
    rw [Below.heap_alloc _ _ _ (by omega), Below.heap_alloc _ _ _ (by omega), Below.heap_alloc _ _ _ (by omega)]
    exact World.alloc_heap_new w o1
  · show ((((w.alloc o1).alloc o2).alloc o3).alloc o4).heap[w.heap.size + 1]? = _
    rw [Below.heap_alloc _ _ _ (by omega), Below.heap_alloc _ _ _ (by omega), ← e1]
    exact World.alloc_heap_new (w.alloc o1) o2
  · show ((((w.alloc o1).alloc o2).alloc o3).alloc o4).heap[w.heap.size + 1 + 1]? = _
    rw [Below.heap_alloc _ _ _ (by omega), ← e2]
    exact World.alloc_heap_new _ o3
  · show ((((w.alloc o1).alloc o2).alloc o3).alloc o4).heap[w.heap.size + 1 + 1 + 1]? = _
    rw [← e3]
    exact World.alloc_heap_new _ o4
  · exact (((((RowKit.Below.refl _ w).alloc (Nat.le_refl _) _).alloc (by omega) _).alloc (by omega) _).alloc (by omega) _).drew
  · show ((((w.alloc o1).alloc o2).alloc o3).alloc o4).heap.size = _
    rw [World.size_alloc, e3]
/-- a known level: with the rows of its samples -/
def KnP (w : World) (p q : Option Addr) (n c m d : Nat) (P : List Nat) (e : Ending) (w' : World) : Prop := ∃ g cr, e = .returned (.agg #[.slice p n c, .slice q m d, .slice (some ⟨g, 0, none⟩) (n + 1) cr]) ∧ Rd w' (some ⟨g, 0, none⟩) (nums (rws n P P.length)) ∧ w.heap.size ≤ g ∧ RowKit.Below w.heap.size w w'
set_option maxHeartbeats 8000000 in
set_option maxRecDepth 100000 in
theorem know_any (P : List Nat) (p q e0 : Option Addr) (n c m d ce : Nat) (w : World) (hl : n ≤ 100000) (hm : m = mm n) (hq : Rd w q (zs (up (places n)))) (he : Rd w e0 (zs (up P))) (hPl : P.length = m) (hPm : ∀ i, i < m → P.getD i 0 < m) :
    Calls Try.prog 50 #[.agg #[.slice p n c, .slice q m d], .slice e0 m ce] w (KnP w p q n c m d P) := by
  obtain ⟨i0, hi0, hz0, hz1, hz2⟩ := info_parts info_u64
  have mixed : Try.prog.follows Departure.mixedOrders = true := by kernel_rfl
  obtain ⟨M, hM⟩ : ∃ M, M = madeCells (Value.int .u64 0).cells (((n : Int) + 1).toNat * i0.size) := ⟨_, rfl⟩
  have hmk : ∀ W : World, (Instr.makeSlice 42 (.int .i64 ((n : Int) + 1)) (.int .i64 ((n : Int) + 1))).run Try.prog W = .ok (.slice (some ⟨W.heap.size, 0, none⟩) (n + 1) (n + 1)) (W.alloc (.cells M 41)) := by
    intro W
    have := run_makeSlice W 42 41 i0 (.int .u64 0) Try.underlying42 hi0 hz0 .i64 .i64 ((n : Int) + 1) ((n : Int) + 1) (by omega) (by omega) (by rw [hz1]; omega) (by rw [hz2]; omega) (by omega)
    rw [this, ← hM]
    have e1 : ((n : Int) + 1).toNat = n + 1 := by omega
    rw [e1]
  have hML : M.toList = nums (rws n P 0) := by
    rw [hM, hz1, Nat.mul_one]
    have e1 : ((n : Int) + 1).toNat = n + 1 := by omega
    rw [e1]
    show (madeCells #[Value.int .u64 0] (n + 1)).toList = _
    rw [toList_madeCells_one]
    simp [rws, nums]
  have HML := Lib.hid hML; have HM := Lib.hid hm; have HQ := Lib.hid hq; have HE := Lib.hid he; have HPM := Lib.hid hPm; have HPL := Lib.hid hPl
  have wn : IntKind.i64.wrap ((n : Int) + 1) = (n : Int) + 1 := IntWalk.i64_in _ (by omega)
  clear hM hML hm hq he hPm hPl
  go_enter Try.func50, Try.ntmps50
  go_wp2_with fail
  go_region
  all_goals (first
    | (obtain ⟨w5, hw5⟩ : ∃ w5, w5 = ((((w.alloc (.cells #[.slice p n c, .slice q m d] 44)).alloc (.cells #[.slice none 0 0, .slice none 0 0, .slice none 0 0] 77)).alloc (.cells #[.slice p n c, .slice q m d, .slice (some ⟨w.heap.size + 1 + 1 + 1, 0, none⟩) (n + 1) (n + 1)] 77)).alloc (.cells M 41)).drew := ⟨_, rfl⟩
       rw [← hw5]
       obtain ⟨f1, f2, f3, f4, f5, f6⟩ := four_allocs w (.cells #[.slice p n c, .slice q m d] 44) (.cells #[.slice none 0 0, .slice none 0 0, .slice none 0 0] 77) (.cells #[.slice p n c, .slice q m d, .slice (some ⟨w.heap.size + 1 + 1 + 1, 0, none⟩) (n + 1) (n + 1)] 77) (.cells M 41)
       rw [← hw5] at f1 f2 f3 f4 f5 f6
       obtain ⟨kb, hkb⟩ : ∃ kb, kb = w.heap.size + 1 + 1 := ⟨_, rfl⟩
       obtain ⟨g, hg⟩ : ∃ g, g = w.heap.size + 1 + 1 + 1 := ⟨_, rfl⟩
       rw [← hg] at f3 f4 ⊢
       rw [← hkb] at f3 ⊢
       have FK := Lib.hid f3; have FM := Lib.hid f4)
    | (obtain ⟨w5, hw5⟩ : ∃ w5, w5 = ((((w.alloc (.cells #[.slice p n c, .slice q m d] 44)).alloc (.cells #[.slice none 0 0, .slice none 0 0, .slice none 0 0] 77)).alloc (.cells M 41)).alloc (.cells #[.slice p n c, .slice q m d, .slice (some ⟨w.heap.size + 1 + 1, 0, none⟩) (n + 1) (n + 1)] 77)).drew := ⟨_, rfl⟩
       rw [← hw5]
       obtain ⟨f1, f2, f3, f4, f5, f6⟩ := four_allocs w (.cells #[.slice p n c, .slice q m d] 44) (.cells #[.slice none 0 0, .slice none 0 0, .slice none 0 0] 77) (.cells M 41) (.cells #[.slice p n c, .slice q m d, .slice (some ⟨w.heap.size + 1 + 1, 0, none⟩) (n + 1) (n + 1)] 77)
       rw [← hw5] at f1 f2 f3 f4 f5 f6
       obtain ⟨kb, hkb⟩ : ∃ kb, kb = w.heap.size + 1 + 1 + 1 := ⟨_, rfl⟩
       obtain ⟨g, hg⟩ : ∃ g, g = w.heap.size + 1 + 1 := ⟨_, rfl⟩
       rw [← hkb] at f4 ⊢
       rw [← hg] at f3 f4 ⊢
       have FK := Lib.hid f4; have FM := Lib.hid f3))
  all_goals
    have HKG : Hid (w.heap.size + 2 ≤ kb ∧ w.heap.size + 2 ≤ g ∧ kb ≠ g ∧ g < w5.heap.size ∧ kb < w5.heap.size) := Lib.hid (by omega)
    have FL := Lib.hid f1; have FR := Lib.hid f2; have FB := Lib.hid f5
    clear hw5 hkb hg f1 f2 f3 f4 f5 f6
    have hA : Hid (Arr w5 g 41 g (n + 1) (nums (rws n P 0))) := Lib.hid (by
      have hsz : M.size = n + 1 := by rw [← Array.length_toList, HML.out, nums_length, rws_length]
      refine ⟨by rw [nums_length, rws_length]; omega, .inr ⟨g, n + 1, M, rfl, Nat.le_refl _, FM.out, Nat.le_refl _, by unfold maxLen; omega, by rw [hsz]; omega, ?_⟩⟩
      rw [List.take_of_length_le (by rw [Array.length_toList, hsz]; omega), HML.out])
    clear FM hmk
    go_wp2_with fail
    go_loopw [17] (fun i wr => ∃ k : Nat, k ≤ m ∧ i = .int .i64 k ∧ Hid (Arr wr g 41 g (n + 1) (nums (rws n P k))) ∧ Hid (wr.heap[w.heap.size]? = some (.cells #[.slice p n c, .slice q m d] 44 (0, 0))) ∧ Hid (wr.heap[w.heap.size + 1]? = some (.cells #[.slice none 0 0, .slice none 0 0, .slice none 0 0] 77 (0, 0))) ∧ Hid (wr.heap[kb]? = some (.cells #[.slice p n c, .slice q m d, .slice (some ⟨g, 0, none⟩) (n + 1) (n + 1)] 77 (0, 0))) ∧ Hid (RowKit.Below w.heap.size w wr)) (fun i _ => m - (intOf i).toNat)
    case atStart => exact ⟨0, Nat.zero_le _, rfl, hA, FL, FR, FK, FB⟩
    case round =>
      clear hA FL FR FK FB
      obtain ⟨k, hk, rfl, HA, HL, HRs, HK, HB⟩ := hrel
      have hkg := HKG.out
      have hmb : m ≤ n + 1 := by rw [HM.out]; unfold mm top; split <;> omega
      by_cases hlt : k < m
      · have k0 : (0 : Int) ≤ (k : Int) := by omega
        have k1 : (k : Int) < (m : Int) := by omega
        obtain ⟨ae, rfl, ce1⟩ := rd_z (HE.out.below HB.out) k (by rw [up_length, HPL.out]; exact hlt)
        rw [up_getD _ _ (by rw [HPL.out]; exact hlt)] at ce1
        have hxm := HPM.out k hlt
        obtain ⟨x, hx⟩ : ∃ x, x = P.getD k 0 := ⟨_, rfl⟩
        rw [← hx] at ce1 hxm
        obtain ⟨aq, rfl, cq1⟩ := rd_z (HQ.out.below HB.out) x (by rw [up_length, places_length, ← HM.out]; exact hxm)
        rw [up_getD _ _ (by rw [places_length, ← HM.out]; exact hxm), places_at n x (by rw [← HM.out]; exact hxm)] at cq1
        have hyn : pl n x ≤ n := pl_le (by rw [← HM.out]; exact hxm)
        have hrw : rws n P (k + 1) = (rws n P k).set (pl n x) (k + 1) := by rw [rws, hx]
        obtain ⟨y, hy⟩ : ∃ y, y = pl n x := ⟨_, rfl⟩
        rw [← hy] at cq1 hyn hrw
        have cq : wr.drew.cell? (aq.add x) = some (.int .i64 (y : Nat)) := cq1
        have l1 : wr.drew.cell? ⟨w.heap.size, 1, none⟩ = some (.slice (some aq) m d) := by show wr.cell? _ = _; simp [World.cell?, HL.out]
        have kc : wr.drew.cell? ⟨kb, 2, none⟩ = some (.slice (some ⟨g, 0, none⟩) (n + 1) (n + 1)) := by show wr.cell? _ = _; simp [World.cell?, HK.out]
        have cg0 := HA.out.cell (show y < n + 1 by omega)
        have cg : wr.drew.cell? ⟨g, y, none⟩ = some ((nums (rws n P k)).getD y (.bool false)) := cg0
        have fg : wr.drew.frozen? ⟨g, y, none⟩ = false := HA.out.free y
        generalize (nums (rws n P k)).getD y (.bool false) = ov at cg
        obtain ⟨kk, hkk⟩ : ∃ kk, kk = k + 1 := ⟨_, rfl⟩
        have x0 : (0 : Int) ≤ (x : Int) := by omega
        have x1 : (x : Int) < (m : Int) := by omega
        have y0 : (0 : Int) ≤ (y : Int) := by omega
        have y1 : (y : Int) < (n : Int) + 1 := by omega
        have ek : (k : Int) + 1 = (kk : Int) := by omega
        have wk1 : IntKind.u64.wrap (k : Int) = (k : Int) := by have : m ≤ 1000000 := (by rw [HM.out]; unfold mm top; split <;> omega); simp [IntKind.wrap, IntKind.bits, IntKind.signed]; omega
        have wk2 : IntKind.u64.wrap (kk : Int) = (kk : Int) := by have : m ≤ 1000000 := (by rw [HM.out]; unfold mm top; split <;> omega); simp [IntKind.wrap, IntKind.bits, IntKind.signed]; omega
        have E1 : Hid (Arr (wr.drew.setCell ⟨g, y, none⟩ (.int .u64 (kk : Nat))) g 41 g (n + 1) (nums (rws n P (k + 1)))) := Lib.hid (by
          have := (HA.out.drewN 1).set y (.int .u64 (kk : Nat))
          rw [nums_set] at this
          rw [hrw, ← hkk]
          exact this)
        have E2 : Hid ((wr.drew.setCell ⟨g, y, none⟩ (.int .u64 (kk : Nat))).heap[w.heap.size]? = some (.cells #[.slice p n c, .slice (some aq) m d] 44 (0, 0))) := Lib.hid ((Below.heap_setCell _ _ _ _ (by show w.heap.size ≠ g; omega)).trans HL.out)
        have E3 : Hid ((wr.drew.setCell ⟨g, y, none⟩ (.int .u64 (kk : Nat))).heap[w.heap.size + 1]? = some (.cells #[.slice none 0 0, .slice none 0 0, .slice none 0 0] 77 (0, 0))) := Lib.hid ((Below.heap_setCell _ _ _ _ (by show w.heap.size + 1 ≠ g; omega)).trans HRs.out)
        have E4 : Hid ((wr.drew.setCell ⟨g, y, none⟩ (.int .u64 (kk : Nat))).heap[kb]? = some (.cells #[.slice p n c, .slice (some aq) m d, .slice (some ⟨g, 0, none⟩) (n + 1) (n + 1)] 77 (0, 0))) := Lib.hid ((Below.heap_setCell _ _ _ _ (by show kb ≠ g; omega)).trans HK.out)
        have E5 := Lib.hid (below_put HB.out.drew (a := ⟨g, y, none⟩) (by show w.heap.size ≤ g; omega) (.int .u64 (kk : Nat)))
        clear hx hy hrw hkk hlt cq1 cg0 hxm hyn
        go_wp2_with fail
        go_still_tail 11, mixed
        change wpList _ _ _ _ _ wr.drew
        go_wp2_with fail
        go_roundw
        case rel => exact ⟨k + 1, by omega, by go_num, E1, E2, E3, E4, E5⟩
        case measure => simp [intOf]; omega
      · obtain rfl : k = m := by omega
        have k1 : ¬ (k : Int) < (k : Int) := by omega
        have c0 : wr.cell? ⟨kb, 0, none⟩ = some (.slice p n c) := by simp [World.cell?, HK.out]
        have c1 : wr.cell? ⟨kb, 1, none⟩ = some (.slice q k d) := by simp [World.cell?, HK.out]
        have c2 : wr.cell? ⟨kb, 2, none⟩ = some (.slice (some ⟨g, 0, none⟩) (n + 1) (n + 1)) := by simp [World.cell?, HK.out]
        have r0 : wr.cell? ⟨w.heap.size + 1, 0, none⟩ = some (.slice none 0 0) := by simp [World.cell?, HRs.out]
        have r1 : wr.cell? ⟨w.heap.size + 1, 1, none⟩ = some (.slice none 0 0) := by simp [World.cell?, HRs.out]
        have r2 : wr.cell? ⟨w.heap.size + 1, 2, none⟩ = some (.slice none 0 0) := by simp [World.cell?, HRs.out]
        have g0 : wr.frozen? ⟨w.heap.size + 1, 0, none⟩ = false := by simp [World.frozen?, HRs.out]
        have g1 : wr.frozen? ⟨w.heap.size + 1, 1, none⟩ = false := by simp [World.frozen?, HRs.out]
        have g2 : wr.frozen? ⟨w.heap.size + 1, 2, none⟩ = false := by simp [World.frozen?, HRs.out]
        clear hlt
        have hW := Lib.hid (set3_block wr (w.heap.size + 1) _ _ _ (.slice p n c) (.slice q k d) (.slice (some ⟨g, 0, none⟩) (n + 1) (n + 1)) _ HRs.out)
        have E1 : Hid (Rd (((wr.setCell ⟨w.heap.size + 1, 0, none⟩ (.slice p n c)).setCell ⟨w.heap.size + 1, 1, none⟩ (.slice q k d)).setCell ⟨w.heap.size + 1, 2, none⟩ (.slice (some ⟨g, 0, none⟩) (n + 1) (n + 1))) (some ⟨g, 0, none⟩) (nums (rws n P P.length))) := Lib.hid (by
          rw [HPL.out]
          exact (((HA.out.other (a := ⟨w.heap.size + 1, 0, none⟩) (by show w.heap.size + 1 ≠ g; omega) _).other (a := ⟨w.heap.size + 1, 1, none⟩) (by show w.heap.size + 1 ≠ g; omega) _).other (a := ⟨w.heap.size + 1, 2, none⟩) (by show w.heap.size + 1 ≠ g; omega) _).rd)
        have E2 := Lib.hid (below_put (below_put (below_put HB.out (a := ⟨w.heap.size + 1, 0, none⟩) (Nat.le_succ _) (.slice p n c)) (a := ⟨w.heap.size + 1, 1, none⟩) (Nat.le_succ _) (.slice q k d)) (a := ⟨w.heap.size + 1, 2, none⟩) (Nat.le_succ _) (.slice (some ⟨g, 0, none⟩) (n + 1) (n + 1)))
        go_wp2_with fail
        have hb3 := hW.out
        generalize (((wr.setCell ⟨w.heap.size + 1, 0, none⟩ (.slice p n c)).setCell ⟨w.heap.size + 1, 1, none⟩ (.slice q k d)).setCell ⟨w.heap.size + 1, 2, none⟩ (.slice (some ⟨g, 0, none⟩) (n + 1) (n + 1))) = wf at E1 E2 hb3 ⊢
        have q0 : wf.cell? ⟨w.heap.size + 1, 0, none⟩ = some (.slice p n c) := by simp [World.cell?, hb3]
        have q1 : wf.cell? ⟨w.heap.size + 1, 1, none⟩ = some (.slice q k d) := by simp [World.cell?, hb3]
        have q2 : wf.cell? ⟨w.heap.size + 1, 2, none⟩ = some (.slice (some ⟨g, 0, none⟩) (n + 1) (n + 1)) := by simp [World.cell?, hb3]
        refine bodyPost_ret (v := .agg #[.slice p n c, .slice q k d, .slice (some ⟨g, 0, none⟩) (n + 1) (n + 1)]) (by simp [results, Try.results50, go_sem, q0, q1, q2]) rfl ?_
        exact ⟨g, n + 1, rfl, E1.out, by omega, E2.out⟩
end Go.Proofs.Ytonlbcibfbbpgaa.Sk

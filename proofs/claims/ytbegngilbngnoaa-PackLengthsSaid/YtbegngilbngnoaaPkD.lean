/- The document's both. -/
import Derived.Test.YtbegngilbngnoaaPkC
import Derived.Test.YtbegngilbngnoaaArr
import Derived.BigRegion
import Derived.StillTailTactics
namespace Go.Proofs.Ytbegngilbngnoaa.Pk
open Go.RowKit Go.Lib Rw Ls Od _root_.Go.Proofs.Ytbegngilbngnoaa.Nm

/-- two lists of counts together -/
def addL (a b : List Nat) : List Nat := List.zipWith (· + ·) a b
theorem addL_length {a b : List Nat} {n : Nat} (ha : a.length = n) (hb : b.length = n) : (addL a b).length = n := by simp [addL, ha, hb]
theorem addL_at {a b : List Nat} {k : Nat} (ha : k < a.length) (hb : k < b.length) : (addL a b).getD k 0 = a.getD k 0 + b.getD k 0 := by
  simp [addL, List.getD_eq_getElem?_getD, List.getElem?_zipWith, ha, hb]
/-- as far as it is added, and nothing behind it -/
def addT (a b : List Nat) (n k : Nat) : List Nat := (addL a b).take k ++ List.replicate (n - k) 0
theorem addT_length {a b : List Nat} {n k : Nat} (ha : a.length = n) (hb : b.length = n) (hk : k ≤ n) : (addT a b n k).length = n := by
  unfold addT
  rw [List.length_append, List.length_take, addL_length ha hb, List.length_replicate]; omega
theorem addT_succ {a b : List Nat} {n k : Nat} (ha : a.length = n) (hb : b.length = n) (hk : k < n) : (addT a b n k).set k (a.getD k 0 + b.getD k 0) = addT a b n (k + 1) := by
  have hl := addL_length ha hb
  have hk2 : k < (addL a b).length := by omega
  unfold addT
  rw [show n - k = (n - (k + 1)) + 1 by omega, List.replicate_succ, List.set_append_right _ _ (by rw [List.length_take]; omega), List.length_take, Nat.min_eq_left (by omega), Nat.sub_self, List.set_cons_zero, List.take_succ_eq_append_getElem hk2, List.append_assoc, ← addL_at (by omega) (by omega)]
  congr 2
  rw [List.getD_eq_getElem?_getD, List.getElem?_eq_getElem hk2]; rfl
theorem addT_full {a b : List Nat} {n : Nat} (ha : a.length = n) (hb : b.length = n) : addT a b n n = addL a b := by
  unfold addT
  rw [Nat.sub_self, List.replicate_zero, List.append_nil, List.take_of_length_le (by rw [addL_length ha hb]; exact Nat.le_refl _)]
theorem five_allocs (w : World) (o1 o2 o3 o4 o5 : Obj) : (((((w.alloc o1).alloc o2).alloc o3).alloc o4).alloc o5).drew.heap[w.heap.size]? = some o1 ∧ (((((w.alloc o1).alloc o2).alloc o3).alloc o4).alloc o5).drew.heap[w.heap.size + 1]? = some o2 ∧ (((((w.alloc o1).alloc o2).alloc o3).alloc o4).alloc o5).drew.heap[w.heap.size + 1 + 1]? = some o3 ∧ (((((w.alloc o1).alloc o2).alloc o3).alloc o4).alloc o5).drew.heap[w.heap.size + 1 + 1 + 1]? = some o4 ∧ (((((w.alloc o1).alloc o2).alloc o3).alloc o4).alloc o5).drew.heap[w.heap.size + 1 + 1 + 1 + 1]? = some o5 ∧ RowKit.Below w.heap.size w (((((w.alloc o1).alloc o2).alloc o3).alloc o4).alloc o5).drew ∧ (((((w.alloc o1).alloc o2).alloc o3).alloc o4).alloc o5).drew.heap.size = w.heap.size + 5 := by
  have e1 : (w.alloc o1).heap.size = w.heap.size + 1 := World.size_alloc _ _
  have e2 : ((w.alloc o1).alloc o2).heap.size = w.heap.size + 1 + 1 := by rw [World.size_alloc, e1]
  have e3 : (((w.alloc o1).alloc o2).alloc o3).heap.size = w.heap.size + 1 + 1 + 1 := by rw [World.size_alloc, e2]
  have e4 : ((((w.alloc o1).alloc o2).alloc o3).alloc o4).heap.size = w.heap.size + 1 + 1 + 1 + 1 := by rw [World.size_alloc, e3]
  refine ⟨?_, ?_, ?_, ?_, ?_, ?_, ?_⟩
  · show (((((w.alloc o1).alloc o2).alloc o3).alloc o4).alloc o5).heap[w.heap.size]? = _
    rw [Below.heap_alloc _ _ _ (by omega), Below.heap_alloc _ _ _ (by omega), Below.heap_alloc _ _ _ (by omega), Below.heap_alloc _ _ _ (by omega)]
    exact heap_alloc_new w o1
  · show (((((w.alloc o1).alloc o2).alloc o3).alloc o4).alloc o5).heap[w.heap.size + 1]? = _
    rw [Below.heap_alloc _ _ _ (by omega), Below.heap_alloc _ _ _ (by omega), Below.heap_alloc _ _ _ (by omega), ← e1]
    exact heap_alloc_new (w.alloc o1) o2
  · show (((((w.alloc o1).alloc o2).alloc o3).alloc o4).alloc o5).heap[w.heap.size + 1 + 1]? = _
    rw [Below.heap_alloc _ _ _ (by omega), Below.heap_alloc _ _ _ (by omega), ← e2]
    exact heap_alloc_new _ o3
  · show (((((w.alloc o1).alloc o2).alloc o3).alloc o4).alloc o5).heap[w.heap.size + 1 + 1 + 1]? = _
    rw [Below.heap_alloc _ _ _ (by omega), ← e3]
    exact heap_alloc_new _ o4
  · show (((((w.alloc o1).alloc o2).alloc o3).alloc o4).alloc o5).heap[w.heap.size + 1 + 1 + 1 + 1]? = _
    rw [← e4]
    exact heap_alloc_new _ o5
  · exact ((((((RowKit.Below.refl _ w).alloc (Nat.le_refl _) _).alloc (by omega) _).alloc (by omega) _).alloc (by omega) _).alloc (by omega) _).drew
  · show (((((w.alloc o1).alloc o2).alloc o3).alloc o4).alloc o5).heap.size = _
    rw [World.size_alloc, e4]
theorem zs_up_set (L : List Nat) (k n : Nat) : (zs (up L)).set k (.int .i64 (n : Int)) = zs (up (L.set k n)) := by simp [zs, up, List.map_set]
theorem set_cell_at {w : World} {b k : Nat} {cs : Array Value} {t : TypeId} (v : Value) (h : w.heap[b]? = some (.cells cs t (0, 0))) : (w.setCell ⟨b, k, none⟩ v).heap[b]? = some (.cells (cs.setIfInBounds k v) t (0, 0)) := by
  obtain ⟨hlt, hk⟩ := Array.getElem?_eq_some_iff.1 h
  show (w.heap.modify b _)[b]? = _
  rw [Array.getElem?_eq_getElem (by rw [Array.size_modify]; exact hlt), Array.getElem_modify_self, hk]
  rfl
theorem set_two (w : World) (b : Nat) (a0 a1 v0 v1 : Value) (t : TypeId) (h : w.heap[b]? = some (.cells #[a0, a1] t (0, 0))) : ((w.setCell ⟨b, 0, none⟩ v0).setCell ⟨b, 1, none⟩ v1).heap[b]? = some (.cells #[v0, v1] t (0, 0)) :=
  set_cell_at v1 (set_cell_at v0 h)
/-- an item, its counts in new memory -/
def BoP (w : World) (wt n : Nat) (C : List Nat) (e : Ending) (w' : World) : Prop := ∃ g, e = .returned (.agg #[.int .u64 (wt : Nat), .slice (some ⟨g, 0, none⟩) n n]) ∧ Rd w' (some ⟨g, 0, none⟩) (zs (up C)) ∧ w.heap.size ≤ g ∧ Below w.heap.size w w'
set_option maxHeartbeats 8000000 in
set_option maxRecDepth 100000 in
theorem rboth_any (A B : List Nat) (p q : Option Addr) (wa wb n c d : Nat) (w : World) (hA : A.length = n) (hB : B.length = n) (hn : n ≤ 1000000) (hp : Rd w p (zs (up A))) (hq : Rd w q (zs (up B))) (hwt : wa + wb < 18446744073709551616) (hsm : ∀ k, A.getD k 0 + B.getD k 0 ≤ 1000000000) :
    Calls Try.prog 23 #[.agg #[.int .u64 (wa : Nat), .slice p n c], .agg #[.int .u64 (wb : Nat), .slice q n d]] w (BoP w (wa + wb) n (addL A B)) := by
  obtain ⟨i0, hi0, hz0, hz1, hz2⟩ := info_parts info_int
  have mixed : Try.prog.follows Departure.mixedOrders = true := by kernel_rfl
  obtain ⟨M, hM⟩ : ∃ M, M = madeCells (Value.int .i64 0).cells ((n : Int).toNat * i0.size) := ⟨_, rfl⟩
  have hmk : ∀ W : World, (Instr.makeSlice 23 (.int .i64 (n : Int)) (.int .i64 (n : Int))).run Try.prog W = .ok (.slice (some ⟨W.heap.size, 0, none⟩) n n) (W.alloc (.cells M 3)) := by
    intro W
    have := run_makeSlice W 23 3 i0 (.int .i64 0) Try.underlying23 hi0 hz0 .i64 .i64 (n : Int) (n : Int) (by omega) (by omega) (by rw [hz1]; omega) (by rw [hz2]; omega) (by omega)
    rw [this, ← hM]
    have e1 : ((n : Int)).toNat = n := by omega
    rw [e1]
  have HML : Hid (M.toList = zs (up (addT A B n 0))) := Lib.hid (by
    rw [hM, hz1, Nat.mul_one]
    have e1 : ((n : Int)).toNat = n := by omega
    rw [e1]
    show (madeCells #[Value.int .i64 0] n).toList = _
    rw [toList_madeCells_one]
    simp [addT, zs, up])
  obtain ⟨wt, hwt2⟩ : ∃ wt, wt = wa + wb := ⟨_, rfl⟩
  have ew : (wa : Int) + (wb : Int) = (wt : Int) := by omega
  have ww : IntKind.u64.wrap ((wt : Int)) = (wt : Int) := IntWalk.u64_in _ (by omega)
  rw [← hwt2]
  have HA := Lib.hid hA; have HB := Lib.hid hB; have HP := Lib.hid hp; have HQ := Lib.hid hq; have HS := Lib.hid hsm
  clear hM hA hB hp hq hsm hwt2 hwt
  go_enter Try.func23, Try.ntmps23
  go_wp2_with fail
  go_region
  all_goals (first
    | (obtain ⟨w5, hw5⟩ : ∃ w5, w5 = (((((w.alloc (.cells #[.int .u64 (wa : Nat), .slice p n c] 45)).alloc (.cells #[.int .u64 (wb : Nat), .slice q n d] 45)).alloc (.cells #[.int .u64 0, .slice none 0 0] 45)).alloc (.cells M 3)).alloc (.cells #[.int .u64 (wt : Nat), .slice (some ⟨w.heap.size + 1 + 1 + 1, 0, none⟩) n n] 45)).drew := ⟨_, rfl⟩
       rw [← hw5]
       obtain ⟨f1, f2, f3, f4, f5, f6, f7⟩ := five_allocs w (.cells #[.int .u64 (wa : Nat), .slice p n c] 45) (.cells #[.int .u64 (wb : Nat), .slice q n d] 45) (.cells #[.int .u64 0, .slice none 0 0] 45) (.cells M 3) (.cells #[.int .u64 (wt : Nat), .slice (some ⟨w.heap.size + 1 + 1 + 1, 0, none⟩) n n] 45)
       rw [← hw5] at f1 f2 f3 f4 f5 f6 f7
       obtain ⟨kb, hkb⟩ : ∃ kb, kb = w.heap.size + 1 + 1 + 1 + 1 := ⟨_, rfl⟩
       obtain ⟨g, hg⟩ : ∃ g, g = w.heap.size + 1 + 1 + 1 := ⟨_, rfl⟩
       rw [← hkb] at f5 ⊢
       rw [← hg] at f4 f5 ⊢
       have FK := Lib.hid f5; have FM := Lib.hid f4)
    | (obtain ⟨w5, hw5⟩ : ∃ w5, w5 = (((((w.alloc (.cells #[.int .u64 (wa : Nat), .slice p n c] 45)).alloc (.cells #[.int .u64 (wb : Nat), .slice q n d] 45)).alloc (.cells #[.int .u64 0, .slice none 0 0] 45)).alloc (.cells #[.int .u64 (wt : Nat), .slice (some ⟨w.heap.size + 1 + 1 + 1 + 1, 0, none⟩) n n] 45)).alloc (.cells M 3)).drew := ⟨_, rfl⟩
       rw [← hw5]
       obtain ⟨f1, f2, f3, f4, f5, f6, f7⟩ := five_allocs w (.cells #[.int .u64 (wa : Nat), .slice p n c] 45) (.cells #[.int .u64 (wb : Nat), .slice q n d] 45) (.cells #[.int .u64 0, .slice none 0 0] 45) (.cells #[.int .u64 (wt : Nat), .slice (some ⟨w.heap.size + 1 + 1 + 1 + 1, 0, none⟩) n n] 45) (.cells M 3)
       rw [← hw5] at f1 f2 f3 f4 f5 f6 f7
       obtain ⟨kb, hkb⟩ : ∃ kb, kb = w.heap.size + 1 + 1 + 1 := ⟨_, rfl⟩
       obtain ⟨g, hg⟩ : ∃ g, g = w.heap.size + 1 + 1 + 1 + 1 := ⟨_, rfl⟩
       rw [← hg] at f4 f5 ⊢
       rw [← hkb] at f4 ⊢
       have FK := Lib.hid f4; have FM := Lib.hid f5))
  all_goals
    have HKG : Hid (w.heap.size + 3 ≤ kb ∧ w.heap.size + 3 ≤ g ∧ kb ≠ g ∧ g < w5.heap.size ∧ kb < w5.heap.size) := Lib.hid (by omega)
    have FA := Lib.hid f1; have FB2 := Lib.hid f2; have FR := Lib.hid f3; have FB := Lib.hid f6
    clear hw5 hkb hg f1 f2 f3 f4 f5 f6 f7
    have hA : Hid (Arr w5 g 3 g n (zs (up (addT A B n 0)))) := Lib.hid (by
      have hl : (zs (up (addT A B n 0))).length = n := by rw [zs_length, up_length, addT_length HA.out HB.out (Nat.zero_le _)]
      have hsz : M.size = n := by rw [← Array.length_toList, HML.out, hl]
      refine ⟨by rw [hl]; omega, .inr ⟨g, n, M, rfl, Nat.le_refl _, FM.out, Nat.le_refl _, by unfold maxLen; omega, by rw [hsz]; omega, ?_⟩⟩
      rw [List.take_of_length_le (by rw [Array.length_toList, hsz]; omega), HML.out])
    clear FM hmk
    have k1b : w5.cell? ⟨kb, 1, none⟩ = some (.slice (some ⟨g, 0, none⟩) n n) := by simp [World.cell?, FK.out]
    go_wp2_with fail
    clear k1b
    go_loopw [20] (fun i wr => ∃ k : Nat, k ≤ n ∧ i = .int .i64 k ∧ Hid (Arr wr g 3 g n (zs (up (addT A B n k)))) ∧ Hid (wr.heap[w.heap.size]? = some (.cells #[.int .u64 (wa : Nat), .slice p n c] 45 (0, 0))) ∧ Hid (wr.heap[w.heap.size + 1]? = some (.cells #[.int .u64 (wb : Nat), .slice q n d] 45 (0, 0))) ∧ Hid (wr.heap[w.heap.size + 1 + 1]? = some (.cells #[.int .u64 0, .slice none 0 0] 45 (0, 0))) ∧ Hid (wr.heap[kb]? = some (.cells #[.int .u64 (wt : Nat), .slice (some ⟨g, 0, none⟩) n n] 45 (0, 0))) ∧ Hid (Below w.heap.size w wr)) (fun i _ => n - (intOf i).toNat)
    case atStart => exact ⟨0, Nat.zero_le _, rfl, hA, FA, FB2, FR, FK, FB⟩
    case round =>
      clear hA FA FB2 FR FK FB
      obtain ⟨k, hk, rfl, HR, H1, H2, H3, HK, HBl⟩ := hrel
      have hkg := HKG.out
      by_cases hlt : k < n
      · have k0 : (0 : Int) ≤ (k : Int) := by omega
        have k1 : (k : Int) < (n : Int) := by omega
        obtain ⟨pa, rfl, ca1⟩ := rd_z (HP.out.below HBl.out) k (by rw [up_length, HA.out]; exact hlt)
        obtain ⟨pb, rfl, cb1⟩ := rd_z (HQ.out.below HBl.out) k (by rw [up_length, HB.out]; exact hlt)
        rw [up_getD _ _ (by rw [HA.out]; exact hlt)] at ca1
        rw [up_getD _ _ (by rw [HB.out]; exact hlt)] at cb1
        have HTS := Lib.hid (addT_succ HA.out HB.out hlt)
        have hsm := HS.out k
        obtain ⟨x, hx⟩ : ∃ x, x = A.getD k 0 := ⟨_, rfl⟩
        obtain ⟨y, hy⟩ : ∃ y, y = B.getD k 0 := ⟨_, rfl⟩
        rw [← hx] at ca1 hsm HTS
        rw [← hy] at cb1 hsm HTS
        obtain ⟨z, hz⟩ : ∃ z, z = x + y := ⟨_, rfl⟩
        have ez : (x : Int) + (y : Int) = (z : Int) := by omega
        have wz : IntKind.i64.wrap ((z : Int)) = (z : Int) := IntWalk.i64_in _ (by omega)
        rw [← hz] at HTS
        have ca : wr.drew.cell? (pa.add k) = some (.int .i64 (x : Nat)) := ca1
        have cb : wr.drew.cell? (pb.add k) = some (.int .i64 (y : Nat)) := cb1
        have l1 : wr.drew.cell? ⟨w.heap.size, 1, none⟩ = some (.slice (some pa) n c) := by show wr.cell? _ = _; simp [World.cell?, H1.out]
        have l2 : wr.drew.cell? ⟨w.heap.size + 1, 1, none⟩ = some (.slice (some pb) n d) := by show wr.cell? _ = _; simp [World.cell?, H2.out]
        have lk : wr.drew.cell? ⟨kb, 1, none⟩ = some (.slice (some ⟨g, 0, none⟩) n n) := by show wr.cell? _ = _; simp [World.cell?, HK.out]
        have cg0 := HR.out.cell (show k < n by omega)
        have cg : wr.drew.cell? ⟨g, k, none⟩ = some ((zs (up (addT A B n k))).getD k (.bool false)) := cg0
        have fg : wr.drew.frozen? ⟨g, k, none⟩ = false := HR.out.free k
        generalize (zs (up (addT A B n k))).getD k (.bool false) = ov at cg
        have E1 : Hid (Arr (wr.drew.setCell ⟨g, k, none⟩ (.int .i64 (z : Nat))) g 3 g n (zs (up (addT A B n (k + 1))))) := Lib.hid (by
          have := (HR.out.drewN 1).set k (.int .i64 (z : Nat))
          rw [zs_up_set, HTS.out] at this
          exact this)
        have E2 : Hid ((wr.drew.setCell ⟨g, k, none⟩ (.int .i64 (z : Nat))).heap[w.heap.size]? = some (.cells #[.int .u64 (wa : Nat), .slice (some pa) n c] 45 (0, 0))) := Lib.hid ((Below.heap_setCell _ _ _ _ (by show w.heap.size ≠ g; omega)).trans H1.out)
        have E3 : Hid ((wr.drew.setCell ⟨g, k, none⟩ (.int .i64 (z : Nat))).heap[w.heap.size + 1]? = some (.cells #[.int .u64 (wb : Nat), .slice (some pb) n d] 45 (0, 0))) := Lib.hid ((Below.heap_setCell _ _ _ _ (by show w.heap.size + 1 ≠ g; omega)).trans H2.out)
        have E4 : Hid ((wr.drew.setCell ⟨g, k, none⟩ (.int .i64 (z : Nat))).heap[w.heap.size + 1 + 1]? = some (.cells #[.int .u64 0, .slice none 0 0] 45 (0, 0))) := Lib.hid ((Below.heap_setCell _ _ _ _ (by show w.heap.size + 1 + 1 ≠ g; omega)).trans H3.out)
        have E5 : Hid ((wr.drew.setCell ⟨g, k, none⟩ (.int .i64 (z : Nat))).heap[kb]? = some (.cells #[.int .u64 (wt : Nat), .slice (some ⟨g, 0, none⟩) n n] 45 (0, 0))) := Lib.hid ((Below.heap_setCell _ _ _ _ (by show kb ≠ g; omega)).trans HK.out)
        have E6 := Lib.hid (below_put HBl.out.drew (a := ⟨g, k, none⟩) (by show w.heap.size ≤ g; omega) (.int .i64 (z : Nat)))
        clear hx hy hz hlt ca1 cb1 cg0 hsm
        go_wp2_with fail
        go_region
        all_goals go_wp2_with fail
        all_goals go_roundw
        all_goals (first
          | exact ⟨k + 1, by omega, by go_num, E1, E2, E3, E4, E5, E6⟩
          | (simp [intOf]; omega))
      · obtain rfl : k = n := by omega
        have k1 : ¬ (k : Int) < (k : Int) := by omega
        have c0 : wr.cell? ⟨kb, 0, none⟩ = some (.int .u64 (wt : Nat)) := by simp [World.cell?, HK.out]
        have c1 : wr.cell? ⟨kb, 1, none⟩ = some (.slice (some ⟨g, 0, none⟩) k k) := by simp [World.cell?, HK.out]
        have r0 : wr.cell? ⟨w.heap.size + 1 + 1, 0, none⟩ = some (.int .u64 0) := by simp [World.cell?, H3.out]
        have r1 : wr.cell? ⟨w.heap.size + 1 + 1, 1, none⟩ = some (.slice none 0 0) := by simp [World.cell?, H3.out]
        have g0 : wr.frozen? ⟨w.heap.size + 1 + 1, 0, none⟩ = false := by simp [World.frozen?, H3.out]
        have g1 : wr.frozen? ⟨w.heap.size + 1 + 1, 1, none⟩ = false := by simp [World.frozen?, H3.out]
        clear hlt
        have hW := Lib.hid (set_two wr (w.heap.size + 1 + 1) _ _ (.int .u64 (wt : Nat)) (.slice (some ⟨g, 0, none⟩) k k) _ H3.out)
        have E1 : Hid (Rd ((wr.setCell ⟨w.heap.size + 1 + 1, 0, none⟩ (.int .u64 (wt : Nat))).setCell ⟨w.heap.size + 1 + 1, 1, none⟩ (.slice (some ⟨g, 0, none⟩) k k)) (some ⟨g, 0, none⟩) (zs (up (addL A B)))) := Lib.hid (by
          rw [← addT_full HA.out HB.out]
          exact ((HR.out.other (a := ⟨w.heap.size + 1 + 1, 0, none⟩) (by show w.heap.size + 1 + 1 ≠ g; omega) _).other (a := ⟨w.heap.size + 1 + 1, 1, none⟩) (by show w.heap.size + 1 + 1 ≠ g; omega) _).rd)
        have E2 := Lib.hid (below_put (below_put HBl.out (a := ⟨w.heap.size + 1 + 1, 0, none⟩) (by show w.heap.size ≤ w.heap.size + 1 + 1; omega) (.int .u64 (wt : Nat))) (a := ⟨w.heap.size + 1 + 1, 1, none⟩) (by show w.heap.size ≤ w.heap.size + 1 + 1; omega) (.slice (some ⟨g, 0, none⟩) k k))
        go_wp2_with fail
        have hb3 := hW.out
        generalize ((wr.setCell ⟨w.heap.size + 1 + 1, 0, none⟩ (.int .u64 (wt : Nat))).setCell ⟨w.heap.size + 1 + 1, 1, none⟩ (.slice (some ⟨g, 0, none⟩) k k)) = wf at E1 E2 hb3 ⊢
        have q0 : wf.cell? ⟨w.heap.size + 1 + 1, 0, none⟩ = some (.int .u64 (wt : Nat)) := by simp [World.cell?, hb3]
        have q1 : wf.cell? ⟨w.heap.size + 1 + 1, 1, none⟩ = some (.slice (some ⟨g, 0, none⟩) k k) := by simp [World.cell?, hb3]
        refine bodyPost_ret (v := .agg #[.int .u64 (wt : Nat), .slice (some ⟨g, 0, none⟩) k k]) (by simp [results, Try.results23, go_sem, q0, q1]) rfl ?_
        exact ⟨g, rfl, E1.out, by omega, E2.out⟩
end Go.Proofs.Ytbegngilbngnoaa.Pk

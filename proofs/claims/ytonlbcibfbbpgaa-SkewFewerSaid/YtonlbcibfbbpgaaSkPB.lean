/- The walks of cmp.Compare and slices.Compare at uint64, and of package skew's compare. -/
import Derived.Test.YtonlbcibfbbpgaaSkB
import Derived.Test.YtonlbcibfbbpgaaOrdD
import Derived.Shelf.SlSortCmp.KitK
namespace Go.Proofs.Ytonlbcibfbbpgaa.Sk
open Go.RowKit Go.Lib Go.Sort Rw Ls Od _root_.Go.Proofs.Ytonlbcibfbbpgaa.Nm

def cmpN (x y : Nat) : Int := if x < y then -1 else if y < x then 1 else 0
def lexC (x y : List Nat) : Int := if lexL x y = true then -1 else if lexL y x = true then 1 else 0
theorem lexC_step (x y : List Nat) (k : Nat) (hx : k < x.length) (hy : k < y.length) : lexC (x.drop k) (y.drop k) = if x.getD k 0 = y.getD k 0 then lexC (x.drop (k + 1)) (y.drop (k + 1)) else cmpN (x.getD k 0) (y.getD k 0) := by
  have h1 := lexL_step x y k hx hy
  have h2 := lexL_step y x k hy hx
  by_cases e : x.getD k 0 = y.getD k 0
  · rw [if_pos e] at h1 ⊢
    rw [if_pos e.symm] at h2
    unfold lexC
    rw [h1, h2]
  · rw [if_neg e] at h1 ⊢
    rw [if_neg (fun h => e h.symm)] at h2
    unfold lexC cmpN
    rw [h1, h2]
    simp only [decide_eq_true_eq]
theorem lexC_long {x y : List Nat} {k : Nat} (hx : k < x.length) (hy : y.length ≤ k) : lexC (x.drop k) (y.drop k) = 1 := by
  unfold lexC
  rw [List.drop_eq_nil_of_le hy, lexL_nil_right, if_neg (by simp), lexL_nil_left, List.length_drop, if_pos (by simp; omega)]
theorem lexC_end {x y : List Nat} {k : Nat} (hx : x.length = k) : lexC (x.drop k) (y.drop k) = if k < y.length then -1 else 0 := by
  unfold lexC
  rw [List.drop_eq_nil_of_le (by omega : x.length ≤ k), lexL_nil_left, lexL_nil_right, List.length_drop]
  by_cases h : k < y.length
  · rw [if_pos h, if_pos (by simp; omega)]
  · rw [if_neg h, if_neg (by simp; omega), if_neg (by simp)]
theorem cmpu_any (x y : Nat) (w : World) : Calls Try.prog 54 #[.int .u64 x, .int .u64 y] w fun e w' => e = .returned (.int .i64 (cmpN x y)) ∧ w' = w := by
  unfold cmpN
  by_cases h1 : x < y
  · rw [if_pos h1]
    have d1 : (x : Int) < (y : Int) := by omega
    clear h1
    go_enter Try.func54, Try.ntmps54
    go_wp2
    go_ret
    exact ⟨rfl, rfl⟩
  · rw [if_neg h1]
    have d1 : ¬ (x : Int) < (y : Int) := by omega
    by_cases h2 : y < x
    · rw [if_pos h2]
      have d2 : (y : Int) < (x : Int) := by omega
      clear h1 h2
      go_enter Try.func54, Try.ntmps54
      go_wp2
      go_ret
      exact ⟨rfl, rfl⟩
    · rw [if_neg h2]
      have d2 : ¬ (y : Int) < (x : Int) := by omega
      clear h1 h2
      go_enter Try.func54, Try.ntmps54
      go_wp2
      go_ret
      exact ⟨rfl, rfl⟩
set_option maxHeartbeats 4000000 in
set_option maxRecDepth 100000 in
theorem cmps_any (x y : List Nat) (m n c d : Nat) (p q : Option Addr) (w : World) (hm : m = x.length) (hn : n = y.length) (hp : Rd w p (nums x)) (hq : Rd w q (nums y)) (h1 : m ≤ 17592186044416) :
    Calls Try.prog 37 #[.slice p m c, .slice q n d] w fun e w' => e = .returned (.int .i64 (lexC x y)) ∧ w' = w := by
  have HP := Lib.hid hp; have HQ := Lib.hid hq; have HM := Lib.hid hm; have HN := Lib.hid hn
  have HC := Lib.hid (fun u v w => cmpu_any u v w)
  clear hp hq hm hn
  go_enter Try.func37, Try.ntmps37
  go_wp2_with fail
  go_loop [11] (fun i => ∃ k : Nat, k ≤ m ∧ i = .int .i64 k ∧ Hid (k ≤ n ∧ lexC x y = lexC (x.drop k) (y.drop k))) (fun i => m - (intOf i).toNat)
  case atStart => exact ⟨0, by omega, rfl, Lib.hid ⟨Nat.zero_le _, rfl⟩⟩
  case round =>
    obtain ⟨k, hk, rfl, HI⟩ := hrel
    by_cases hlt : k < m
    · obtain ⟨a, rfl, ca⟩ := rd_num HP.out k (by rw [← HM.out]; exact hlt)
      obtain ⟨u, hu⟩ : ∃ u, u = x.getD k 0 := ⟨_, rfl⟩
      rw [← hu] at ca
      have HU := Lib.hid hu
      have k0 : (0 : Int) ≤ (k : Int) := by omega
      have k1 : (k : Int) < (m : Int) := by omega
      clear hu
      by_cases hln : k < n
      · obtain ⟨b, rfl, cb⟩ := rd_num HQ.out k (by rw [← HN.out]; exact hln)
        obtain ⟨v, hv⟩ : ∃ v, v = y.getD k 0 := ⟨_, rfl⟩
        rw [← hv] at cb
        have HV := Lib.hid hv
        have k2 : (k : Int) < (n : Int) := by omega
        have hs := lexC_step x y k (by rw [← HM.out]; exact hlt) (by rw [← HN.out]; exact hln)
        rw [← HU.out, ← HV.out] at hs
        clear hv hlt
        by_cases e : u = v
        · have r0 : cmpN u v = 0 := by unfold cmpN; rw [if_neg (by omega), if_neg (by omega)]
          rw [if_pos e] at hs
          have HS : Hid (k + 1 ≤ n ∧ lexC x y = lexC (x.drop (k + 1)) (y.drop (k + 1))) := Lib.hid ⟨by omega, HI.out.2.trans hs⟩
          have C := Lib.hid (HC.out u v)
          rw [r0] at C
          clear hs hln r0 e
          go_wp2_with fail
          refine (C.out _).mono ?_
          rintro e w' ⟨rfl, rfl⟩
          go_wp2_with fail
          go_round
          case rel => exact ⟨k + 1, by omega, by go_num, HS⟩
          case measure => simp [intOf]; omega
        · rw [if_neg e] at hs
          have HS : Hid (cmpN u v = lexC x y) := Lib.hid (HI.out.2.trans hs).symm
          have r0 : cmpN u v ≠ 0 := by unfold cmpN; split <;> (try split) <;> omega
          have C := Lib.hid (HC.out u v)
          obtain ⟨r, hr⟩ : ∃ r, r = cmpN u v := ⟨_, rfl⟩
          rw [← hr] at HS C r0
          have t : (r == 0) = false := by rw [beq_eq_false_iff_ne]; exact r0
          have t2 : (r != 0) = true := by simpa using r0
          clear hs hln hr e
          go_wp2_with fail
          refine (C.out _).mono ?_
          rintro e w' ⟨rfl, rfl⟩
          go_wp2_with fail
          go_ret
          exact ⟨ret_int HS.out, rfl⟩
      · have k2 : ¬ (k : Int) < (n : Int) := by omega
        have HS : Hid (1 = lexC x y) := Lib.hid (HI.out.2.trans (lexC_long (by rw [← HM.out]; exact hlt) (by rw [← HN.out]; omega))).symm
        clear hln hlt
        go_wp2_with fail
        go_ret
        exact ⟨ret_int HS.out, rfl⟩
    · obtain rfl : k = m := by omega
      have k1 : ¬ (k : Int) < (k : Int) := by omega
      have hs := HI.out.2.trans (lexC_end HM.out.symm)
      rw [← HN.out] at hs
      by_cases hln : k < n
      · rw [if_pos hln] at hs
        have HS : Hid (-1 = lexC x y) := Lib.hid hs.symm
        have k2 : (k : Int) < (n : Int) := by omega
        clear hs hln hlt
        go_wp2_with fail
        go_ret
        exact ⟨ret_int HS.out, rfl⟩
      · rw [if_neg hln] at hs
        have HS : Hid (0 = lexC x y) := Lib.hid hs.symm
        have k2 : ¬ (k : Int) < (n : Int) := by omega
        clear hs hln hlt
        go_wp2_with fail
        go_ret
        exact ⟨ret_int HS.out, rfl⟩
abbrev T3 : Type := Nat × Nat × Nat
def tl (t : T3) : List Nat := [t.1, t.2.1, t.2.2]
def encT (t : T3) : List Value := [.int .u64 t.1, .int .u64 t.2.1, .int .u64 t.2.2]
theorem encT_nums (t : T3) : encT t = nums (tl t) := rfl
theorem box3_rd (W : World) (t : T3) (ty : TypeId) : Rd (W.alloc (.cells (encT t).toArray ty)) (some ⟨W.heap.size, 0, none⟩) (nums (tl t)) := fun i hi => by
  refine ⟨_, rfl, by simp, ?_⟩
  have h1 : i < 3 := by simpa [tl, nums] using hi
  rw [Addr.add_lit, Nat.zero_add, World.cell?_alloc_at (w := W) _ _ W.heap.size i rfl]
  rcases i with _ | _ | _ | i
  · rfl
  · rfl
  · rfl
  · omega
set_option maxHeartbeats 4000000 in
theorem compare_any (x y : T3) (W : World) : Calls Try.prog 45 #[.agg (encT x).toArray, .agg (encT y).toArray] W fun e w' => e = .returned (.int .i64 (lexC (tl x) (tl y))) ∧ ∃ q os', w' = grow (W.drewN q) os' := by
  have hp := box3_rd W x 50
  have hq := box3_rd (W.alloc (.cells (encT x).toArray 50)) y 50
  rw [World.size_alloc] at hq
  have hp2 := hp.alloc (.cells (encT y).toArray 50)
  have HC : Hid (∀ z, Calls Try.prog 37 #[.slice (some ⟨W.heap.size, 0, none⟩) 3 3, .slice (some ⟨W.heap.size + 1, 0, none⟩) 3 3] (((W.alloc (.cells (encT x).toArray 50)).alloc (.cells (encT y).toArray 50)).drewN z) fun e w' => e = .returned (.int .i64 (lexC (tl x) (tl y))) ∧ w' = ((W.alloc (.cells (encT x).toArray 50)).alloc (.cells (encT y).toArray 50)).drewN z) :=
    Lib.hid (fun z => cmps_any (tl x) (tl y) 3 3 3 3 _ _ _ rfl rfl (hp2.drewN z) (hq.drewN z) (by omega))
  clear hp hq hp2
  generalize lexC (tl x) (tl y) = r at HC ⊢
  obtain ⟨x1, x2, x3⟩ := x
  obtain ⟨y1, y2, y3⟩ := y
  simp only [encT] at HC ⊢
  go_enter Try.func45, Try.ntmps45
  go_wp2_with fail
  go_quiet ((go_at_call 37; refine Calls.quiet_of_same (HC.out _)))
  go_wp2_with fail
  go_ret
  exact ⟨rfl, nq, #[_, _], by rw [alloc_eq_grow, alloc_eq_grow, grow_grow]; rfl⟩
end Go.Proofs.Ytonlbcibfbbpgaa.Sk

/- The walk of package pack's counts: levels from the last one down. -/
import Derived.Test.YtbegngilbngnoaaPsF
import Derived.Test.YtbegngilbngnoaaPsG
import Derived.OwnWalkIn
import Derived.TacticsInMore
import Derived.LoopNIn
import Derived.LoopIn
import Derived.Shelf.RegionOpen
namespace Go.Proofs.Ytbegngilbngnoaa.Ps
open Go.RowKit Go.Lib Rw Ls Od Pk St _root_.Go.Proofs.Ytbegngilbngnoaa.Nm
attribute [local go_sem] Oper.semAt_some
theorem wide_fn' (f : FuncId) : Fence.wide.fn f = True := rfl
attribute [local go_sem] wide_fn'

/-- numbers from n down to 0, n left out -/
def downs (n : Nat) : List Nat := (List.range n).reverse
theorem downs_succ (n : Nat) : downs (n + 1) = n :: downs n := by simp [downs, List.range_succ]
theorem downs_split : ∀ (n k : Nat), k ≤ n → downs n = (downs n).take (n - k) ++ downs k
  | n, k, h => by
    induction n with
    | zero => obtain rfl : k = 0 := by omega
              rfl
    | succ n ih =>
      by_cases e : k = n + 1
      · subst e; simp
      · rw [downs_succ, show n + 1 - k = (n - k) + 1 by omega, List.take_succ_cons, List.cons_append, ← ih (by omega)]
theorem downs_length (n : Nat) : (downs n).length = n := by simp [downs]
theorem downs_take {n k : Nat} (h : k < n) : (downs n).take (n - (k + 1)) ++ [k] = (downs n).take (n - k) := by
  have h1 := downs_split n (k + 1) (by omega)
  have h2 := downs_split n k (by omega)
  rw [downs_succ] at h1
  have e : (downs n).take (n - k) ++ downs k = ((downs n).take (n - (k + 1)) ++ [k]) ++ downs k := by rw [← h2, List.append_assoc]; exact h1
  exact (List.append_cancel_right e).symm
/-- where a list is parted tells what is at the place -/
theorem downs_at {n : Nat} {pre rest : List Nat} {x : Nat} (h : downs n = pre ++ x :: rest) : x < n ∧ pre.length = n - 1 - x ∧ pre = (downs n).take (n - (x + 1)) := by
  have hl : pre.length < n := by
    have := congrArg List.length h
    rw [downs_length, List.length_append, List.length_cons] at this; omega
  have hx : (downs n)[pre.length]? = some x := by rw [h]; simp
  have hx2 : (downs n)[pre.length]? = some (n - 1 - pre.length) := by
    unfold downs
    rw [List.getElem?_reverse (by simpa using hl), List.length_range, List.getElem?_range (by omega)]
  rw [hx] at hx2
  have e : x = n - 1 - pre.length := by injection hx2
  refine ⟨by omega, by omega, ?_⟩
  rw [show n - (x + 1) = pre.length by omega, h]; simp
/-- what the iterator reads -/
def BkR (Bx ga n cap : Nat) (val : Nat → Value) (W : World) : Prop := W.cell? ⟨Bx, 0, none⟩ = some (.slice (some ⟨ga, 0, none⟩) n cap) ∧ ∀ j, j < n → W.cell? ⟨ga, j, none⟩ = some (val j)
set_option maxRecDepth 100000 in
set_option maxHeartbeats 4000000 in
theorem back_tells (Bx ga n cap : Nat) (val : Nat → Value) (hn : n ≤ 4096) :
    Tells Fence.wide 3 Try.prog 31 #[.pointer (some ⟨Bx, 0, none⟩)] (fun j : Nat => #[Value.int .i64 (j : Nat), val j]) (downs n) (BkR Bx ga n cap val) := by
  intro l J W hR hY h0
  have HY := Lib.hid hY; have H0 := Lib.hid h0; have HR := Lib.hid hR
  have vw : IntKind.i64.wrap ((n : Int) - 1) = (n : Int) - 1 := IntWalk.i64_in _ (by omega)
  have C1 := (hR [] W h0).1
  clear hY h0 hR
  refine callsIn_of_wp Try.func31 rfl trivial ?_ rfl
  simp only [Try.ntmps31, List.size_toArray, List.length_cons, List.length_nil, Nat.reduceAdd, Nat.reduceSub, Array.replicate_succ, Array.replicate_zero, List.push_toArray, List.append_toArray, List.nil_append, List.cons_append]
  gi_wp2_with fail
  gi_loopw [3] (fun i wr => ∃ r : Nat, r ≤ n ∧ i = .int .i64 ((r : Int) - 1) ∧ Hid (J ((downs n).take (n - r)) wr)) (fun i _ => (intOf i + 1).toNat)
  case atStart => exact ⟨n, Nat.le_refl _, rfl, Lib.hid (by rw [Nat.sub_self]; exact H0.out)⟩
  case round =>
    clear H0 C1
    obtain ⟨r, hr, rfl, HJ⟩ := hrel
    cases r with
    | succ m =>
      have em : (((m + 1 : Nat) : Int) - 1) = (m : Int) := by omega
      rw [em]
      have m0 : (0 : Int) ≤ (m : Int) := by omega
      have m1 : (m : Int) < (n : Int) := by omega
      have mw : IntKind.i64.wrap ((m : Int) - 1) = (m : Int) - 1 := IntWalk.i64_in _ (by omega)
      obtain ⟨cb, cj⟩ := HR.out _ _ HJ.out
      have cz := cj m (by omega)
      obtain ⟨fn, tmps, assign, body, hy, hY2⟩ := HY.out ((downs n).take (n - (m + 1))) m (downs m) wr (by rw [← downs_succ]; exact downs_split n (m + 1) hr) HJ.out
      have HT : Hid ((downs n).take (n - (m + 1)) ++ [m] = (downs n).take (n - m)) := Lib.hid (downs_take (by omega))
      have hm : m ≤ n := by omega
      clear hr em cj
      gi_wp2
      refine hY2.mono ?_
      rintro e w3 ⟨rfl, hJ3⟩
      have HJ3 : Hid (J ((downs n).take (n - m)) w3) := Lib.hid (by rw [← HT.out]; exact hJ3)
      clear hJ3
      gi_wp2
      go_roundw
      case rel => exact ⟨m, hm, rfl, HJ3⟩
      case measure => simp [intOf]
    | zero =>
      have k1 : ¬ ((0 : Int) ≤ ((0 : Nat) : Int) - 1) := by omega
      have F : Hid (J (downs n) wr) := Lib.hid (by have := HJ.out; rw [Nat.sub_zero, List.take_of_length_le (by rw [downs_length]; exact Nat.le_refl _)] at this; exact this)
      gi_wp2
      go_end0
      exact ⟨⟨_, rfl⟩, F.out⟩
theorem back_enters : ∀ args w, (callFunc 31 args).run Try.prog w = .ok (.enter 31 args) w := enters_of Try.func31 (by kernel_rfl) rfl
theorem backward_any (p : Option Addr) (n c : Nat) (w : World) :
    Calls Try.prog 26 #[.slice p n c] w fun e w' => e = .returned (.func (.func 31) #[] #[.pointer (some ⟨w.heap.size, 0, none⟩)]) ∧ w' = w.alloc (.cells #[.slice p n c] 40) := by
  go_enter Try.func26, Try.ntmps26
  go_wp2
  go_ret
  exact ⟨rfl, rfl⟩
end Go.Proofs.Ytbegngilbngnoaa.Ps

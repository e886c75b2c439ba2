/- The iterator: above's closure, as a contract that a loop over it can use. -/
import Derived.Test.YthkgdjclgphodaaLsWalkF
import Derived.RangeFuncFrom
import Derived.RangeFuncNested
import Derived.RangeFuncBound
import Derived.RangeFuncCalls
import Derived.RangeFuncLeaves
import Derived.Shelf.Abstract
import Derived.OwnWalkIn
import Derived.TacticsInMore
import Derived.LoopNIn
import Derived.LoopIn
import Derived.Sort.QuietIn
namespace Go.Proofs.Ythkgdjclgphodaa.Ls
open Go.RowKit Rw Nm
attribute [local go_sem] Oper.semAt_some

theorem drewN_grown (w : World) (n : Nat) (row : Option Nat) : w.grownBy (w.drewN n) row := ⟨rfl, rfl, rfl, Nat.le_refl _, fun _ _ _ => rfl⟩
theorem path_len (n : Nat) : n < 2 ^ (path n).length := by
  induction n using Nat.strongRecOn with
  | ind n ih =>
    by_cases h : 1 ≤ n
    · rw [path_pos h, List.length_cons, Nat.pow_succ]
      have := ih (n / 2) (by omega)
      omega
    · have : n = 0 := by omega
      subst this
      simp [path_zero]

set_option maxRecDepth 100000 in
set_option maxHeartbeats 2000000 in
theorem above1_in (l Bg Bl g k c m i : Nat) (p : Option Addr) (hm : m = (k + i) / 2) (hk : k ≤ 256) (hi : i < k) (J Jx : List Nat → World → Prop) (W : World) (hJ : AbidesFrom W.heap.size J)
    (hY : ∀ pre x W, x < k → J pre W → pre.length < (path m).length → YieldAt Fence.wide (3 - 1) Try.prog l #[.int .i64 (x : Nat)] W fun e W' =>
      (e = .returned (.bool true) ∧ J (pre ++ [x]) W' ∧ True) ∨ (e = .returned (.bool false) ∧ Jx (pre ++ [x]) W'))
    (h1 : W.cell? ⟨Bg, 0, none⟩ = some (.pointer (some ⟨g, 0, none⟩))) (h2 : W.cell? ⟨Bl, 0, none⟩ = some (.int .i64 (i : Nat))) (h3 : W.cell? ⟨g, 0, none⟩ = some (.slice p k c)) (h0 : J [] W) :
    CallsIn Fence.wide 3 Try.prog 43 #[.func (.yield l) #[] #[], .pointer (some ⟨Bg, 0, none⟩), .pointer (some ⟨Bl, 0, none⟩)] W fun e W' => (∃ v, e = .returned v) ∧
      ((∃ ys, ys = path m ∧ J ys W') ∨ (∃ pre, pre <+: path m ∧ Jx pre W')) := by
  have hJ2 : ∀ z, J [] (W.drewN z) := fun z => hJ _ _ _ none h0 (drewN_grown W z none) (fun r e => by cases e)
  have e1 : IntKind.i64.wrap ((k : Int) + (i : Int)) = (k : Int) + (i : Int) := IntWalk.i64_in _ (by omega)
  have e2 : ((k : Int) + (i : Int)).tdiv 2 = (m : Int) := by rw [hm, Int.tdiv_eq_ediv_of_nonneg (by omega)]; omega
  have HJ2 := Lib.hid hJ2
  have hmb : m < k := by omega
  clear hJ2 hm
  refine callsIn_of_wp Try.func43 rfl trivial ?_ rfl
  simp only [Try.ntmps43, List.size_toArray, List.length_cons, List.length_nil, Nat.reduceAdd, Nat.reduceSub, Array.replicate_succ, Array.replicate_zero, List.push_toArray, List.append_toArray, List.nil_append, List.cons_append]
  gi_wp2
  gi_quiet (fail)
  gi_wp2
  gi_loopw [4] (fun v wr => ∃ (pre : List Nat) (n : Nat), v = .int .i64 (n : Nat) ∧ path m = pre ++ path n ∧ n ≤ m ∧ J pre wr) (fun v _ => (intOf v).toNat)
  case atStart => exact ⟨[], m, rfl, rfl, Nat.le_refl _, HJ2.out _⟩
  case round =>
    obtain ⟨pre, n, rfl, hp, hn, hJs⟩ := hrel
    by_cases hn1 : 1 ≤ n
    · have hp2 : path m = (pre ++ [n]) ++ path (n / 2) := by rw [hp, path_pos hn1]; simp
      obtain ⟨fn, tmps, assign, body, hy, hR⟩ := hY pre n wr (by omega) hJs (by rw [hp2]; simp)
      have t1 : decide ((1 : Int) ≤ (n : Int)) = true := decide_eq_true (by omega)
      have e3 : ((n : Int)).tdiv 2 = ((n / 2 : Nat) : Int) := by rw [Int.tdiv_eq_ediv_of_nonneg (by omega)]; omega
      have HP := Lib.hid hp2
      clear hp hp2 e1 e2
      gi_wp2
      refine hR.mono ?_
      rintro e W3 (⟨rfl, hJ3, _⟩ | ⟨rfl, hJx3⟩)
      · gi_wp2
        go_roundw
        case rel => exact ⟨pre ++ [n], n / 2, by go_num, HP.out, by omega, hJ3⟩
        case measure => simp [intOf]; omega
      · gi_wp2
        go_end0
        exact ⟨⟨_, rfl⟩, .inr ⟨pre ++ [n], ⟨_, HP.out.symm⟩, hJx3⟩⟩
    · obtain rfl : n = 0 := by omega
      have HP : Hid (path m = pre) := Lib.hid (by rw [hp, path_zero]; simp)
      clear hp e1 e2
      gi_wp2
      refine ⟨fun _ h => (by cases h), ?_⟩
      gi_wp2
      go_end0
      exact ⟨⟨_, rfl⟩, .inl ⟨_, HP.out.symm, hJs⟩⟩

/-- above's value, as a contract for loops -/
theorem above_stops (Bg Bl g k c m i : Nat) (p : Option Addr) (w : World) (hm : m = (k + i) / 2) (hk : k ≤ 256) (hi : i < k) (hb1 : Bg < w.heap.size) (hb2 : Bl < w.heap.size) (hb3 : g < w.heap.size)
    (h1 : w.cell? ⟨Bg, 0, none⟩ = some (.pointer (some ⟨g, 0, none⟩))) (h2 : w.cell? ⟨Bl, 0, none⟩ = some (.int .i64 (i : Nat))) (h3 : w.cell? ⟨g, 0, none⟩ = some (.slice p k c)) :
    SeqStopsK Fence.wide 3 Try.prog 43 #[.pointer (some ⟨Bg, 0, none⟩), .pointer (some ⟨Bl, 0, none⟩)] (fun x : Nat => #[Value.int .i64 (x : Nat)]) (fun _ _ => True) (fun xs => xs = path m) (fun pre => pre <+: path m) (path m).length w :=
  fun l J Jx W hW hJ _ hY h0 => above1_in l Bg Bl g k c m i p hm hk hi J Jx W hJ (fun pre x W _ => hY pre x W)
    ((hW.cell (p := ⟨Bg, 0, none⟩) hb1).trans h1) ((hW.cell (p := ⟨Bl, 0, none⟩) hb2).trans h2) ((hW.cell (p := ⟨g, 0, none⟩) hb3).trans h3) h0
/-- the same, of nodes that are below the count of leaves -/
theorem above_stopsF (Bg Bl g k c m i : Nat) (p : Option Addr) (w : World) (hm : m = (k + i) / 2) (hk : k ≤ 256) (hi : i < k) (hb1 : Bg < w.heap.size) (hb2 : Bl < w.heap.size) (hb3 : g < w.heap.size)
    (h1 : w.cell? ⟨Bg, 0, none⟩ = some (.pointer (some ⟨g, 0, none⟩))) (h2 : w.cell? ⟨Bl, 0, none⟩ = some (.int .i64 (i : Nat))) (h3 : w.cell? ⟨g, 0, none⟩ = some (.slice p k c)) :
    SeqStopsK Fence.wide 3 Try.prog 43 #[.pointer (some ⟨Bg, 0, none⟩), .pointer (some ⟨Bl, 0, none⟩)] (fun x : Fin k => #[Value.int .i64 (x.val : Nat)]) (fun _ _ => True) (fun xs => xs.map Fin.val = path m) (fun pre => pre.map Fin.val <+: path m) (path m).length w := by
  intro l J Jx W hW hJ hJx hY h0
  refine (above1_in l Bg Bl g k c m i p hm hk hi (fun L W => ∃ F : List (Fin k), F.map Fin.val = L ∧ J F W) (fun L W => ∃ F : List (Fin k), F.map Fin.val = L ∧ Jx F W) W ?_ ?_
    ((hW.cell (p := ⟨Bg, 0, none⟩) hb1).trans h1) ((hW.cell (p := ⟨Bl, 0, none⟩) hb2).trans h2) ((hW.cell (p := ⟨g, 0, none⟩) hb3).trans h3) ⟨[], rfl, h0⟩).mono ?_
  · rintro s A B row ⟨F, e, hs⟩ hg hr
    exact ⟨F, e, hJ F A B row hs hg hr⟩
  · rintro pre x W1 hx ⟨F, rfl, hs⟩ hl
    obtain ⟨fn, tmps, assign, body, hy, hR⟩ := hY F ⟨x, hx⟩ W1 hs (by simpa using hl)
    refine ⟨fn, tmps, assign, body, hy, hR.mono ?_⟩
    rintro e W' (⟨rfl, hJ', _⟩ | ⟨rfl, hJx'⟩)
    · exact .inl ⟨rfl, ⟨_, by simp, hJ'⟩, trivial⟩
    · exact .inr ⟨rfl, _, by simp, hJx'⟩
  · rintro e W' ⟨he, ⟨ys, rfl, F, hF, hs⟩ | ⟨pre, hp, F, hF, hs⟩⟩
    · exact ⟨he, .inl ⟨F, hF, hs⟩⟩
    · exact ⟨he, .inr ⟨F, by show F.map Fin.val <+: path m; rw [hF]; exact hp, hs⟩⟩
end Go.Proofs.Ythkgdjclgphodaa.Ls

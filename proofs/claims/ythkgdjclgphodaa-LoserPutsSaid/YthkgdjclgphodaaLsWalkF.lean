/- The walks of winner, best, isEmpty and above, over a tree at work, wherever it lies. -/
import Derived.Test.YthkgdjclgphodaaLsWalkE
namespace Go.Proofs.Ythkgdjclgphodaa.Ls
open Go.RowKit Rw Nm

theorem add_zero' (a : Addr) : a.add 0 = a := by cases a; simp [Addr.add]
section
variable {w : World} {g n c k c0 m d i : Nat} {a p : Addr} {q : Option Addr}
theorem winner_any (h1 : w.cell? ⟨g, 1, none⟩ = some (.slice (some a) n c)) (hn : 1 ≤ n) (ha : w.cell? a = some (.int .i64 (i : Nat))) :
    Calls Try.prog 30 #[.pointer (some ⟨g, 0, none⟩)] w fun e w' => e = .returned (.int .i64 (i : Nat)) ∧ w = w' := by
  have n1 : (0 : Int) < (n : Int) := by omega
  have ha2 : w.cell? (a.add 0) = some (.int .i64 (i : Nat)) := by rw [add_zero']; exact ha
  clear hn
  go_enter Try.func30, Try.ntmps30
  go_wp2_with fail
  go_ret
  exact ⟨rfl, rfl⟩
theorem best_any (h0 : w.cell? ⟨g, 0, none⟩ = some (.slice (some p) k c0)) (h1 : w.cell? ⟨g, 1, none⟩ = some (.slice (some a) n c)) (hn : 1 ≤ n) (ha : w.cell? a = some (.int .i64 (i : Nat)))
    (hi : i < k) (hk : w.cell? (p.add i) = some (.slice q m d)) :
    Calls Try.prog 32 #[.pointer (some ⟨g, 0, none⟩)] w fun e w' => e = .returned (.slice q m d) ∧ ∃ n, w' = w.drewN n := by
  have HC : ∀ z, Calls Try.prog 30 #[.pointer (some ⟨g, 0, none⟩)] (w.drewN z) fun e w' => e = .returned (.int .i64 (i : Nat)) ∧ w.drewN z = w' :=
    fun z => winner_any (by simpa using h1) hn (by simpa using ha)
  have i0 : (0 : Int) ≤ (i : Int) := by omega
  have i1 : (i : Int) < (k : Int) := by omega
  clear hn hi ha h1
  go_enter Try.func32, Try.ntmps32
  go_wp2_with fail
  go_quiet ((go_at_call 30; exact quiet2 HC _))
  go_wp2_with fail
  go_ret
  exact ⟨rfl, nq, rfl⟩
theorem isEmpty_any (h0 : w.cell? ⟨g, 0, none⟩ = some (.slice (some p) k c0)) (h1 : w.cell? ⟨g, 1, none⟩ = some (.slice (some a) n c)) (hn : 1 ≤ n) (ha : w.cell? a = some (.int .i64 (i : Nat)))
    (hi : i < k) (hk : w.cell? (p.add i) = some (.slice q m d)) :
    Calls Try.prog 29 #[.pointer (some ⟨g, 0, none⟩)] w fun e w' => e = .returned (.bool (decide (m = 0))) ∧ ∃ n, w' = w.drewN n := by
  have HC := best_any h0 h1 hn ha hi hk
  have F : Hid (((m : Int) == 0) = decide (m = 0)) := Lib.hid (by rw [Bool.eq_iff_iff]; simp)
  clear h0 h1 hn ha hi hk
  go_enter Try.func29, Try.ntmps29
  go_wp2_with (go_at_call 32; refine HC.mono ?_; rintro e w' ⟨rfl, j, rfl⟩)
  go_ret
  exact ⟨ret_bool F.out, j, rfl⟩
theorem above_any (w : World) (v : Option Addr) (u : Int) :
    Calls Try.prog 36 #[.pointer v, .int .i64 u] w fun e w' => e = .returned (.func (.func 43) #[] #[.pointer (some ⟨w.heap.size, 0, none⟩), .pointer (some ⟨w.heap.size + 1, 0, none⟩)]) ∧
      (w.alloc (.cells #[.pointer v] 49)).alloc (.cells #[.int .i64 u] 3) = w' := by
  go_enter Try.func36, Try.ntmps36
  go_wp2_with fail
  go_ret
  exact ⟨rfl, rfl⟩
end
end Go.Proofs.Ythkgdjclgphodaa.Ls

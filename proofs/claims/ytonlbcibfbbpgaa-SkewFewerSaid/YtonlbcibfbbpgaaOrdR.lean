/- rerank and sorted: the order of a list of ranks' ends. -/
import Derived.Test.YtonlbcibfbbpgaaOrdA
namespace Go.Proofs.Ytonlbcibfbbpgaa.Od
open Go.RowKit Go.Lib Rw Ls St _root_.Go.Proofs.Ytonlbcibfbbpgaa.Nm

/-- the ranks anew, and how many are unlike -/
def RrP (R E : List Nat) (s n : Nat) (w : World) (e : Ending) (w' : World) : Prop := ∃ (q : Option Addr) (c : Nat), e = .returned (.tuple #[.slice q n c, .int .i64 (cls (cf R s) E (n - 1))]) ∧ Rd w' q (zs (up (rrO (cf R s) E n n))) ∧ NewAt w.heap.size q ∧ Below w.heap.size w w'
theorem gr_below {w w' : World} (h : ∃ q os, w' = Go.Sort.grow (w.drewN q) os) : Below w.heap.size w w' := by
  obtain ⟨q, os, rfl⟩ := h
  exact ⟨rfl, rfl, rfl, by rw [Go.Sort.size_grow]; exact Nat.le_add_right _ _, fun k hk => Go.Sort.heap_grow_old _ _ hk⟩
/-- new places -/
def NewP (w : World) (L : List Nat) (e : Ending) (w' : World) : Prop := ∃ (q : Option Addr) (c : Nat), e = .returned (.slice q L.length c) ∧ c = L.length ∧ Rd w' q (zs (up L)) ∧ NewAt w.heap.size q ∧ Fz w' q L.length ∧ (∀ a, q = some a → ∃ g, a = ⟨g, 0, none⟩) ∧ Below w.heap.size w w'
theorem zs_range (n : Nat) : ∀ k, k ≤ n → up (List.range k ++ List.replicate (n - k) 0) = up (List.range k ++ List.replicate (n - k) 0) := fun _ _ => rfl
theorem range_set (n k : Nat) (h : k < n) : (List.range k ++ List.replicate (n - k) 0).set k k = List.range (k + 1) ++ List.replicate (n - (k + 1)) 0 := by
  rw [show n - k = (n - (k + 1)) + 1 by omega, List.replicate_succ, List.set_append_right _ _ (by simp)]
  simp [List.range_succ]
end Go.Proofs.Ytonlbcibfbbpgaa.Od

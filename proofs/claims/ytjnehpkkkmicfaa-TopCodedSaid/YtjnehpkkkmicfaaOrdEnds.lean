/- The walk of the document's Ends. -/
import Derived.Test.YtjnehpkkkmicfaaOrdNum
import Derived.Test.YtjnehpkkkmicfaaStepRd
namespace Go.Proofs.Ytjnehpkkkmicfaa.Od
open Go.RowKit Go.Op Go.Lib Rw Nm Ls

theorem up_app (a b : List Nat) : up (a ++ b) = up a ++ up b := by simp [up]
theorem zs_app (a b : List Int) : zs (a ++ b) = zs a ++ zs b := by simp [zs]
theorem zs_up_take (L : List Nat) (k : Nat) : (zs (up L)).take k = zs (up (L.take k)) := by simp [zs, up, List.map_take]
theorem zs_up_drop (L : List Nat) (k : Nat) : (zs (up L)).drop k = zs (up (L.drop k)) := by simp [zs, up, List.map_drop]
/-- so many ends put in -/
def EndsR (w : World) (p : Option Addr) (l : List Nat) (n : Nat) (v i : Value) (wr : World) : Prop := ∃ (k : Nat) (A : Option Addr) (cap : Nat), k ≤ n ∧ i = .int .i64 k ∧ v = .slice A k cap ∧ k ≤ cap ∧ (A = none ∧ k = 0 ∨ ∃ g, A = some ⟨g, 0, none⟩) ∧ Rd wr A (zs (up (endsT l k))) ∧ (∀ a, A = some a → w.heap.size ≤ a.block) ∧ Fz wr A k ∧ Rd wr p (nums l) ∧ Below w.heap.size w wr
/-- the place goes down -/
def SpotR (l : List Nat) (k : Nat) (V : World) (a : Value) (wr : World) : Prop := ∃ s j : Nat, s ≤ k ∧ a = .int .i64 s ∧ spot l k (endsT l k) s = spot l k (endsT l k) k ∧ wr = V.drewN j
theorem cut_places {w : World} {g k cap s : Nat} {M : List Nat} (h : Rd w (some ⟨g, 0, none⟩) (zs (up M))) (hel : M.length = k) (ks : k ≤ cap) (hs : s ≤ k) : Rd w (if cap = s then some (⟨g, 0, none⟩ : Addr) else some ⟨g, s, none⟩) (zs (up (M.drop s))) := by
  rw [← zs_up_drop]
  by_cases e : s < k
  · rw [if_neg (by omega)]
    have := h.cut s (by rw [zs_length, up_length]; omega)
    simpa [Addr.add_lit] using this
  · rw [List.drop_eq_nil_of_le (by rw [zs_length, up_length]; omega)]
    exact Rd.nil _ _
theorem drop_none {w : World} {k s : Nat} {M : List Nat} (_ : Rd w none (zs (up M))) (hel : M.length = k) (hk : k = 0) : Rd w none (zs (up (M.drop s))) := by
  rw [← zs_up_drop, List.drop_eq_nil_of_le (by rw [zs_length, up_length]; omega)]
  exact Rd.nil _ _
end Go.Proofs.Ytjnehpkkkmicfaa.Od

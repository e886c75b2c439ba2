/- Cells set one behind the other: what lies below stays. -/
import Derived.Test.YtonlbcibfbbpgaaOrdPEnds
namespace Go.Proofs.Ytonlbcibfbbpgaa.Od
open Go.RowKit Go.Lib Rw Ls _root_.Go.Proofs.Ytonlbcibfbbpgaa.Nm

theorem setCells_below (b B : Nat) (hB : B ≤ b) : ∀ (vs : List Value) (o : Nat) (w0 w : World), Below B w0 w → Below B w0 (w.setCells b o vs)
  | [], _, _, _, h => h
  | v :: r, o, w0, w, h => by
    rw [World.setCells]
    exact setCells_below b B hB r (o + 1) w0 _ (below_put h (a := ⟨b, o, none⟩) hB v)
theorem setCells_size (b : Nat) : ∀ (vs : List Value) (o : Nat) (w : World), (w.setCells b o vs).heap.size = w.heap.size
  | [], _, _ => rfl
  | v :: r, o, w => by rw [World.setCells, setCells_size b r]; simp
theorem isSome_at {c : Array Value} {j : Nat} (h : j < c.size) : (c[j]?).isSome = true := by rw [Array.getElem?_eq_getElem h]; rfl
end Go.Proofs.Ytonlbcibfbbpgaa.Od

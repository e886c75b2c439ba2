/- Arguments opened: bools, writes. -/
import Derived.Test.YtfdpmbjbgigkgaaDkOpen
namespace Go.Proofs.Ytfdpmbjbgigkgaa.Dk
open Go.RowKit Go.ChangeShapes Go.WideShapes Go.Deep Go.Joins
section
variable {H : Type} {enc : TypeId × Value → H} {P : Program} {w : World} {base : Nat} {spare : Nat → Bool} {held : Bool}
theorem bools_of {t e : TypeId} {fuel : Nat} {A : Option Addr} {len cap : Nat} {x : DataW H × List MemPlace} (ht : P.underlying t = some (.slice e)) (he : P.underlying e = some .bool) (hce : P.cellsOf e = 1)
    (h : DataW.trod enc P w base spare held fuel t [.slice A len cap] = some x) : ∃ L : List Bool, L.length = len ∧ Rw.Rd w A (bools L) ∧ len ≤ cap ∧ cap ≤ maxLen := by
  rcases open_slice ht h with ⟨hcs, _⟩ | ⟨a, l, c, m, n, D, Pl, hcs, _, hl, hm, hmm, hx0, hx⟩
  · simp at hcs
    obtain ⟨rfl, rfl, rfl⟩ := hcs
    exact ⟨[], rfl, Rw.Rd.nil _ _, by simp, by simp⟩
  · simp at hcs
    obtain ⟨rfl, rfl, rfl⟩ := hcs
    have hlm : len ≤ m := by rw [hmm]; split <;> omega
    have each : ∀ i, i < len → ∃ b : Bool, w.cell? (a.add i) = some (.bool b) := by
      intro i hi
      obtain ⟨cs', g1, g2⟩ := hx i (by omega)
      rw [hce] at g1
      obtain ⟨_, hlen, hcell⟩ := World.cells?_some g1
      match cs', hlen with
      | [v0], _ =>
        obtain ⟨b, eb, _⟩ := DataW.trod_bool he g2
        have e0 := hcell 0 (by omega)
        rw [add_add, Nat.mul_one, Nat.add_zero] at e0
        have eb' : v0 = .bool b := by simpa using eb
        exact ⟨b, by simpa [eb'] using e0⟩
    obtain ⟨F, hF⟩ := choose_lt each
    refine ⟨(List.range len).map F, by simp, ?_, hl, hm⟩
    intro i hi
    simp only [bools, List.length_map, List.length_range] at hi
    have h1 := hF i hi
    have h2 := cell_lt2 h1
    rw [Rw.add_block] at h2
    refine ⟨a, rfl, h2, ?_⟩
    rw [h1]
    simp [bools, List.getD_eq_getElem?_getD, hi]
theorem writes_of {fuel : Nat} {A : Option Addr} {len cap : Nat} {x : DataW H × List MemPlace} (h : DataW.trod enc Try.prog w base spare held fuel 23 [.slice A len cap] = some x) (hq : ∀ k ∈ x.1.weights Try.prog 23, k ≤ reachBytes) :
    ∃ L : List Wr, L.length = len ∧ WrsAt w A L ∧ len ≤ cap ∧ cap ≤ maxLen :=
  writes_of0 Try.underlying23 Try.underlying51 (by kernel_rfl) rfl rfl rfl (by kernel_rfl) (by kernel_rfl) (by kernel_rfl) Try.underlying9 Try.underlying3 Try.underlying9 h hq
end
end Go.Proofs.Ytfdpmbjbgigkgaa.Dk

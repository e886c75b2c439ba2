/- Arguments opened: slices of numbers, of slices of numbers. -/
import Derived.Test.YtgpheofdeflhdaaNumLess
import Derived.OpenShut
import Derived.ChangeSlices
import Derived.Deep.Slices
import Derived.Deep.Grids
namespace Go.Proofs.Ytgpheofdeflhdaa.Op
open Go.RowKit Go.ChangeShapes Go.WideShapes Go.Deep Rw Nm

theorem cell_lt {w : World} {a : Addr} {v : Value} (h : w.cell? a = some v) : a.block < w.heap.size := by
  rcases Nat.lt_or_ge a.block w.heap.size with hl | hl
  · exact hl
  · unfold World.cell? at h
    rw [Array.getElem?_eq_none hl] at h
    cases h
section
variable {H : Type} {enc : TypeId × Value → H} {P : Program} {w : World} {base : Nat} {spare : Nat → Bool} {held : Bool}

theorem nums_of {t e : TypeId} {fuel : Nat} {A : Option Addr} {len cap : Nat} {x : DataW H × List MemPlace} (ht : P.underlying t = some (.slice e)) (he : P.underlying e = some (.int .u64)) (hc : P.cellsOf e = 1)
    (h : DataW.trod enc P w base spare held fuel t [.slice A len cap] = some x) : ∃ L : List Nat, L.length = len ∧ Rd w A (nums L) ∧ len ≤ cap ∧ cap ≤ maxLen ∧ (∀ n ∈ L, n < 18446744073709551616) := by
  rcases open_ints ht he hc h with ⟨hcs, _⟩ | ⟨a, l, c, zs, hcs, _, hl, hm, hz, _, hcell, hwf⟩
  · simp at hcs
    obtain ⟨rfl, rfl, rfl⟩ := hcs
    exact ⟨[], rfl, Rd.nil _ _, by simp, by simp, by simp⟩
  · simp at hcs
    obtain ⟨rfl, rfl, rfl⟩ := hcs
    have hlz : len ≤ zs.length := by rw [hz]; split <;> omega
    have hb : ∀ i, i < zs.length → 0 ≤ zs.getD i 0 ∧ zs.getD i 0 < 18446744073709551616 := by
      intro i hi
      have := hwf (zs.getD i 0) (by rw [List.getD_eq_getElem?_getD, List.getElem?_eq_getElem hi]; exact List.getElem_mem hi)
      have h2 := bounds_u64 this
      omega
    refine ⟨(zs.take len).map Int.toNat, by rw [List.length_map, List.length_take]; omega, ?_, hl, hm, ?_⟩
    · intro i hi
      rw [nums_length, List.length_map, List.length_take] at hi
      have hci := hcell i (by omega)
      have h2 := cell_lt hci
      rw [add_block] at h2
      refine ⟨a, rfl, h2, ?_⟩
      rw [hci, nums_getD _ _ (by rw [List.length_map, List.length_take]; omega)]
      have h3 := hb i (by omega)
      have e : ((zs.take len).map Int.toNat).getD i 0 = (zs.getD i 0).toNat := by
        simp [List.getD_eq_getElem?_getD, show i < len by omega, List.getElem?_eq_getElem (show i < zs.length by omega)]
      rw [e, Int.toNat_of_nonneg h3.1]
    · intro n hn
      rw [List.mem_map] at hn
      obtain ⟨z, hz2, rfl⟩ := hn
      have := bounds_u64 (hwf z (List.mem_of_mem_take hz2))
      omega

theorem recs_of {t e q : TypeId} {fuel : Nat} {A : Option Addr} {len cap : Nat} {x : DataW H × List MemPlace} (ht : P.underlying t = some (.slice e)) (he : P.underlying e = some (.slice q)) (hq : P.underlying q = some (.int .u64)) (ce : P.cellsOf e = 1) (cq : P.cellsOf q = 1)
    (h : DataW.trod enc P w base spare held fuel t [.slice A len cap] = some x) : ∃ M : List (List Nat), M.length = len ∧ RecsAt w A M ∧ len ≤ cap ∧ cap ≤ maxLen := by
  rcases open_slice1 ht ce h with ⟨hcs, _⟩ | ⟨a, l, c, m, n, V, D, Pl, hcs, _, hl, hm, hmm, _, hx⟩
  · simp at hcs
    obtain ⟨rfl, rfl, rfl⟩ := hcs
    exact ⟨[], rfl, fun i hi => absurd hi (by simp), by simp, by simp⟩
  · simp at hcs
    obtain ⟨rfl, rfl, rfl⟩ := hcs
    have hlm : len ≤ m := by rw [hmm]; split <;> omega
    have each : ∀ i, i < len → ∃ L : List Nat, ∃ (q : Option Addr) (c : Nat), w.cell? (a.add i) = some (.slice q L.length c) ∧ Rd w q (nums L) ∧ L.length ≤ maxLen := by
      intro i hi
      obtain ⟨hc, htr⟩ := hx i (by omega)
      rcases open_ints he hq cq htr with ⟨hcs, _⟩ | ⟨b, l2, c2, zs, hcs, _⟩
      · simp at hcs
        exact ⟨[], none, 0, by rw [hc, hcs]; rfl, Rd.nil _ _, by simp⟩
      · simp at hcs
        rw [hcs] at htr hc
        obtain ⟨L, hL, hr, h1, h2, _⟩ := nums_of he hq cq htr
        exact ⟨L, _, _, by rw [hc, hL], hr, by omega⟩
    have ch : ∃ F : Nat → List Nat, ∀ i, i < len → ∃ (q : Option Addr) (c : Nat), w.cell? (a.add i) = some (.slice q (F i).length c) ∧ Rd w q (nums (F i)) ∧ (F i).length ≤ maxLen :=
      ⟨fun i => if h : i < len then Classical.choose (each i h) else [], fun i hi => by dsimp only; rw [dif_pos hi]; exact Classical.choose_spec (each i hi)⟩
    obtain ⟨F, hF⟩ := ch
    refine ⟨(List.range len).map F, by simp, ?_, hl, hm⟩
    intro i hi
    rw [List.length_map, List.length_range] at hi
    obtain ⟨q, c, h1, h2, h3⟩ := hF i hi
    have e : ((List.range len).map F).getD i [] = F i := by simp [List.getD_eq_getElem?_getD, hi]
    rw [e]
    have h4 := cell_lt h1
    rw [add_block] at h4
    exact ⟨a, q, c, rfl, h4, h1, h2, h3⟩
end
end Go.Proofs.Ytgpheofdeflhdaa.Op

/- An argument opened: a slice of bytes, with its capacity and bounds. -/
import Derived.Test.YtjnehpkkkmicfaaOpenS
import Derived.Test.YtjnehpkkkmicfaaOrdCol
namespace Go.Proofs.Ytjnehpkkkmicfaa.OpS
open Go.RowKit Go.ChangeShapes Go.WideShapes Go.Deep Go.Joins Rw Nm Ls Od
section
variable {H : Type} {enc : TypeId × Value → H} {P : Program} {w : World} {base : Nat} {spare : Nat → Bool} {held : Bool}
theorem bytes_of {t e : TypeId} {fuel : Nat} {A : Option Addr} {len cap : Nat} {x : DataW H × List MemPlace} (ht : P.underlying t = some (.slice e)) (he : P.underlying e = some (.int .u8)) (hc : P.cellsOf e = 1)
    (h : DataW.trod enc P w base spare held fuel t [.slice A len cap] = some x) : ∃ L : List Nat, L.length = len ∧ Rd w A (u8s L) ∧ len ≤ cap ∧ cap ≤ maxLen ∧ (∀ n ∈ L, n < 256) := by
  rcases open_ints ht he hc h with ⟨hcs, _⟩ | ⟨a, l, c, zs, hcs, _, hl, hm, hz, _, hcell, hwf⟩
  · simp at hcs
    obtain ⟨rfl, rfl, rfl⟩ := hcs
    exact ⟨[], rfl, Rd.nil _ _, by simp, by simp, by simp⟩
  · simp at hcs
    obtain ⟨rfl, rfl, rfl⟩ := hcs
    have hlz : len ≤ zs.length := by rw [hz]; split <;> omega
    have hb : ∀ i, i < zs.length → 0 ≤ zs.getD i 0 ∧ zs.getD i 0 < 256 := by
      intro i hi
      have := hwf (zs.getD i 0) (by rw [List.getD_eq_getElem?_getD, List.getElem?_eq_getElem hi]; exact List.getElem_mem hi)
      have h2 := bounds_u8 this
      omega
    refine ⟨(zs.take len).map Int.toNat, by rw [List.length_map, List.length_take]; omega, ?_, hl, hm, ?_⟩
    · intro i hi
      rw [u8s_length, List.length_map, List.length_take] at hi
      have hci := hcell i (by omega)
      have h2 := cell_lt hci
      rw [add_block] at h2
      refine ⟨a, rfl, h2, ?_⟩
      have h3 := hb i (by omega)
      have e : (u8s ((zs.take len).map Int.toNat)).getD i (.bool false) = .int .u8 (zs.getD i 0) := by
        simp [u8s, List.getD_eq_getElem?_getD, show i < len by omega, List.getElem?_eq_getElem (show i < zs.length by omega)]
        have := h3.1
        rw [List.getD_eq_getElem?_getD, List.getElem?_eq_getElem (show i < zs.length by omega), Option.getD_some] at this
        omega
      rw [hci, e]
    · intro n hn
      rw [List.mem_map] at hn
      obtain ⟨z, hz2, rfl⟩ := hn
      have := bounds_u8 (hwf z (List.mem_of_mem_take hz2))
      omega
end
end Go.Proofs.Ytjnehpkkkmicfaa.OpS

/- Arguments opened: slices of numbers, with their capacities and bounds. No function of the program in sight. -/
import Derived.Test.YtjnehpkkkmicfaaLsWalkA
import Derived.OpenShut
import Derived.ChangeSlices
import Derived.Deep.Slices
import Derived.Deep.Grids
import Derived.SizedLaws
import Derived.Lib.SmallJoins
namespace Go.Proofs.Ytjnehpkkkmicfaa.OpS
open Go.RowKit Go.ChangeShapes Go.WideShapes Go.Deep Go.Joins Rw Nm Ls

theorem cell_lt {w : World} {a : Addr} {v : Value} (h : w.cell? a = some v) : a.block < w.heap.size := by
  rcases Nat.lt_or_ge a.block w.heap.size with hl | hl
  · exact hl
  · unfold World.cell? at h
    rw [Array.getElem?_eq_none hl] at h
    cases h
section
variable {H : Type} {enc : TypeId × Value → H} {P : Program} {w : World} {base : Nat} {spare : Nat → Bool} {held : Bool}

theorem reach_of {ts : List TypeId} {ds : List (DataW H)} (h : (DataW.weightsEach P ts ds).all (· ≤ reachBytes) = true) {j : Nat} {t : TypeId} {d : DataW H} (ht : ts[j]? = some t) (hd : ds[j]? = some d) : ∀ k ∈ d.weights P t, k ≤ reachBytes := fun k hk =>
  of_decide_eq_true (List.all_eq_true.1 h k (DataW.weights_mem_each ht hd k hk))
/-- what a slice weighs -/
theorem slice_len {t e : TypeId} {fuel : Nat} {A : Option Addr} {len cap : Nat} {x : DataW H × List MemPlace} (ht : P.underlying t = some (.slice e))
    (h : DataW.trod enc P w base spare held fuel t [.slice A len cap] = some x) (hq : ∀ k ∈ x.1.weights P t, k ≤ reachBytes) : len * P.bytesOf e ≤ 140737488355328 := by
  rcases open_slice ht h with ⟨hcs, _⟩ | ⟨a, l, c, m, n, D, Pl, hcs, _, hl, hm, hmm, hx0, hx⟩
  · simp at hcs
    obtain ⟨rfl, rfl, rfl⟩ := hcs
    omega
  · simp at hcs
    obtain ⟨rfl, rfl, rfl⟩ := hcs
    have h1 := hq ((((List.range len).map D).length + ((List.range (m - len)).map fun j => D (len + j)).length) * P.bytesOf e) (by rw [hx0]; simp only [DataW.weights, ht, List.mem_cons, true_or])
    simp only [List.length_map, List.length_range] at h1
    have h4 := reachBytes_lt
    have h5 : (2 : Nat) ^ 47 = 140737488355328 := by decide
    have h6 : len * P.bytesOf e ≤ (len + (m - len)) * P.bytesOf e := Nat.mul_le_mul_right _ (by omega)
    omega
theorem nums_of {t e : TypeId} {fuel : Nat} {A : Option Addr} {len cap : Nat} {x : DataW H × List MemPlace} (ht : P.underlying t = some (.slice e)) (he : P.underlying e = some (.int .u64)) (hc : P.cellsOf e = 1)
    (h : DataW.trod enc P w base spare held fuel t [.slice A len cap] = some x) : ∃ L : List Nat, L.length = len ∧ Rd w A (nums L) ∧ len ≤ cap ∧ cap ≤ maxLen ∧ (∀ n ∈ L, n < 18446744073709551616) := by
  rcases open_ints ht he hc h with ⟨hcs, _⟩ | ⟨a, l, c, zs, hcs, _, hl, hm, hz, _, hcell, hwf⟩
  · simp at hcs
    obtain ⟨rfl, rfl, rfl⟩ := hcs
    exact ⟨[], rfl, Rd.nil _ _, by simp, by simp, by simp⟩
  · simp at hcs
    obtain ⟨rfl, rfl, rfl⟩ := hcs
    have hlz : len ≤ zs.length := by rw [hz]; split <;> omega
    have hb : ∀ i, i < zs.length → 0 ≤ zs.getD i 0 ∧ zs.getD i 0 < 18446744073709551616 := by
      intro i hi
      have := hwf (zs.getD i 0) (by rw [List.getD_eq_getElem?_getD, List.getElem?_eq_getElem hi]; exact List.getElem_mem hi)
      have h2 := bounds_u64 this
      omega
    refine ⟨(zs.take len).map Int.toNat, by rw [List.length_map, List.length_take]; omega, ?_, hl, hm, ?_⟩
    · intro i hi
      rw [nums_length, List.length_map, List.length_take] at hi
      have hci := hcell i (by omega)
      have h2 := cell_lt hci
      rw [add_block] at h2
      refine ⟨a, rfl, h2, ?_⟩
      rw [hci, nums_getD _ _ (by rw [List.length_map, List.length_take]; omega)]
      have h3 := hb i (by omega)
      have e : ((zs.take len).map Int.toNat).getD i 0 = (zs.getD i 0).toNat := by
        simp [List.getD_eq_getElem?_getD, show i < len by omega, List.getElem?_eq_getElem (show i < zs.length by omega)]
      rw [e, Int.toNat_of_nonneg h3.1]
    · intro n hn
      rw [List.mem_map] at hn
      obtain ⟨z, hz2, rfl⟩ := hn
      have := bounds_u64 (hwf z (List.mem_of_mem_take hz2))
      omega
theorem ints_of {t e : TypeId} {fuel : Nat} {A : Option Addr} {len cap : Nat} {x : DataW H × List MemPlace} (ht : P.underlying t = some (.slice e)) (he : P.underlying e = some (.int .i64)) (hc : P.cellsOf e = 1)
    (h : DataW.trod enc P w base spare held fuel t [.slice A len cap] = some x) : ∃ L : List Int, L.length = len ∧ Rd w A (zs L) ∧ len ≤ cap ∧ cap ≤ maxLen ∧ (∀ n ∈ L, (Lit.int .i64 n).wf = true) := by
  rcases open_ints ht he hc h with ⟨hcs, _⟩ | ⟨a, l, c, z, hcs, _, hl, hm, hz, hx0, hcell, hwf⟩
  · simp at hcs
    obtain ⟨rfl, rfl, rfl⟩ := hcs
    exact ⟨[], rfl, Rd.nil _ _, by simp, by simp, by simp⟩
  · simp at hcs
    obtain ⟨rfl, rfl, rfl⟩ := hcs
    have hlz : len ≤ z.length := by rw [hz]; split <;> omega
    refine ⟨z.take len, by rw [List.length_take]; omega, ?_, hl, hm, fun n hn => hwf n (List.mem_of_mem_take hn)⟩
    intro i hi
    rw [zs_length, List.length_take] at hi
    have hci := hcell i (by omega)
    have h2 := cell_lt hci
    rw [add_block] at h2
    refine ⟨a, rfl, h2, ?_⟩
    rw [hci, zs_getD _ _ (by rw [List.length_take]; omega)]
    have e : (z.take len).getD i 0 = z.getD i 0 := by
      simp [List.getD_eq_getElem?_getD, show i < len by omega]
    rw [e]
end
end Go.Proofs.Ytjnehpkkkmicfaa.OpS

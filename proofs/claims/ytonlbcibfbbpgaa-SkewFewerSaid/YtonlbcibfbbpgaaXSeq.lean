/- What stands behind the walks of iterators and of the sort: imports and small lemmas. No function of the program in sight but the shelf's. -/
import Derived.Test.YtonlbcibfbbpgaaSrtK
import Derived.Test.YtonlbcibfbbpgaaOrdNum
import Derived.RangeFuncFrom
import Derived.RangeFuncNested
import Derived.RangeFuncBound
import Derived.RangeFuncCalls
import Derived.RangeFuncLeaves
import Derived.RangeFuncBox
import Derived.RangeFuncWrites
import Derived.Maps.AppendAt
import Derived.Shelf.Abstract
import Derived.OwnWalkIn
import Derived.TacticsInMore
import Derived.LoopNIn
import Derived.LoopIn
import Derived.Sort.QuietIn
import Derived.Sort.WalkA14
namespace Go.Proofs.Ytonlbcibfbbpgaa.St
open Go.RowKit Go.Lib Go.Sort Rw Od

theorem bitLen_small (n : Nat) (h : n < 2 ^ 64) : Lib.bitLen n ≤ 1000 := by
  rw [bitLen_eq n h]
  exact Nat.le_trans ((bitsLen_le_iff n 64).2 h) (by decide)
theorem sw_below {α : Type} [Inhabited α] {enc : α → Value} {w0 W : World} {blk off B : Nat} {d : Array α} (h : SW enc w0 blk off d W) (hB : B ≤ blk) (hb : B ≤ w0.heap.size) : RowKit.Below B w0 W := by
  obtain ⟨n, os, rfl⟩ := h
  refine ⟨rfl, rfl, rfl, ?_, fun k hk => ?_⟩
  · unfold sortWorld; rw [size_grow, size_putRow]; exact Nat.le_add_right _ _
  · have hs : k < (putRow enc (Sort.ahead w0 n) blk off d).heap.size := by rw [size_putRow]; exact Nat.lt_of_lt_of_le hk hb
    unfold sortWorld
    rw [heap_grow_old _ _ hs]
    simp only [putRow, mapBlock, Array.getElem?_modify]
    rw [if_neg (by omega)]
    rfl
section
variable {k : IntKind} {w0 w : World} {blk off n : Nat} {d : Array Int}
theorem at_below {B : Nat} (h : At k w0 blk off n d w) (hB : B ≤ blk) (hb : B ≤ w0.heap.size) : RowKit.Below B w0 w := sw_below h.sw hB hb
theorem at_rd (h : At k w0 blk 0 n d w) : Rd w (some ⟨blk, 0, none⟩) (d.toList.map (Value.int k)) := fun i hi => by
  have hi2 : i < n := by rw [← h.sz]; simpa using hi
  refine ⟨_, rfl, Nat.lt_of_lt_of_le h.lt h.le, ?_⟩
  have := h.cell hi2
  rw [Nat.zero_add] at this
  have e1 : ((⟨blk, 0, none⟩ : Addr).add i) = ⟨blk, i, none⟩ := by simp [Addr.add] <;> omega
  rw [e1, this]
  have hd : i < d.size := by rw [h.sz]; exact hi2
  simp [List.getD_eq_getElem?_getD, hd]
theorem at_fz (h : At k w0 blk 0 n d w) : Fz w (some ⟨blk, 0, none⟩) n := fun a e i hi => by
  cases e
  have e1 : ((⟨blk, 0, none⟩ : Addr).add i) = ⟨blk, i, none⟩ := by simp [Addr.add] <;> omega
  have := h.free hi
  rw [Nat.zero_add] at this
  rw [e1]; exact this
theorem at_of_own {B g cap : Nat} {e : TypeId} {L : List Int} (h : w.ownsRow B e 1 (.slice (some ⟨g, 0, none⟩) L.length cap) L.length (L.map (Value.int k))) : At k w g 0 L.length L.toArray w := by
  have hlt := h.lt g rfl
  have hH : Holds (Value.int k) w g 0 L.toArray := fun j hj => by
    have hj2 : j < L.length := by simpa using hj
    refine ⟨?_, by rw [Nat.zero_add]; exact h.frozenAt j⟩
    rw [Nat.zero_add, World.ownsRow.cellAt h j (by simpa using hj2)]
    simp [hj2]
  exact ⟨by simp, ⟨L.toArray, by simp, ⟨fun _ => rfl, hH, hlt.2⟩⟩, SW.start hH⟩
end
theorem sorted_list (L : List Int) (d' : Array Int) (h1 : PermIn 0 L.length L.toArray d') (h2 : SortedIn ltInt 0 L.length d') : d'.toList.Perm L ∧ d'.toList.Pairwise (· ≤ ·) := by
  obtain ⟨hs, _, hp⟩ := h1
  have hs2 : d'.size = L.length := by simpa using hs
  constructor
  · have e1 : d'.extract 0 L.length = d' := by rw [← hs2]; exact Array.extract_size
    have e2 : L.toArray.extract 0 L.length = L.toArray := by have := Array.extract_size (xs := L.toArray); simp
    rw [e1, e2] at hp
    simpa using hp
  · rw [List.pairwise_iff_getElem]
    intro i j hi hj hij
    have hj2 : j < d'.size := by simpa using hj
    have hi2 : i < d'.size := by simpa using hi
    have := h2 i j (Nat.zero_le _) hij (by omega)
    have h3 := of_decide_eq_false this
    simp only [getElem!_pos d' i hi2, getElem!_pos d' j hj2] at h3
    simp only [Array.getElem_toList]
    omega
end Go.Proofs.Ytonlbcibfbbpgaa.St

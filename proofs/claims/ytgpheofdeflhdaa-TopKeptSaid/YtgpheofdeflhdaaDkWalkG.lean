/- The walk of Read. -/
import Derived.Test.YtgpheofdeflhdaaDkWalkF
namespace Go.Proofs.Ytgpheofdeflhdaa.Dk
open Go.RowKit Go.Op

theorem seenF_mem {L : List Wr} {n : ByteArray} {c : Int} {d : ByteArray} : ∀ {j : Nat}, j ≤ L.length → seenF L n c j = some d → ∃ i, i < L.length ∧ d = (L.getD i default).2.2
  | 0, _, h => by cases h
  | j + 1, hj, h => by
    unfold seenF at h
    split at h
    · exact ⟨j, hj, (Option.some.inj h).symm⟩
    · exact seenF_mem (by omega) h
theorem seenO_size {L : List Wr} {n y : ByteArray} {c j : Nat} (hj : j ≤ L.length) (h : ∀ i, i < L.length → (L.getD i default).2.2.size ≤ 140737488355328) (_hy : y.size ≤ 140737488355328) : (seenO L n y c j).size ≤ 140737488355328 := by
  unfold seenO
  split
  · rename_i d hd
    obtain ⟨i, hi, rfl⟩ := seenF_mem hj hd
    exact h i hi
  · rw [ByteArray.size_extract]; omega
def readO (z : Int) (E : List Ext) (L : List Wr) (fz : Int) (dn : Bool) (b : ByteArray) (c : Int) : ByteArray := if readyE z E L fz dn = 0 ∧ findE E b c = 0 then seenO L b (E.getD (pos E b) default).2 c.toNat L.length else ⟨#[]⟩
def readE (z : Int) (E : List Ext) (L : List Wr) (fz : Int) (dn : Bool) (b : ByteArray) (c : Int) : Int := if readyE z E L fz dn = 0 then findE E b c else readyE z E L fz dn
theorem find_good {E : List Ext} {b : ByteArray} {c : Int} (h : findE E b c = 0) : isAt E b = true ∧ 0 ≤ c ∧ c < (lookN E b : Nat) := by
  unfold findE at h
  split at h
  · rename_i hi
    split at h
    · rename_i hc
      rw [Bool.and_eq_true] at hc
      exact ⟨hi, of_decide_eq_true hc.1, of_decide_eq_true hc.2⟩
    · simp at h
  · simp at h
theorem ret_si {a b : ByteArray} {c d : Int} (h : a = b) (k : c = d) : Ending.returned (.tuple #[.string a, .int .i64 c]) = .returned (.tuple #[.string b, .int .i64 d]) := by rw [h, k]

end Go.Proofs.Ytgpheofdeflhdaa.Dk

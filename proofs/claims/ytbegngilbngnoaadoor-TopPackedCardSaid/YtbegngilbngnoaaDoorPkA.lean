/- The document's right, symbols, Cost, Room. -/
import Derived.Test.YtbegngilbngnoaaDoorPkM
import Derived.Test.YtbegngilbngnoaaDoorOrdCol
import Derived.Test.YtbegngilbngnoaaDoorApp
namespace Go.Proofs.YtbegngilbngnoaaDoor.Pk
open Go.RowKit Go.Lib Rw Ls Od _root_.Go.Proofs.YtbegngilbngnoaaDoor.Nm

/-- weights that are right -/
def okW (ws : List Nat) : Bool := decide (ws.length ≤ 512) && ws.all fun x => decide (x ≤ 1099511627776)
theorem okW_len {ws : List Nat} (h : okW ws = true) : ws.length ≤ 512 := by
  unfold okW at h; simp only [Bool.and_eq_true, decide_eq_true_eq] at h; exact h.1
theorem okW_at {ws : List Nat} (h : okW ws = true) (i : Nat) : ws.getD i 0 ≤ 1099511627776 := by
  unfold okW at h
  simp only [Bool.and_eq_true, decide_eq_true_eq, List.all_eq_true] at h
  rw [List.getD_eq_getElem?_getD]
  cases e : ws[i]? with
  | none => simp
  | some v => exact h.2 v (List.mem_of_getElem? e)
/-- symbols among the first so many -/
theorem sy_succ (ws : List Nat) (k : Nat) : ((List.range (k + 1)).filter fun i => decide (0 < ws.getD i 0)) = ((List.range k).filter fun i => decide (0 < ws.getD i 0)) ++ if 0 < ws.getD k 0 then [k] else [] := by
  rw [List.range_succ, List.filter_append]
  congr 1
  by_cases h : 0 < ws.getD k 0
  · rw [if_pos h, List.filter_cons, if_pos (decide_eq_true h)]; rfl
  · rw [if_neg h, List.filter_cons, if_neg (by simpa using h)]; rfl
/-- a row of ints, new -/
def IsP (w : World) (L : List Nat) (e : Ending) (w' : World) : Prop := ∃ (q : Option Addr) (c : Nat), e = .returned (.slice q L.length c) ∧ L.length ≤ c ∧ Rd w' q (zs (up L)) ∧ NewAt w.heap.size q ∧ Below w.heap.size w w'
/-- a length that a weight may have -/
def good (y : Nat) (z : Int) : Bool := decide (0 ≤ z) && decide (z ≤ 15) && !(decide (z = 0) && decide (0 < y))
def costT (ws : List Nat) (ls : List Int) (k : Nat) : Nat := sum (fun i => ws.getD i 0 * (ls.getD i 0).toNat) (List.range k)
def costR (ws : List Nat) (ls : List Int) : Nat × Int := if okW ws = true then (if ws.length = ls.length then (if (List.range ws.length).all (fun i => good (ws.getD i 0) (ls.getD i 0)) = true then (costT ws ls ws.length, 0) else (0, 7)) else (0, 5)) else (0, 1)
theorem costT_succ (ws : List Nat) (ls : List Int) (k : Nat) : costT ws ls (k + 1) = costT ws ls k + ws.getD k 0 * (ls.getD k 0).toNat := by
  unfold costT
  rw [List.range_succ, sum_app, sum_cons, sum_nil]; rfl
theorem good_iff {y : Nat} {z : Int} : good y z = true ↔ 0 ≤ z ∧ z ≤ 15 ∧ ¬ (z = 0 ∧ 0 < y) := by
  unfold good
  simp only [Bool.and_eq_true, decide_eq_true_eq, Bool.not_eq_true', Bool.and_eq_false_iff, decide_eq_false_iff_not]
  constructor
  · rintro ⟨⟨h1, h2⟩, h3⟩; exact ⟨h1, h2, fun h => by rcases h3 with h3 | h3; exact h3 h.1; exact h3 h.2⟩
  · rintro ⟨h1, h2, h3⟩
    refine ⟨⟨h1, h2⟩, ?_⟩
    by_cases h : z = 0
    · exact .inr fun h4 => h3 ⟨h, h4⟩
    · exact .inl h
theorem costT_le {ws : List Nat} {ls : List Int} (h : okW ws = true) : ∀ k, (∀ j, j < k → good (ws.getD j 0) (ls.getD j 0) = true) → costT ws ls k ≤ k * 16492674416640
  | 0, _ => by simp [costT, sum_nil]
  | k + 1, hg => by
    have h1 := costT_le h k fun j hj => hg j (by omega)
    have h2 := okW_at h k
    have h3 := (good_iff.1 (hg k (by omega))).2.1
    rw [costT_succ]
    have h4 : ws.getD k 0 * (ls.getD k 0).toNat ≤ 1099511627776 * 15 := Nat.mul_le_mul h2 (by omega)
    omega
end Go.Proofs.YtbegngilbngnoaaDoor.Pk

/- The walks of the document's Reduce, Ends, Expand. -/
import Derived.Test.YtonlbcibfbbpgaaGreatSkB
import Derived.Test.YtonlbcibfbbpgaaGreatOrdEnds
import Derived.IntWalk
namespace Go.Proofs.YtonlbcibfbbpgaaGreat.Sk
open Go.RowKit Go.Lib Rw Nm Ls Od

/-- the reduced list, how many names there are, and an error's number -/
def RdP (W : World) (L : List Nat) (m : Nat) (r : Int) (e : Ending) (w' : World) : Prop := ∃ (q : Option Addr) (c : Nat), e = .returned (.tuple #[.slice q L.length c, .int .i64 (m : Nat), .int .i64 r]) ∧ L.length ≤ c ∧ Rd w' q (nums L) ∧ Below W.heap.size W w'
theorem rd_mk {W w' : World} {L : List Nat} {m : Nat} {r : Int} {n : Nat} {q : Option Addr} {c : Nat} (hL : L.length = n) (hc : n ≤ c) (hr : Rd w' q (nums L)) (hb : Below W.heap.size W w') : RdP W L m r (.returned (.tuple #[.slice q n c, .int .i64 (m : Nat), .int .i64 r])) w' := by
  subst hL; exact ⟨q, c, rfl, hc, hr, hb⟩
def rdL (l : List Nat) : List Nat := if okL l = true then red l else []
def rdM (l : List Nat) : Nat := if okL l = true then many l else 0
theorem rd_no {l : List Nat} (h : okL l = false) : rdL l = [] ∧ rdM l = 0 := by unfold rdL rdM; rw [h]; exact ⟨rfl, rfl⟩
theorem rd_yes {l : List Nat} (h : okL l = true) : rdL l = red l ∧ rdM l = many l := by unfold rdL rdM; rw [h]; exact ⟨rfl, rfl⟩
/-- rows, how many a number -/
def TrN (W : World) (n : Nat) (M : List (List Nat)) (e : Ending) (w' : World) : Prop := ∃ (q : Option Addr) (c : Nat), e = .returned (.tuple #[.slice q n c, .int .i64 0]) ∧ n ≤ c ∧ RecsAt w' q M ∧ Below W.heap.size W w'
/-- the reduced list, how many a number -/
def RdN (W : World) (n : Nat) (L : List Nat) (m : Nat) (e : Ending) (w' : World) : Prop := ∃ (q : Option Addr) (c : Nat), e = .returned (.tuple #[.slice q n c, .int .i64 (m : Nat), .int .i64 0]) ∧ n ≤ c ∧ Rd w' q (nums L) ∧ Below W.heap.size W w'
/-- counted so far -/
def cnt (T : List (List Nat)) (x : List Nat) (j : Nat) : Nat := 1 + (List.range j).countP fun j => first T j && lexL (T.getD j []) x
theorem cnt_succ (T : List (List Nat)) (x : List Nat) (j : Nat) : cnt T x (j + 1) = cnt T x j + if (first T j && lexL (T.getD j []) x) = true then 1 else 0 := by
  unfold cnt
  rw [List.range_succ, List.countP_append]
  simp only [List.countP_cons, List.countP_nil]
  omega
theorem cnt_le (T : List (List Nat)) (x : List Nat) (j : Nat) : cnt T x j ≤ j + 1 := by
  unfold cnt
  have := List.countP_le_length (p := fun j => first T j && lexL (T.getD j []) x) (l := List.range j)
  rw [List.length_range] at this
  omega
def fst (T : List (List Nat)) (y : List Nat) (k : Nat) : Bool := decide (y ∉ T.take k)
theorem fst_succ (T : List (List Nat)) (y : List Nat) (k : Nat) (h : k < T.length) : fst T y (k + 1) = (fst T y k && !decide (y = T.getD k [])) := by
  have e : (y ∉ T.take (k + 1)) ↔ (y ∉ T.take k ∧ y ≠ T[k]) := by
    rw [List.take_succ_eq_append_getElem h, List.mem_append, List.mem_singleton]
    constructor
    · intro hn; exact ⟨fun h1 => hn (.inl h1), fun h1 => hn (.inr h1)⟩
    · rintro ⟨h1, h2⟩ (h3 | h3)
      · exact h1 h3
      · exact h2 h3
  have g : T.getD k [] = T[k] := by rw [List.getD_eq_getElem?_getD, List.getElem?_eq_getElem h, Option.getD_some]
  unfold fst
  rw [g, Bool.eq_iff_iff]
  simp only [decide_eq_true_eq, Bool.and_eq_true, Bool.not_eq_true', decide_eq_false_iff_not]
  exact e
theorem fst_zero (T : List (List Nat)) (y : List Nat) : fst T y 0 = true := by simp [fst]
def mx (L : List Nat) (k : Nat) : Nat := (L.take k).foldl max 0
theorem mx_succ (L : List Nat) (k : Nat) (h : k < L.length) : mx L (k + 1) = max (mx L k) (L.getD k 0) := by
  unfold mx
  rw [List.take_succ_eq_append_getElem h, List.foldl_append, gd h]; rfl
/-- so many names told -/
def ReR (l : List Nat) (hB n : Nat) (W1 : World) (v u i : Value) (wr : World) : Prop := ∃ (k : Nat), k ≤ n ∧ i = .int .i64 k ∧ u = .int .u64 (mx (red l) k : Nat) ∧ wr.ownsRow hB 34 1 v k (nums ((red l).take k)) ∧ Below hB W1 wr
def edL (l : List Nat) : List Nat := if okL l = true then ends l else []
theorem ed_yes {l : List Nat} (h : okL l = true) : edL l = ends l := if_pos h
theorem ed_no {l : List Nat} (h : okL l = false) : edL l = [] := if_neg (by rw [h]; simp)
/-- the order that is expanded -/
def exL (l : List Nat) (E : List Int) : List Nat := if okL l = true ∧ right (red l) E = true then ends l else []
def exE (l : List Nat) (E : List Int) : Int := if okL l = true then (if right (red l) E = true then 0 else 2) else 1
end Go.Proofs.YtonlbcibfbbpgaaGreat.Sk

/- The walks of the document's Samples, Triples. -/
import Derived.Test.YtonlbcibfbbpgaaGreatSkA
namespace Go.Proofs.YtonlbcibfbbpgaaGreat.Sk
open Go.RowKit Go.Lib Rw Nm Ls Od

/-- places, and an error's number -/
def PL (W : World) (L : List Nat) (r : Int) (e : Ending) (w' : World) : Prop := ∃ (q : Option Addr) (c : Nat), e = .returned (.tuple #[.slice q L.length c, .int .i64 r]) ∧ L.length ≤ c ∧ Rd w' q (zs (up L)) ∧ Below W.heap.size W w'
theorem pl_mk {W w' : World} {L : List Nat} {r : Int} {n : Nat} {q : Option Addr} {c : Nat} (hL : L.length = n) (hc : n ≤ c) (hr : Rd w' q (zs (up L))) (hb : Below W.heap.size W w') : PL W L r (.returned (.tuple #[.slice q n c, .int .i64 r])) w' := by
  subst hL; exact ⟨q, c, rfl, hc, hr, hb⟩
/-- the same, its length a number -/
def PLn (W : World) (n : Nat) (L : List Nat) (r : Int) (e : Ending) (w' : World) : Prop := ∃ (q : Option Addr) (c : Nat), e = .returned (.tuple #[.slice q n c, .int .i64 r]) ∧ n ≤ c ∧ Rd w' q (zs (up L)) ∧ Below W.heap.size W w'
theorem pln_of {W : World} {n : Nat} {L : List Nat} {r : Int} (h : L.length = n) {f : FuncId} {a : Array Value} {P : Program} (hc : Calls P f a W (PL W L r)) : Calls P f a W (PLn W n L r) :=
  hc.mono fun _ _ ⟨q, c, e, h1, h2, h4⟩ => ⟨q, c, by rw [e, h], by rw [← h]; exact h1, h2, h4⟩
/-- a triple -/
def N3 (W : World) (L : List Nat) (e : Ending) (w' : World) : Prop := ∃ (q : Option Addr) (c : Nat), e = .returned (.slice q 3 c) ∧ Rd w' q (nums L) ∧ NewAt W.heap.size q ∧ Below W.heap.size W w'
def smpL (l : List Nat) : List Nat := if okL l = true then places l.length else []
def smpE (l : List Nat) : Int := if okL l = true then 0 else 1
theorem smp_no {l : List Nat} (h : okL l = false) : smpL l = [] ∧ smpE l = 1 := by unfold smpL smpE; rw [h]; exact ⟨rfl, rfl⟩
theorem smp_yes {l : List Nat} (h : okL l = true) : smpL l = places l.length ∧ smpE l = 0 := by unfold smpL smpE; rw [h]; exact ⟨rfl, rfl⟩
/-- rows of numbers, and an error's number -/
def TrP (W : World) (M : List (List Nat)) (r : Int) (e : Ending) (w' : World) : Prop := ∃ (q : Option Addr) (c : Nat), e = .returned (.tuple #[.slice q M.length c, .int .i64 r]) ∧ M.length ≤ c ∧ RecsAt w' q M ∧ Below W.heap.size W w'
theorem tr_mk {W w' : World} {M : List (List Nat)} {r : Int} {n : Nat} {q : Option Addr} {c : Nat} (hL : M.length = n) (hc : n ≤ c) (hr : RecsAt w' q M) (hb : Below W.heap.size W w') : TrP W M r (.returned (.tuple #[.slice q n c, .int .i64 r])) w' := by
  subst hL; exact ⟨q, c, rfl, hc, hr, hb⟩
def trL (l : List Nat) : List (List Nat) := if okL l = true then trips l else []
theorem tr_no {l : List Nat} (h : okL l = false) : trL l = [] := by unfold trL; rw [h]; rfl
theorem tr_yes {l : List Nat} (h : okL l = true) : trL l = trips l := by unfold trL; rw [h]; rfl
/-- so many triples gathered -/
def TrR (l : List Nat) (hB n : Nat) (W1 : World) (v i : Value) (wr : World) : Prop := ∃ (k : Nat) (xs : List Value), k ≤ n ∧ i = .int .i64 k ∧ wr.ownsRow hB 22 1 v k xs ∧ FitN wr v.ownBlock xs ((trips l).take k) ∧ Below hB W1 wr
end Go.Proofs.YtonlbcibfbbpgaaGreat.Sk

/- against: what holds two ends against each other; cmp.Or. sorted: the order of a list of ranks' ends. -/
import Derived.Test.YtonlbcibfbbpgaaOrdD
import Derived.Test.YtonlbcibfbbpgaaOrdNum
import Derived.Test.YtonlbcibfbbpgaaShelf
import Derived.Deep.RegionHeld3
import Derived.Test.YtonlbcibfbbpgaaXSeq
import Derived.Laws.EntriesVeiled
namespace Go.Proofs.Ytonlbcibfbbpgaa.Od
open Go.RowKit Go.Lib Rw Ls _root_.Go.Proofs.Ytonlbcibfbbpgaa.Nm

section
variable {w w' : World} {b2 b3 b5 n c s : Nat} {p : Option Addr} {R : List Nat}
end
/-- a number, and but for new blocks the world is as it was -/
def GrP (w : World) (z : Int) (e : Ending) (w' : World) : Prop := e = .returned (.int .i64 z) ∧ ∃ q os, w' = Go.Sort.grow (w.drewN q) os
end Go.Proofs.Ytonlbcibfbbpgaa.Od
namespace Go.Proofs.Ytonlbcibfbbpgaa.Od
open Go.RowKit Go.Lib Rw Ls St _root_.Go.Proofs.Ytonlbcibfbbpgaa.Nm

/-- a row of places that may be written -/
structure Zr (w : World) (g n : Nat) (E : List Nat) : Prop where
  len : E.length = n
  lt : g < w.heap.size
  cell : ∀ i, i < n → w.cell? ⟨g, i, none⟩ = some (.int .i64 (E.getD i 0 : Nat))
  free : ∀ i, i < n → w.frozen? ⟨g, i, none⟩ = false
section
variable {w w' : World} {g n : Nat} {E : List Nat}
theorem Zr.bar (h : Zr w g n E) {q : Nat → Prop} (hb : Bar w w' q) (hg : ¬ q g) : Zr w' g n E :=
  ⟨h.len, Nat.lt_of_lt_of_le h.lt hb.size, fun i hi => (hb.cell (a := ⟨g, i, none⟩) h.lt hg).trans (h.cell i hi), fun i hi => (hb.frozen (a := ⟨g, i, none⟩) h.lt hg).trans (h.free i hi)⟩
theorem Zr.below (h : Zr w g n E) (hb : Below w.heap.size w w') : Zr w' g n E := h.bar (Bar.of_below hb (fun _ => False)) id
theorem Zr.rd (h : Zr w g n E) : Rd w (some ⟨g, 0, none⟩) (zs (up E)) := fun i hi => by
  rw [zs_length, up_length, h.len] at hi
  have e1 : ((⟨g, 0, none⟩ : Addr).add i) = ⟨g, i, none⟩ := by simp [Addr.add] <;> omega
  refine ⟨_, rfl, h.lt, ?_⟩
  rw [e1, h.cell i hi]
  have hi2 : i < E.length := by rw [h.len]; exact hi
  simp [zs, up, List.getD_eq_getElem?_getD, hi2]
theorem Zr.fz (h : Zr w g n E) : Fz w (some ⟨g, 0, none⟩) n := fun a e i hi => by
  cases e
  have e1 : ((⟨g, 0, none⟩ : Addr).add i) = ⟨g, i, none⟩ := by simp [Addr.add] <;> omega
  rw [e1]; exact h.free i hi
theorem Zr.of_arr {B : Nat} {e : TypeId} (h : Arr w B e g n (zs (up E))) : Zr w g n E := by
  have hl := h.len
  rw [zs_length, up_length] at hl
  refine ⟨hl, h.lt.2, fun i hi => ?_, fun i hi => h.free i⟩
  rw [h.cell hi]
  have hi2 : i < E.length := by rw [hl]; exact hi
  simp [zs, up, List.getD_eq_getElem?_getD, hi2]
end
theorem sw_bar {α : Type} [Inhabited α] {enc : α → Value} {w0 W : World} {blk off : Nat} {d : Array α} (h : SW enc w0 blk off d W) : Bar w0 W (fun k => k = blk) := by
  obtain ⟨n, os, rfl⟩ := h
  refine ⟨rfl, rfl, rfl, ?_, fun k hk hne => ?_⟩
  · unfold sortWorld; rw [Go.Sort.size_grow, size_putRow]; exact Nat.le_add_right _ _
  · have hs : k < (Go.Sort.putRow enc (Go.Sort.ahead w0 n) blk off d).heap.size := by rw [size_putRow]; exact hk
    unfold sortWorld
    rw [Go.Sort.heap_grow_old _ _ hs]
    simp only [Go.Sort.putRow, Go.Sort.mapBlock, Array.getElem?_modify]
    rw [if_neg (fun e => hne e.symm)]
    rfl
theorem fins {n : Nat} : ∀ (E : List Nat), (∀ x ∈ E, x < n) → ∃ D : List (Fin n), D.map Fin.val = E
  | [], _ => ⟨[], rfl⟩
  | x :: E, h => by
    obtain ⟨D, hD⟩ := fins E (fun y hy => h y (List.mem_cons_of_mem _ hy))
    exact ⟨⟨x, h x List.mem_cons_self⟩ :: D, by rw [List.map_cons, hD]⟩
theorem ext_all {α : Type} (a : Array α) (m : Nat) (h : a.size = m) : a.extract 0 m = a := by subst h; simp
/-- ends put in order -/
def SfP (l : List Nat) (s g n : Nat) (w : World) (e : Ending) (w' : World) : Prop := ∃ E, e = .returned (.tuple #[]) ∧ Sorts2 l E (s + s) ∧ Zr w' g n E ∧ Bar w w' (fun k => k = g)
end Go.Proofs.Ytonlbcibfbbpgaa.Od

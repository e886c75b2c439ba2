/- The walk of change. -/
import Derived.Test.YtgpheofdeflhdaaDkWalkI
namespace Go.Proofs.Ytgpheofdeflhdaa.Dk
open Go.RowKit Go.Op

/-- a disk at work, as begin makes it -/
structure Bg (B : Nat) (W : World) (g gE gW : Nat) (z : Int) (E : List Ext) (L : List Wr) (fz : Int) (dn : Bool) : Prop where
  ge : B ≤ g
  n1 : g ≠ gE
  n2 : g ≠ gW
  n3 : gE ≠ gW
  box : Boxed W g [.int .i64 z, .slice (some ⟨gE, 0, none⟩) E.length (E.length + 1), .slice (some ⟨gW, 0, none⟩) L.length (L.length + 1), .int .i64 fz, .bool dn, .slice none 0 0]
  rowE : W.ownsRow B 86 2 (.slice (some ⟨gE, 0, none⟩) E.length (E.length + 1)) E.length (eRow E)
  rowW : W.ownsRow B 39 3 (.slice (some ⟨gW, 0, none⟩) L.length (L.length + 1)) L.length (wRow L)
/-- a disk value, and what it reads as; its rows lie above C -/
def DiskAt (w : World) (C : Nat) (v : Value) (D : Dsk) : Prop := ∃ (pE : Option Addr) (nE cE : Nat) (pW : Option Addr) (nW cW : Nat), v = .agg #[.int .i64 D.size, .slice pE nE cE, .slice pW nW cW, .int .i64 D.fuse, .bool D.down] ∧ nE = D.E.length ∧ ExtAt w pE D.E ∧ nW = D.W.length ∧ WrsAt w pW D.W ∧ (∀ a, pE = some a → C ≤ a.block) ∧ (∀ a, pW = some a → C ≤ a.block)
theorem DiskAt.below {w w' : World} {C : Nat} {v : Value} {D : Dsk} (h : DiskAt w C v D) (hb : Below w.heap.size w w') : DiskAt w' C v D := by
  obtain ⟨pE, nE, cE, pW, nW, cW, e, h1, h2, h3, h4, h5, h6⟩ := h
  exact ⟨pE, nE, cE, pW, nW, cW, e, h1, h2.below hb, h3, h4.below hb, h5, h6⟩
/-- a work block, and what it reads as; its rows lie above C -/
def WorkAt (w : World) (C g : Nat) (D : Dsk) : Prop := ∃ (pE : Option Addr) (nE cE : Nat) (pW : Option Addr) (nW cW : Nat) (vb : Value), Boxed w g [.int .i64 D.size, .slice pE nE cE, .slice pW nW cW, .int .i64 D.fuse, .bool D.down, vb] ∧ nE = D.E.length ∧ ExtAt w pE D.E ∧ nW = D.W.length ∧ WrsAt w pW D.W ∧ (∀ a, pE = some a → C ≤ a.block) ∧ (∀ a, pW = some a → C ≤ a.block)
theorem ExtAt.bar {w w' : World} {p : Option Addr} {E : List Ext} {q : Nat → Prop} (h : ExtAt w p E) (hb : Bar w w' q) (hp : ∀ a, p = some a → ¬ q a.block) : ExtAt w' p E := fun i hi => by
  obtain ⟨g, o, e, hg, c, d, hs⟩ := h i hi
  exact ⟨g, o, e, Nat.lt_of_lt_of_le hg hb.size, (hb.cell (a := ⟨g, o + i * 2, none⟩) hg (hp ⟨g, o, none⟩ e)).trans c, (hb.cell (a := ⟨g, o + i * 2 + 1, none⟩) hg (hp ⟨g, o, none⟩ e)).trans d, hs⟩
theorem WrsAt.bar {w w' : World} {p : Option Addr} {L : List Wr} {q : Nat → Prop} (h : WrsAt w p L) (hb : Bar w w' q) (hp : ∀ a, p = some a → ¬ q a.block) : WrsAt w' p L := fun i hi => by
  obtain ⟨g, o, e, hg, c, d, f, hs⟩ := h i hi
  exact ⟨g, o, e, Nat.lt_of_lt_of_le hg hb.size, (hb.cell (a := ⟨g, o + i * 3, none⟩) hg (hp ⟨g, o, none⟩ e)).trans c, (hb.cell (a := ⟨g, o + i * 3 + 1, none⟩) hg (hp ⟨g, o, none⟩ e)).trans d, (hb.cell (a := ⟨g, o + i * 3 + 2, none⟩) hg (hp ⟨g, o, none⟩ e)).trans f, hs⟩
/-- a disk and an error are answered -/
def DkP (w : World) (D : Dsk) (er : Int) (e : Ending) (w' : World) : Prop := ∃ v, e = .returned (.tuple #[v, .int .i64 er]) ∧ DiskAt w' w.heap.size v D ∧ Below w.heap.size w w'
theorem DkP.mk {w w' : World} {D : Dsk} {er er' : Int} {v : Value} (h : er = er') (hd : DiskAt w' w.heap.size v D) (hb : Below w.heap.size w w') : DkP w D er' (.returned (.tuple #[v, .int .i64 er])) w' := ⟨v, by rw [h], hd, hb⟩
def Dsk0 : Dsk := ⟨0, [], [], 0, false⟩

def chgD (z : Int) (E : List Ext) (L : List Wr) (fz : Int) (dn : Bool) (D : Dsk) : Dsk := if readyE z E L fz dn = 2 then Dsk0 else if readyE z E L fz dn = 0 then D else ⟨z, E, L, fz, dn⟩
def chgE (z : Int) (E : List Ext) (L : List Wr) (fz : Int) (dn : Bool) (er : Int) : Int := if readyE z E L fz dn = 2 then 2 else if readyE z E L fz dn = 0 then er else readyE z E L fz dn
theorem chg_eq (z : Int) (E : List Ext) (L : List Wr) (fz : Int) (dn : Bool) (D : Dsk) (er : Int) : (chgD z E L fz dn D, chgE z E L fz dn er) = if readyE z E L fz dn = 2 then (Dsk0, 2) else if readyE z E L fz dn = 0 then (D, er) else (⟨z, E, L, fz, dn⟩, readyE z E L fz dn) := by
  unfold chgD chgE
  split
  · rfl
  · split <;> rfl

end Go.Proofs.Ytgpheofdeflhdaa.Dk

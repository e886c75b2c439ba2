/- The walks of write (of a disk at work) and Write. -/
import Derived.Test.YtgpheofdeflhdaaDkWalkJ
namespace Go.Proofs.Ytgpheofdeflhdaa.Dk
open Go.RowKit Go.Op

theorem workAt_own {W : World} {C g gE gW lE cE lW cW : Nat} {z : Int} {E : List Ext} {L : List Wr} {fz : Int} {dn : Bool} {vb : Value}
    (hb : Boxed W g [.int .i64 z, .slice (some ⟨gE, 0, none⟩) lE cE, .slice (some ⟨gW, 0, none⟩) lW cW, .int .i64 fz, .bool dn, vb]) (hE : lE = E.length) (hL : lW = L.length)
    (rE : W.ownsRow C 86 2 (.slice (some ⟨gE, 0, none⟩) lE cE) lE (eRow E)) (rW : W.ownsRow C 39 3 (.slice (some ⟨gW, 0, none⟩) lW cW) lW (wRow L)) (oE : EOk E) (oW : WOk L) : WorkAt W C g ⟨z, E, L, fz, dn⟩ :=
  ⟨_, _, _, _, _, _, _, hb, hE, extAt_own rE oE, hL, wrsAt_own rW oW, fun a ha => by cases ha; exact (rE.lt gE rfl).1, fun a ha => by cases ha; exact (rW.lt gW rfl).1⟩
theorem wOk_snoc {L : List Wr} (h : WOk L) {n : ByteArray} {s : Int} {d : ByteArray} (h1 : n.size ≤ 140737488355328) (h2 : d.size ≤ 140737488355328) : WOk (L ++ [(n, s, d)]) := fun i hi => by
  by_cases hl : i < L.length
  · have e : (L ++ [(n, s, d)]).getD i default = L.getD i default := by simp [List.getD_eq_getElem?_getD, List.getElem?_append_left hl]
    rw [e]; exact h i hl
  · have hi2 : i = L.length := by simp at hi; omega
    have e : (L ++ [(n, s, d)]).getD i default = (n, s, d) := by subst hi2; simp [List.getD_eq_getElem?_getD]
    rw [e]; exact ⟨h1, h2⟩

def wrE (E : List Ext) (L : List Wr) (fz : Int) (nm : ByteArray) (s : Int) (d : ByteArray) : Int := if findE E nm s = 0 then (if d.size = 64 then (if L.length = 16384 then 8 else if fz = 0 then 10 else 0) else 2) else findE E nm s
def wrD (z : Int) (E : List Ext) (L : List Wr) (fz : Int) (dn : Bool) (nm : ByteArray) (s : Int) (d : ByteArray) : Dsk :=
  if findE E nm s = 0 ∧ d.size = 64 ∧ L.length ≠ 16384 then ⟨z, E, L ++ [(nm, s, d)], if 0 < fz then fz - 1 else fz, if fz = 0 then true else dn⟩ else ⟨z, E, L, fz, dn⟩
def StP (C g : Nat) (W : World) (D : Dsk) (er : Int) (e : Ending) (W' : World) : Prop := e = .returned (.int .i64 er) ∧ WorkAt W' C g D ∧ Below C W W'

end Go.Proofs.Ytgpheofdeflhdaa.Dk

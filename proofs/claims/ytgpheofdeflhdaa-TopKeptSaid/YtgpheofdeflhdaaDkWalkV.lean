/- The walk of body (of a disk at work). -/
import Derived.Test.YtgpheofdeflhdaaDkBody
import Derived.Test.YtgpheofdeflhdaaDkWalkR
namespace Go.Proofs.Ytgpheofdeflhdaa.Dk
open Go.RowKit Go.Op

theorem pos_names {E C : List Ext} (hl : C.length = E.length) (h : ∀ i, i < E.length → (C.getD i default).1 = (E.getD i default).1) (b : ByteArray) : pos C b = pos E b := by
  refine pos_of (by rw [hl]; exact pos_le _ _) (fun i hi => ?_) (fun hk => ?_)
  · rw [h i (Nat.lt_of_lt_of_le hi (pos_le _ _))]; exact pos_below E b i hi
  · rw [hl] at hk
    rw [h _ hk]; exact pos_at E b hk

def BodyP (w : World) (B gB n k : Nat) (E C : List Ext) (e : Ending) (w' : World) : Prop := ∃ b c cs, e = .returned (.slice (some ⟨b, 0, none⟩) (C.getD k default).2.size c) ∧ cs.getD k default = .slice (some ⟨b, 0, none⟩) (C.getD k default).2.size c ∧ Bods w' B gB n E C cs ∧ Bar w w' (fun k => k = gB) ∧ (C.getD k default).2.size ≤ c

end Go.Proofs.Ytgpheofdeflhdaa.Dk

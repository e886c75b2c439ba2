/- The walk of slices.Delete of one extent. -/
import Derived.Test.YtgpheofdeflhdaaDkDel
namespace Go.Proofs.Ytgpheofdeflhdaa.Dk
open Go.RowKit Go.Op

/-- an append whose run is known: at a step of a region that draws its order -/
theorem step_app {P : Program} {ops : Array Oper} {o : Oper} {a : Act} {K : Act → World → Prop} {Q : Exit → Act → World → Prop} {E : Prop} {W : World} (hgd : o.guard = none) (s x : Operand) (t : TypeId)
    (ho : o.op = .call { callee := .builtin .append, args := #[s, x], argTypes := #[t, t] }) {v1 v2 v3 : Value} {w' : World} {ty : TypeId} (hty : o.type = ty) (hs : a.eval s = v1) (hx : a.eval x = v2)
    (hrun : (Builtin.append_ #[t, t] ty #[v1, v2]).run P W = .ok v3 w') (hK : K (a.put o.dst v3) w') :
    if Region.wanted o (yielded ops a.tmps) = true then Oper.wp P o a W K Q else E := by
  have hw : Region.wanted o (yielded ops a.tmps) = true := by simp [Region.wanted, hgd]
  rw [if_pos hw]
  unfold Oper.wp
  simp [execOp, ho, resolve, invoke, builtin, hs, hx, hty, hrun, Result.andThen]
  exact hK

def DelOneP (w : World) (B gE n c : Nat) (ys : List Value) (e : Ending) (w' : World) : Prop := e = .returned (.slice (some ⟨gE, 0, none⟩) n c) ∧ w'.ownsRow B 86 2 (.slice (some ⟨gE, 0, none⟩) n c) n ys ∧ Bar w w' (fun k => k = gE)

end Go.Proofs.Ytgpheofdeflhdaa.Dk

/- The walk of the library's sort at uint64: partial insertion -/
import Derived.Test.YtonlbcibfbbpgaaSrtAU
namespace Go.Proofs.Ytonlbcibfbbpgaa.StU
open Go.RowKit Go.Lib Go.Sort Rw St

/-- a bool and a row -/
def PiP (w0 : World) (blk off n : Nat) (r : Array Int × Bool) (e : Ending) (w' : World) : Prop := e = .returned (.bool r.2) ∧ At .u64 w0 blk off n r.1 w'
end Go.Proofs.Ytonlbcibfbbpgaa.StU

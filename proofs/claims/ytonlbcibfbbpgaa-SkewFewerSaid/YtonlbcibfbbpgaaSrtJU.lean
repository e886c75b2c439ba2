/- The walk of the library's sort at uint64: partition -/
import Derived.Test.YtonlbcibfbbpgaaSrtAU
namespace Go.Proofs.Ytonlbcibfbbpgaa.StU
open Go.RowKit Go.Lib Go.Sort Rw St

theorem partLoop_ok {P Q R : Nat × Array Int} (h1 : Q = P) (h2 : Q = R) : P = R := h1.symm.trans h2
/-- a place, whether all was parted, a row -/
def PtP (w0 : World) (blk off n : Nat) (r : Nat × Bool × Array Int) (e : Ending) (w' : World) : Prop := e = .returned (.tuple #[.int .i64 r.1, .bool r.2.1]) ∧ At .u64 w0 blk off n r.2.2 w'
end Go.Proofs.Ytonlbcibfbbpgaa.StU

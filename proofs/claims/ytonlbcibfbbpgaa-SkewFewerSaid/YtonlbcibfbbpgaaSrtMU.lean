/- The walk of the library's sort at uint64: the sort -/
import Derived.Test.YtonlbcibfbbpgaaSrtAU
import Derived.Test.YtonlbcibfbbpgaaSrtIU
import Derived.Test.YtonlbcibfbbpgaaSrtJU
import Derived.Test.YtonlbcibfbbpgaaSrtLU
import Derived.Deep.CutRange
namespace Go.Proofs.Ytonlbcibfbbpgaa.StU
open Go.RowKit Go.Lib Go.Sort Rw St

/-- a part is sorted -/
def PqP (w0 : World) (blk off n a b : Nat) (d : Array Int) (e : Ending) (w' : World) : Prop := ∃ d', e = .returned (.tuple #[]) ∧ PermIn a b d d' ∧ SortedIn ltInt a b d' ∧ At .u64 w0 blk off n d' w'
end Go.Proofs.Ytonlbcibfbbpgaa.StU

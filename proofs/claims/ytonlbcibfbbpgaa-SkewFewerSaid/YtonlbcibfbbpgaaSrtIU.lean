/- The walk of the library's sort at uint64: partition by what is alike -/
import Derived.Test.YtonlbcibfbbpgaaSrtAU
namespace Go.Proofs.Ytonlbcibfbbpgaa.StU
open Go.RowKit Go.Lib Go.Sort Rw St

end Go.Proofs.Ytonlbcibfbbpgaa.StU

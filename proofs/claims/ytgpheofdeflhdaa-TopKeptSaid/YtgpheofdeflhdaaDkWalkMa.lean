/- The walk of move (of a disk at work). -/
import Derived.Test.YtgpheofdeflhdaaDkMove
import Derived.Test.YtgpheofdeflhdaaDkWalkT
import Derived.Test.YtgpheofdeflhdaaDkWalkN
import Derived.Conc.MuLone
namespace Go.Proofs.Ytgpheofdeflhdaa.Dk
open Go.RowKit Go.Op

end Go.Proofs.Ytgpheofdeflhdaa.Dk

/- The walk of Move. -/
import Derived.Test.YtgpheofdeflhdaaDkWalkL
import Derived.Test.YtgpheofdeflhdaaDkWalkX
import Derived.Test.YtgpheofdeflhdaaDkWalkMa
import Derived.Conc.MuLone
namespace Go.Proofs.Ytgpheofdeflhdaa.Dk
open Go.RowKit Go.Op

end Go.Proofs.Ytgpheofdeflhdaa.Dk

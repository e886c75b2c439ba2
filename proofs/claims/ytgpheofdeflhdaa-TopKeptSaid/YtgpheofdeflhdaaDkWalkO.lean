/- The walk of New. -/
import Derived.Test.YtgpheofdeflhdaaDkWalkL
import Derived.Test.YtgpheofdeflhdaaDkWalkN
namespace Go.Proofs.Ytgpheofdeflhdaa.Dk
open Go.RowKit Go.Op

end Go.Proofs.Ytgpheofdeflhdaa.Dk

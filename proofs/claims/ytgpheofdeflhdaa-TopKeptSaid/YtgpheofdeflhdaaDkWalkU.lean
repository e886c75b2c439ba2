/- The walk of drop (of a disk at work). -/
import Derived.Test.YtgpheofdeflhdaaDkWalkR
import Derived.Test.YtgpheofdeflhdaaDkWalkS
import Derived.Test.YtgpheofdeflhdaaDkWalkK
import Derived.Conc.MuLone
namespace Go.Proofs.Ytgpheofdeflhdaa.Dk
open Go.RowKit Go.Op

def keptEn (P : ByteArray → Bool) (E : List Ext) : List Ext := keptE (fun x => P x.1) E
def keptWn (P : ByteArray → Bool) (L : List Wr) : List Wr := keptW (fun x => P x.1) L
end Go.Proofs.Ytgpheofdeflhdaa.Dk

/- The walks of package order's functions: all of them. -/
import Derived.Test.YtfmnnbeegfjnaaaGreatOrdPEnds
import Derived.Test.YtfmnnbeegfjnaaaGreatOrdPRight
import Derived.Test.YtfmnnbeegfjnaaaGreatOrdPInv
import Derived.Test.YtfmnnbeegfjnaaaGreatOrdPCom
import Derived.Test.YtfmnnbeegfjnaaaGreatOrdPCol
import Derived.Test.YtfmnnbeegfjnaaaGreatOrdPText
import Derived.Test.YtfmnnbeegfjnaaaGreatOrdCom

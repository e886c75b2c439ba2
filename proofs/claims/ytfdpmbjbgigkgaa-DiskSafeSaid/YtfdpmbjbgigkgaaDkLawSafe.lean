/- DiskSafe: the law. -/
import Derived.Test.YtfdpmbjbgigkgaaDkLawSafeA
import Derived.Test.YtfdpmbjbgigkgaaDkLawSafeB
namespace Go.Proofs.Ytfdpmbjbgigkgaa.Dk
open Go.RowKit Go.Op

theorem safe_law (D : Dsk) (dv : DVal) (L : List Wr) (pL : Option Addr) (cL : Nat) (nm : ByteArray) (s : Int) (K : List Bool) (pK : Option Addr) (cK : Nat) (w : World) (hv : VarAt w D dv) (hL : WrsAt w pL L) (hLn : L.length ≤ 9223372036854775807) (hK : Rw.Rd w pK (bools K)) :
    Calls Try.prog 7 #[dval D dv, .slice pL L.length cL, .string nm, .int .i64 s, .slice pK K.length cK] w fun e w' => e = .returned (.bool true) ∧ Below w.heap.size w w' := by
  by_cases h : L.length ≤ 30
  · exact safe_le D dv L pL cL nm s K pK cK w hv hL h hK
  · exact safe_gt D dv L pL cL nm s K pK cK w hv hL hLn (by omega) hK
end Go.Proofs.Ytfdpmbjbgigkgaa.Dk

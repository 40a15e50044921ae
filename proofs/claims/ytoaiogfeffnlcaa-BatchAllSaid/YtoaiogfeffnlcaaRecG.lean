/-
  Records: contract of the reference's Read.
-/
import Derived.Test.YtoaiogfeffnlcaaRecM2
import Derived.Test.YtoaiogfeffnlcaaRecCut
namespace Go.Proofs.Ytoaiogfeffnlcaa
open Go.RowKit
open Go.Lib (uvarint zigzag)

def rr (r : RdT) : Value := .tuple #[recV (str r.1.1) r.1.2.1 r.1.2.2.1 r.1.2.2.2.1 (str r.1.2.2.2.2), .int .i64 (r.2.1 : Int), .int .i64 r.2.2]

end Go.Proofs.Ytoaiogfeffnlcaa

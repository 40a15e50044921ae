/-
  Contract of the reference's GetText.
-/
import Derived.Test.YtoaiogfeffnlcaaNumL
import Derived.Test.YtoaiogfeffnlcaaNumGR
namespace Go.Proofs.Ytoaiogfeffnlcaa
open Go.RowKit
open Go.Lib (uvarint zigzag)

end Go.Proofs.Ytoaiogfeffnlcaa

/-
  Contract of the reference's Get.
-/
import Derived.Test.YtoaiogfeffnlcaaNumG
namespace Go.Proofs.Ytoaiogfeffnlcaa
open Go.RowKit
open Go.Lib (uvarint zigzag)

end Go.Proofs.Ytoaiogfeffnlcaa

/-
  What Decode and At answer.
-/
import Derived.Test.YtmlndgkpbodnnaaBase
namespace Go.Proofs.Ytmlndgkpbodnnaa
open Go.RowKit

def dv (r n : Nat) (ok : Bool) : Value := .tuple #[.int .i32 (r : Int), .int .i64 (n : Int), .bool ok]

end Go.Proofs.Ytmlndgkpbodnnaa

/-
  What Decode and At answer.
-/
import Derived.Test.YtpelcnehndlinaaBase
namespace Go.Proofs.Ytpelcnehndlinaa
open Go.RowKit

def dv (r n : Nat) (ok : Bool) : Value := .tuple #[.int .i32 (r : Int), .int .i64 (n : Int), .bool ok]

end Go.Proofs.Ytpelcnehndlinaa

/-
  The contracts of rank, together.
-/
import Derived.Test.YtiakpjkpmepmoaaRNew
import Derived.Test.YtiakpjkpmepmoaaRPlace
namespace Go.Proofs.Ytiakpjkpmepmoaa
end Go.Proofs.Ytiakpjkpmepmoaa

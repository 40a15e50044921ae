/-
  What elements of []rune and []int are.
-/
import Derived.Test.YtlmfdpdcffnocaaBase
namespace Go.Proofs.Ytlmfdpdcffnocaa
open Go.RowKit

theorem info32 : (Try.prog.info? 21).map (fun i => (i.zero, i.size, i.bytes)) = some (some (.int .i32 0), 1, 4) := by kernel_rfl

theorem info64 : (Try.prog.info? 3).map (fun i => (i.zero, i.size, i.bytes)) = some (some (.int .i64 0), 1, 8) := by kernel_rfl

end Go.Proofs.Ytlmfdpdcffnocaa

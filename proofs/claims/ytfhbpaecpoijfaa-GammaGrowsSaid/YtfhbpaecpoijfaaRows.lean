/-
  No cell of these rows narrows 'for every input' (looked for: loops, veiled, ifaces, maps, wideKeys, modest, calm, conditions, laid).
  DERIVED. THE GIVEN ROWS OF THIS SEAT. 4 by the template 'for every input the law returns true; each argument reads behind the call as it read before'; 0 by the template 'total and deterministic' (their statements: YtfhbpaecpoijfaaTotals.lean).
  GIVEN WITH THE SEED: the statements are not yours to turn. If you find one false, say at which input.
  Laid BY PROGRAM, IN A SANDBOX (cutbox-rows.mjs): the forced cells as the released guide's own fill.sh prints them over the translation 15a9d55ebb195715… (all of the seat's roots in one cut). By AI agents, Wed Nov 11 2026. No macro, syntax, notation, axiom, sorry.
-/
import Derived.Test.YtfhbpaecpoijfaaChecked
import GoSem.Claim
import GoSem.ClaimJoined
import GoSem.ClaimMapViews
import Derived.JoinedTies
import Derived.KernelRfl
namespace Go.Proofs.Ytfhbpaecpoijfaa
/- THE CELL 'sum', in the pinned program and in every row, IS THE sha256 OF THE DUMP (.gsa) THAT YtfhbpaecpoijfaaProg.lean LOADS. Nothing in Lean hashes anything: it is a label: what it is worth is what the hold of that sum in a sandbox is worth. -/
noncomputable def Try.pinned : Pinned := { name := "ytfhbpaecpoijfaa", sum := "15a9d55ebb195715ba883304d69cb3978e696ae6f9e2dd04bd39fce4e1ee4c86", checked := Try.checked }
namespace Rows
def none {H : Type} : Left H := { results := [], args := [] }

/-- 'loesslaw7.GammaAll': WHATEVER THE INPUT: true; the input reads as it did. -/
def gammaAllSpec : ChangeSpec := { name := "gammaAll", fn := fun _ => fun
  | [d] => { results := [.lit (.bool true)], args := [d] }
  | _ => none }
def gammaAllRow : OpenClaim := { program := "ytfhbpaecpoijfaa", sum := "15a9d55ebb195715ba883304d69cb3978e696ae6f9e2dd04bd39fce4e1ee4c86", func := "loess/loesslaw7.GammaAll", spec := "gammaAll", apart := false }
def GammaAllSaid : Prop := gammaAllRow.holds Try.pinned (OpenSpec.ofChange gammaAllSpec)

/-- ITS FALSE NEIGHBOUR: 'it returns false'. Refute it at one input. -/
def gammaAllWrong : ChangeSpec := { name := "gammaAll", fn := fun _ => fun
  | [d] => { results := [.lit (.bool false)], args := [d] }
  | _ => none }
def GammaAllWrongFalsely : Prop := gammaAllRow.holds Try.pinned (OpenSpec.ofChange gammaAllWrong)

/-- 'loesslaw7.GammaAny': WHATEVER THE INPUT: true; the input reads as it did. -/
def gammaAnySpec : ChangeSpec := { name := "gammaAny", fn := fun _ => fun
  | [d1, d2, d3] => { results := [.lit (.bool true)], args := [d1, d2, d3] }
  | _ => none }
def gammaAnyRow : OpenClaim := { program := "ytfhbpaecpoijfaa", sum := "15a9d55ebb195715ba883304d69cb3978e696ae6f9e2dd04bd39fce4e1ee4c86", func := "loess/loesslaw7.GammaAny", spec := "gammaAny", apart := false }
def GammaAnySaid : Prop := gammaAnyRow.holds Try.pinned (OpenSpec.ofChange gammaAnySpec)

/-- ITS FALSE NEIGHBOUR: 'it returns false'. Refute it at one input. -/
def gammaAnyWrong : ChangeSpec := { name := "gammaAny", fn := fun _ => fun
  | [d1, d2, d3] => { results := [.lit (.bool false)], args := [d1, d2, d3] }
  | _ => none }
def GammaAnyWrongFalsely : Prop := gammaAnyRow.holds Try.pinned (OpenSpec.ofChange gammaAnyWrong)

/-- 'loesslaw7.GammaGrows': WHATEVER THE INPUT: true; the input reads as it did. -/
def gammaGrowsSpec : ChangeSpec := { name := "gammaGrows", fn := fun _ => fun
  | [d1, d2, d3] => { results := [.lit (.bool true)], args := [d1, d2, d3] }
  | _ => none }
def gammaGrowsRow : OpenClaim := { program := "ytfhbpaecpoijfaa", sum := "15a9d55ebb195715ba883304d69cb3978e696ae6f9e2dd04bd39fce4e1ee4c86", func := "loess/loesslaw7.GammaGrows", spec := "gammaGrows", apart := false }
def GammaGrowsSaid : Prop := gammaGrowsRow.holds Try.pinned (OpenSpec.ofChange gammaGrowsSpec)

/-- ITS FALSE NEIGHBOUR: 'it returns false'. Refute it at one input. -/
def gammaGrowsWrong : ChangeSpec := { name := "gammaGrows", fn := fun _ => fun
  | [d1, d2, d3] => { results := [.lit (.bool false)], args := [d1, d2, d3] }
  | _ => none }
def GammaGrowsWrongFalsely : Prop := gammaGrowsRow.holds Try.pinned (OpenSpec.ofChange gammaGrowsWrong)

/-- 'loesslaw7.GammaNone': WHATEVER THE INPUT: true; the input reads as it did. -/
def gammaNoneSpec : ChangeSpec := { name := "gammaNone", fn := fun _ => fun
  | [] => { results := [.lit (.bool true)], args := [] }
  | _ => none }
def gammaNoneRow : OpenClaim := { program := "ytfhbpaecpoijfaa", sum := "15a9d55ebb195715ba883304d69cb3978e696ae6f9e2dd04bd39fce4e1ee4c86", func := "loess/loesslaw7.GammaNone", spec := "gammaNone", apart := false }
def GammaNoneSaid : Prop := gammaNoneRow.holds Try.pinned (OpenSpec.ofChange gammaNoneSpec)

/-- ITS FALSE NEIGHBOUR: 'it returns false'. Refute it at one input. -/
def gammaNoneWrong : ChangeSpec := { name := "gammaNone", fn := fun _ => fun
  | [] => { results := [.lit (.bool false)], args := [] }
  | _ => none }
def GammaNoneWrongFalsely : Prop := gammaNoneRow.holds Try.pinned (OpenSpec.ofChange gammaNoneWrong)

/- THE SECOND FORM. 'bulk': how many values and letters a reading holds, each counted each time it is reached (what is shared counts as often as it is met; a slice's spare places count too). A statement '..UptoSaid' is the law's where the arguments, and the package variables that the reading takes, are together of bulk at most 1048576: NARROWER than '..Said'. Prove '..Said' where nothing that the law and all that it calls make is longer than what came in: it says more and counts as full. Else prove '..UptoSaid'. A law counts once. -/
mutual
def uptoBulk {H : Type} : DataW H → Nat
  | .lit (.string bytes) => bytes.length + 1
  | .lit _ => 1
  | .nil => 1
  | .ptr d => uptoBulk d + 1
  | .slice elems spare => uptoBulkAll elems + uptoBulkAll spare + 1
  | .agg parts => uptoBulkAll parts + 1
  | .iface _ d => uptoBulk d + 1
  | .map entries => uptoBulkEntries entries + 1
  | .held _ => 1
def uptoBulkAll {H : Type} : List (DataW H) → Nat
  | [] => 0
  | d :: r => uptoBulk d + uptoBulkAll r
def uptoBulkEntries {H : Type} : List (Lit × DataW H) → Nat
  | [] => 0
  | x :: r => uptoBulkEntry x + uptoBulkEntries r
def uptoBulkEntry {H : Type} : Lit × DataW H → Nat
  | (.string bytes, d) => bytes.length + uptoBulk d + 1
  | (_, d) => uptoBulk d + 1
 end
def uptoSmall : (H : Type) → List (DataW H) → Bool := fun _ ds => decide (uptoBulkAll ds ≤ 1048576)
def OpenSpec.upto (s : _root_.Go.ChangeSpec) : _root_.Go.OpenSpec := { _root_.Go.OpenSpec.ofChange s with cond := some uptoSmall }

/-- 'loesslaw7.GammaAll', WHERE WHAT IT READS IS OF BULK AT MOST 1048576: true; the input reads as it did. -/
def gammaAllUptoRow : OpenClaim := { program := "ytfhbpaecpoijfaa", sum := "15a9d55ebb195715ba883304d69cb3978e696ae6f9e2dd04bd39fce4e1ee4c86", func := "loess/loesslaw7.GammaAll", spec := "gammaAll", apart := false, narrowed := true }
def GammaAllUptoSaid : Prop := gammaAllUptoRow.holds Try.pinned (OpenSpec.upto gammaAllSpec)

/-- 'loesslaw7.GammaAny', WHERE WHAT IT READS IS OF BULK AT MOST 1048576: true; the input reads as it did. -/
def gammaAnyUptoRow : OpenClaim := { program := "ytfhbpaecpoijfaa", sum := "15a9d55ebb195715ba883304d69cb3978e696ae6f9e2dd04bd39fce4e1ee4c86", func := "loess/loesslaw7.GammaAny", spec := "gammaAny", apart := false, narrowed := true }
def GammaAnyUptoSaid : Prop := gammaAnyUptoRow.holds Try.pinned (OpenSpec.upto gammaAnySpec)

/-- 'loesslaw7.GammaGrows', WHERE WHAT IT READS IS OF BULK AT MOST 1048576: true; the input reads as it did. -/
def gammaGrowsUptoRow : OpenClaim := { program := "ytfhbpaecpoijfaa", sum := "15a9d55ebb195715ba883304d69cb3978e696ae6f9e2dd04bd39fce4e1ee4c86", func := "loess/loesslaw7.GammaGrows", spec := "gammaGrows", apart := false, narrowed := true }
def GammaGrowsUptoSaid : Prop := gammaGrowsUptoRow.holds Try.pinned (OpenSpec.upto gammaGrowsSpec)

/-- 'loesslaw7.GammaNone', WHERE WHAT IT READS IS OF BULK AT MOST 1048576: true; the input reads as it did. -/
def gammaNoneUptoRow : OpenClaim := { program := "ytfhbpaecpoijfaa", sum := "15a9d55ebb195715ba883304d69cb3978e696ae6f9e2dd04bd39fce4e1ee4c86", func := "loess/loesslaw7.GammaNone", spec := "gammaNone", apart := false, narrowed := true }
def GammaNoneUptoSaid : Prop := gammaNoneUptoRow.holds Try.pinned (OpenSpec.upto gammaNoneSpec)

end Rows
end Go.Proofs.Ytfhbpaecpoijfaa

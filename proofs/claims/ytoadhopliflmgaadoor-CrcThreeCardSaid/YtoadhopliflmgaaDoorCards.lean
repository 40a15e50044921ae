/-
  DERIVED. GIVEN WITH THE SEED: THE CARDS: each row of YtoadhopliflmgaaDoorRows.lean that lists a variable, with what it lists TIED to the program's text (the seventh form; the later family's looks); each row that meets fmt, with fmt's text TOLD by the authors' own Lean function (tested against real Go, not proved from fmt's source: count such statements apart). THE CARD IS WHAT COUNTS. Prove the row's statement (the work); the ties are given (YtoadhopliflmgaaDoorTie.lean); close each card by the builder's one call (the guide's Derived/Test/ToyasCard.lean, 'card_holds'). Laid BY PROGRAM, IN A SANDBOX (cutbox-door.mjs). By AI agents, Wed Nov 11 2026. No macro, syntax, notation, axiom, sorry.
-/
import Derived.Test.YtoadhopliflmgaaDoorRows
import GoSem.ClaimSeven
namespace Go.Proofs.YtoadhopliflmgaaDoor
namespace Rows

/-- THE TIED CARD OF 'loesslaw2.CrcAll'. -/
def crcAllCard : Claim7 := { stood := { row := crcAllRow, standIns := [], harness := (true, "ff1015f3a443a3623efdad580c74deef1da3271d0f8cd88ddc99ddcc20c6b699"), looks := false }, kinds := [], alts := [], laidByText := true, laidKinds := [.data], laidTests := true, laidLooks := .later }
def CrcAllCardSaid : Prop := Claim7.holds Tryd.pinned (.plain (OpenSpec.ofChange crcAllSpec)) crcAllCard

/-- THE TIED CARD OF 'loesslaw2.CrcBurst'. -/
def crcBurstCard : Claim7 := { stood := { row := crcBurstRow, standIns := [], harness := (true, "ff1015f3a443a3623efdad580c74deef1da3271d0f8cd88ddc99ddcc20c6b699"), looks := false }, kinds := [], alts := [], laidByText := true, laidKinds := [.data], laidTests := true, laidLooks := .later }
def CrcBurstCardSaid : Prop := Claim7.holds Tryd.pinned (.plain (OpenSpec.ofChange crcBurstSpec)) crcBurstCard

/-- THE TIED CARD OF 'loesslaw2.CrcThree'. -/
def crcThreeCard : Claim7 := { stood := { row := crcThreeRow, standIns := [], harness := (true, "ff1015f3a443a3623efdad580c74deef1da3271d0f8cd88ddc99ddcc20c6b699"), looks := false }, kinds := [], alts := [], laidByText := true, laidKinds := [.data], laidTests := true, laidLooks := .later }
def CrcThreeCardSaid : Prop := Claim7.holds Tryd.pinned (.plain (OpenSpec.ofChange crcThreeSpec)) crcThreeCard

/-- THE TIED CARD OF 'loesslaw2.CrcMany'. -/
def crcManyCard : Claim7 := { stood := { row := crcManyRow, standIns := [], harness := (true, "ff1015f3a443a3623efdad580c74deef1da3271d0f8cd88ddc99ddcc20c6b699"), looks := false }, kinds := [], alts := [], laidByText := true, laidKinds := [.data], laidTests := true, laidLooks := .later }
def CrcManyCardSaid : Prop := Claim7.holds Tryd.pinned (.plain (OpenSpec.ofChange crcManySpec)) crcManyCard

/-- THE SECOND FORM's CARD OF 'loesslaw2.CrcAll'. -/
def crcAllUptoCard : Claim7 := { stood := { row := crcAllUptoRow, standIns := [], harness := (true, "ff1015f3a443a3623efdad580c74deef1da3271d0f8cd88ddc99ddcc20c6b699"), looks := false }, kinds := [], alts := [], laidByText := true, laidKinds := [.data], laidTests := true, laidLooks := .later }
def CrcAllUptoCardSaid : Prop := Claim7.holds Tryd.pinned (.plain (OpenSpec.upto crcAllSpec)) crcAllUptoCard

/-- THE SECOND FORM's CARD OF 'loesslaw2.CrcBurst'. -/
def crcBurstUptoCard : Claim7 := { stood := { row := crcBurstUptoRow, standIns := [], harness := (true, "ff1015f3a443a3623efdad580c74deef1da3271d0f8cd88ddc99ddcc20c6b699"), looks := false }, kinds := [], alts := [], laidByText := true, laidKinds := [.data], laidTests := true, laidLooks := .later }
def CrcBurstUptoCardSaid : Prop := Claim7.holds Tryd.pinned (.plain (OpenSpec.upto crcBurstSpec)) crcBurstUptoCard

/-- THE SECOND FORM's CARD OF 'loesslaw2.CrcThree'. -/
def crcThreeUptoCard : Claim7 := { stood := { row := crcThreeUptoRow, standIns := [], harness := (true, "ff1015f3a443a3623efdad580c74deef1da3271d0f8cd88ddc99ddcc20c6b699"), looks := false }, kinds := [], alts := [], laidByText := true, laidKinds := [.data], laidTests := true, laidLooks := .later }
def CrcThreeUptoCardSaid : Prop := Claim7.holds Tryd.pinned (.plain (OpenSpec.upto crcThreeSpec)) crcThreeUptoCard

/-- THE SECOND FORM's CARD OF 'loesslaw2.CrcMany'. -/
def crcManyUptoCard : Claim7 := { stood := { row := crcManyUptoRow, standIns := [], harness := (true, "ff1015f3a443a3623efdad580c74deef1da3271d0f8cd88ddc99ddcc20c6b699"), looks := false }, kinds := [], alts := [], laidByText := true, laidKinds := [.data], laidTests := true, laidLooks := .later }
def CrcManyUptoCardSaid : Prop := Claim7.holds Tryd.pinned (.plain (OpenSpec.upto crcManySpec)) crcManyUptoCard
end Rows
end Go.Proofs.YtoadhopliflmgaaDoor

/-
  NARROWER THAN 'FOR EVERY INPUT', by the rows' own cells (each row's printed sentence says how): StoreAll: laid · StoreRoom: laid · StoreLasts: laid · StoreOwn: laid · StoreNone: laid · StoreFuse: laid · StoreNames: laid.
  DERIVED. THE GIVEN ROWS OF THIS SEAT. 7 by the template 'for every input the law returns true; each argument reads behind the call as it read before'; 0 by the template 'total and deterministic' (their statements: YtnalokjnbccjnaaGreatDoorTotals.lean).
  GIVEN WITH THE SEED: the statements are not yours to turn. If you find one false, say at which input.
  Laid BY PROGRAM, IN A SANDBOX (cutbox-rows.mjs): the forced cells as the released guide's own fill.sh prints them over the translation dcfaa855a5765bf8… (all of the seat's roots in one cut). By AI agents, Wed Nov 11 2026. No macro, syntax, notation, axiom, sorry.
-/
import Derived.Test.YtnalokjnbccjnaaGreatDoorChecked
import GoSem.Claim
import GoSem.ClaimJoined
import GoSem.ClaimMapViews
import Derived.JoinedTies
import Derived.KernelRfl
namespace Go.Proofs.YtnalokjnbccjnaaGreatDoor
/- THE CELL 'sum', in the pinned program and in every row, IS THE sha256 OF THE DUMP (.gsa) THAT YtnalokjnbccjnaaGreatDoorProg.lean LOADS. Nothing in Lean hashes anything: it is a label: what it is worth is what the hold of that sum in a sandbox is worth. -/
noncomputable def Tryz.pinned : Pinned := { name := "ytnalokjnbccjnaagreatdoor", sum := "dcfaa855a5765bf88e98da219f31a7ef454f783cd1378b98ea606ea8aa0c3bea", checked := Tryz.checked }
namespace Rows
def none {H : Type} : Left H := { results := [], args := [] }

/- WHAT THE LISTED PACKAGE-LEVEL VARIABLES READ AS WHEN THE CALL BEGINS. Each datum BY PROGRAM (the guide's laid-datum.mjs) off the statement by which the dump's own 'gosem.cut.vars' lays the variable. In a bare row this is a premise. The card (YtnalokjnbccjnaaGreatDoorCards.lean) ties it to the program's text. -/
def laid_loess_crc_byNibble {H : Type} : DataW H := .agg [.lit (.int .u32 0), .lit (.int .u32 498536548), .lit (.int .u32 997073096), .lit (.int .u32 651767980), .lit (.int .u32 1994146192), .lit (.int .u32 1802195444), .lit (.int .u32 1303535960), .lit (.int .u32 1342533948), .lit (.int .u32 3988292384), .lit (.int .u32 4027552580), .lit (.int .u32 3604390888), .lit (.int .u32 3412177804), .lit (.int .u32 2607071920), .lit (.int .u32 2262029012), .lit (.int .u32 2685067896), .lit (.int .u32 3183342108)]

/-- 'loesslaw15.StoreAll': WHATEVER THE INPUT: true; the input reads as it did. -/
def storeAllSpec : ChangeSpec := { name := "storeAll", fn := fun _ => fun
  | [d1, d2] => { results := [.lit (.bool true)], args := [d1, d2] }
  | _ => none }
def storeAllRow : OpenClaim := { program := "ytnalokjnbccjnaagreatdoor", sum := "dcfaa855a5765bf88e98da219f31a7ef454f783cd1378b98ea606ea8aa0c3bea", func := "loess/loesslaw15.StoreAll", spec := "storeAll", unfollowed := true, recurses := true, named := ["loess/crc.byNibble"], apart := false, laid := [("loess/crc.byNibble", laid_loess_crc_byNibble)] }
def StoreAllSaid : Prop := storeAllRow.holds Tryz.pinned (OpenSpec.ofChange storeAllSpec)

/-- ITS FALSE NEIGHBOUR: 'it returns false'. Refute it at one input. -/
def storeAllWrong : ChangeSpec := { name := "storeAll", fn := fun _ => fun
  | [d1, d2] => { results := [.lit (.bool false)], args := [d1, d2] }
  | _ => none }
def StoreAllWrongFalsely : Prop := storeAllRow.holds Tryz.pinned (OpenSpec.ofChange storeAllWrong)

/-- 'loesslaw15.StoreRoom': WHATEVER THE INPUT: true; the input reads as it did. -/
def storeRoomSpec : ChangeSpec := { name := "storeRoom", fn := fun _ => fun
  | [d1, d2, d3] => { results := [.lit (.bool true)], args := [d1, d2, d3] }
  | _ => none }
def storeRoomRow : OpenClaim := { program := "ytnalokjnbccjnaagreatdoor", sum := "dcfaa855a5765bf88e98da219f31a7ef454f783cd1378b98ea606ea8aa0c3bea", func := "loess/loesslaw15.StoreRoom", spec := "storeRoom", unfollowed := true, recurses := true, named := ["loess/crc.byNibble"], apart := false, laid := [("loess/crc.byNibble", laid_loess_crc_byNibble)] }
def StoreRoomSaid : Prop := storeRoomRow.holds Tryz.pinned (OpenSpec.ofChange storeRoomSpec)

/-- ITS FALSE NEIGHBOUR: 'it returns false'. Refute it at one input. -/
def storeRoomWrong : ChangeSpec := { name := "storeRoom", fn := fun _ => fun
  | [d1, d2, d3] => { results := [.lit (.bool false)], args := [d1, d2, d3] }
  | _ => none }
def StoreRoomWrongFalsely : Prop := storeRoomRow.holds Tryz.pinned (OpenSpec.ofChange storeRoomWrong)

/-- 'loesslaw15.StoreLasts': WHATEVER THE INPUT: true; the input reads as it did. -/
def storeLastsSpec : ChangeSpec := { name := "storeLasts", fn := fun _ => fun
  | [d1, d2] => { results := [.lit (.bool true)], args := [d1, d2] }
  | _ => none }
def storeLastsRow : OpenClaim := { program := "ytnalokjnbccjnaagreatdoor", sum := "dcfaa855a5765bf88e98da219f31a7ef454f783cd1378b98ea606ea8aa0c3bea", func := "loess/loesslaw15.StoreLasts", spec := "storeLasts", unfollowed := true, recurses := true, named := ["loess/crc.byNibble"], apart := false, laid := [("loess/crc.byNibble", laid_loess_crc_byNibble)] }
def StoreLastsSaid : Prop := storeLastsRow.holds Tryz.pinned (OpenSpec.ofChange storeLastsSpec)

/-- ITS FALSE NEIGHBOUR: 'it returns false'. Refute it at one input. -/
def storeLastsWrong : ChangeSpec := { name := "storeLasts", fn := fun _ => fun
  | [d1, d2] => { results := [.lit (.bool false)], args := [d1, d2] }
  | _ => none }
def StoreLastsWrongFalsely : Prop := storeLastsRow.holds Tryz.pinned (OpenSpec.ofChange storeLastsWrong)

/-- 'loesslaw15.StoreOwn': WHATEVER THE INPUT: true; the input reads as it did. -/
def storeOwnSpec : ChangeSpec := { name := "storeOwn", fn := fun _ => fun
  | [d1, d2] => { results := [.lit (.bool true)], args := [d1, d2] }
  | _ => none }
def storeOwnRow : OpenClaim := { program := "ytnalokjnbccjnaagreatdoor", sum := "dcfaa855a5765bf88e98da219f31a7ef454f783cd1378b98ea606ea8aa0c3bea", func := "loess/loesslaw15.StoreOwn", spec := "storeOwn", unfollowed := true, recurses := true, named := ["loess/crc.byNibble"], apart := false, laid := [("loess/crc.byNibble", laid_loess_crc_byNibble)] }
def StoreOwnSaid : Prop := storeOwnRow.holds Tryz.pinned (OpenSpec.ofChange storeOwnSpec)

/-- ITS FALSE NEIGHBOUR: 'it returns false'. Refute it at one input. -/
def storeOwnWrong : ChangeSpec := { name := "storeOwn", fn := fun _ => fun
  | [d1, d2] => { results := [.lit (.bool false)], args := [d1, d2] }
  | _ => none }
def StoreOwnWrongFalsely : Prop := storeOwnRow.holds Tryz.pinned (OpenSpec.ofChange storeOwnWrong)

/-- 'loesslaw15.StoreNone': WHATEVER THE INPUT: true; the input reads as it did. -/
def storeNoneSpec : ChangeSpec := { name := "storeNone", fn := fun _ => fun
  | [] => { results := [.lit (.bool true)], args := [] }
  | _ => none }
def storeNoneRow : OpenClaim := { program := "ytnalokjnbccjnaagreatdoor", sum := "dcfaa855a5765bf88e98da219f31a7ef454f783cd1378b98ea606ea8aa0c3bea", func := "loess/loesslaw15.StoreNone", spec := "storeNone", unfollowed := true, recurses := true, named := ["loess/crc.byNibble"], apart := false, laid := [("loess/crc.byNibble", laid_loess_crc_byNibble)] }
def StoreNoneSaid : Prop := storeNoneRow.holds Tryz.pinned (OpenSpec.ofChange storeNoneSpec)

/-- ITS FALSE NEIGHBOUR: 'it returns false'. Refute it at one input. -/
def storeNoneWrong : ChangeSpec := { name := "storeNone", fn := fun _ => fun
  | [] => { results := [.lit (.bool false)], args := [] }
  | _ => none }
def StoreNoneWrongFalsely : Prop := storeNoneRow.holds Tryz.pinned (OpenSpec.ofChange storeNoneWrong)

/-- 'loesslaw15.StoreFuse': WHATEVER THE INPUT: true; the input reads as it did. -/
def storeFuseSpec : ChangeSpec := { name := "storeFuse", fn := fun _ => fun
  | [d1, d2, d3, d4] => { results := [.lit (.bool true)], args := [d1, d2, d3, d4] }
  | _ => none }
def storeFuseRow : OpenClaim := { program := "ytnalokjnbccjnaagreatdoor", sum := "dcfaa855a5765bf88e98da219f31a7ef454f783cd1378b98ea606ea8aa0c3bea", func := "loess/loesslaw15.StoreFuse", spec := "storeFuse", unfollowed := true, recurses := true, named := ["loess/crc.byNibble"], apart := false, laid := [("loess/crc.byNibble", laid_loess_crc_byNibble)] }
def StoreFuseSaid : Prop := storeFuseRow.holds Tryz.pinned (OpenSpec.ofChange storeFuseSpec)

/-- ITS FALSE NEIGHBOUR: 'it returns false'. Refute it at one input. -/
def storeFuseWrong : ChangeSpec := { name := "storeFuse", fn := fun _ => fun
  | [d1, d2, d3, d4] => { results := [.lit (.bool false)], args := [d1, d2, d3, d4] }
  | _ => none }
def StoreFuseWrongFalsely : Prop := storeFuseRow.holds Tryz.pinned (OpenSpec.ofChange storeFuseWrong)

/-- 'loesslaw15.StoreNames': WHATEVER THE INPUT: true; the input reads as it did. -/
def storeNamesSpec : ChangeSpec := { name := "storeNames", fn := fun _ => fun
  | [d1, d2] => { results := [.lit (.bool true)], args := [d1, d2] }
  | _ => none }
def storeNamesRow : OpenClaim := { program := "ytnalokjnbccjnaagreatdoor", sum := "dcfaa855a5765bf88e98da219f31a7ef454f783cd1378b98ea606ea8aa0c3bea", func := "loess/loesslaw15.StoreNames", spec := "storeNames", unfollowed := true, recurses := true, named := ["loess/crc.byNibble"], apart := false, laid := [("loess/crc.byNibble", laid_loess_crc_byNibble)] }
def StoreNamesSaid : Prop := storeNamesRow.holds Tryz.pinned (OpenSpec.ofChange storeNamesSpec)

/-- ITS FALSE NEIGHBOUR: 'it returns false'. Refute it at one input. -/
def storeNamesWrong : ChangeSpec := { name := "storeNames", fn := fun _ => fun
  | [d1, d2] => { results := [.lit (.bool false)], args := [d1, d2] }
  | _ => none }
def StoreNamesWrongFalsely : Prop := storeNamesRow.holds Tryz.pinned (OpenSpec.ofChange storeNamesWrong)

/- THE SECOND FORM. 'bulk': how many values and letters a reading holds, each counted each time it is reached (what is shared counts as often as it is met; a slice's spare places count too). A statement '..UptoSaid' is the law's where the arguments, and the package variables that the reading takes, are together of bulk at most 1048576: NARROWER than '..Said'. Prove '..Said' where nothing that the law and all that it calls make is longer than what came in: it says more and counts as full. Else prove '..UptoSaid'. A law counts once. -/
mutual
def uptoBulk {H : Type} : DataW H → Nat
  | .lit (.string bytes) => bytes.length + 1
  | .lit _ => 1
  | .nil => 1
  | .ptr d => uptoBulk d + 1
  | .slice elems spare => uptoBulkAll elems + uptoBulkAll spare + 1
  | .agg parts => uptoBulkAll parts + 1
  | .iface _ d => uptoBulk d + 1
  | .map entries => uptoBulkEntries entries + 1
  | .held _ => 1
def uptoBulkAll {H : Type} : List (DataW H) → Nat
  | [] => 0
  | d :: r => uptoBulk d + uptoBulkAll r
def uptoBulkEntries {H : Type} : List (Lit × DataW H) → Nat
  | [] => 0
  | x :: r => uptoBulkEntry x + uptoBulkEntries r
def uptoBulkEntry {H : Type} : Lit × DataW H → Nat
  | (.string bytes, d) => bytes.length + uptoBulk d + 1
  | (_, d) => uptoBulk d + 1
 end
def uptoSmall : (H : Type) → List (DataW H) → Bool := fun _ ds => decide (uptoBulkAll ds ≤ 1048576)
def OpenSpec.upto (s : _root_.Go.ChangeSpec) : _root_.Go.OpenSpec := { _root_.Go.OpenSpec.ofChange s with cond := some uptoSmall }

/-- 'loesslaw15.StoreAll', WHERE WHAT IT READS IS OF BULK AT MOST 1048576: true; the input reads as it did. -/
def storeAllUptoRow : OpenClaim := { program := "ytnalokjnbccjnaagreatdoor", sum := "dcfaa855a5765bf88e98da219f31a7ef454f783cd1378b98ea606ea8aa0c3bea", func := "loess/loesslaw15.StoreAll", spec := "storeAll", unfollowed := true, recurses := true, named := ["loess/crc.byNibble"], apart := false, laid := [("loess/crc.byNibble", laid_loess_crc_byNibble)], narrowed := true }
def StoreAllUptoSaid : Prop := storeAllUptoRow.holds Tryz.pinned (OpenSpec.upto storeAllSpec)

/-- 'loesslaw15.StoreRoom', WHERE WHAT IT READS IS OF BULK AT MOST 1048576: true; the input reads as it did. -/
def storeRoomUptoRow : OpenClaim := { program := "ytnalokjnbccjnaagreatdoor", sum := "dcfaa855a5765bf88e98da219f31a7ef454f783cd1378b98ea606ea8aa0c3bea", func := "loess/loesslaw15.StoreRoom", spec := "storeRoom", unfollowed := true, recurses := true, named := ["loess/crc.byNibble"], apart := false, laid := [("loess/crc.byNibble", laid_loess_crc_byNibble)], narrowed := true }
def StoreRoomUptoSaid : Prop := storeRoomUptoRow.holds Tryz.pinned (OpenSpec.upto storeRoomSpec)

/-- 'loesslaw15.StoreLasts', WHERE WHAT IT READS IS OF BULK AT MOST 1048576: true; the input reads as it did. -/
def storeLastsUptoRow : OpenClaim := { program := "ytnalokjnbccjnaagreatdoor", sum := "dcfaa855a5765bf88e98da219f31a7ef454f783cd1378b98ea606ea8aa0c3bea", func := "loess/loesslaw15.StoreLasts", spec := "storeLasts", unfollowed := true, recurses := true, named := ["loess/crc.byNibble"], apart := false, laid := [("loess/crc.byNibble", laid_loess_crc_byNibble)], narrowed := true }
def StoreLastsUptoSaid : Prop := storeLastsUptoRow.holds Tryz.pinned (OpenSpec.upto storeLastsSpec)

/-- 'loesslaw15.StoreOwn', WHERE WHAT IT READS IS OF BULK AT MOST 1048576: true; the input reads as it did. -/
def storeOwnUptoRow : OpenClaim := { program := "ytnalokjnbccjnaagreatdoor", sum := "dcfaa855a5765bf88e98da219f31a7ef454f783cd1378b98ea606ea8aa0c3bea", func := "loess/loesslaw15.StoreOwn", spec := "storeOwn", unfollowed := true, recurses := true, named := ["loess/crc.byNibble"], apart := false, laid := [("loess/crc.byNibble", laid_loess_crc_byNibble)], narrowed := true }
def StoreOwnUptoSaid : Prop := storeOwnUptoRow.holds Tryz.pinned (OpenSpec.upto storeOwnSpec)

/-- 'loesslaw15.StoreNone', WHERE WHAT IT READS IS OF BULK AT MOST 1048576: true; the input reads as it did. -/
def storeNoneUptoRow : OpenClaim := { program := "ytnalokjnbccjnaagreatdoor", sum := "dcfaa855a5765bf88e98da219f31a7ef454f783cd1378b98ea606ea8aa0c3bea", func := "loess/loesslaw15.StoreNone", spec := "storeNone", unfollowed := true, recurses := true, named := ["loess/crc.byNibble"], apart := false, laid := [("loess/crc.byNibble", laid_loess_crc_byNibble)], narrowed := true }
def StoreNoneUptoSaid : Prop := storeNoneUptoRow.holds Tryz.pinned (OpenSpec.upto storeNoneSpec)

/-- 'loesslaw15.StoreFuse', WHERE WHAT IT READS IS OF BULK AT MOST 1048576: true; the input reads as it did. -/
def storeFuseUptoRow : OpenClaim := { program := "ytnalokjnbccjnaagreatdoor", sum := "dcfaa855a5765bf88e98da219f31a7ef454f783cd1378b98ea606ea8aa0c3bea", func := "loess/loesslaw15.StoreFuse", spec := "storeFuse", unfollowed := true, recurses := true, named := ["loess/crc.byNibble"], apart := false, laid := [("loess/crc.byNibble", laid_loess_crc_byNibble)], narrowed := true }
def StoreFuseUptoSaid : Prop := storeFuseUptoRow.holds Tryz.pinned (OpenSpec.upto storeFuseSpec)

/-- 'loesslaw15.StoreNames', WHERE WHAT IT READS IS OF BULK AT MOST 1048576: true; the input reads as it did. -/
def storeNamesUptoRow : OpenClaim := { program := "ytnalokjnbccjnaagreatdoor", sum := "dcfaa855a5765bf88e98da219f31a7ef454f783cd1378b98ea606ea8aa0c3bea", func := "loess/loesslaw15.StoreNames", spec := "storeNames", unfollowed := true, recurses := true, named := ["loess/crc.byNibble"], apart := false, laid := [("loess/crc.byNibble", laid_loess_crc_byNibble)], narrowed := true }
def StoreNamesUptoSaid : Prop := storeNamesUptoRow.holds Tryz.pinned (OpenSpec.upto storeNamesSpec)

end Rows
end Go.Proofs.YtnalokjnbccjnaaGreatDoor

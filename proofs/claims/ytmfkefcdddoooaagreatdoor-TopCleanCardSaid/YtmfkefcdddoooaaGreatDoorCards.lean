/-
  DERIVED. GIVEN WITH THE SEED: THE CARDS: each row of YtmfkefcdddoooaaGreatDoorRows.lean that lists a variable, with what it lists TIED to the program's text (the seventh form; the later family's looks); each row that meets fmt, with fmt's text TOLD by the authors' own Lean function (tested against real Go, not proved from fmt's source: count such statements apart). THE CARD IS WHAT COUNTS. Prove the row's statement (the work); the ties are given (YtmfkefcdddoooaaGreatDoorTie.lean); close each card by the builder's one call (the guide's Derived/Test/ToyasCard.lean, 'card_holds'). Laid BY PROGRAM, IN A SANDBOX (cutbox-door.mjs). By AI agents, Wed Nov 11 2026. No macro, syntax, notation, axiom, sorry.
-/
import Derived.Test.YtmfkefcdddoooaaGreatDoorRows
import GoSem.ClaimSeven
namespace Go.Proofs.YtmfkefcdddoooaaGreatDoor
namespace Rows

/-- THE TIED CARD OF 'bobbinetkeep.EmitBack'. -/
def emitBackCard : Claim7 := { stood := { row := emitBackRow, standIns := [], harness := (true, "aef1802e85a1e70995355ec42b748af572353b7315d99208caeddf213eef7570"), looks := true }, kinds := [], alts := [], laidByText := true, laidKinds := [.data, .data, .data, .data, .sentinel, .sentinel, .pinned], laidTests := true, laidLooks := .later }
def EmitBackCardSaid : Prop := Claim7.holds Tryz.pinned (.plain (OpenSpec.ofChange emitBackSpec)) emitBackCard

/-- THE TIED CARD OF 'bobbinetlaw.ShowReads'. -/
def showReadsCard : Claim7 := { stood := { row := showReadsRow, standIns := [], harness := (true, "aef1802e85a1e70995355ec42b748af572353b7315d99208caeddf213eef7570"), looks := true }, kinds := [], alts := [], laidByText := true, laidKinds := [.data, .data, .data, .data, .sentinel, .sentinel, .pinned], laidTests := true, laidLooks := .later }
def ShowReadsCardSaid : Prop := Claim7.holds Tryz.pinned (.plain (OpenSpec.ofChange showReadsSpec)) showReadsCard

/-- THE TIED CARD OF 'bobbinetkeep.ShowBack'. -/
def showBackCard : Claim7 := { stood := { row := showBackRow, standIns := [], harness := (true, "aef1802e85a1e70995355ec42b748af572353b7315d99208caeddf213eef7570"), looks := true }, kinds := [], alts := [], laidByText := true, laidKinds := [.data, .data, .data, .data, .sentinel, .sentinel, .pinned], laidTests := true, laidLooks := .later }
def ShowBackCardSaid : Prop := Claim7.holds Tryz.pinned (.plain (OpenSpec.ofChange showBackSpec)) showBackCard

/-- THE TIED CARD OF 'bobbinetkeep.ShowFixed'. -/
def showFixedCard : Claim7 := { stood := { row := showFixedRow, standIns := [], harness := (true, "aef1802e85a1e70995355ec42b748af572353b7315d99208caeddf213eef7570"), looks := true }, kinds := [], alts := [], laidByText := true, laidKinds := [.data, .data, .data, .data, .sentinel, .sentinel, .pinned], laidTests := true, laidLooks := .later }
def ShowFixedCardSaid : Prop := Claim7.holds Tryz.pinned (.plain (OpenSpec.ofChange showFixedSpec)) showFixedCard

/-- THE TIED CARD OF 'bobbinetkeep.ShowBuilt'. -/
def showBuiltCard : Claim7 := { stood := { row := showBuiltRow, standIns := [], harness := (true, "aef1802e85a1e70995355ec42b748af572353b7315d99208caeddf213eef7570"), looks := true }, kinds := [], alts := [], laidByText := true, laidKinds := [.data, .data, .data, .data, .sentinel, .sentinel, .pinned], laidTests := true, laidLooks := .later }
def ShowBuiltCardSaid : Prop := Claim7.holds Tryz.pinned (.plain (OpenSpec.ofChange showBuiltSpec)) showBuiltCard

/-- THE TIED CARD OF 'bobbinettop.TopClean'. -/
def topCleanCard : Claim7 := { stood := { row := topCleanRow, standIns := [], harness := (true, "aef1802e85a1e70995355ec42b748af572353b7315d99208caeddf213eef7570"), looks := true }, kinds := [], alts := [], laidByText := true, laidKinds := [.data, .data, .data, .data, .sentinel, .sentinel, .pinned], laidTests := true, laidLooks := .later }
def TopCleanCardSaid : Prop := Claim7.holds Tryz.pinned (.plain (OpenSpec.ofChange topCleanSpec)) topCleanCard

/-- THE SECOND FORM's CARD OF 'bobbinetkeep.EmitBack'. -/
def emitBackUptoCard : Claim7 := { stood := { row := emitBackUptoRow, standIns := [], harness := (true, "aef1802e85a1e70995355ec42b748af572353b7315d99208caeddf213eef7570"), looks := true }, kinds := [], alts := [], laidByText := true, laidKinds := [.data, .data, .data, .data, .sentinel, .sentinel, .pinned], laidTests := true, laidLooks := .later }
def EmitBackUptoCardSaid : Prop := Claim7.holds Tryz.pinned (.plain (OpenSpec.upto emitBackSpec)) emitBackUptoCard

/-- THE SECOND FORM's CARD OF 'bobbinetlaw.ShowReads'. -/
def showReadsUptoCard : Claim7 := { stood := { row := showReadsUptoRow, standIns := [], harness := (true, "aef1802e85a1e70995355ec42b748af572353b7315d99208caeddf213eef7570"), looks := true }, kinds := [], alts := [], laidByText := true, laidKinds := [.data, .data, .data, .data, .sentinel, .sentinel, .pinned], laidTests := true, laidLooks := .later }
def ShowReadsUptoCardSaid : Prop := Claim7.holds Tryz.pinned (.plain (OpenSpec.upto showReadsSpec)) showReadsUptoCard

/-- THE SECOND FORM's CARD OF 'bobbinetkeep.ShowBack'. -/
def showBackUptoCard : Claim7 := { stood := { row := showBackUptoRow, standIns := [], harness := (true, "aef1802e85a1e70995355ec42b748af572353b7315d99208caeddf213eef7570"), looks := true }, kinds := [], alts := [], laidByText := true, laidKinds := [.data, .data, .data, .data, .sentinel, .sentinel, .pinned], laidTests := true, laidLooks := .later }
def ShowBackUptoCardSaid : Prop := Claim7.holds Tryz.pinned (.plain (OpenSpec.upto showBackSpec)) showBackUptoCard

/-- THE SECOND FORM's CARD OF 'bobbinetkeep.ShowFixed'. -/
def showFixedUptoCard : Claim7 := { stood := { row := showFixedUptoRow, standIns := [], harness := (true, "aef1802e85a1e70995355ec42b748af572353b7315d99208caeddf213eef7570"), looks := true }, kinds := [], alts := [], laidByText := true, laidKinds := [.data, .data, .data, .data, .sentinel, .sentinel, .pinned], laidTests := true, laidLooks := .later }
def ShowFixedUptoCardSaid : Prop := Claim7.holds Tryz.pinned (.plain (OpenSpec.upto showFixedSpec)) showFixedUptoCard

/-- THE SECOND FORM's CARD OF 'bobbinetkeep.ShowBuilt'. -/
def showBuiltUptoCard : Claim7 := { stood := { row := showBuiltUptoRow, standIns := [], harness := (true, "aef1802e85a1e70995355ec42b748af572353b7315d99208caeddf213eef7570"), looks := true }, kinds := [], alts := [], laidByText := true, laidKinds := [.data, .data, .data, .data, .sentinel, .sentinel, .pinned], laidTests := true, laidLooks := .later }
def ShowBuiltUptoCardSaid : Prop := Claim7.holds Tryz.pinned (.plain (OpenSpec.upto showBuiltSpec)) showBuiltUptoCard

/-- THE SECOND FORM's CARD OF 'bobbinettop.TopClean'. -/
def topCleanUptoCard : Claim7 := { stood := { row := topCleanUptoRow, standIns := [], harness := (true, "aef1802e85a1e70995355ec42b748af572353b7315d99208caeddf213eef7570"), looks := true }, kinds := [], alts := [], laidByText := true, laidKinds := [.data, .data, .data, .data, .sentinel, .sentinel, .pinned], laidTests := true, laidLooks := .later }
def TopCleanUptoCardSaid : Prop := Claim7.holds Tryz.pinned (.plain (OpenSpec.upto topCleanSpec)) topCleanUptoCard
end Rows
end Go.Proofs.YtmfkefcdddoooaaGreatDoor

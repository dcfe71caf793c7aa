/-
  DERIVED. GIVEN WITH THE SEED: THE CARDS: each row of YtfockedeikdbjaaGreatDoorRows.lean that lists a variable, with what it lists TIED to the program's text (the seventh form; the later family's looks); each row that meets fmt, with fmt's text TOLD by the authors' own Lean function (tested against real Go, not proved from fmt's source: count such statements apart). THE CARD IS WHAT COUNTS. Prove the row's statement (the work); the ties are given (YtfockedeikdbjaaGreatDoorTie.lean); close each card by the builder's one call (the guide's Derived/Test/ToyasCard.lean, 'card_holds'). Laid BY PROGRAM, IN A SANDBOX (cutbox-door.mjs). By AI agents, Wed Nov 11 2026. No macro, syntax, notation, axiom, sorry.
-/
import Derived.Test.YtfockedeikdbjaaGreatDoorRows
import GoSem.ClaimSeven
namespace Go.Proofs.YtfockedeikdbjaaGreatDoor
namespace Rows

/-- THE TIED CARD OF 'bobbinetkeep.EmitBack'. -/
def emitBackCard : Claim7 := { stood := { row := emitBackRow, standIns := [], harness := (true, "5f01cc0da52034969a45c1fd98e022f409d3be286620937bf3e6959908ee843e"), looks := true }, kinds := [], alts := [], laidByText := true, laidKinds := [.data, .data, .data, .data, .sentinel, .sentinel, .pinned], laidTests := true, laidLooks := .later }
def EmitBackCardSaid : Prop := Claim7.holds Tryz.pinned (.plain (OpenSpec.ofChange emitBackSpec)) emitBackCard

/-- THE TIED CARD OF 'bobbinetkeep.EmitText'. -/
def emitTextCard : Claim7 := { stood := { row := emitTextRow, standIns := [], harness := (true, "5f01cc0da52034969a45c1fd98e022f409d3be286620937bf3e6959908ee843e"), looks := true }, kinds := [], alts := [], laidByText := true, laidKinds := [.data, .data, .data, .data, .sentinel, .sentinel, .pinned], laidTests := true, laidLooks := .later }
def EmitTextCardSaid : Prop := Claim7.holds Tryz.pinned (.plain (OpenSpec.ofChange emitTextSpec)) emitTextCard

/-- THE TIED CARD OF 'bobbinetkeep.EmitAgain'. -/
def emitAgainCard : Claim7 := { stood := { row := emitAgainRow, standIns := [], harness := (true, "5f01cc0da52034969a45c1fd98e022f409d3be286620937bf3e6959908ee843e"), looks := true }, kinds := [], alts := [], laidByText := true, laidKinds := [.data, .data, .data, .data, .sentinel, .sentinel, .pinned], laidTests := true, laidLooks := .later }
def EmitAgainCardSaid : Prop := Claim7.holds Tryz.pinned (.plain (OpenSpec.ofChange emitAgainSpec)) emitAgainCard

/-- THE SECOND FORM's CARD OF 'bobbinetkeep.EmitBack'. -/
def emitBackUptoCard : Claim7 := { stood := { row := emitBackUptoRow, standIns := [], harness := (true, "5f01cc0da52034969a45c1fd98e022f409d3be286620937bf3e6959908ee843e"), looks := true }, kinds := [], alts := [], laidByText := true, laidKinds := [.data, .data, .data, .data, .sentinel, .sentinel, .pinned], laidTests := true, laidLooks := .later }
def EmitBackUptoCardSaid : Prop := Claim7.holds Tryz.pinned (.plain (OpenSpec.upto emitBackSpec)) emitBackUptoCard

/-- THE SECOND FORM's CARD OF 'bobbinetkeep.EmitText'. -/
def emitTextUptoCard : Claim7 := { stood := { row := emitTextUptoRow, standIns := [], harness := (true, "5f01cc0da52034969a45c1fd98e022f409d3be286620937bf3e6959908ee843e"), looks := true }, kinds := [], alts := [], laidByText := true, laidKinds := [.data, .data, .data, .data, .sentinel, .sentinel, .pinned], laidTests := true, laidLooks := .later }
def EmitTextUptoCardSaid : Prop := Claim7.holds Tryz.pinned (.plain (OpenSpec.upto emitTextSpec)) emitTextUptoCard

/-- THE SECOND FORM's CARD OF 'bobbinetkeep.EmitAgain'. -/
def emitAgainUptoCard : Claim7 := { stood := { row := emitAgainUptoRow, standIns := [], harness := (true, "5f01cc0da52034969a45c1fd98e022f409d3be286620937bf3e6959908ee843e"), looks := true }, kinds := [], alts := [], laidByText := true, laidKinds := [.data, .data, .data, .data, .sentinel, .sentinel, .pinned], laidTests := true, laidLooks := .later }
def EmitAgainUptoCardSaid : Prop := Claim7.holds Tryz.pinned (.plain (OpenSpec.upto emitAgainSpec)) emitAgainUptoCard
end Rows
end Go.Proofs.YtfockedeikdbjaaGreatDoor

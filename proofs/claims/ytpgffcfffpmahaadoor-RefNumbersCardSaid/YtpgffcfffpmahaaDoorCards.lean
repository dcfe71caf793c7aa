/-
  DERIVED. GIVEN WITH THE SEED: THE CARDS: each row of YtpgffcfffpmahaaDoorRows.lean that lists a variable, with what it lists TIED to the program's text (the seventh form; the later family's looks); each row that meets fmt, with fmt's text TOLD by the authors' own Lean function (tested against real Go, not proved from fmt's source: count such statements apart). THE CARD IS WHAT COUNTS. Prove the row's statement (the work); the ties are given (YtpgffcfffpmahaaDoorTie.lean); close each card by the builder's one call (the guide's Derived/Test/ToyasCard.lean, 'card_holds'). Laid BY PROGRAM, IN A SANDBOX (cutbox-door.mjs). By AI agents, Wed Nov 11 2026. No macro, syntax, notation, axiom, sorry.
-/
import Derived.Test.YtpgffcfffpmahaaDoorRows
import GoSem.ClaimSeven
namespace Go.Proofs.YtpgffcfffpmahaaDoor
namespace Rows

/-- THE TIED CARD OF 'bobbinetlaw.RefUnescapes'. -/
def refUnescapesCard : Claim7 := { stood := { row := refUnescapesRow, standIns := [], harness := (true, "89c430144344b1d881fc08e33ecc68443b322eaf012f190087daae4ff7b296b7"), looks := true }, kinds := [], alts := [], laidByText := true, laidKinds := [.data, .data, .data, .sentinel, .sentinel], laidTests := true, laidLooks := .later }
def RefUnescapesCardSaid : Prop := Claim7.holds Tryd.pinned (.plain (OpenSpec.ofChange refUnescapesSpec)) refUnescapesCard

/-- THE TIED CARD OF 'bobbinetkeep.RefBack'. -/
def refBackCard : Claim7 := { stood := { row := refBackRow, standIns := [], harness := (true, "89c430144344b1d881fc08e33ecc68443b322eaf012f190087daae4ff7b296b7"), looks := true }, kinds := [], alts := [], laidByText := true, laidKinds := [.data, .data, .data, .sentinel, .sentinel], laidTests := true, laidLooks := .later }
def RefBackCardSaid : Prop := Claim7.holds Tryd.pinned (.plain (OpenSpec.ofChange refBackSpec)) refBackCard

/-- THE TIED CARD OF 'bobbinetkeep.RefParts'. -/
def refPartsCard : Claim7 := { stood := { row := refPartsRow, standIns := [], harness := (true, "89c430144344b1d881fc08e33ecc68443b322eaf012f190087daae4ff7b296b7"), looks := true }, kinds := [], alts := [], laidByText := true, laidKinds := [.data, .data, .data, .sentinel, .sentinel], laidTests := true, laidLooks := .later }
def RefPartsCardSaid : Prop := Claim7.holds Tryd.pinned (.plain (OpenSpec.ofChange refPartsSpec)) refPartsCard

/-- THE TIED CARD OF 'bobbinetkeep.RefNumbers'. -/
def refNumbersCard : Claim7 := { stood := { row := refNumbersRow, standIns := [], harness := (true, "89c430144344b1d881fc08e33ecc68443b322eaf012f190087daae4ff7b296b7"), looks := true }, kinds := [], alts := [], laidByText := true, laidKinds := [.data, .data, .data, .sentinel, .sentinel], laidTests := true, laidLooks := .later }
def RefNumbersCardSaid : Prop := Claim7.holds Tryd.pinned (.plain (OpenSpec.ofChange refNumbersSpec)) refNumbersCard

/-- THE TIED CARD OF 'bobbinetkeep.RefTwice'. -/
def refTwiceCard : Claim7 := { stood := { row := refTwiceRow, standIns := [], harness := (true, "89c430144344b1d881fc08e33ecc68443b322eaf012f190087daae4ff7b296b7"), looks := true }, kinds := [], alts := [], laidByText := true, laidKinds := [.data, .data, .data, .sentinel, .sentinel], laidTests := true, laidLooks := .later }
def RefTwiceCardSaid : Prop := Claim7.holds Tryd.pinned (.plain (OpenSpec.ofChange refTwiceSpec)) refTwiceCard

/-- THE SECOND FORM's CARD OF 'bobbinetlaw.RefUnescapes'. -/
def refUnescapesUptoCard : Claim7 := { stood := { row := refUnescapesUptoRow, standIns := [], harness := (true, "89c430144344b1d881fc08e33ecc68443b322eaf012f190087daae4ff7b296b7"), looks := true }, kinds := [], alts := [], laidByText := true, laidKinds := [.data, .data, .data, .sentinel, .sentinel], laidTests := true, laidLooks := .later }
def RefUnescapesUptoCardSaid : Prop := Claim7.holds Tryd.pinned (.plain (OpenSpec.upto refUnescapesSpec)) refUnescapesUptoCard

/-- THE SECOND FORM's CARD OF 'bobbinetkeep.RefBack'. -/
def refBackUptoCard : Claim7 := { stood := { row := refBackUptoRow, standIns := [], harness := (true, "89c430144344b1d881fc08e33ecc68443b322eaf012f190087daae4ff7b296b7"), looks := true }, kinds := [], alts := [], laidByText := true, laidKinds := [.data, .data, .data, .sentinel, .sentinel], laidTests := true, laidLooks := .later }
def RefBackUptoCardSaid : Prop := Claim7.holds Tryd.pinned (.plain (OpenSpec.upto refBackSpec)) refBackUptoCard

/-- THE SECOND FORM's CARD OF 'bobbinetkeep.RefParts'. -/
def refPartsUptoCard : Claim7 := { stood := { row := refPartsUptoRow, standIns := [], harness := (true, "89c430144344b1d881fc08e33ecc68443b322eaf012f190087daae4ff7b296b7"), looks := true }, kinds := [], alts := [], laidByText := true, laidKinds := [.data, .data, .data, .sentinel, .sentinel], laidTests := true, laidLooks := .later }
def RefPartsUptoCardSaid : Prop := Claim7.holds Tryd.pinned (.plain (OpenSpec.upto refPartsSpec)) refPartsUptoCard

/-- THE SECOND FORM's CARD OF 'bobbinetkeep.RefNumbers'. -/
def refNumbersUptoCard : Claim7 := { stood := { row := refNumbersUptoRow, standIns := [], harness := (true, "89c430144344b1d881fc08e33ecc68443b322eaf012f190087daae4ff7b296b7"), looks := true }, kinds := [], alts := [], laidByText := true, laidKinds := [.data, .data, .data, .sentinel, .sentinel], laidTests := true, laidLooks := .later }
def RefNumbersUptoCardSaid : Prop := Claim7.holds Tryd.pinned (.plain (OpenSpec.upto refNumbersSpec)) refNumbersUptoCard

/-- THE SECOND FORM's CARD OF 'bobbinetkeep.RefTwice'. -/
def refTwiceUptoCard : Claim7 := { stood := { row := refTwiceUptoRow, standIns := [], harness := (true, "89c430144344b1d881fc08e33ecc68443b322eaf012f190087daae4ff7b296b7"), looks := true }, kinds := [], alts := [], laidByText := true, laidKinds := [.data, .data, .data, .sentinel, .sentinel], laidTests := true, laidLooks := .later }
def RefTwiceUptoCardSaid : Prop := Claim7.holds Tryd.pinned (.plain (OpenSpec.upto refTwiceSpec)) refTwiceUptoCard
end Rows
end Go.Proofs.YtpgffcfffpmahaaDoor

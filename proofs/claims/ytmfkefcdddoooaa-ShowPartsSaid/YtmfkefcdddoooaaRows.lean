/-
  NARROWER THAN 'FOR EVERY INPUT', by the rows' own cells (each row's printed sentence says how): ShowChecks: loops · ShowTexts: loops.
  DERIVED. THE GIVEN ROWS OF THIS SEAT. 6 by the template 'for every input the law returns true; each argument reads behind the call as it read before'; 0 by the template 'total and deterministic' (their statements: YtmfkefcdddoooaaTotals.lean).
  GIVEN WITH THE SEED: the statements are not yours to turn. If you find one false, say at which input.
  Laid BY PROGRAM, IN A SANDBOX (cutbox-rows.mjs): the forced cells as the released guide's own fill.sh prints them over the translation d671b691a28b9a81… (all of the seat's roots in one cut). By AI agents, Wed Nov 11 2026. No macro, syntax, notation, axiom, sorry.
-/
import Derived.Test.YtmfkefcdddoooaaChecked
import GoSem.Claim
import GoSem.ClaimJoined
import GoSem.ClaimMapViews
import Derived.JoinedTies
import Derived.KernelRfl
namespace Go.Proofs.Ytmfkefcdddoooaa
/- THE CELL 'sum', in the pinned program and in every row, IS THE sha256 OF THE DUMP (.gsa) THAT YtmfkefcdddoooaaProg.lean LOADS. Nothing in Lean hashes anything: it is a label: what it is worth is what the hold of that sum in a sandbox is worth. -/
noncomputable def Try.pinned : Pinned := { name := "ytmfkefcdddoooaa", sum := "d671b691a28b9a813aa68e937f9d36b04aca8c6891c1a94b0713d33d77de933c", checked := Try.checked }
namespace Rows
def none {H : Type} : Left H := { results := [], args := [] }

/-- 'bobbinetkeep.EmitParts': WHATEVER THE INPUT: true; the input reads as it did. -/
def emitPartsSpec : ChangeSpec := { name := "emitParts", fn := fun _ => fun
  | [d1, d2] => { results := [.lit (.bool true)], args := [d1, d2] }
  | _ => none }
def emitPartsRow : OpenClaim := { program := "ytmfkefcdddoooaa", sum := "d671b691a28b9a813aa68e937f9d36b04aca8c6891c1a94b0713d33d77de933c", func := "bobbinet/bobbinetkeep.EmitParts", spec := "emitParts", inPlace := ["internal/abi.NoEscape"], unfollowed := true, recurses := true, apart := false }
def EmitPartsSaid : Prop := emitPartsRow.holds Try.pinned (OpenSpec.ofChange emitPartsSpec)

/-- ITS FALSE NEIGHBOUR: 'it returns false'. Refute it at one input. -/
def emitPartsWrong : ChangeSpec := { name := "emitParts", fn := fun _ => fun
  | [d1, d2] => { results := [.lit (.bool false)], args := [d1, d2] }
  | _ => none }
def EmitPartsWrongFalsely : Prop := emitPartsRow.holds Try.pinned (OpenSpec.ofChange emitPartsWrong)

/-- 'bobbinetlaw.TreeBuilds': WHATEVER THE INPUT: true; the input reads as it did. -/
def treeBuildsSpec : ChangeSpec := { name := "treeBuilds", fn := fun _ => fun
  | [d] => { results := [.lit (.bool true)], args := [d] }
  | _ => none }
def treeBuildsRow : OpenClaim := { program := "ytmfkefcdddoooaa", sum := "d671b691a28b9a813aa68e937f9d36b04aca8c6891c1a94b0713d33d77de933c", func := "bobbinet/bobbinetlaw.TreeBuilds", spec := "treeBuilds", inPlace := ["internal/abi.NoEscape", "internal/bytealg.MakeNoZero"], unfollowed := true, recurses := true, apart := false }
def TreeBuildsSaid : Prop := treeBuildsRow.holds Try.pinned (OpenSpec.ofChange treeBuildsSpec)

/-- ITS FALSE NEIGHBOUR: 'it returns false'. Refute it at one input. -/
def treeBuildsWrong : ChangeSpec := { name := "treeBuilds", fn := fun _ => fun
  | [d] => { results := [.lit (.bool false)], args := [d] }
  | _ => none }
def TreeBuildsWrongFalsely : Prop := treeBuildsRow.holds Try.pinned (OpenSpec.ofChange treeBuildsWrong)

/-- 'bobbinetkeep.TreeNoise': WHATEVER THE INPUT: true; the input reads as it did. -/
def treeNoiseSpec : ChangeSpec := { name := "treeNoise", fn := fun _ => fun
  | [d1, d2, d3] => { results := [.lit (.bool true)], args := [d1, d2, d3] }
  | _ => none }
def treeNoiseRow : OpenClaim := { program := "ytmfkefcdddoooaa", sum := "d671b691a28b9a813aa68e937f9d36b04aca8c6891c1a94b0713d33d77de933c", func := "bobbinet/bobbinetkeep.TreeNoise", spec := "treeNoise", inPlace := ["internal/abi.NoEscape", "internal/bytealg.MakeNoZero"], recurses := true, apart := false }
def TreeNoiseSaid : Prop := treeNoiseRow.holds Try.pinned (OpenSpec.ofChange treeNoiseSpec)

/-- ITS FALSE NEIGHBOUR: 'it returns false'. Refute it at one input. -/
def treeNoiseWrong : ChangeSpec := { name := "treeNoise", fn := fun _ => fun
  | [d1, d2, d3] => { results := [.lit (.bool false)], args := [d1, d2, d3] }
  | _ => none }
def TreeNoiseWrongFalsely : Prop := treeNoiseRow.holds Try.pinned (OpenSpec.ofChange treeNoiseWrong)

/-- 'bobbinetlaw.ShowChecks': WHATEVER THE INPUT: true; the input reads as it did. -/
def showChecksSpec : ChangeSpec := { name := "showChecks", fn := fun _ => fun
  | [d] => { results := [.lit (.bool true)], args := [d] }
  | _ => none }
def showChecksRow : OpenClaim := { program := "ytmfkefcdddoooaa", sum := "d671b691a28b9a813aa68e937f9d36b04aca8c6891c1a94b0713d33d77de933c", func := "bobbinet/bobbinetlaw.ShowChecks", spec := "showChecks", unfollowed := true, recurses := true, loops := true, apart := false }
def ShowChecksSaid : Prop := showChecksRow.holds Try.pinned (OpenSpec.ofChange showChecksSpec)

/-- ITS FALSE NEIGHBOUR: 'it returns false'. Refute it at one input. -/
def showChecksWrong : ChangeSpec := { name := "showChecks", fn := fun _ => fun
  | [d] => { results := [.lit (.bool false)], args := [d] }
  | _ => none }
def ShowChecksWrongFalsely : Prop := showChecksRow.holds Try.pinned (OpenSpec.ofChange showChecksWrong)

/-- 'bobbinetlaw.ShowTexts': WHATEVER THE INPUT: true; the input reads as it did. -/
def showTextsSpec : ChangeSpec := { name := "showTexts", fn := fun _ => fun
  | [d] => { results := [.lit (.bool true)], args := [d] }
  | _ => none }
def showTextsRow : OpenClaim := { program := "ytmfkefcdddoooaa", sum := "d671b691a28b9a813aa68e937f9d36b04aca8c6891c1a94b0713d33d77de933c", func := "bobbinet/bobbinetlaw.ShowTexts", spec := "showTexts", inPlace := ["internal/abi.NoEscape"], unfollowed := true, recurses := true, loops := true, apart := false }
def ShowTextsSaid : Prop := showTextsRow.holds Try.pinned (OpenSpec.ofChange showTextsSpec)

/-- ITS FALSE NEIGHBOUR: 'it returns false'. Refute it at one input. -/
def showTextsWrong : ChangeSpec := { name := "showTexts", fn := fun _ => fun
  | [d] => { results := [.lit (.bool false)], args := [d] }
  | _ => none }
def ShowTextsWrongFalsely : Prop := showTextsRow.holds Try.pinned (OpenSpec.ofChange showTextsWrong)

/-- 'bobbinetkeep.ShowParts': WHATEVER THE INPUT: true; the input reads as it did. -/
def showPartsSpec : ChangeSpec := { name := "showParts", fn := fun _ => fun
  | [d1, d2] => { results := [.lit (.bool true)], args := [d1, d2] }
  | _ => none }
def showPartsRow : OpenClaim := { program := "ytmfkefcdddoooaa", sum := "d671b691a28b9a813aa68e937f9d36b04aca8c6891c1a94b0713d33d77de933c", func := "bobbinet/bobbinetkeep.ShowParts", spec := "showParts", inPlace := ["internal/abi.NoEscape"], unfollowed := true, recurses := true, apart := false }
def ShowPartsSaid : Prop := showPartsRow.holds Try.pinned (OpenSpec.ofChange showPartsSpec)

/-- ITS FALSE NEIGHBOUR: 'it returns false'. Refute it at one input. -/
def showPartsWrong : ChangeSpec := { name := "showParts", fn := fun _ => fun
  | [d1, d2] => { results := [.lit (.bool false)], args := [d1, d2] }
  | _ => none }
def ShowPartsWrongFalsely : Prop := showPartsRow.holds Try.pinned (OpenSpec.ofChange showPartsWrong)

/- THE SECOND FORM. 'bulk': how many values and letters a reading holds, each counted each time it is reached (what is shared counts as often as it is met; a slice's spare places count too). A statement '..UptoSaid' is the law's where the arguments, and the package variables that the reading takes, are together of bulk at most 1048576: NARROWER than '..Said'. Prove '..Said' where nothing that the law and all that it calls make is longer than what came in: it says more and counts as full. Else prove '..UptoSaid'. A law counts once. -/
mutual
def uptoBulk {H : Type} : DataW H → Nat
  | .lit (.string bytes) => bytes.length + 1
  | .lit _ => 1
  | .nil => 1
  | .ptr d => uptoBulk d + 1
  | .slice elems spare => uptoBulkAll elems + uptoBulkAll spare + 1
  | .agg parts => uptoBulkAll parts + 1
  | .iface _ d => uptoBulk d + 1
  | .map entries => uptoBulkEntries entries + 1
  | .held _ => 1
def uptoBulkAll {H : Type} : List (DataW H) → Nat
  | [] => 0
  | d :: r => uptoBulk d + uptoBulkAll r
def uptoBulkEntries {H : Type} : List (Lit × DataW H) → Nat
  | [] => 0
  | x :: r => uptoBulkEntry x + uptoBulkEntries r
def uptoBulkEntry {H : Type} : Lit × DataW H → Nat
  | (.string bytes, d) => bytes.length + uptoBulk d + 1
  | (_, d) => uptoBulk d + 1
 end
def uptoSmall : (H : Type) → List (DataW H) → Bool := fun _ ds => decide (uptoBulkAll ds ≤ 1048576)
def OpenSpec.upto (s : _root_.Go.ChangeSpec) : _root_.Go.OpenSpec := { _root_.Go.OpenSpec.ofChange s with cond := some uptoSmall }

/-- 'bobbinetkeep.EmitParts', WHERE WHAT IT READS IS OF BULK AT MOST 1048576: true; the input reads as it did. -/
def emitPartsUptoRow : OpenClaim := { program := "ytmfkefcdddoooaa", sum := "d671b691a28b9a813aa68e937f9d36b04aca8c6891c1a94b0713d33d77de933c", func := "bobbinet/bobbinetkeep.EmitParts", spec := "emitParts", inPlace := ["internal/abi.NoEscape"], unfollowed := true, recurses := true, apart := false, narrowed := true }
def EmitPartsUptoSaid : Prop := emitPartsUptoRow.holds Try.pinned (OpenSpec.upto emitPartsSpec)

/-- 'bobbinetlaw.TreeBuilds', WHERE WHAT IT READS IS OF BULK AT MOST 1048576: true; the input reads as it did. -/
def treeBuildsUptoRow : OpenClaim := { program := "ytmfkefcdddoooaa", sum := "d671b691a28b9a813aa68e937f9d36b04aca8c6891c1a94b0713d33d77de933c", func := "bobbinet/bobbinetlaw.TreeBuilds", spec := "treeBuilds", inPlace := ["internal/abi.NoEscape", "internal/bytealg.MakeNoZero"], unfollowed := true, recurses := true, apart := false, narrowed := true }
def TreeBuildsUptoSaid : Prop := treeBuildsUptoRow.holds Try.pinned (OpenSpec.upto treeBuildsSpec)

/-- 'bobbinetkeep.TreeNoise', WHERE WHAT IT READS IS OF BULK AT MOST 1048576: true; the input reads as it did. -/
def treeNoiseUptoRow : OpenClaim := { program := "ytmfkefcdddoooaa", sum := "d671b691a28b9a813aa68e937f9d36b04aca8c6891c1a94b0713d33d77de933c", func := "bobbinet/bobbinetkeep.TreeNoise", spec := "treeNoise", inPlace := ["internal/abi.NoEscape", "internal/bytealg.MakeNoZero"], recurses := true, apart := false, narrowed := true }
def TreeNoiseUptoSaid : Prop := treeNoiseUptoRow.holds Try.pinned (OpenSpec.upto treeNoiseSpec)

/-- 'bobbinetlaw.ShowChecks', WHERE WHAT IT READS IS OF BULK AT MOST 1048576: true; the input reads as it did. -/
def showChecksUptoRow : OpenClaim := { program := "ytmfkefcdddoooaa", sum := "d671b691a28b9a813aa68e937f9d36b04aca8c6891c1a94b0713d33d77de933c", func := "bobbinet/bobbinetlaw.ShowChecks", spec := "showChecks", unfollowed := true, recurses := true, loops := true, apart := false, narrowed := true }
def ShowChecksUptoSaid : Prop := showChecksUptoRow.holds Try.pinned (OpenSpec.upto showChecksSpec)

/-- 'bobbinetlaw.ShowTexts', WHERE WHAT IT READS IS OF BULK AT MOST 1048576: true; the input reads as it did. -/
def showTextsUptoRow : OpenClaim := { program := "ytmfkefcdddoooaa", sum := "d671b691a28b9a813aa68e937f9d36b04aca8c6891c1a94b0713d33d77de933c", func := "bobbinet/bobbinetlaw.ShowTexts", spec := "showTexts", inPlace := ["internal/abi.NoEscape"], unfollowed := true, recurses := true, loops := true, apart := false, narrowed := true }
def ShowTextsUptoSaid : Prop := showTextsUptoRow.holds Try.pinned (OpenSpec.upto showTextsSpec)

/-- 'bobbinetkeep.ShowParts', WHERE WHAT IT READS IS OF BULK AT MOST 1048576: true; the input reads as it did. -/
def showPartsUptoRow : OpenClaim := { program := "ytmfkefcdddoooaa", sum := "d671b691a28b9a813aa68e937f9d36b04aca8c6891c1a94b0713d33d77de933c", func := "bobbinet/bobbinetkeep.ShowParts", spec := "showParts", inPlace := ["internal/abi.NoEscape"], unfollowed := true, recurses := true, apart := false, narrowed := true }
def ShowPartsUptoSaid : Prop := showPartsUptoRow.holds Try.pinned (OpenSpec.upto showPartsSpec)

end Rows
end Go.Proofs.Ytmfkefcdddoooaa

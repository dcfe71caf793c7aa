/-
  No cell of these rows narrows 'for every input' (looked for: loops, veiled, ifaces, maps, wideKeys, modest, calm, conditions, laid).
  DERIVED. THE GIVEN ROWS OF THIS SEAT. 9 by the template 'for every input the law returns true; each argument reads behind the call as it read before'; 0 by the template 'total and deterministic' (their statements: YtmfbabbjcjdhbaaTotals.lean).
  GIVEN WITH THE SEED: the statements are not yours to turn. If you find one false, say at which input.
  Laid BY PROGRAM, IN A SANDBOX (cutbox-rows.mjs): the forced cells as the released guide's own fill.sh prints them over the translation acdabb7213a5cfa8… (all of the seat's roots in one cut). By AI agents, Wed Nov 11 2026. No macro, syntax, notation, axiom, sorry.
-/
import Derived.Test.YtmfbabbjcjdhbaaChecked
import GoSem.Claim
import GoSem.ClaimJoined
import GoSem.ClaimMapViews
import Derived.JoinedTies
import Derived.KernelRfl
namespace Go.Proofs.Ytmfbabbjcjdhbaa
/- THE CELL 'sum', in the pinned program and in every row, IS THE sha256 OF THE DUMP (.gsa) THAT YtmfbabbjcjdhbaaProg.lean LOADS. Nothing in Lean hashes anything: it is a label: what it is worth is what the hold of that sum in a sandbox is worth. -/
noncomputable def Try.pinned : Pinned := { name := "ytmfbabbjcjdhbaa", sum := "acdabb7213a5cfa8f92a71da7191d875af6ad2b10a8295cb9efde00c75324bdc", checked := Try.checked }
namespace Rows
def none {H : Type} : Left H := { results := [], args := [] }

/-- 'bobbinetlaw.UtfRuneses': WHATEVER THE INPUT: true; the input reads as it did. -/
def utfRunesesSpec : ChangeSpec := { name := "utfRuneses", fn := fun _ => fun
  | [d] => { results := [.lit (.bool true)], args := [d] }
  | _ => none }
def utfRunesesRow : OpenClaim := { program := "ytmfbabbjcjdhbaa", sum := "acdabb7213a5cfa8f92a71da7191d875af6ad2b10a8295cb9efde00c75324bdc", func := "bobbinet/bobbinetlaw.UtfRuneses", spec := "utfRuneses", unfollowed := true, recurses := true, apart := false }
def UtfRunesesSaid : Prop := utfRunesesRow.holds Try.pinned (OpenSpec.ofChange utfRunesesSpec)

/-- ITS FALSE NEIGHBOUR: 'it returns false'. Refute it at one input. -/
def utfRunesesWrong : ChangeSpec := { name := "utfRuneses", fn := fun _ => fun
  | [d] => { results := [.lit (.bool false)], args := [d] }
  | _ => none }
def UtfRunesesWrongFalsely : Prop := utfRunesesRow.holds Try.pinned (OpenSpec.ofChange utfRunesesWrong)

/-- 'bobbinetlaw.UtfTexts': WHATEVER THE INPUT: true; the input reads as it did. -/
def utfTextsSpec : ChangeSpec := { name := "utfTexts", fn := fun _ => fun
  | [d] => { results := [.lit (.bool true)], args := [d] }
  | _ => none }
def utfTextsRow : OpenClaim := { program := "ytmfbabbjcjdhbaa", sum := "acdabb7213a5cfa8f92a71da7191d875af6ad2b10a8295cb9efde00c75324bdc", func := "bobbinet/bobbinetlaw.UtfTexts", spec := "utfTexts", unfollowed := true, recurses := true, apart := false }
def UtfTextsSaid : Prop := utfTextsRow.holds Try.pinned (OpenSpec.ofChange utfTextsSpec)

/-- ITS FALSE NEIGHBOUR: 'it returns false'. Refute it at one input. -/
def utfTextsWrong : ChangeSpec := { name := "utfTexts", fn := fun _ => fun
  | [d] => { results := [.lit (.bool false)], args := [d] }
  | _ => none }
def UtfTextsWrongFalsely : Prop := utfTextsRow.holds Try.pinned (OpenSpec.ofChange utfTextsWrong)

/-- 'bobbinetlaw.UtfCleans': WHATEVER THE INPUT: true; the input reads as it did. -/
def utfCleansSpec : ChangeSpec := { name := "utfCleans", fn := fun _ => fun
  | [d] => { results := [.lit (.bool true)], args := [d] }
  | _ => none }
def utfCleansRow : OpenClaim := { program := "ytmfbabbjcjdhbaa", sum := "acdabb7213a5cfa8f92a71da7191d875af6ad2b10a8295cb9efde00c75324bdc", func := "bobbinet/bobbinetlaw.UtfCleans", spec := "utfCleans", inPlace := ["internal/abi.NoEscape"], unfollowed := true, recurses := true, apart := false }
def UtfCleansSaid : Prop := utfCleansRow.holds Try.pinned (OpenSpec.ofChange utfCleansSpec)

/-- ITS FALSE NEIGHBOUR: 'it returns false'. Refute it at one input. -/
def utfCleansWrong : ChangeSpec := { name := "utfCleans", fn := fun _ => fun
  | [d] => { results := [.lit (.bool false)], args := [d] }
  | _ => none }
def UtfCleansWrongFalsely : Prop := utfCleansRow.holds Try.pinned (OpenSpec.ofChange utfCleansWrong)

/-- 'bobbinetkeep.UtfBack': WHATEVER THE INPUT: true; the input reads as it did. -/
def utfBackSpec : ChangeSpec := { name := "utfBack", fn := fun _ => fun
  | [d1, d2] => { results := [.lit (.bool true)], args := [d1, d2] }
  | _ => none }
def utfBackRow : OpenClaim := { program := "ytmfbabbjcjdhbaa", sum := "acdabb7213a5cfa8f92a71da7191d875af6ad2b10a8295cb9efde00c75324bdc", func := "bobbinet/bobbinetkeep.UtfBack", spec := "utfBack", apart := false }
def UtfBackSaid : Prop := utfBackRow.holds Try.pinned (OpenSpec.ofChange utfBackSpec)

/-- ITS FALSE NEIGHBOUR: 'it returns false'. Refute it at one input. -/
def utfBackWrong : ChangeSpec := { name := "utfBack", fn := fun _ => fun
  | [d1, d2] => { results := [.lit (.bool false)], args := [d1, d2] }
  | _ => none }
def UtfBackWrongFalsely : Prop := utfBackRow.holds Try.pinned (OpenSpec.ofChange utfBackWrong)

/-- 'bobbinetkeep.CleanOnce': WHATEVER THE INPUT: true; the input reads as it did. -/
def cleanOnceSpec : ChangeSpec := { name := "cleanOnce", fn := fun _ => fun
  | [d] => { results := [.lit (.bool true)], args := [d] }
  | _ => none }
def cleanOnceRow : OpenClaim := { program := "ytmfbabbjcjdhbaa", sum := "acdabb7213a5cfa8f92a71da7191d875af6ad2b10a8295cb9efde00c75324bdc", func := "bobbinet/bobbinetkeep.CleanOnce", spec := "cleanOnce", inPlace := ["internal/abi.NoEscape"], apart := false }
def CleanOnceSaid : Prop := cleanOnceRow.holds Try.pinned (OpenSpec.ofChange cleanOnceSpec)

/-- ITS FALSE NEIGHBOUR: 'it returns false'. Refute it at one input. -/
def cleanOnceWrong : ChangeSpec := { name := "cleanOnce", fn := fun _ => fun
  | [d] => { results := [.lit (.bool false)], args := [d] }
  | _ => none }
def CleanOnceWrongFalsely : Prop := cleanOnceRow.holds Try.pinned (OpenSpec.ofChange cleanOnceWrong)

/-- 'bobbinetkeep.CleanLines': WHATEVER THE INPUT: true; the input reads as it did. -/
def cleanLinesSpec : ChangeSpec := { name := "cleanLines", fn := fun _ => fun
  | [d1, d2] => { results := [.lit (.bool true)], args := [d1, d2] }
  | _ => none }
def cleanLinesRow : OpenClaim := { program := "ytmfbabbjcjdhbaa", sum := "acdabb7213a5cfa8f92a71da7191d875af6ad2b10a8295cb9efde00c75324bdc", func := "bobbinet/bobbinetkeep.CleanLines", spec := "cleanLines", inPlace := ["internal/abi.NoEscape"], apart := false }
def CleanLinesSaid : Prop := cleanLinesRow.holds Try.pinned (OpenSpec.ofChange cleanLinesSpec)

/-- ITS FALSE NEIGHBOUR: 'it returns false'. Refute it at one input. -/
def cleanLinesWrong : ChangeSpec := { name := "cleanLines", fn := fun _ => fun
  | [d1, d2] => { results := [.lit (.bool false)], args := [d1, d2] }
  | _ => none }
def CleanLinesWrongFalsely : Prop := cleanLinesRow.holds Try.pinned (OpenSpec.ofChange cleanLinesWrong)

/-- 'bobbinetkeep.UtfOrder': WHATEVER THE INPUT: true; the input reads as it did. -/
def utfOrderSpec : ChangeSpec := { name := "utfOrder", fn := fun _ => fun
  | [d1, d2] => { results := [.lit (.bool true)], args := [d1, d2] }
  | _ => none }
def utfOrderRow : OpenClaim := { program := "ytmfbabbjcjdhbaa", sum := "acdabb7213a5cfa8f92a71da7191d875af6ad2b10a8295cb9efde00c75324bdc", func := "bobbinet/bobbinetkeep.UtfOrder", spec := "utfOrder", apart := false }
def UtfOrderSaid : Prop := utfOrderRow.holds Try.pinned (OpenSpec.ofChange utfOrderSpec)

/-- ITS FALSE NEIGHBOUR: 'it returns false'. Refute it at one input. -/
def utfOrderWrong : ChangeSpec := { name := "utfOrder", fn := fun _ => fun
  | [d1, d2] => { results := [.lit (.bool false)], args := [d1, d2] }
  | _ => none }
def UtfOrderWrongFalsely : Prop := utfOrderRow.holds Try.pinned (OpenSpec.ofChange utfOrderWrong)

/-- 'bobbinetkeep.CleanParts': WHATEVER THE INPUT: true; the input reads as it did. -/
def cleanPartsSpec : ChangeSpec := { name := "cleanParts", fn := fun _ => fun
  | [d1, d2] => { results := [.lit (.bool true)], args := [d1, d2] }
  | _ => none }
def cleanPartsRow : OpenClaim := { program := "ytmfbabbjcjdhbaa", sum := "acdabb7213a5cfa8f92a71da7191d875af6ad2b10a8295cb9efde00c75324bdc", func := "bobbinet/bobbinetkeep.CleanParts", spec := "cleanParts", inPlace := ["internal/abi.NoEscape"], apart := false }
def CleanPartsSaid : Prop := cleanPartsRow.holds Try.pinned (OpenSpec.ofChange cleanPartsSpec)

/-- ITS FALSE NEIGHBOUR: 'it returns false'. Refute it at one input. -/
def cleanPartsWrong : ChangeSpec := { name := "cleanParts", fn := fun _ => fun
  | [d1, d2] => { results := [.lit (.bool false)], args := [d1, d2] }
  | _ => none }
def CleanPartsWrongFalsely : Prop := cleanPartsRow.holds Try.pinned (OpenSpec.ofChange cleanPartsWrong)

/-- 'bobbinetkeep.UtfCount': WHATEVER THE INPUT: true; the input reads as it did. -/
def utfCountSpec : ChangeSpec := { name := "utfCount", fn := fun _ => fun
  | [d1, d2] => { results := [.lit (.bool true)], args := [d1, d2] }
  | _ => none }
def utfCountRow : OpenClaim := { program := "ytmfbabbjcjdhbaa", sum := "acdabb7213a5cfa8f92a71da7191d875af6ad2b10a8295cb9efde00c75324bdc", func := "bobbinet/bobbinetkeep.UtfCount", spec := "utfCount", apart := false }
def UtfCountSaid : Prop := utfCountRow.holds Try.pinned (OpenSpec.ofChange utfCountSpec)

/-- ITS FALSE NEIGHBOUR: 'it returns false'. Refute it at one input. -/
def utfCountWrong : ChangeSpec := { name := "utfCount", fn := fun _ => fun
  | [d1, d2] => { results := [.lit (.bool false)], args := [d1, d2] }
  | _ => none }
def UtfCountWrongFalsely : Prop := utfCountRow.holds Try.pinned (OpenSpec.ofChange utfCountWrong)

/- THE SECOND FORM. 'bulk': how many values and letters a reading holds, each counted each time it is reached (what is shared counts as often as it is met; a slice's spare places count too). A statement '..UptoSaid' is the law's where the arguments, and the package variables that the reading takes, are together of bulk at most 1048576: NARROWER than '..Said'. Prove '..Said' where nothing that the law and all that it calls make is longer than what came in: it says more and counts as full. Else prove '..UptoSaid'. A law counts once. -/
mutual
def uptoBulk {H : Type} : DataW H → Nat
  | .lit (.string bytes) => bytes.length + 1
  | .lit _ => 1
  | .nil => 1
  | .ptr d => uptoBulk d + 1
  | .slice elems spare => uptoBulkAll elems + uptoBulkAll spare + 1
  | .agg parts => uptoBulkAll parts + 1
  | .iface _ d => uptoBulk d + 1
  | .map entries => uptoBulkEntries entries + 1
  | .held _ => 1
def uptoBulkAll {H : Type} : List (DataW H) → Nat
  | [] => 0
  | d :: r => uptoBulk d + uptoBulkAll r
def uptoBulkEntries {H : Type} : List (Lit × DataW H) → Nat
  | [] => 0
  | x :: r => uptoBulkEntry x + uptoBulkEntries r
def uptoBulkEntry {H : Type} : Lit × DataW H → Nat
  | (.string bytes, d) => bytes.length + uptoBulk d + 1
  | (_, d) => uptoBulk d + 1
 end
def uptoSmall : (H : Type) → List (DataW H) → Bool := fun _ ds => decide (uptoBulkAll ds ≤ 1048576)
def OpenSpec.upto (s : _root_.Go.ChangeSpec) : _root_.Go.OpenSpec := { _root_.Go.OpenSpec.ofChange s with cond := some uptoSmall }

/-- 'bobbinetlaw.UtfRuneses', WHERE WHAT IT READS IS OF BULK AT MOST 1048576: true; the input reads as it did. -/
def utfRunesesUptoRow : OpenClaim := { program := "ytmfbabbjcjdhbaa", sum := "acdabb7213a5cfa8f92a71da7191d875af6ad2b10a8295cb9efde00c75324bdc", func := "bobbinet/bobbinetlaw.UtfRuneses", spec := "utfRuneses", unfollowed := true, recurses := true, apart := false, narrowed := true }
def UtfRunesesUptoSaid : Prop := utfRunesesUptoRow.holds Try.pinned (OpenSpec.upto utfRunesesSpec)

/-- 'bobbinetlaw.UtfTexts', WHERE WHAT IT READS IS OF BULK AT MOST 1048576: true; the input reads as it did. -/
def utfTextsUptoRow : OpenClaim := { program := "ytmfbabbjcjdhbaa", sum := "acdabb7213a5cfa8f92a71da7191d875af6ad2b10a8295cb9efde00c75324bdc", func := "bobbinet/bobbinetlaw.UtfTexts", spec := "utfTexts", unfollowed := true, recurses := true, apart := false, narrowed := true }
def UtfTextsUptoSaid : Prop := utfTextsUptoRow.holds Try.pinned (OpenSpec.upto utfTextsSpec)

/-- 'bobbinetlaw.UtfCleans', WHERE WHAT IT READS IS OF BULK AT MOST 1048576: true; the input reads as it did. -/
def utfCleansUptoRow : OpenClaim := { program := "ytmfbabbjcjdhbaa", sum := "acdabb7213a5cfa8f92a71da7191d875af6ad2b10a8295cb9efde00c75324bdc", func := "bobbinet/bobbinetlaw.UtfCleans", spec := "utfCleans", inPlace := ["internal/abi.NoEscape"], unfollowed := true, recurses := true, apart := false, narrowed := true }
def UtfCleansUptoSaid : Prop := utfCleansUptoRow.holds Try.pinned (OpenSpec.upto utfCleansSpec)

/-- 'bobbinetkeep.UtfBack', WHERE WHAT IT READS IS OF BULK AT MOST 1048576: true; the input reads as it did. -/
def utfBackUptoRow : OpenClaim := { program := "ytmfbabbjcjdhbaa", sum := "acdabb7213a5cfa8f92a71da7191d875af6ad2b10a8295cb9efde00c75324bdc", func := "bobbinet/bobbinetkeep.UtfBack", spec := "utfBack", apart := false, narrowed := true }
def UtfBackUptoSaid : Prop := utfBackUptoRow.holds Try.pinned (OpenSpec.upto utfBackSpec)

/-- 'bobbinetkeep.CleanOnce', WHERE WHAT IT READS IS OF BULK AT MOST 1048576: true; the input reads as it did. -/
def cleanOnceUptoRow : OpenClaim := { program := "ytmfbabbjcjdhbaa", sum := "acdabb7213a5cfa8f92a71da7191d875af6ad2b10a8295cb9efde00c75324bdc", func := "bobbinet/bobbinetkeep.CleanOnce", spec := "cleanOnce", inPlace := ["internal/abi.NoEscape"], apart := false, narrowed := true }
def CleanOnceUptoSaid : Prop := cleanOnceUptoRow.holds Try.pinned (OpenSpec.upto cleanOnceSpec)

/-- 'bobbinetkeep.CleanLines', WHERE WHAT IT READS IS OF BULK AT MOST 1048576: true; the input reads as it did. -/
def cleanLinesUptoRow : OpenClaim := { program := "ytmfbabbjcjdhbaa", sum := "acdabb7213a5cfa8f92a71da7191d875af6ad2b10a8295cb9efde00c75324bdc", func := "bobbinet/bobbinetkeep.CleanLines", spec := "cleanLines", inPlace := ["internal/abi.NoEscape"], apart := false, narrowed := true }
def CleanLinesUptoSaid : Prop := cleanLinesUptoRow.holds Try.pinned (OpenSpec.upto cleanLinesSpec)

/-- 'bobbinetkeep.UtfOrder', WHERE WHAT IT READS IS OF BULK AT MOST 1048576: true; the input reads as it did. -/
def utfOrderUptoRow : OpenClaim := { program := "ytmfbabbjcjdhbaa", sum := "acdabb7213a5cfa8f92a71da7191d875af6ad2b10a8295cb9efde00c75324bdc", func := "bobbinet/bobbinetkeep.UtfOrder", spec := "utfOrder", apart := false, narrowed := true }
def UtfOrderUptoSaid : Prop := utfOrderUptoRow.holds Try.pinned (OpenSpec.upto utfOrderSpec)

/-- 'bobbinetkeep.CleanParts', WHERE WHAT IT READS IS OF BULK AT MOST 1048576: true; the input reads as it did. -/
def cleanPartsUptoRow : OpenClaim := { program := "ytmfbabbjcjdhbaa", sum := "acdabb7213a5cfa8f92a71da7191d875af6ad2b10a8295cb9efde00c75324bdc", func := "bobbinet/bobbinetkeep.CleanParts", spec := "cleanParts", inPlace := ["internal/abi.NoEscape"], apart := false, narrowed := true }
def CleanPartsUptoSaid : Prop := cleanPartsUptoRow.holds Try.pinned (OpenSpec.upto cleanPartsSpec)

/-- 'bobbinetkeep.UtfCount', WHERE WHAT IT READS IS OF BULK AT MOST 1048576: true; the input reads as it did. -/
def utfCountUptoRow : OpenClaim := { program := "ytmfbabbjcjdhbaa", sum := "acdabb7213a5cfa8f92a71da7191d875af6ad2b10a8295cb9efde00c75324bdc", func := "bobbinet/bobbinetkeep.UtfCount", spec := "utfCount", apart := false, narrowed := true }
def UtfCountUptoSaid : Prop := utfCountUptoRow.holds Try.pinned (OpenSpec.upto utfCountSpec)

end Rows
end Go.Proofs.Ytmfbabbjcjdhbaa

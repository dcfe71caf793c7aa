/-
  No cell of these rows narrows 'for every input' (looked for: loops, veiled, ifaces, maps, wideKeys, modest, calm, conditions, laid).
  DERIVED. THE GIVEN ROWS OF THIS SEAT. 6 by the template 'for every input the law returns true; each argument reads behind the call as it read before'; 0 by the template 'total and deterministic' (their statements: YtonchdhchaiikaaTotals.lean).
  GIVEN WITH THE SEED: the statements are not yours to turn. If you find one false, say at which input.
  Laid BY PROGRAM, IN A SANDBOX (cutbox-rows.mjs): the forced cells as the released guide's own fill.sh prints them over the translation 9fa4541a3ad0b35f… (all of the seat's roots in one cut). By AI agents, Wed Nov 11 2026. No macro, syntax, notation, axiom, sorry.
-/
import Derived.Test.YtonchdhchaiikaaChecked
import GoSem.Claim
import GoSem.ClaimJoined
import GoSem.ClaimMapViews
import Derived.JoinedTies
import Derived.KernelRfl
namespace Go.Proofs.Ytonchdhchaiikaa
/- THE CELL 'sum', in the pinned program and in every row, IS THE sha256 OF THE DUMP (.gsa) THAT YtonchdhchaiikaaProg.lean LOADS. Nothing in Lean hashes anything: it is a label: what it is worth is what the hold of that sum in a sandbox is worth. -/
noncomputable def Try.pinned : Pinned := { name := "ytonchdhchaiikaa", sum := "9fa4541a3ad0b35f5d6c987dd6d7637a9132d54ce5329aa641445ee47f6c2dda", checked := Try.checked }
namespace Rows
def none {H : Type} : Left H := { results := [], args := [] }

/-- 'bobbinetlaw.AutoMays': WHATEVER THE INPUT: true; the input reads as it did. -/
def autoMaysSpec : ChangeSpec := { name := "autoMays", fn := fun _ => fun
  | [d] => { results := [.lit (.bool true)], args := [d] }
  | _ => none }
def autoMaysRow : OpenClaim := { program := "ytonchdhchaiikaa", sum := "9fa4541a3ad0b35f5d6c987dd6d7637a9132d54ce5329aa641445ee47f6c2dda", func := "bobbinet/bobbinetlaw.AutoMays", spec := "autoMays", unfollowed := true, recurses := true, plainKeys := false, apart := false }
def AutoMaysSaid : Prop := autoMaysRow.holds Try.pinned (OpenSpec.ofChange autoMaysSpec)

/-- ITS FALSE NEIGHBOUR: 'it returns false'. Refute it at one input. -/
def autoMaysWrong : ChangeSpec := { name := "autoMays", fn := fun _ => fun
  | [d] => { results := [.lit (.bool false)], args := [d] }
  | _ => none }
def AutoMaysWrongFalsely : Prop := autoMaysRow.holds Try.pinned (OpenSpec.ofChange autoMaysWrong)

/-- 'bobbinetlaw.AutoRuns': WHATEVER THE INPUT: true; the input reads as it did. -/
def autoRunsSpec : ChangeSpec := { name := "autoRuns", fn := fun _ => fun
  | [d1, d2] => { results := [.lit (.bool true)], args := [d1, d2] }
  | _ => none }
def autoRunsRow : OpenClaim := { program := "ytonchdhchaiikaa", sum := "9fa4541a3ad0b35f5d6c987dd6d7637a9132d54ce5329aa641445ee47f6c2dda", func := "bobbinet/bobbinetlaw.AutoRuns", spec := "autoRuns", unfollowed := true, recurses := true, plainKeys := false, apart := false }
def AutoRunsSaid : Prop := autoRunsRow.holds Try.pinned (OpenSpec.ofChange autoRunsSpec)

/-- ITS FALSE NEIGHBOUR: 'it returns false'. Refute it at one input. -/
def autoRunsWrong : ChangeSpec := { name := "autoRuns", fn := fun _ => fun
  | [d1, d2] => { results := [.lit (.bool false)], args := [d1, d2] }
  | _ => none }
def AutoRunsWrongFalsely : Prop := autoRunsRow.holds Try.pinned (OpenSpec.ofChange autoRunsWrong)

/-- 'bobbinetlaw.AutoSames': WHATEVER THE INPUT: true; the input reads as it did. -/
def autoSamesSpec : ChangeSpec := { name := "autoSames", fn := fun _ => fun
  | [d1, d2] => { results := [.lit (.bool true)], args := [d1, d2] }
  | _ => none }
def autoSamesRow : OpenClaim := { program := "ytonchdhchaiikaa", sum := "9fa4541a3ad0b35f5d6c987dd6d7637a9132d54ce5329aa641445ee47f6c2dda", func := "bobbinet/bobbinetlaw.AutoSames", spec := "autoSames", unfollowed := true, recurses := true, plainKeys := false, apart := false }
def AutoSamesSaid : Prop := autoSamesRow.holds Try.pinned (OpenSpec.ofChange autoSamesSpec)

/-- ITS FALSE NEIGHBOUR: 'it returns false'. Refute it at one input. -/
def autoSamesWrong : ChangeSpec := { name := "autoSames", fn := fun _ => fun
  | [d1, d2] => { results := [.lit (.bool false)], args := [d1, d2] }
  | _ => none }
def AutoSamesWrongFalsely : Prop := autoSamesRow.holds Try.pinned (OpenSpec.ofChange autoSamesWrong)

/-- 'bobbinetlaw.AutoBoths': WHATEVER THE INPUT: true; the input reads as it did. -/
def autoBothsSpec : ChangeSpec := { name := "autoBoths", fn := fun _ => fun
  | [d1, d2] => { results := [.lit (.bool true)], args := [d1, d2] }
  | _ => none }
def autoBothsRow : OpenClaim := { program := "ytonchdhchaiikaa", sum := "9fa4541a3ad0b35f5d6c987dd6d7637a9132d54ce5329aa641445ee47f6c2dda", func := "bobbinet/bobbinetlaw.AutoBoths", spec := "autoBoths", unfollowed := true, recurses := true, plainKeys := false, apart := false }
def AutoBothsSaid : Prop := autoBothsRow.holds Try.pinned (OpenSpec.ofChange autoBothsSpec)

/-- ITS FALSE NEIGHBOUR: 'it returns false'. Refute it at one input. -/
def autoBothsWrong : ChangeSpec := { name := "autoBoths", fn := fun _ => fun
  | [d1, d2] => { results := [.lit (.bool false)], args := [d1, d2] }
  | _ => none }
def AutoBothsWrongFalsely : Prop := autoBothsRow.holds Try.pinned (OpenSpec.ofChange autoBothsWrong)

/-- 'bobbinetlaw.AutoCounts': WHATEVER THE INPUT: true; the input reads as it did. -/
def autoCountsSpec : ChangeSpec := { name := "autoCounts", fn := fun _ => fun
  | [d1, d2] => { results := [.lit (.bool true)], args := [d1, d2] }
  | _ => none }
def autoCountsRow : OpenClaim := { program := "ytonchdhchaiikaa", sum := "9fa4541a3ad0b35f5d6c987dd6d7637a9132d54ce5329aa641445ee47f6c2dda", func := "bobbinet/bobbinetlaw.AutoCounts", spec := "autoCounts", unfollowed := true, recurses := true, plainKeys := false, apart := false }
def AutoCountsSaid : Prop := autoCountsRow.holds Try.pinned (OpenSpec.ofChange autoCountsSpec)

/-- ITS FALSE NEIGHBOUR: 'it returns false'. Refute it at one input. -/
def autoCountsWrong : ChangeSpec := { name := "autoCounts", fn := fun _ => fun
  | [d1, d2] => { results := [.lit (.bool false)], args := [d1, d2] }
  | _ => none }
def AutoCountsWrongFalsely : Prop := autoCountsRow.holds Try.pinned (OpenSpec.ofChange autoCountsWrong)

/-- 'bobbinetlaw.AutoLeasts': WHATEVER THE INPUT: true; the input reads as it did. -/
def autoLeastsSpec : ChangeSpec := { name := "autoLeasts", fn := fun _ => fun
  | [d] => { results := [.lit (.bool true)], args := [d] }
  | _ => none }
def autoLeastsRow : OpenClaim := { program := "ytonchdhchaiikaa", sum := "9fa4541a3ad0b35f5d6c987dd6d7637a9132d54ce5329aa641445ee47f6c2dda", func := "bobbinet/bobbinetlaw.AutoLeasts", spec := "autoLeasts", unfollowed := true, recurses := true, plainKeys := false, apart := false }
def AutoLeastsSaid : Prop := autoLeastsRow.holds Try.pinned (OpenSpec.ofChange autoLeastsSpec)

/-- ITS FALSE NEIGHBOUR: 'it returns false'. Refute it at one input. -/
def autoLeastsWrong : ChangeSpec := { name := "autoLeasts", fn := fun _ => fun
  | [d] => { results := [.lit (.bool false)], args := [d] }
  | _ => none }
def AutoLeastsWrongFalsely : Prop := autoLeastsRow.holds Try.pinned (OpenSpec.ofChange autoLeastsWrong)

/- THE SECOND FORM. 'bulk': how many values and letters a reading holds, each counted each time it is reached (what is shared counts as often as it is met; a slice's spare places count too). A statement '..UptoSaid' is the law's where the arguments, and the package variables that the reading takes, are together of bulk at most 1048576: NARROWER than '..Said'. Prove '..Said' where nothing that the law and all that it calls make is longer than what came in: it says more and counts as full. Else prove '..UptoSaid'. A law counts once. -/
mutual
def uptoBulk {H : Type} : DataW H → Nat
  | .lit (.string bytes) => bytes.length + 1
  | .lit _ => 1
  | .nil => 1
  | .ptr d => uptoBulk d + 1
  | .slice elems spare => uptoBulkAll elems + uptoBulkAll spare + 1
  | .agg parts => uptoBulkAll parts + 1
  | .iface _ d => uptoBulk d + 1
  | .map entries => uptoBulkEntries entries + 1
  | .held _ => 1
def uptoBulkAll {H : Type} : List (DataW H) → Nat
  | [] => 0
  | d :: r => uptoBulk d + uptoBulkAll r
def uptoBulkEntries {H : Type} : List (Lit × DataW H) → Nat
  | [] => 0
  | x :: r => uptoBulkEntry x + uptoBulkEntries r
def uptoBulkEntry {H : Type} : Lit × DataW H → Nat
  | (.string bytes, d) => bytes.length + uptoBulk d + 1
  | (_, d) => uptoBulk d + 1
 end
def uptoSmall : (H : Type) → List (DataW H) → Bool := fun _ ds => decide (uptoBulkAll ds ≤ 1048576)
def OpenSpec.upto (s : _root_.Go.ChangeSpec) : _root_.Go.OpenSpec := { _root_.Go.OpenSpec.ofChange s with cond := some uptoSmall }

/-- 'bobbinetlaw.AutoMays', WHERE WHAT IT READS IS OF BULK AT MOST 1048576: true; the input reads as it did. -/
def autoMaysUptoRow : OpenClaim := { program := "ytonchdhchaiikaa", sum := "9fa4541a3ad0b35f5d6c987dd6d7637a9132d54ce5329aa641445ee47f6c2dda", func := "bobbinet/bobbinetlaw.AutoMays", spec := "autoMays", unfollowed := true, recurses := true, plainKeys := false, apart := false, narrowed := true }
def AutoMaysUptoSaid : Prop := autoMaysUptoRow.holds Try.pinned (OpenSpec.upto autoMaysSpec)

/-- 'bobbinetlaw.AutoRuns', WHERE WHAT IT READS IS OF BULK AT MOST 1048576: true; the input reads as it did. -/
def autoRunsUptoRow : OpenClaim := { program := "ytonchdhchaiikaa", sum := "9fa4541a3ad0b35f5d6c987dd6d7637a9132d54ce5329aa641445ee47f6c2dda", func := "bobbinet/bobbinetlaw.AutoRuns", spec := "autoRuns", unfollowed := true, recurses := true, plainKeys := false, apart := false, narrowed := true }
def AutoRunsUptoSaid : Prop := autoRunsUptoRow.holds Try.pinned (OpenSpec.upto autoRunsSpec)

/-- 'bobbinetlaw.AutoSames', WHERE WHAT IT READS IS OF BULK AT MOST 1048576: true; the input reads as it did. -/
def autoSamesUptoRow : OpenClaim := { program := "ytonchdhchaiikaa", sum := "9fa4541a3ad0b35f5d6c987dd6d7637a9132d54ce5329aa641445ee47f6c2dda", func := "bobbinet/bobbinetlaw.AutoSames", spec := "autoSames", unfollowed := true, recurses := true, plainKeys := false, apart := false, narrowed := true }
def AutoSamesUptoSaid : Prop := autoSamesUptoRow.holds Try.pinned (OpenSpec.upto autoSamesSpec)

/-- 'bobbinetlaw.AutoBoths', WHERE WHAT IT READS IS OF BULK AT MOST 1048576: true; the input reads as it did. -/
def autoBothsUptoRow : OpenClaim := { program := "ytonchdhchaiikaa", sum := "9fa4541a3ad0b35f5d6c987dd6d7637a9132d54ce5329aa641445ee47f6c2dda", func := "bobbinet/bobbinetlaw.AutoBoths", spec := "autoBoths", unfollowed := true, recurses := true, plainKeys := false, apart := false, narrowed := true }
def AutoBothsUptoSaid : Prop := autoBothsUptoRow.holds Try.pinned (OpenSpec.upto autoBothsSpec)

/-- 'bobbinetlaw.AutoCounts', WHERE WHAT IT READS IS OF BULK AT MOST 1048576: true; the input reads as it did. -/
def autoCountsUptoRow : OpenClaim := { program := "ytonchdhchaiikaa", sum := "9fa4541a3ad0b35f5d6c987dd6d7637a9132d54ce5329aa641445ee47f6c2dda", func := "bobbinet/bobbinetlaw.AutoCounts", spec := "autoCounts", unfollowed := true, recurses := true, plainKeys := false, apart := false, narrowed := true }
def AutoCountsUptoSaid : Prop := autoCountsUptoRow.holds Try.pinned (OpenSpec.upto autoCountsSpec)

/-- 'bobbinetlaw.AutoLeasts', WHERE WHAT IT READS IS OF BULK AT MOST 1048576: true; the input reads as it did. -/
def autoLeastsUptoRow : OpenClaim := { program := "ytonchdhchaiikaa", sum := "9fa4541a3ad0b35f5d6c987dd6d7637a9132d54ce5329aa641445ee47f6c2dda", func := "bobbinet/bobbinetlaw.AutoLeasts", spec := "autoLeasts", unfollowed := true, recurses := true, plainKeys := false, apart := false, narrowed := true }
def AutoLeastsUptoSaid : Prop := autoLeastsUptoRow.holds Try.pinned (OpenSpec.upto autoLeastsSpec)

end Rows
end Go.Proofs.Ytonchdhchaiikaa

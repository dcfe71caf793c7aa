/- The listed package variables: strconv.ErrSyntax holds an error; a world that holds them all. -/
import Derived.Test.YtpgffcfffpmahaaDoorRows
import Derived.LaidMore
import Derived.LaidHandle
import Derived.MakeChecks
import Derived.Stop.LaidErr
import Derived.Deep.DeepHandedRow
import Derived.Deep.DeepWitnessRowRef
import Derived.Test.YtpgffcfffpmahaaDoorNumbered
namespace Go.Proofs.YtpgffcfffpmahaaDoor
open Go.ChangeShapes Go.WideShapes Go.ChangeAt Go.RowKit

theorem gSyn : Tryd.prog.globalNamed "strconv.ErrSyntax" = some 1 := by kernel_rfl
theorem gSynType : (Tryd.prog.globals[1]?).map (·.type) = some 38 := by kernel_rfl
theorem starName : "*" ++ "errors.errorString" = "*errors.errorString" := by decide
theorem rowName (u : TypeId) (h : Tryd.prog.typeName? 3 u = some "*errors.errorString") : u = 78 :=
  typeName_ptr_named (nm := "errors.errorString") (by rw [starName]; kernel_rfl) (by kernel_rfl) (by decide) u (by rw [starName]; exact h)
theorem cellsErr : Tryd.prog.cellsOf 80 = 1 := by kernel_rfl
theorem cellsStr : Tryd.prog.cellsOf 9 = 1 := by kernel_rfl

/-- what the list gives the walks -/
theorem errS_of_laid {W : World} (h : laidMetH Tryd.prog Rows.refUnescapesRow.laid W) : ErrS W := by
  rw [MakeChecks.laidMetH_plain _ _ _ (by kernel_rfl)] at h
  obtain ⟨a0, s0, hv0, _⟩ := laid_sentinel (laidMet.tail (laidMet.tail (laidMet.tail (laidMet.tail h)))) gSyn gSynType Tryd.underlying38 rowName Tryd.underlying78 Tryd.underlying80 rfl rfl Tryd.underlying9 cellsErr cellsStr
  have := World.var?_cell gSyn hv0 0
  exact ⟨_, _, by simpa using this⟩

/-- the door's own heap meets the list -/
theorem door_met (os : Os) (args : Array Value) : laidMet Tryd.prog Rows.refUnescapesRow.laid ((World.doorLaid Tryd.prog 62 os).forCall (fun _ _ => 0) ⟨#[], args, []⟩).memory :=
  laidMet_of_run' 8 (by kernel_rfl) (by kernel_rfl)

end Go.Proofs.YtpgffcfffpmahaaDoor

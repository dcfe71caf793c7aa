/-
  For all arguments: CleanLines returns true, and the arguments read as before: the number of lines does not depend on the kind of line terminators.
-/
import Derived.Test.YtmfbabbjcjdhbaaLaw
import Derived.Test.YtmfbabbjcjdhbaaLines
namespace Go.Proofs.Ytmfbabbjcjdhbaa.cleanLines
open Go.ChangeShapes Go.WideShapes Go.ChangeAt Go.RowKit

set_option maxRecDepth 100000 in
theorem lifted (os : Os) (started : os.Started) (H : Type) (enc : TypeId × Value → H) :
    ReturnsInHanded {} Try.checked os 8 .any (Rows.cleanLinesSpec.pre6 enc Try.prog Try.f8 Rows.cleanLinesRow.domain false) (Rows.cleanLinesSpec.post enc Try.prog Try.f8 false true false false) := by
  refine returnsInHanded_of_change (C := Try.checked) own started (by kernel_rfl) Try.func8
    (ChangeSpec.witness6 (enc := enc) (C := Try.checked) false ⟨#[], #[.slice none 0 0, .slice none 0 0], []⟩ 8 (by kernel_rfl) (by kernel_rfl) (by kernel_rfl) (by kernel_rfl)) ?_
  intro W base args ds gs before hval hW _ _
  obtain ⟨ao, bo, ca, cb, xs, ys, d1, d2, rfl, rfl, rfl, hx, hy, lx, ly, wx, wy⟩ := open_two_rows Try.params8 Try.underlying23 Try.underlying3 (by kernel_rfl) rfl hval hW
  refine (lines_walk ao bo ca cb xs ys W hx hy).mono fun e W' ⟨he, hbw⟩ => ?_
  subst he
  exact ⟨_, rfl, law_post laidOut (by decide +kernel) (by kernel_rfl) Try.underlying4 rfl rfl hW hbw⟩

theorem proved : Rows.CleanLinesSaid :=
  OpenClaim.holds_of_wide 8 Try.f8 rfl rfl rfl rfl rfl rfl rfl ⟨rfl, rfl, rfl, rfl, rfl⟩ rfl rfl rfl rfl rfl (by kernel_rfl) Try.func8 (by kernel_rfl)
    (of_decide_eq_true (by kernel_rfl)) (by unfold Func.isWrapper; first | (rw [if_pos (by decide +kernel)]; kernel_rfl) | (rw [if_neg (by decide +kernel)]; exact ⟨rfl, rfl⟩))
    (fun os started H enc _ => lifted os started H enc)
end Go.Proofs.Ytmfbabbjcjdhbaa.cleanLines

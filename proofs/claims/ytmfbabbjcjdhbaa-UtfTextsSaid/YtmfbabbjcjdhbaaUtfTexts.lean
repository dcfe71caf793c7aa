/-
  For all arguments: UtfTexts returns true, and the argument reads as before: utf.Text answers what the document says.
-/
import Derived.Test.YtmfbabbjcjdhbaaLaw
import Derived.Test.YtmfbabbjcjdhbaaTexts
namespace Go.Proofs.Ytmfbabbjcjdhbaa.utfTexts
open Go.ChangeShapes Go.WideShapes Go.ChangeAt Go.RowKit

set_option maxRecDepth 100000 in
theorem lifted (os : Os) (started : os.Started) (H : Type) (enc : TypeId × Value → H) :
    ReturnsInHanded {} Try.checked os 4 .any (Rows.utfTextsSpec.pre6 enc Try.prog Try.f4 Rows.utfTextsRow.domain false) (Rows.utfTextsSpec.post enc Try.prog Try.f4 false true false false) := by
  refine returnsInHanded_of_change (C := Try.checked) own started (by kernel_rfl) Try.func4
    (ChangeSpec.witness6 (enc := enc) (C := Try.checked) false ⟨#[], #[.slice none 0 0], []⟩ 8 (by kernel_rfl) (by kernel_rfl) (by kernel_rfl) (by kernel_rfl)) ?_
  intro W base args ds gs before hval hW _ _
  obtain ⟨ao, ca, xs, d1, rfl, rfl, rfl, hx, lx, wx⟩ := open_one_row Try.params4 Try.underlying23 Try.underlying3 (by kernel_rfl) rfl hval hW
  refine (texts_walk ao ca xs W hx lx).mono fun e W' ⟨he, hbw⟩ => ?_
  subst he
  exact ⟨_, rfl, law_post laidOut (by decide +kernel) (by kernel_rfl) Try.underlying4 rfl rfl hW hbw⟩

theorem proved : Rows.UtfTextsSaid :=
  OpenClaim.holds_of_wide 4 Try.f4 rfl rfl rfl rfl rfl rfl rfl ⟨rfl, rfl, rfl, rfl, rfl⟩ rfl rfl rfl rfl rfl (by kernel_rfl) Try.func4 (by kernel_rfl)
    (of_decide_eq_true (by kernel_rfl)) (by unfold Func.isWrapper; first | (rw [if_pos (by decide +kernel)]; kernel_rfl) | (rw [if_neg (by decide +kernel)]; exact ⟨rfl, rfl⟩))
    (fun os started H enc _ => lifted os started H enc)
end Go.Proofs.Ytmfbabbjcjdhbaa.utfTexts

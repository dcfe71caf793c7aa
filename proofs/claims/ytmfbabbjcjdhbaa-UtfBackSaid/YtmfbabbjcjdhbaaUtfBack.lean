/-
  For all arguments: UtfBack returns true, and the arguments read as before: decoding encoded code points returns them, and no encoding is a prefix of another one.
-/
import Derived.Test.YtmfbabbjcjdhbaaLaw
import Derived.Test.YtmfbabbjcjdhbaaBack
namespace Go.Proofs.Ytmfbabbjcjdhbaa.utfBack
open Go.ChangeShapes Go.WideShapes Go.ChangeAt Go.RowKit

set_option maxRecDepth 100000 in
theorem lifted (os : Os) (started : os.Started) (H : Type) (enc : TypeId × Value → H) :
    ReturnsInHanded {} Try.checked os 6 .any (Rows.utfBackSpec.pre6 enc Try.prog Try.f6 Rows.utfBackRow.domain false) (Rows.utfBackSpec.post enc Try.prog Try.f6 false true false false) := by
  refine returnsInHanded_of_change (C := Try.checked) own started (by kernel_rfl) Try.func6
    (ChangeSpec.witness6 (enc := enc) (C := Try.checked) false ⟨#[], #[.slice none 0 0, .slice none 0 0], []⟩ 8 (by kernel_rfl) (by kernel_rfl) (by kernel_rfl) (by kernel_rfl)) ?_
  intro W base args ds gs before hval hW _ _
  obtain ⟨ao, bo, ca, cb, xs, ys, d1, d2, rfl, rfl, rfl, hx, hy, lx, ly, wx, wy⟩ := open_two_rows Try.params6 Try.underlying23 Try.underlying3 (by kernel_rfl) rfl hval hW
  refine (back_walk ao bo ca cb xs ys W hx hy).mono fun e W' ⟨he, hbw⟩ => ?_
  subst he
  exact ⟨_, rfl, law_post laidOut (by decide +kernel) (by kernel_rfl) Try.underlying4 rfl rfl hW hbw⟩

theorem proved : Rows.UtfBackSaid :=
  OpenClaim.holds_of_wide 6 Try.f6 rfl rfl rfl rfl rfl rfl rfl ⟨rfl, rfl, rfl, rfl, rfl⟩ rfl rfl rfl rfl rfl (by kernel_rfl) Try.func6 (by kernel_rfl)
    (of_decide_eq_true (by kernel_rfl)) (by unfold Func.isWrapper; first | (rw [if_pos (by decide +kernel)]; kernel_rfl) | (rw [if_neg (by decide +kernel)]; exact ⟨rfl, rfl⟩))
    (fun os started H enc _ => lifted os started H enc)
end Go.Proofs.Ytmfbabbjcjdhbaa.utfBack

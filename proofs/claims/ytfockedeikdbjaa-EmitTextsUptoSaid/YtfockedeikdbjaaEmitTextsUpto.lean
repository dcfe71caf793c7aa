/-
  For all arguments of bulk at most 1048576: EmitTexts returns true, and the argument reads as before: emit.Text answers what the document says.
-/
import Derived.Test.YtfockedeikdbjaaOpen
import Derived.Test.YtfockedeikdbjaaOpenTok
import Derived.Test.YtfockedeikdbjaaTexts
namespace Go.Proofs.Ytfockedeikdbjaa.emitTexts
open Go.ChangeShapes Go.WideShapes Go.ChangeAt Go.RowKit

set_option maxRecDepth 100000 in
theorem lifted (os : Os) (started : os.Started) (H : Type) (enc : TypeId × Value → H) (F : Stop.Interp) :
    ReturnsInHanded {} Try.checked os 4 .any ((Rows.OpenSpec.upto Rows.emitTextsSpec).pre6 enc Try.prog Try.f4 Rows.emitTextsUptoRow.domain false) (((Rows.OpenSpec.upto Rows.emitTextsSpec).at F).post enc Try.prog Try.f4 false true false false) := by
  refine returnsInHanded_of_cond (C := Try.checked) (s := Rows.OpenSpec.upto Rows.emitTextsSpec) (k := Rows.uptoSmall) rfl own started (by kernel_rfl) Try.func4
    (OpenSpec.witness (enc := enc) (C := Try.checked) (s := Rows.OpenSpec.upto Rows.emitTextsSpec) (k := Rows.uptoSmall) rfl false ⟨#[], #[.slice none 0 0], []⟩ 8 (by kernel_rfl) (by kernel_rfl) (by kernel_rfl)
      (x := ([.nil], [], [])) (by kernel_rfl) rfl (by kernel_rfl)) ?_
  intro W base args ds gs before hval hW _ hk _
  obtain ⟨ao, cap, l, d1, rfl, rfl, rfl, hR, hm, _, hF⟩ := open_one_toks Try.params4 rfl hval hW
  have hab := short_toks hk
  refine (texts_walk (.slice ao l.length cap) l W hR (Nat.le_trans hm (by decide)) (fun t ht => (hF t ht).more hab)).mono fun e W' ⟨he, hbw⟩ => ?_
  subst he
  exact ⟨_, rfl, law_post laidOut (by decide +kernel) (by kernel_rfl) Try.underlying4 rfl rfl hW hbw⟩

theorem proved : Rows.EmitTextsUptoSaid :=
  OpenClaim.holds_of_cond 4 Try.f4 rfl rfl rfl rfl rfl rfl rfl ⟨rfl, rfl, rfl, rfl, rfl⟩ rfl rfl rfl rfl rfl (by kernel_rfl) Try.func4 (by kernel_rfl)
    (of_decide_eq_true (by kernel_rfl)) (by unfold Func.isWrapper; first | (rw [if_pos (by decide +kernel)]; kernel_rfl) | (rw [if_neg (by decide +kernel)]; exact ⟨rfl, rfl⟩))
    (fun os started H enc _ F => lifted os started H enc F)
end Go.Proofs.Ytfockedeikdbjaa.emitTexts

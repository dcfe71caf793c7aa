/-
  For all arguments: EmitChecks returns true, and the argument reads as before: emit.Check answers what the document says.
-/
import Derived.Test.YtfockedeikdbjaaOpen
import Derived.Test.YtfockedeikdbjaaOpenTok
import Derived.Test.YtfockedeikdbjaaChecks
namespace Go.Proofs.Ytfockedeikdbjaa.emitChecks
open Go.ChangeShapes Go.WideShapes Go.ChangeAt Go.RowKit

set_option maxRecDepth 100000 in
theorem lifted (os : Os) (started : os.Started) (H : Type) (enc : TypeId × Value → H) :
    ReturnsInHanded {} Try.checked os 3 .any (Rows.emitChecksSpec.pre6 enc Try.prog Try.f3 Rows.emitChecksRow.domain false) (Rows.emitChecksSpec.post enc Try.prog Try.f3 false true false false) := by
  refine returnsInHanded_of_change (C := Try.checked) own started (by kernel_rfl) Try.func3
    (ChangeSpec.witness6 (enc := enc) (C := Try.checked) false ⟨#[], #[.slice none 0 0], []⟩ 8 (by kernel_rfl) (by kernel_rfl) (by kernel_rfl) (by kernel_rfl)) ?_
  intro W base args ds gs before hval hW _ _
  obtain ⟨ao, cap, l, d1, rfl, rfl, rfl, hR, hm, hF, _⟩ := open_one_toks Try.params3 rfl hval hW
  refine (checks_walk (.slice ao l.length cap) l W hR (Nat.le_trans hm (by decide)) (fun t ht => (hF t ht).more (by decide))).mono fun e W' ⟨he, hbw⟩ => ?_
  subst he
  exact ⟨_, rfl, law_post laidOut (by decide +kernel) (by kernel_rfl) Try.underlying4 rfl rfl hW hbw⟩

theorem proved : Rows.EmitChecksSaid :=
  OpenClaim.holds_of_wide 3 Try.f3 rfl rfl rfl rfl rfl rfl rfl ⟨rfl, rfl, rfl, rfl, rfl⟩ rfl rfl rfl rfl rfl (by kernel_rfl) Try.func3 (by kernel_rfl)
    (of_decide_eq_true (by kernel_rfl)) (by unfold Func.isWrapper; first | (rw [if_pos (by decide +kernel)]; kernel_rfl) | (rw [if_neg (by decide +kernel)]; exact ⟨rfl, rfl⟩))
    (fun os started H enc _ => lifted os started H enc)
end Go.Proofs.Ytfockedeikdbjaa.emitChecks

/-
  For all arguments of bulk at most 1048576: ShowChecks returns true, and the argument reads as before: show.Check answers what the document says.
-/
import Derived.Test.YtmfkefcdddoooaaOpen
import Derived.Test.YtmfkefcdddoooaaOpenNode
import Derived.Test.YtmfkefcdddoooaaShowCheck
import Derived.Test.YtmfkefcdddoooaaShowRef
namespace Go.Proofs.Ytmfkefcdddoooaa.showChecks
open Go.ChangeShapes Go.WideShapes Go.ChangeAt Go.RowKit

set_option maxHeartbeats 4000000 in
set_option maxRecDepth 1000000 in
theorem show_checks (v : Value) (l : List U.Nd) (w : World) (hR : RdNs w (· < w.heap.size) v l) (hl : U.cntL l ≤ 1048576) (hs : U.SmallNs 1048576 l) :
    Calls Try.prog 6 #[v] w fun e w' => e = .returned (.bool true) ∧ Below w.heap.size w w' := by
  have H1 := Lib.hid (show_check v l w hR hl)
  have H2 := Lib.hid (fun W (hB : Below w.heap.size w W) => show_fault v l W (hR.below hB hB.size) hl hs)
  obtain ⟨ao, cap, rfl⟩ : ∃ ao cap, v = .slice ao l.length cap := by obtain ⟨a, b, e, _⟩ := hR; exact ⟨a, b, e⟩
  generalize U.showFault l = R at H1 H2
  clear hR hs
  go_enter Try.func6, Try.ntmps6
  go_wp2_with (first
    | (go_at_call 16; refine H1.out.mono ?_; rintro e w2 ⟨rfl, hb2⟩)
    | (go_at_call 17; refine (H2.out _ hb2).mono ?_; rintro e w3 ⟨rfl, hb3⟩))
  go_ret
  exact ⟨by simp, hb2.trans (hb3.mono hb2.size)⟩

set_option maxRecDepth 100000 in
theorem lifted (os : Os) (started : os.Started) (H : Type) (enc : TypeId × Value → H) (F : Stop.Interp) :
    ReturnsInHanded {} Try.checked os 6 .any ((Rows.OpenSpec.upto Rows.showChecksSpec).pre6 enc Try.prog Try.f6 Rows.showChecksUptoRow.domain false) (((Rows.OpenSpec.upto Rows.showChecksSpec).at F).post enc Try.prog Try.f6 false true false false) := by
  refine returnsInHanded_of_cond (C := Try.checked) (s := Rows.OpenSpec.upto Rows.showChecksSpec) (k := Rows.uptoSmall) rfl own started (by kernel_rfl) Try.func6
    (OpenSpec.witness (enc := enc) (C := Try.checked) (s := Rows.OpenSpec.upto Rows.showChecksSpec) (k := Rows.uptoSmall) rfl false ⟨#[], #[.slice none 0 0], []⟩ 8 (by kernel_rfl) (by kernel_rfl) (by kernel_rfl)
      (x := ([.nil], [], [])) (by kernel_rfl) rfl (by kernel_rfl)) ?_
  intro W base args ds gs before hval hW _ hk _
  obtain ⟨ao, cap, l, d1, rfl, rfl, rfl, hR, hc, hs⟩ := open_one_nodes Try.params6 rfl hval hW
  refine (show_checks (.slice ao l.length cap) l W hR (Nat.le_trans hc (short_bulk hk)) (U.SmallNs.more (short_bulk hk) _ hs)).mono fun e W' ⟨he, hbw⟩ => ?_
  subst he
  exact ⟨_, rfl, law_post laidOut (by decide +kernel) (by kernel_rfl) Try.underlying4 rfl rfl hW hbw⟩

theorem proved : Rows.ShowChecksUptoSaid :=
  OpenClaim.holds_of_cond 6 Try.f6 rfl rfl rfl rfl rfl rfl rfl ⟨rfl, rfl, rfl, rfl, rfl⟩ rfl rfl rfl rfl rfl (by kernel_rfl) Try.func6 (by kernel_rfl)
    (of_decide_eq_true (by kernel_rfl)) (by unfold Func.isWrapper; first | (rw [if_pos (by decide +kernel)]; kernel_rfl) | (rw [if_neg (by decide +kernel)]; exact ⟨rfl, rfl⟩))
    (fun os started H enc _ F => lifted os started H enc F)
end Go.Proofs.Ytmfkefcdddoooaa.showChecks

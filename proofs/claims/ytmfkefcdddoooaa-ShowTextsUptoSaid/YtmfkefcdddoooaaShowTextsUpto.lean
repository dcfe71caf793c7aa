/-
  For all arguments of bulk at most 1048576: ShowTexts returns true, and the argument reads as before: show.Text answers what the document says.
-/
import Derived.Test.YtmfkefcdddoooaaOpen
import Derived.Test.YtmfkefcdddoooaaOpenNode
import Derived.Test.YtmfkefcdddoooaaShowText
import Derived.Test.YtmfkefcdddoooaaShowRefText
namespace Go.Proofs.Ytmfkefcdddoooaa.showTexts
open Go.ChangeShapes Go.WideShapes Go.ChangeAt Go.RowKit

set_option maxHeartbeats 4000000 in
set_option maxRecDepth 1000000 in
theorem show_texts (v : Value) (l : List U.Nd) (w : World) (hR : RdNs w (· < w.heap.size) v l) (hl : U.cntL l ≤ 1048576) (hs : U.SmallNs 1048576 l) :
    Calls Try.prog 7 #[v] w fun e w' => e = .returned (.bool true) ∧ Below w.heap.size w w' := by
  have H1 := Lib.hid (show_text v l w hR hl)
  have H2 := Lib.hid (fun W (hB : Below w.heap.size w W) => ref_shown v l W (hR.below hB hB.size) hl hs)
  obtain ⟨ao, cap, rfl⟩ : ∃ ao cap, v = .slice ao l.length cap := by obtain ⟨a, b, e, _⟩ := hR; exact ⟨a, b, e⟩
  generalize U.showText l = R at H1 H2
  obtain ⟨R1, R2⟩ := R
  clear hR hs
  go_enter Try.func7, Try.ntmps7
  go_wp2_with (first
    | (go_at_call 18; refine H1.out.mono ?_; rintro e w2 ⟨rfl, hb2⟩)
    | (go_at_call 19; refine (H2.out _ hb2).mono ?_; rintro e w3 ⟨rfl, hb3⟩))
  go_ret
  exact ⟨by simp, hb2.trans (hb3.mono hb2.size)⟩

set_option maxRecDepth 100000 in
theorem lifted (os : Os) (started : os.Started) (H : Type) (enc : TypeId × Value → H) (F : Stop.Interp) :
    ReturnsInHanded {} Try.checked os 7 .any ((Rows.OpenSpec.upto Rows.showTextsSpec).pre6 enc Try.prog Try.f7 Rows.showTextsUptoRow.domain false) (((Rows.OpenSpec.upto Rows.showTextsSpec).at F).post enc Try.prog Try.f7 false true false false) := by
  refine returnsInHanded_of_cond (C := Try.checked) (s := Rows.OpenSpec.upto Rows.showTextsSpec) (k := Rows.uptoSmall) rfl own started (by kernel_rfl) Try.func7
    (OpenSpec.witness (enc := enc) (C := Try.checked) (s := Rows.OpenSpec.upto Rows.showTextsSpec) (k := Rows.uptoSmall) rfl false ⟨#[], #[.slice none 0 0], []⟩ 8 (by kernel_rfl) (by kernel_rfl) (by kernel_rfl)
      (x := ([.nil], [], [])) (by kernel_rfl) rfl (by kernel_rfl)) ?_
  intro W base args ds gs before hval hW _ hk _
  obtain ⟨ao, cap, l, d1, rfl, rfl, rfl, hR, hc, hs⟩ := open_one_nodes Try.params7 rfl hval hW
  refine (show_texts (.slice ao l.length cap) l W hR (Nat.le_trans hc (short_bulk hk)) (U.SmallNs.more (short_bulk hk) _ hs)).mono fun e W' ⟨he, hbw⟩ => ?_
  subst he
  exact ⟨_, rfl, law_post laidOut (by decide +kernel) (by kernel_rfl) Try.underlying4 rfl rfl hW hbw⟩

theorem proved : Rows.ShowTextsUptoSaid :=
  OpenClaim.holds_of_cond 7 Try.f7 rfl rfl rfl rfl rfl rfl rfl ⟨rfl, rfl, rfl, rfl, rfl⟩ rfl rfl rfl rfl rfl (by kernel_rfl) Try.func7 (by kernel_rfl)
    (of_decide_eq_true (by kernel_rfl)) (by unfold Func.isWrapper; first | (rw [if_pos (by decide +kernel)]; kernel_rfl) | (rw [if_neg (by decide +kernel)]; exact ⟨rfl, rfl⟩))
    (fun os started H enc _ F => lifted os started H enc F)
end Go.Proofs.Ytmfkefcdddoooaa.showTexts

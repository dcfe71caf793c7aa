/- EmitTexts: the walk; what the bound gives of tokens. -/
import Derived.Test.YtfockedeikdbjaaEText
import Derived.Test.YtfockedeikdbjaaRefText
import Derived.Test.YtfockedeikdbjaaOpenTok
namespace Go.Proofs.Ytfockedeikdbjaa
open Go.RowKit

theorem short_toks {H : Type} {d : DataW H} (hk : Rows.uptoSmall H ([d] ++ []) = true) : Rows.uptoBulk d ≤ 1048576 := by
  have h : Rows.uptoBulkAll ([d] ++ []) ≤ 1048576 := of_decide_eq_true hk
  simp only [List.cons_append, List.nil_append, Rows.uptoBulkAll] at h
  omega

set_option maxHeartbeats 4000000 in
set_option maxRecDepth 1000000 in
theorem texts_walk (v : Value) (l : List U.Tk) (w : World) (hL : RdKC w w.heap.size v l) (hz : l.length ≤ most) (hs : ∀ t ∈ l, Small 1048576 t) :
    Calls Try.prog 4 #[v] w fun e w' => e = .returned (.bool true) ∧ Below w.heap.size w w' := by
  have h1 := etext_walk v l w hL hz (fun t ht => (hs t ht).fits.more (by unfold most; omega))
  have h2 := fun W (hB : Below w.heap.size w W) => ref_etext v l W ((hL.below hB).more hB.size) hz hs
  generalize U.textOf l = R at h1 h2
  obtain ⟨R1, R2⟩ := R
  have H1 := Lib.hid h1
  have H2 := Lib.hid h2
  clear h1 h2 hL hs
  go_enter Try.func4, Try.ntmps4
  go_wp2_with (first
    | (go_at_call 8; refine H1.out.mono ?_; rintro e w2 ⟨rfl, hb2⟩)
    | (go_at_call 9; refine (H2.out _ hb2).mono ?_; rintro e w3 ⟨rfl, hb3⟩))
  go_ret
  exact ⟨by simp, hb2.trans (hb3.mono hb2.size)⟩

end Go.Proofs.Ytfockedeikdbjaa

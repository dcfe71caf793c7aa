/- EmitChecks: the walk. -/
import Derived.Test.YtfockedeikdbjaaCheckAt
import Derived.Test.YtfockedeikdbjaaRefFault
namespace Go.Proofs.Ytfockedeikdbjaa
open Go.RowKit

set_option maxHeartbeats 4000000 in
set_option maxRecDepth 1000000 in
theorem checks_walk (v : Value) (l : List U.Tk) (w : World) (hL : RdKC w w.heap.size v l) (hz : l.length ≤ most) (hs : ∀ t ∈ l, Fits most t) :
    Calls Try.prog 3 #[v] w fun e w' => e = .returned (.bool true) ∧ Below w.heap.size w w' := by
  have h1 := check_walk v l w hL hz hs
  have h2 := fun W (hB : Below w.heap.size w W) => emit_fault v l W (((hL.below hB).more hB.size).1) hz hs
  generalize U.fault l = R at h1 h2
  have H1 := Lib.hid h1
  have H2 := Lib.hid h2
  clear h1 h2 hL hs
  go_enter Try.func3, Try.ntmps3
  go_wp2_with (first
    | (go_at_call 6; refine H1.out.mono ?_; rintro e w2 ⟨rfl, hb2⟩)
    | (go_at_call 7; refine (H2.out _ hb2).mono ?_; rintro e w3 ⟨rfl, hb3⟩))
  go_ret
  exact ⟨by simp, hb2.trans (hb3.mono hb2.size)⟩

end Go.Proofs.Ytfockedeikdbjaa

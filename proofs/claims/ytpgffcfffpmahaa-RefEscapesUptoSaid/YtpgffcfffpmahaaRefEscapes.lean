/- RefEscapes: ref.Escape answers what the document says. -/
import Derived.Test.YtpgffcfffpmahaaRefEscape
import Derived.Outline
namespace Go.Proofs.Ytpgffcfffpmahaa
open Go.RowKit

set_option maxHeartbeats 1000000 in
set_option maxRecDepth 100000 in
theorem escapes_walk (s : ByteArray) (q : Bool) (w : World) (hs : s.size ≤ 1048576) :
    Calls Try.prog 3 #[.string s, .bool q] w fun e w' => e = .returned (.bool true) ∧ Below w.heap.size w w' := by
  have r1 := escape_walk s q
  have r2 := ref_escape s q
  generalize U.esc q s.data.toList = C at *
  go_enter Try.func3, Try.ntmps3
  go_wp2_with fail
  refine (r1 _ (by omega)).mono ?_
  rintro e w1 ⟨rfl, b1⟩
  go_wp2_with fail
  refine (r2 _ (by omega)).mono ?_
  rintro e w2 ⟨rfl, b2⟩
  go_wp2_with fail
  go_ret
  exact ⟨rfl, b1.trans (b2.mono b1.size)⟩

end Go.Proofs.Ytpgffcfffpmahaa

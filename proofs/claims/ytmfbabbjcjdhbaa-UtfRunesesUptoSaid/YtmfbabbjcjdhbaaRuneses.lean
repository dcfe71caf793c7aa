/- UtfRuneses: utf.Runes answers what the document says. -/
import Derived.Test.YtmfbabbjcjdhbaaRefRunes
import Derived.Test.YtmfbabbjcjdhbaaWalk1
import Derived.Outline
namespace Go.Proofs.Ytmfbabbjcjdhbaa
open Go.RowKit

set_option maxHeartbeats 1000000 in
set_option maxRecDepth 100000 in
theorem runeses_walk (s : ByteArray) (w : World) (hs : s.size ≤ 1048576) :
    Calls Try.prog 3 #[.string s] w fun e w' => e = .returned (.bool true) ∧ Below w.heap.size w w' := by
  have hlen := (U.runes_length s.data.toList).1
  rw [toList_length] at hlen
  have r1 := runes_walk s
  have r2 := ref_runes s
  generalize U.runes s.data.toList = R at *
  go_enter Try.func3, Try.ntmps3
  go_wp2_with fail
  refine (r1 _ (by omega)).mono ?_
  rintro e w1 ⟨v1, rfl, o1, b1⟩
  go_wp2_with fail
  refine (r2 _ (by omega)).mono ?_
  rintro e w2 ⟨v2, rfl, o2, b2⟩
  have o1' := own_below o1 b2
  obtain ⟨a1, c1, rfl⟩ := own_form o1'
  obtain ⟨a2, c2, rfl⟩ := own_form o2
  have z1 : (R.map Int.ofNat).length = R.length := List.length_map ..
  have q := same_law a1 a2 c1 c2 (R.map Int.ofNat) (R.map Int.ofNat) w2 (Rd.of_own o1') (Rd.of_own o2) (by rw [z1]; unfold maxLen; omega)
  rw [z1, decide_eq_true rfl] at q
  go_wp2_with fail
  refine q.mono ?_
  rintro e w3 ⟨rfl, b3⟩
  go_wp2_with fail
  go_ret
  exact ⟨rfl, b1.trans ((b2.mono b1.size).trans (b3.mono (Nat.le_trans b1.size b2.size)))⟩

end Go.Proofs.Ytmfbabbjcjdhbaa

/- UtfCount: the number of code points is at most the number of bytes, which is at most four times that number, and it is subadditive. -/
import Derived.Test.YtmfbabbjcjdhbaaWalk1
import Derived.Outline
namespace Go.Proofs.Ytmfbabbjcjdhbaa
open Go.RowKit

set_option maxHeartbeats 1000000 in
set_option maxRecDepth 100000 in
theorem count_walk (s t : ByteArray) (w : World) (hs : s.size ≤ 1048576) (ht : t.size ≤ 1048576) :
    Calls Try.prog 11 #[.string s, .string t] w fun e w' => e = .returned (.bool true) ∧ Below w.heap.size w w' := by
  have l1 := U.runes_length s.data.toList
  have l2 := U.runes_length t.data.toList
  have l3 := U.runes_append_length s.data.toList t.data.toList
  have z1 : s.data.toList.length = s.size := by rw [Array.length_toList]; rfl
  have z2 : t.data.toList.length = t.size := by rw [Array.length_toList]; rfl
  have z3 : (s ++ t).size = s.size + t.size := by simp
  have z4 : (s ++ t).data.toList = s.data.toList ++ t.data.toList := by simp
  have z5 : (U.runes (ByteArray.mk #[97]).data.toList).length = 1 := by decide
  rw [z1] at l1
  rw [z2] at l2
  have Z4 := Lib.hid z4
  have Z5 := Lib.hid z5
  have r1 := runes_walk s
  have r2 := runes_walk t
  have r3 := runes_walk (s ++ t)
  have r4 := runes_walk (ByteArray.mk #[97])
  rw [z4] at r3
  rw [z5] at r4
  clear z1 z2 z4 z5
  generalize U.runes s.data.toList = R1 at *
  generalize U.runes t.data.toList = R2 at *
  generalize U.runes (s.data.toList ++ t.data.toList) = R3 at *
  go_enter Try.func11, Try.ntmps11
  go_wp2_with fail
  refine (r1 _ (by omega)).mono ?_
  rintro e w1 ⟨v1, rfl, o1, b1⟩
  obtain ⟨a1, c1, rfl⟩ := own_form o1
  go_wp2_with fail
  refine (r2 _ (by omega)).mono ?_
  rintro e w2 ⟨v2, rfl, o2, b2⟩
  obtain ⟨a2, c2, rfl⟩ := own_form o2
  go_wp2_with fail
  refine (r3 _ (by omega)).mono ?_
  rintro e w3 ⟨v3, rfl, o3, b3⟩
  obtain ⟨a3, c3, rfl⟩ := own_form o3
  go_wp2_with fail
  refine (r4 _ (by decide)).mono ?_
  rintro e w4 ⟨v4, rfl, o4, b4⟩
  obtain ⟨a4, c4, rfl⟩ := own_form o4
  go_wp2_with fail
  go_ret
  exact ⟨rfl, b1.trans ((b2.mono b1.size).trans ((b3.mono (Nat.le_trans b1.size b2.size)).trans (b4.mono (Nat.le_trans b1.size (Nat.le_trans b2.size b3.size)))))⟩

end Go.Proofs.Ytmfbabbjcjdhbaa

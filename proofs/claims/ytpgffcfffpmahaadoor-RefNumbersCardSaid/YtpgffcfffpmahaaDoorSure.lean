/- refSure; RefBack, RefParts: the walks. -/
import Derived.Test.YtpgffcfffpmahaaDoorUnescape
import Derived.Test.YtpgffcfffpmahaaDoorEscape
import Derived.Outline
namespace Go.Proofs.YtpgffcfffpmahaaDoor
open Go.RowKit

theorem list_of_mk (l : List UInt8) : (ByteArray.mk l.toArray).data.toList = l := by simp
theorem size_of_mk (l : List UInt8) : (ByteArray.mk l.toArray).size = l.length := by show l.toArray.size = _; simp
theorem mk_of_list (s : ByteArray) : ByteArray.mk s.data.toList.toArray = s := by cases s; simp

set_option maxHeartbeats 1000000 in
set_option maxRecDepth 100000 in
theorem sure_walk (w : World) (hS : ErrS w) : Calls Tryd.prog 11 #[] w fun e w' => e = .returned (.bool true) ∧ Below w.heap.size w w' := by
  have r1 := escape_walk (ByteArray.mk #[60, 97]) true
  have r2 := unescape_walk (ByteArray.mk #[38, 108, 116, 59, 97])
  rw [show U.esc true (ByteArray.mk #[60, 97]).data.toList = [38, 108, 116, 59, 97] by decide] at r1
  rw [show U.unesc (ByteArray.mk #[38, 108, 116, 59, 97]).data.toList = [60, 97] by decide] at r2
  go_enter Tryd.func11, Tryd.ntmps11
  go_wp2_with fail
  refine (r1 _ (by decide)).mono ?_
  rintro e w1 ⟨rfl, b1⟩
  go_wp2_with fail
  refine (r2 (by decide) _ (hS.below b1)).mono ?_
  rintro e w2 ⟨rfl, b2⟩
  go_wp2_with fail
  go_ret
  exact ⟨rfl, b1.trans (b2.mono b1.size)⟩

set_option maxHeartbeats 1000000 in
set_option maxRecDepth 100000 in
theorem ref_parts_walk (s t : ByteArray) (q : Bool) (w : World) (hs : s.size + t.size ≤ 1048576) (hS : ErrS w) :
    Calls Tryd.prog 5 #[.string s, .string t, .bool q] w fun e w' => e = .returned (.bool true) ∧ Below w.heap.size w w' := by
  have ls := U.esc_length q s.data.toList
  have lt := U.esc_length q t.data.toList
  have lu := U.unesc_le t.data.toList
  rw [len_list] at ls lt lu
  have r1 := escape_walk (s ++ t) q
  have r2 := escape_walk s q
  have r3 := escape_walk t q
  have r4 := unescape_walk (ByteArray.mk (U.esc q s.data.toList).toArray ++ ByteArray.mk #[38, 97, 109, 112, 59] ++ t)
  have r5 := unescape_walk t
  have e1 : (s ++ t).data.toList = s.data.toList ++ t.data.toList := by simp
  have e4 : (ByteArray.mk (U.esc q s.data.toList).toArray ++ ByteArray.mk #[38, 97, 109, 112, 59] ++ t).data.toList = U.esc q s.data.toList ++ ([38, 97, 109, 112, 59] ++ t.data.toList) := by simp
  rw [e1, U.esc_append] at r1
  rw [e4, U.unesc_esc, U.unesc_amp] at r4
  have z1 : (s ++ t).size = s.size + t.size := ByteArray.size_append
  have z4 : (ByteArray.mk (U.esc q s.data.toList).toArray ++ ByteArray.mk #[38, 97, 109, 112, 59] ++ t).size = (U.esc q s.data.toList).length + 5 + t.size := by
    rw [ByteArray.size_append, ByteArray.size_append, size_of_mk]
    rfl
  rw [z1] at r1
  rw [z4] at r4
  clear e1 e4 z1 z4
  generalize U.esc q s.data.toList = C at *
  generalize U.esc q t.data.toList = E at *
  generalize U.unesc t.data.toList = G at *
  have q3 : (s.data.toList ++ 38 :: G == (s ++ ByteArray.mk #[38] ++ ByteArray.mk G.toArray).toList) = true := by
    rw [beq_iff_eq, Lib.toList_data]
    simp
  have q4 : (C ++ E == (ByteArray.mk C.toArray ++ ByteArray.mk E.toArray).toList) = true := by
    rw [beq_iff_eq, Lib.toList_data]
    simp
  have zC := size_of_mk C
  have zE := size_of_mk E
  have zG := size_of_mk G
  have z5 : (ByteArray.mk #[38, 97, 109, 112, 59]).size = 5 := rfl
  have zz : (ByteArray.mk C.toArray ++ ByteArray.mk #[38, 97, 109, 112, 59]).size = C.length + 5 := by rw [ByteArray.size_append, zC, z5]
  have zs : (s ++ ByteArray.mk #[38]).size = s.size + 1 := ByteArray.size_append
  go_enter Tryd.func5, Tryd.ntmps5
  go_wp2_with fail
  refine (sure_walk _ hS).mono ?_
  rintro e w1 ⟨rfl, b1⟩
  go_wp2_with fail
  refine (r1 _ (by omega)).mono ?_
  rintro e w2 ⟨rfl, b2⟩
  have c2 := b1.trans (b2.mono b1.size)
  go_wp2_with fail
  refine (r2 _ (by omega)).mono ?_
  rintro e w3 ⟨rfl, b3⟩
  have c3 := c2.trans (b3.mono c2.size)
  go_wp2_with fail
  refine (r3 _ (by omega)).mono ?_
  rintro e w4 ⟨rfl, b4⟩
  have c4 := c3.trans (b4.mono c3.size)
  go_wp2_with fail
  refine (r2 _ (by omega)).mono ?_
  rintro e w5 ⟨rfl, b5⟩
  have c5 := c4.trans (b5.mono c4.size)
  go_wp2_with fail
  refine (r4 (by omega) _ (hS.below c5)).mono ?_
  rintro e w6 ⟨rfl, b6⟩
  have c6 := c5.trans (b6.mono c5.size)
  go_wp2_with fail
  refine (r5 (by omega) _ (hS.below c6)).mono ?_
  rintro e w7 ⟨rfl, b7⟩
  have c7 := c6.trans (b7.mono c6.size)
  go_wp2_with fail
  go_ret
  exact ⟨rfl, c7⟩

end Go.Proofs.YtpgffcfffpmahaaDoor

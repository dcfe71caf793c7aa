/- CleanParts: Clean can be applied to parts that are divided after an ASCII byte other than 13. -/
import Derived.Test.YtmfbabbjcjdhbaaClean
import Derived.Test.YtmfbabbjcjdhbaaCleanMore
import Derived.Outline
namespace Go.Proofs.Ytmfbabbjcjdhbaa
open Go.RowKit

theorem bytes_mk (l : List UInt8) : (ByteArray.mk l.toArray).data.toList = l := by simp
theorem mk_append (a b : List UInt8) : ByteArray.mk a.toArray ++ ByteArray.mk b.toArray = ByteArray.mk (a ++ b).toArray := by
  apply ByteArray.ext
  simp

theorem clean_acr : U.clean [97, 13] = [97, 10] := by decide

set_option maxHeartbeats 1000000 in
set_option maxRecDepth 100000 in
theorem parts_walk (s t : ByteArray) (w : World) (hs : s.size ≤ 1048576) (ht : t.size ≤ 1048576) :
    Calls Try.prog 10 #[.string s, .string t] w fun e w' => e = .returned (.bool true) ∧ Below w.heap.size w w' := by
  have e1 : (s ++ ByteArray.mk #[120] ++ t).data.toList = s.data.toList ++ 120 :: t.data.toList := by simp
  have e2 : (s ++ ByteArray.mk #[120]).data.toList = s.data.toList ++ [120] := by simp
  have z1 : (s ++ ByteArray.mk #[120] ++ t).size ≤ 16777216 := by
    have : (ByteArray.mk #[120]).size = 1 := rfl
    simp [this]; omega
  have z2 : (s ++ ByteArray.mk #[120]).size ≤ 16777216 := by
    have : (ByteArray.mk #[120]).size = 1 := rfl
    simp [this]; omega
  have r1 := clean_walk (s ++ ByteArray.mk #[120] ++ t)
  have r2 := clean_walk (s ++ ByteArray.mk #[120])
  have r3 := clean_walk t
  have r4 := clean_walk (ByteArray.mk #[97, 13])
  rw [show U.clean (ByteArray.mk #[97, 13]).data.toList = [97, 10] from clean_acr] at r4
  rw [e1, U.clean_parts] at r1
  rw [e2] at r2
  have l1 := U.clean_length (s.data.toList ++ [120])
  have l2 := U.clean_length t.data.toList
  have y1 : s.data.toList.length = s.size := by rw [Array.length_toList]; rfl
  have y2 : t.data.toList.length = t.size := by rw [Array.length_toList]; rfl
  rw [List.length_append, y1, List.length_cons, List.length_nil] at l1
  rw [y2] at l2
  clear y1 y2
  generalize U.clean (s.data.toList ++ [120]) = C1 at *
  generalize U.clean t.data.toList = C2 at *
  clear e1 e2
  have hcat : (ByteArray.mk C1.toArray ++ ByteArray.mk C2.toArray).toList = C1 ++ C2 := by
    rw [mk_append, Lib.toList_data]
  go_enter Try.func10, Try.ntmps10
  go_wp2_with fail
  refine (r1 _ z1).mono ?_
  rintro e w1 ⟨rfl, b1⟩
  go_wp2_with fail
  refine (r2 _ z2).mono ?_
  rintro e w2 ⟨rfl, b2⟩
  go_wp2_with fail
  refine (r3 _ (by omega)).mono ?_
  rintro e w3 ⟨rfl, b3⟩
  go_wp2_with fail
  refine (r4 _ (by decide)).mono ?_
  rintro e w4 ⟨rfl, b4⟩
  go_wp2_with fail
  go_ret
  exact ⟨rfl, b1.trans ((b2.mono b1.size).trans ((b3.mono (Nat.le_trans b1.size b2.size)).trans (b4.mono (Nat.le_trans b1.size (Nat.le_trans b2.size b3.size)))))⟩

end Go.Proofs.Ytmfbabbjcjdhbaa

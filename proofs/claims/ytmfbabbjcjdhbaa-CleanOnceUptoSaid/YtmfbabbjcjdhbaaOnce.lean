/- CleanOnce: Clean is idempotent; its result contains neither the byte 0 nor 13, and consists of code points. -/
import Derived.Test.YtmfbabbjcjdhbaaClean
import Derived.Test.YtmfbabbjcjdhbaaCleanMore
import Derived.Test.YtmfbabbjcjdhbaaText
import Derived.Test.YtmfbabbjcjdhbaaWalk1
import Derived.Outline
namespace Go.Proofs.Ytmfbabbjcjdhbaa
open Go.RowKit

theorem nats_isL (l : List Nat) (h : ∀ n ∈ l, U.isL n = true) : (l.map Int.ofNat).all U.okI = true := by
  rw [List.all_eq_true]
  intro z hz
  obtain ⟨n, hn, rfl⟩ := List.mem_map.1 hz
  exact U.okI_nat.trans (h n hn)

/-- what is clean and short: its code points make it again -/
theorem textR_clean (l : List UInt8) (h : (U.clean l).length ≤ 600) : U.textR ((U.runes (U.clean l)).map Int.ofNat) = (U.clean l, 0) := by
  have e : U.encZ ((U.runes (U.clean l)).map Int.ofNat) = U.clean l := by rw [U.encZ_nats, U.encs_runes_clean]
  rw [U.textR_good (nats_isL _ (U.runes_isL _)) (by rw [e]; exact h), e]

set_option maxHeartbeats 1000000 in
set_option maxRecDepth 100000 in
theorem once_walk (s : ByteArray) (w : World) (hs : s.size ≤ 1048576) :
    Calls Try.prog 7 #[.string s] w fun e w' => e = .returned (.bool true) ∧ Below w.heap.size w w' := by
  have r1 := clean_walk s
  have hlen := U.clean_length s.data.toList
  have hcc := U.clean_clean s.data.toList
  have hby := U.clean_bytes s.data.toList
  have htx := textR_clean s.data.toList
  have y1 : s.data.toList.length = s.size := by rw [Array.length_toList]; rfl
  rw [y1] at hlen
  generalize U.clean s.data.toList = C at *
  have r2 := clean_walk (ByteArray.mk C.toArray)
  have r4 := clean_walk (ByteArray.mk #[97, 13])
  have r5 := runes_walk (ByteArray.mk C.toArray)
  rw [show U.clean (ByteArray.mk #[97, 13]).data.toList = [97, 10] by decide] at r4
  rw [show (ByteArray.mk C.toArray).data.toList = C by simp] at r2 r5
  rw [hcc] at r2
  have zc : (ByteArray.mk C.toArray).size = C.length := by show C.toArray.size = _; simp
  rw [zc] at r2 r5
  clear hcc y1
  have Hby := Lib.hid hby
  have Htx := Lib.hid htx
  clear hby htx zc
  have hd3 : decide (3 * (s.size : Int) < (C.length : Int)) = false := decide_eq_false (by omega)
  go_enter Try.func7, Try.ntmps7
  go_wp2_with fail
  refine (r1 _ (by omega)).mono ?_
  rintro e w1 ⟨rfl, b1⟩
  go_wp2_with fail
  refine (r2 _ (by omega)).mono ?_
  rintro e w2 ⟨rfl, b2⟩
  go_wp2_with fail
  refine (r4 _ (by decide)).mono ?_
  rintro e w3 ⟨rfl, b3⟩
  go_wp2_with fail
  go_loop [4] (fun i => ∃ k : Nat, k ≤ C.length ∧ i = .int .i64 k) (fun i => C.length - (intOf i).toNat)
  case atStart => exact ⟨0, Nat.zero_le _, rfl⟩
  case round =>
    obtain ⟨k, hk, rfl⟩ := hrel
    by_cases hlt : k < C.length
    · have hlt2 : k < (ByteArray.mk C.toArray).size := by show k < C.toArray.size; simpa using hlt
      have hm : (ByteArray.mk C.toArray)[k]'hlt2 ∈ C := by
        have : (ByteArray.mk C.toArray)[k]'hlt2 = C[k] := by simp [ByteArray.getElem_eq_getElem_data]
        rw [this]
        exact List.getElem_mem hlt
      have hz0 : ¬ ((ByteArray.mk C.toArray)[k]'hlt2).toNat = 0 := (Hby.out _ hm).1
      have hz1 : ((((ByteArray.mk C.toArray)[k]'hlt2).toNat : Int) == 0) = false := by
        rw [beq_eq_false_iff_ne]; omega
      have hz2 : ((((ByteArray.mk C.toArray)[k]'hlt2).toNat : Int) == 13) = false := by
        have := (Hby.out _ hm).2
        rw [beq_eq_false_iff_ne]; omega
      go_wp2_with fail
      go_round
      case rel => exact ⟨k + 1, by omega, by go_num⟩
      case measure => simp [intOf]; omega
    · by_cases hbig : 600 < C.length
      · go_wp2_with fail
        go_ret
        exact ⟨rfl, b1.trans ((b2.mono b1.size).trans (b3.mono (Nat.le_trans b1.size b2.size)))⟩
      · go_wp2_with fail
        refine (r5 _ (by omega)).mono ?_
        rintro e w4 ⟨v4, rfl, o4, b4⟩
        obtain ⟨a4, c4, rfl⟩ := own_form o4
        have hR := Rd.of_own o4
        have r6 := text_walk a4 c4 _ w4 hR (by
          have := o4.1
          have h2 := U.runes_length C
          rw [List.length_map]
          unfold maxLen
          omega)
        rw [List.length_map, Htx.out (by omega)] at r6
        go_wp2_with fail
        refine r6.mono ?_
        rintro e w5 ⟨rfl, b5⟩
        go_wp2_with fail
        go_ret
        exact ⟨rfl, b1.trans ((b2.mono b1.size).trans ((b3.mono (Nat.le_trans b1.size b2.size)).trans ((b4.mono (Nat.le_trans b1.size (Nat.le_trans b2.size b3.size))).trans (b5.mono (Nat.le_trans b1.size (Nat.le_trans b2.size (Nat.le_trans b3.size b4.size)))))))⟩

end Go.Proofs.Ytmfbabbjcjdhbaa

/- The reference: RefEscape. -/
import Derived.Test.YtmfkefcdddoooaaEscape
import Derived.Outline
namespace Go.Proofs.Ytmfkefcdddoooaa
open Go.RowKit

theorem extract_byte (s : ByteArray) {k : Nat} (h : k < s.size) : (s.extract k (k + 1)).toList = [s[k]'h] := by
  rw [Lib.toList_data, Lib.extract_data]
  have hk : k < s.data.toList.length := by rw [toList_length]; exact h
  have hg := byte_get s h
  rw [drop_byte hg]
  simp
theorem esc_grow {T E : ByteArray} {q : Bool} {l : List UInt8} {k : Nat} {b : UInt8} {R : List UInt8} (h : Hid (T.data.toList ++ U.esc q (l.drop k) = R)) (hb : l[k]? = some b) (hE : U.esc1 q b = E.data.toList) :
    Hid ((T ++ E).data.toList ++ U.esc q (l.drop (k + 1)) = R) := by
  show _ = _
  rw [← h.out, drop_byte hb, U.esc_cons, hE, ← List.append_assoc]
  simp

set_option maxHeartbeats 4000000 in
set_option maxRecDepth 100000 in
theorem ref_escape (s : ByteArray) (q : Bool) (w : World) (hs : s.size ≤ 16777216) :
    Calls Try.prog 55 #[.string s, .bool q] w fun e w' => e = .returned (.string ⟨(U.esc q s.data.toList).toArray⟩) ∧ Below w.heap.size w w' := by
  go_enter Try.func55, Try.ntmps55
  go_wp2
  go_loop [5, 6] (fun t i => ∃ (k : Nat) (T : ByteArray), k ≤ s.size ∧ i = .int .i64 k ∧ t = .string T ∧ Hid (T.data.toList ++ U.esc q (s.data.toList.drop k) = U.esc q s.data.toList) ∧ T.size ≤ 6 * k) (fun _ i => s.size - (intOf i).toNat)
  case atStart => exact ⟨0, ⟨#[]⟩, Nat.zero_le _, rfl, rfl, rfl, by decide⟩
  case round =>
    obtain ⟨k, T, hk, rfl, rfl, hT, hts⟩ := hrel
    by_cases hlt : k < s.size
    · have HX := Lib.hid (extract_byte s hlt)
      have Hget := Lib.hid (byte_get s hlt)
      go_wp2_with fail
      · have e1 : s[k]'hlt = 38 := by
          have h := ‹((s.extract k (k + 1)).toList == [38]) = true›
          rw [HX.out] at h
          simpa using h
        have E1 : U.esc1 q (s[k]'hlt) = (ByteArray.mk #[38, 97, 109, 112, 59]).data.toList := by rw [e1]; exact U.esc1_amp q
        go_round
        case rel => exact ⟨k + 1, _, by omega, by go_num, rfl, esc_grow hT Hget.out E1, by rw [ByteArray.size_append]; show _ + 5 ≤ _; omega⟩
        case measure => simp [intOf]; omega
      · have e1 : s[k]'hlt = 60 := by
          have h := ‹((s.extract k (k + 1)).toList == [60]) = true›
          rw [HX.out] at h
          simpa using h
        have E1 : U.esc1 q (s[k]'hlt) = (ByteArray.mk #[38, 108, 116, 59]).data.toList := by rw [e1]; exact U.esc1_lt q
        go_round
        case rel => exact ⟨k + 1, _, by omega, by go_num, rfl, esc_grow hT Hget.out E1, by rw [ByteArray.size_append]; show _ + 4 ≤ _; omega⟩
        case measure => simp [intOf]; omega
      · have e1 : s[k]'hlt = 62 := by
          have h := ‹((s.extract k (k + 1)).toList == [62]) = true›
          rw [HX.out] at h
          simpa using h
        have E1 : U.esc1 q (s[k]'hlt) = (ByteArray.mk #[38, 103, 116, 59]).data.toList := by rw [e1]; exact U.esc1_gt q
        go_round
        case rel => exact ⟨k + 1, _, by omega, by go_num, rfl, esc_grow hT Hget.out E1, by rw [ByteArray.size_append]; show _ + 4 ≤ _; omega⟩
        case measure => simp [intOf]; omega
      · have e1 : s[k]'hlt = 34 := by
          have h := ‹(s.extract k (k + 1)).toList = [34]›
          rw [HX.out] at h
          simpa using h
        obtain rfl : q = true := by assumption
        have E1 : U.esc1 true (s[k]'hlt) = (ByteArray.mk #[38, 113, 117, 111, 116, 59]).data.toList := by rw [e1]; exact U.esc1_quot
        go_round
        case rel => exact ⟨k + 1, _, by omega, by go_num, rfl, esc_grow hT Hget.out E1, by rw [ByteArray.size_append]; show _ + 6 ≤ _; omega⟩
        case measure => simp [intOf]; omega
      · have e1 : s[k]'hlt = 34 := by
          have h := ‹(s.extract k (k + 1)).toList = [34]›
          rw [HX.out] at h
          simpa using h
        obtain rfl : q = false := by assumption
        have E1 : U.esc1 false (s[k]'hlt) = (s.extract k (k + 1)).data.toList := by rw [← Lib.toList_data, HX.out, e1, U.esc1_quot']
        go_round
        case rel => exact ⟨k + 1, _, by omega, by go_num, rfl, esc_grow hT Hget.out E1, by rw [ByteArray.size_append, ByteArray.size_extract]; omega⟩
        case measure => simp [intOf]; omega
      · have n1 : s[k]'hlt ≠ 38 := fun e => by
          have h := ‹((s.extract k (k + 1)).toList == [38]) = false›
          rw [HX.out, e] at h
          simp at h
        have n2 : s[k]'hlt ≠ 60 := fun e => by
          have h := ‹((s.extract k (k + 1)).toList == [60]) = false›
          rw [HX.out, e] at h
          simp at h
        have n3 : s[k]'hlt ≠ 62 := fun e => by
          have h := ‹((s.extract k (k + 1)).toList == [62]) = false›
          rw [HX.out, e] at h
          simp at h
        have n4 : s[k]'hlt ≠ 34 := fun e => by
          have h := ‹¬(s.extract k (k + 1)).toList = [34]›
          rw [HX.out, e] at h
          exact h rfl
        have E1 : U.esc1 q (s[k]'hlt) = (s.extract k (k + 1)).data.toList := by rw [← Lib.toList_data, HX.out, U.esc1_other n1 n2 n3 n4]
        go_round
        case rel => exact ⟨k + 1, _, by omega, by go_num, rfl, esc_grow hT Hget.out E1, by rw [ByteArray.size_append, ByteArray.size_extract]; omega⟩
        case measure => simp [intOf]; omega
    · have e0 : s.data.toList.drop k = [] := List.drop_of_length_le (by rw [toList_length]; omega)
      have hfin := hT.out
      rw [e0, U.esc_nil, List.append_nil] at hfin
      have HF := Lib.hid hfin
      clear hfin
      go_wp2_with fail
      go_ret
      rw [← HF.out]
      exact ⟨rfl, Below.refl _ _⟩

end Go.Proofs.Ytmfkefcdddoooaa

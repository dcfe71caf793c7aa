/- Bytes of a text, one by one; small facts. -/
import Derived.Test.YtmfkefcdddoooaaChar
import Derived.Test.YtmfkefcdddoooaaWords
import Derived.Lib.Strings
namespace Go.Proofs.Ytmfkefcdddoooaa
open Go.RowKit

theorem toList_length (s : ByteArray) : s.data.toList.length = s.size := by rw [Array.length_toList]; rfl
theorem byte_eq {b : UInt8} {k : Nat} (hk : k < 256) : (b.toNat = k) ↔ b = UInt8.ofNat k := by
  constructor
  · intro h; exact (U.ofNat_eq h.symm).symm
  · rintro rfl; simp; omega
theorem drop_byte {l : List UInt8} {k : Nat} {b : UInt8} (h : l[k]? = some b) : l.drop k = b :: l.drop (k + 1) := by
  obtain ⟨hk, e⟩ := List.getElem?_eq_some_iff.1 h
  rw [List.drop_eq_getElem_cons hk, e]
theorem get_byte {s : ByteArray} {k : Nat} {b : UInt8} (h : s.data.toList[k]? = some b) : (s.get! k) = b := by
  obtain ⟨hk, e⟩ := List.getElem?_eq_some_iff.1 h
  rw [toList_length] at hk
  have hk2 : k < s.data.size := hk
  simp only [ByteArray.get!]
  rw [getElem!_pos s.data k hk2]
  simpa using e

theorem byte_get (s : ByteArray) {k : Nat} (h : k < s.size) : s.data.toList[k]? = some (s[k]'h) := by
  have h2 : k < s.data.size := h
  rw [Array.getElem?_toList, getElem?_pos s.data k h2]
  rfl

theorem beq_yes {b : UInt8} {n : Int} (h : (b.toNat : Int) = n) : ((b.toNat : Int) == n) = true := by rw [h]; simp
theorem beq_no {b : UInt8} {n : Int} (h : (b.toNat : Int) ≠ n) : ((b.toNat : Int) == n) = false := by simpa using h

def strSize : Value → Nat
  | .string s => s.size
  | _ => 0
theorem len_list (s : ByteArray) : s.data.toList.length = s.size := by rw [Array.length_toList]; rfl
theorem list_of_mk (l : List UInt8) : (ByteArray.mk l.toArray).data.toList = l := by simp
theorem size_of_mk (l : List UInt8) : (ByteArray.mk l.toArray).size = l.length := by show l.toArray.size = _; simp
theorem mk_of_list (s : ByteArray) : ByteArray.mk s.data.toList.toArray = s := by cases s; simp

end Go.Proofs.Ytmfkefcdddoooaa

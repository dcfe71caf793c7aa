/- Names: what a search for a rune that no name may have finds. -/
import Derived.Test.YtmfkefcdddoooaaEmitDef
import Derived.Test.YtmfkefcdddoooaaWords
import Derived.Test.YtmfkefcdddoooaaBytes
import Derived.Lib.DecodeN
import Derived.Shelf.GgClosure.StringsIndexFunc
namespace Go.Proofs.Ytmfkefcdddoooaa

/-- a rune that no name may have -/
def otherR (x : Nat) : Bool := !(decide (97 ≤ x) && decide (x ≤ 122)) && (!(x == 45) && (decide (x < 48) || decide (57 < x)))
theorem other_high {x : Nat} (h : 128 ≤ x) : otherR x = true := by
  unfold otherR
  rw [decide_eq_false (by omega : ¬ x ≤ 122), beq_eq_false_iff_ne.2 (by omega : x ≠ 45), decide_eq_true (by omega : 57 < x)]
  simp
theorem other_byte (b : UInt8) : otherR b.toNat = !U.nameB2 b := by
  unfold otherR U.nameB2 U.small
  have e : (b == 45) = (b.toNat == 45) := by
    rw [Bool.eq_iff_iff, beq_iff_eq, beq_iff_eq]
    constructor
    · rintro rfl; rfl
    · intro h; exact UInt8.toNat.inj h
  rw [e]
  have e2 : (decide (b.toNat < 48) || decide (57 < b.toNat)) = !(decide (48 ≤ b.toNat) && decide (b.toNat ≤ 57)) := by
    rw [Bool.not_and, ← decide_not, ← decide_not, decide_eq_decide.2 (Nat.not_le (a := 48)), decide_eq_decide.2 (Nat.not_le (b := 57))]
  rw [e2]
  simp only [Bool.not_or]
  rw [Bool.and_assoc]
theorem decodeN_high (n b0 b1 b2 b3 : Nat) (h : 128 ≤ b0) : 128 ≤ (Lib.decodeN n b0 b1 b2 b3).1 := by
  unfold Lib.decodeN
  rw [if_neg (by omega)]
  repeat' split
  all_goals first | omega | (simp only; omega) | (rename_i h2; simp only; omega)
theorem get_bang (s : ByteArray) {k : Nat} (h : k < s.size) : s.get! k = s[k]'h := by
  have : s.data[k]! = s.data[k]'h := getElem!_pos s.data k h
  exact this
theorem idx_other (s : ByteArray) : ∀ (f pos : Nat), s.size ≤ pos + f → decide (0 ≤ Lib.idxFuncFrom otherR true s f pos) = !((s.data.toList.drop pos).all U.nameB2)
  | 0, pos, h => by
    have hl : s.data.toList.length = s.size := by rw [Array.length_toList]; rfl
    rw [List.drop_eq_nil_of_le (by omega)]
    rfl
  | f + 1, pos, h => by
    have hl : s.data.toList.length = s.size := by rw [Array.length_toList]; rfl
    unfold Lib.idxFuncFrom
    by_cases hp : pos < s.size
    · rw [if_pos hp]
      have hg : s.data.toList[pos]'(by omega) = s.get! pos := by rw [get_bang s hp]; rfl
      rw [List.drop_eq_getElem_cons (by omega : pos < s.data.toList.length), List.all_cons, hg, Lib.decode_at]
      by_cases hb : (s.get! pos).toNat < 128
      · have hd : ∀ n b1 b2 b3, Lib.decodeN n (s.get! pos).toNat b1 b2 b3 = ((s.get! pos).toNat, 1) := fun n b1 b2 b3 => by simp [Lib.decodeN, hb]
        rw [hd]
        simp only
        rw [other_byte]
        cases hn : U.nameB2 (s.get! pos) with
        | false =>
          rw [if_pos (by rfl)]
          rw [decide_eq_true (by omega)]
          rfl
        | true =>
          rw [if_neg (by simp), Bool.true_and]
          exact idx_other s f (pos + 1) (by omega)
      · have hd := decodeN_high (s.size - pos) (s.get! pos).toNat (s.get! (pos + 1)).toNat (s.get! (pos + 2)).toNat (s.get! (pos + 3)).toNat (by omega)
        rw [if_pos (other_high hd), decide_eq_true (by omega)]
        have hn : U.nameB2 (s.get! pos) = false := by
          have h1 := other_byte (s.get! pos)
          rw [other_high (by omega)] at h1
          simpa using h1.symm
        rw [hn]
        rfl
    · rw [if_neg hp, List.drop_eq_nil_of_le (by omega)]
      rfl
theorem idx_name (s : ByteArray) : decide (0 ≤ Lib.idxFunc otherR true s) = !(s.data.toList.all U.nameB2) := idx_other s s.size 0 (by omega)

end Go.Proofs.Ytmfkefcdddoooaa

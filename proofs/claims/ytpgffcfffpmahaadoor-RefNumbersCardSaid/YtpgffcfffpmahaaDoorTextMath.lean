/- Plain mathematics: what Text answers. -/
import Derived.Test.YtpgffcfffpmahaaDoorCleanMath
namespace Go.Proofs.YtpgffcfffpmahaaDoor
namespace U

/-- a number that is a code point -/
def okI (z : Int) : Bool := decide (0 ≤ z ∧ z ≤ 1114111 ∧ (z < 55296 ∨ 57343 < z))
theorem okI_iff {z : Int} : okI z = true ↔ 0 ≤ z ∧ z ≤ 1114111 ∧ (z < 55296 ∨ 57343 < z) := decide_eq_true_iff
theorem okI_isL {z : Int} (h : okI z = true) : isL z.toNat = true := by
  have := okI_iff.1 h
  exact isL_iff.2 (by omega)
theorem okI_nat {n : Nat} : okI (n : Int) = isL n := by
  rw [Bool.eq_iff_iff, okI_iff, isL_iff]
  omega

/-- the bytes of numbers -/
def encZ (zs : List Int) : List UInt8 := encs (zs.map Int.toNat)
theorem encZ_nil : encZ [] = [] := rfl
theorem encZ_append (a b : List Int) : encZ (a ++ b) = encZ a ++ encZ b := by simp [encZ, encs_append]
theorem encZ_one (z : Int) : encZ [z] = enc z.toNat := by simp [encZ, encs]
theorem encZ_nats (l : List Nat) : encZ (l.map Int.ofNat) = encs l := by simp [encZ, List.map_map, Function.comp_def]

/-- the text, and the error -/
def textR (zs : List Int) : List UInt8 × Int :=
  if zs.all okI = true then (if (encZ zs).length ≤ 600 then (encZ zs, 0) else ([], 1)) else ([], 2)

theorem textR_bad {zs : List Int} (h : zs.all okI = false) : textR zs = ([], 2) := by simp [textR, h]
theorem textR_long {zs : List Int} (h : zs.all okI = true) (h2 : 600 < (encZ zs).length) : textR zs = ([], 1) := by
  rw [textR, if_pos h, if_neg (by omega)]
theorem textR_good {zs : List Int} (h : zs.all okI = true) (h2 : (encZ zs).length ≤ 600) : textR zs = (encZ zs, 0) := by
  rw [textR, if_pos h, if_pos h2]

theorem take_snoc {zs : List Int} {k : Nat} {z : Int} (h : zs[k]? = some z) : zs.take (k + 1) = zs.take k ++ [z] := by
  obtain ⟨hk, e⟩ := List.getElem?_eq_some_iff.1 h
  rw [List.take_succ_eq_append_getElem hk, e]

theorem all_take_snoc {zs : List Int} {k : Nat} {z : Int} (h : zs[k]? = some z) : (zs.take (k + 1)).all okI = ((zs.take k).all okI && okI z) := by
  rw [take_snoc h, List.all_append]
  simp

theorem all_of_bad {zs : List Int} {k : Nat} {z : Int} (h : zs[k]? = some z) (hz : okI z = false) : zs.all okI = false := by
  rw [List.all_eq_false]
  exact ⟨z, List.mem_of_getElem? h, by simp [hz]⟩

theorem encZ_take_le (zs : List Int) (k : Nat) : (encZ (zs.take k)).length ≤ (encZ zs).length := by
  conv => rhs; rw [← List.take_append_drop k zs, encZ_append]
  rw [List.length_append]
  omega

end U
end Go.Proofs.YtpgffcfffpmahaaDoor

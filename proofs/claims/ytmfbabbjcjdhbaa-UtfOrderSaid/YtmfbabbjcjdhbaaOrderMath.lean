/- Plain mathematics: bytes stand as code points stand. -/
import Derived.Test.YtmfbabbjcjdhbaaRunes
import GoSem.Op.String
namespace Go.Proofs.Ytmfbabbjcjdhbaa
namespace U

def lessN : List Nat → List Nat → Bool
  | _, [] => false
  | [], _ :: _ => true
  | a :: x, b :: y => decide (a < b) || (a == b && lessN x y)

theorem less_toNat : ∀ (x y : List UInt8), Op.bytesLess x y = lessN (x.map UInt8.toNat) (y.map UInt8.toNat)
  | _, [] => by simp [Op.bytesLess, lessN]
  | [], _ :: _ => rfl
  | a :: x, b :: y => by
    simp only [Op.bytesLess, List.map_cons, lessN]
    rw [less_toNat x y]
    congr 1
    congr 1
    rw [Bool.eq_iff_iff]
    simp [UInt8.toNat_inj]

theorem less_self (x : List UInt8) : Op.bytesLess x x = false := by
  induction x with
  | nil => rfl
  | cons a x ih => simp [Op.bytesLess, ih]

theorem less_prefix (p x y : List UInt8) : Op.bytesLess (p ++ x) (p ++ y) = Op.bytesLess x y := by
  induction p with
  | nil => rfl
  | cons a p ih => simp [Op.bytesLess, ih]

theorem less_nil (x : List UInt8) : Op.bytesLess [] x = decide (x ≠ []) := by cases x <;> simp [Op.bytesLess]
theorem less_to_nil (x : List UInt8) : Op.bytesLess x [] = false := by cases x <;> rfl

theorem lessN_anti : ∀ (x y : List Nat), lessN x y = true → lessN y x = false
  | _, [], h => by simp [lessN] at h
  | [], _ :: _, _ => rfl
  | a :: x, b :: y, h => by
    simp only [lessN, Bool.or_eq_true, decide_eq_true_eq, Bool.and_eq_true, beq_iff_eq] at h
    simp only [lessN]
    rcases h with h | ⟨h1, h2⟩
    · have e1 : decide (b < a) = false := decide_eq_false (by omega)
      have e2 : (b == a) = false := by rw [beq_eq_false_iff_ne]; omega
      rw [e1, e2]; rfl
    · subst h1
      rw [lessN_anti x y h2]
      simp

theorem less_anti (x y : List UInt8) (h : Op.bytesLess x y = true) : Op.bytesLess y x = false := by
  rw [less_toNat] at h ⊢
  exact lessN_anti _ _ h

def encN (n : Nat) : List Nat :=
  if n < 128 then [n] else if n < 2048 then [192 + n / 64, 128 + n % 64]
  else if n < 65536 then [224 + n / 4096, 128 + n / 64 % 64, 128 + n % 64]
  else [240 + n / 262144, 128 + n / 4096 % 64, 128 + n / 64 % 64, 128 + n % 64]

theorem enc_toNat {n : Nat} (h : n ≤ 1114111) : (enc n).map UInt8.toNat = encN n := by
  unfold enc encN
  by_cases h1 : n < 128
  · simp [h1]; omega
  by_cases h2 : n < 2048
  · simp [h1, h2]; omega
  by_cases h3 : n < 65536
  · simp [h1, h2, h3]; omega
  · simp [h1, h2, h3]; omega

theorem encN_less {a b : Nat} (hb : b ≤ 1114111) (h : a < b) (r s : List Nat) : lessN (encN a ++ r) (encN b ++ s) = true := by
  unfold encN
  by_cases a1 : a < 128
  · rw [if_pos a1]
    by_cases b1 : b < 128
    · rw [if_pos b1]; simp [lessN, h]
    by_cases b2 : b < 2048
    · rw [if_neg b1, if_pos b2]; simp only [List.cons_append, lessN, Bool.or_eq_true, decide_eq_true_eq]; left; omega
    by_cases b3 : b < 65536
    · rw [if_neg b1, if_neg b2, if_pos b3]; simp only [List.cons_append, lessN, Bool.or_eq_true, decide_eq_true_eq]; left; omega
    · rw [if_neg b1, if_neg b2, if_neg b3]; simp only [List.cons_append, lessN, Bool.or_eq_true, decide_eq_true_eq]; left; omega
  by_cases a2 : a < 2048
  · rw [if_neg a1, if_pos a2]
    by_cases b2 : b < 2048
    · rw [if_neg (by omega), if_pos b2]
      simp only [List.cons_append, List.nil_append, lessN, Bool.or_eq_true, decide_eq_true_eq, Bool.and_eq_true, beq_iff_eq]; omega
    by_cases b3 : b < 65536
    · rw [if_neg (by omega), if_neg b2, if_pos b3]; simp only [List.cons_append, lessN, Bool.or_eq_true, decide_eq_true_eq]; left; omega
    · rw [if_neg (by omega), if_neg b2, if_neg b3]; simp only [List.cons_append, lessN, Bool.or_eq_true, decide_eq_true_eq]; left; omega
  by_cases a3 : a < 65536
  · rw [if_neg a1, if_neg a2, if_pos a3]
    by_cases b3 : b < 65536
    · rw [if_neg (by omega), if_neg (by omega), if_pos b3]
      simp only [List.cons_append, List.nil_append, lessN, Bool.or_eq_true, decide_eq_true_eq, Bool.and_eq_true, beq_iff_eq]; omega
    · rw [if_neg (by omega), if_neg (by omega), if_neg b3]; simp only [List.cons_append, lessN, Bool.or_eq_true, decide_eq_true_eq]; left; omega
  · rw [if_neg a1, if_neg a2, if_neg a3, if_neg (by omega), if_neg (by omega), if_neg (by omega)]
    simp only [List.cons_append, List.nil_append, lessN, Bool.or_eq_true, decide_eq_true_eq, Bool.and_eq_true, beq_iff_eq]; omega

theorem enc_less {a b : Nat} (ha : isL a = true) (hb : isL b = true) (h : a < b) (r s : List UInt8) : Op.bytesLess (enc a ++ r) (enc b ++ s) = true := by
  have h1 := (isL_iff.1 ha).1
  have h2 := (isL_iff.1 hb).1
  rw [less_toNat, List.map_append, List.map_append, enc_toNat h1, enc_toNat h2]
  exact encN_less h2 h _ _

/-- the first place where they differ decides -/
theorem order_at {a b : List Nat} (ha : ∀ n ∈ a, isL n = true) (hb : ∀ n ∈ b, isL n = true) {k x y : Nat} (ht : a.take k = b.take k) (hx : a[k]? = some x) (hy : b[k]? = some y) (hne : x ≠ y) :
    Op.bytesLess (encs a) (encs b) = decide (x < y) := by
  obtain ⟨h1, e1⟩ := List.getElem?_eq_some_iff.1 hx
  obtain ⟨h2, e2⟩ := List.getElem?_eq_some_iff.1 hy
  have da : encs a = encs (a.take k) ++ (enc x ++ encs (a.drop (k + 1))) := by
    conv => lhs; rw [← List.take_append_drop k a, List.drop_eq_getElem_cons h1, e1]
    rw [encs_append, encs_cons]
  have db : encs b = encs (a.take k) ++ (enc y ++ encs (b.drop (k + 1))) := by
    conv => lhs; rw [← List.take_append_drop k b, List.drop_eq_getElem_cons h2, e2]
    rw [encs_append, encs_cons, ht]
  have hxL : isL x = true := ha x (List.mem_of_getElem? hx)
  have hyL : isL y = true := hb y (List.mem_of_getElem? hy)
  rw [da, db, less_prefix]
  by_cases h : x < y
  · rw [enc_less hxL hyL h, decide_eq_true h]
  · rw [less_anti _ _ (enc_less hyL hxL (by omega) _ _), decide_eq_false h]

/-- where one is at its end, the shorter is ahead -/
theorem order_end {a b : List Nat} {k : Nat} (ht : a.take k = b.take k) (hk : (k = a.length ∧ k ≤ b.length) ∨ (k = b.length ∧ k ≤ a.length)) :
    Op.bytesLess (encs a) (encs b) = decide (a.length < b.length) := by
  rcases hk with ⟨rfl, h⟩ | ⟨rfl, h⟩
  · rw [List.take_length] at ht
    have db : encs b = encs a ++ encs (b.drop a.length) := by
      conv => lhs; rw [← List.take_append_drop a.length b, encs_append, ← ht]
    have da : encs a = encs a ++ [] := by simp
    rw [db]
    conv => lhs; rw [da]
    rw [List.append_nil, show Op.bytesLess (encs a) (encs a ++ encs (b.drop a.length)) = Op.bytesLess (encs a ++ []) (encs a ++ encs (b.drop a.length)) by rw [List.append_nil], less_prefix, less_nil]
    rw [decide_eq_decide]
    have hl := encs_length_ge (b.drop a.length)
    rw [List.length_drop] at hl
    constructor
    · intro hne
      rcases Nat.lt_or_ge a.length b.length with h' | h'
      · exact h'
      · exfalso
        apply hne
        rw [List.drop_of_length_le h']
        rfl
    · intro h' e
      rw [e] at hl
      simp at hl
      omega
  · rw [List.take_length] at ht
    have da : encs a = encs b ++ encs (a.drop b.length) := by
      conv => lhs; rw [← List.take_append_drop b.length a, encs_append, ht]
    rw [da, show Op.bytesLess (encs b ++ encs (a.drop b.length)) (encs b) = Op.bytesLess (encs b ++ encs (a.drop b.length)) (encs b ++ []) by rw [List.append_nil], less_prefix, less_to_nil, decide_eq_false (by omega)]

end U
end Go.Proofs.Ytmfbabbjcjdhbaa

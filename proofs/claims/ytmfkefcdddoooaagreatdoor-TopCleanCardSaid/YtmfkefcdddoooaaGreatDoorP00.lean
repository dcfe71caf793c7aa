/- Several texts in one: Utf, Runes, Char, TokMath. -/
import Derived.Lib.RuneBytes
import Derived.Laws.RangeAny
import Derived.Laws.Runes
namespace Go.Proofs.YtmfkefcdddoooaaGreatDoor
namespace U

/-- a code point -/
def isL (n : Nat) : Bool := decide (n ≤ 1114111 ∧ (n < 55296 ∨ 57343 < n))
theorem isL_iff {n : Nat} : isL n = true ↔ n ≤ 1114111 ∧ (n < 55296 ∨ 57343 < n) := by unfold isL; exact decide_eq_true_iff

/-- its bytes -/
def enc (n : Nat) : List UInt8 :=
  if n < 128 then [UInt8.ofNat n]
  else if n < 2048 then [UInt8.ofNat (192 + n / 64), UInt8.ofNat (128 + n % 64)]
  else if n < 65536 then [UInt8.ofNat (224 + n / 4096), UInt8.ofNat (128 + n / 64 % 64), UInt8.ofNat (128 + n % 64)]
  else [UInt8.ofNat (240 + n / 262144), UInt8.ofNat (128 + n / 4096 % 64), UInt8.ofNat (128 + n / 64 % 64), UInt8.ofNat (128 + n % 64)]

/-- the byte at a place -/
def at' (l : List UInt8) (k : Nat) : Nat := (l.getD k 0).toNat
def cont (l : List UInt8) (k : Nat) : Bool := decide (k < l.length) && at' l k / 64 == 2

/-- one byte is passed over -/
def bad : Nat × Nat := (65533, 1)
/-- what four bytes begin with (c: is there a further byte, and does it carry six bits?) -/
def decN (x0 x1 x2 x3 : Nat) (c1 c2 c3 : Bool) : Nat × Nat :=
  if x0 < 128 then (x0, 1)
  else if (x0 / 32 == 6 && c1) = true then
    if x0 % 32 * 64 + x1 % 64 ≥ 128 then (x0 % 32 * 64 + x1 % 64, 2) else bad
  else if (x0 / 16 == 14 && c1 && c2) = true then
    if x0 % 16 * 4096 + x1 % 64 * 64 + x2 % 64 ≥ 2048 ∧ isL (x0 % 16 * 4096 + x1 % 64 * 64 + x2 % 64) = true then (x0 % 16 * 4096 + x1 % 64 * 64 + x2 % 64, 3) else bad
  else if (x0 / 8 == 30 && c1 && c2 && c3) = true then
    if x0 % 8 * 262144 + x1 % 64 * 4096 + x2 % 64 * 64 + x3 % 64 ≥ 65536 ∧ isL (x0 % 8 * 262144 + x1 % 64 * 4096 + x2 % 64 * 64 + x3 % 64) = true then (x0 % 8 * 262144 + x1 % 64 * 4096 + x2 % 64 * 64 + x3 % 64, 4) else bad
  else bad
/-- what bytes begin with: the code point, and how many bytes it has -/
def dec (l : List UInt8) : Nat × Nat := decN (at' l 0) (at' l 1) (at' l 2) (at' l 3) (cont l 1) (cont l 2) (cont l 3)

theorem at_lt (l : List UInt8) (k : Nat) : at' l k < 256 := (l.getD k 0).toNat_lt

/-- the model's own decode -/
theorem decode_eq (s : ByteArray) (i : Nat) (h : i < s.size) : Utf8.decode s i = dec (s.data.toList.drop i) := by
  have hat : ∀ k, i + k < s.size → (s.get! (i + k)).toNat = at' (s.data.toList.drop i) k := by
    intro k hk
    have hk2 : i + k < s.data.size := hk
    simp only [at', ByteArray.get!, List.getD_eq_getElem?_getD, List.getElem?_drop, Array.getElem?_toList]
    rw [getElem!_pos s.data (i + k) hk2, getElem?_pos s.data (i + k) hk2]
    rfl
  have hlen : (s.data.toList.drop i).length = s.size - i := by simp
  have h0 := hat 0 (by omega)
  have hc : ∀ k, (decide (i + k < s.size) && (s.get! (i + k)).toNat / 64 == 2) = cont (s.data.toList.drop i) k := by
    intro k
    unfold cont
    by_cases hk : i + k < s.size
    · rw [hat k hk, hlen, decide_eq_true hk, decide_eq_true (by omega)]
    · rw [hlen, decide_eq_false hk, decide_eq_false (by omega)]; rfl
  have hv : ∀ c : Nat, Utf8.valid (c : Int) = isL c := by
    intro c
    rw [validRune_eq]
    unfold validRune isL
    rw [decide_eq_decide]
    omega
  unfold Utf8.decode dec decN
  simp only [hc, h0]
  by_cases b1 : at' (s.data.toList.drop i) 0 < 128
  · simp [b1]
  rw [if_neg b1, if_neg b1]
  cases hb2 : (at' (s.data.toList.drop i) 0 / 32 == 6 && cont (s.data.toList.drop i) 1)
  · simp only [Bool.false_eq_true, if_false]
    cases hb3 : (at' (s.data.toList.drop i) 0 / 16 == 14 && cont (s.data.toList.drop i) 1 && cont (s.data.toList.drop i) 2)
    · simp only [Bool.false_eq_true, if_false]
      cases hb4 : (at' (s.data.toList.drop i) 0 / 8 == 30 && cont (s.data.toList.drop i) 1 && cont (s.data.toList.drop i) 2 && cont (s.data.toList.drop i) 3)
      · simp [Utf8.runeError, bad]
      · simp only [Bool.and_eq_true, cont, decide_eq_true_eq] at hb4
        obtain ⟨⟨⟨_, c1, _⟩, c2, _⟩, c3, _⟩ := hb4
        rw [hat 1 (by omega), hat 2 (by omega), hat 3 (by omega), hv]
        simp [Utf8.runeError, bad]
    · simp only [Bool.and_eq_true, cont, decide_eq_true_eq] at hb3
      obtain ⟨⟨_, c1, _⟩, c2, _⟩ := hb3
      rw [hat 1 (by omega), hat 2 (by omega), hv]
      simp [Utf8.runeError, bad]
  · simp only [Bool.and_eq_true, cont, decide_eq_true_eq] at hb2
    obtain ⟨_, c1, _⟩ := hb2
    rw [hat 1 (by omega)]
    simp [Utf8.runeError, bad]

theorem ofNat_eq {n : Nat} {b : UInt8} (h : n = b.toNat) : UInt8.ofNat n = b := by subst h; simp

theorem at_zero (b : UInt8) (r : List UInt8) : at' (b :: r) 0 = b.toNat := rfl
theorem at_succ (b : UInt8) (r : List UInt8) (k : Nat) : at' (b :: r) (k + 1) = at' r k := rfl
theorem cont_succ (b : UInt8) (r : List UInt8) (k : Nat) : cont (b :: r) (k + 1) = cont r k := by simp [cont, at_succ]
theorem cont_zero (b : UInt8) (r : List UInt8) : cont (b :: r) 0 = (b.toNat / 64 == 2) := by simp [cont, at_zero]
theorem cont_nil (k : Nat) : cont [] k = false := by simp [cont]

theorem enc_one {n : Nat} (h : n < 128) : enc n = [UInt8.ofNat n] := by simp [enc, h]
theorem enc_two {n : Nat} (h0 : 128 ≤ n) (h1 : n < 2048) : enc n = [UInt8.ofNat (192 + n / 64), UInt8.ofNat (128 + n % 64)] := by
  simp [enc, h1, Nat.not_lt.2 h0]
theorem enc_three {n : Nat} (h0 : 2048 ≤ n) (h1 : n < 65536) : enc n = [UInt8.ofNat (224 + n / 4096), UInt8.ofNat (128 + n / 64 % 64), UInt8.ofNat (128 + n % 64)] := by
  have : ¬ n < 128 := by omega
  simp [enc, h1, Nat.not_lt.2 h0, this]
theorem enc_four {n : Nat} (h0 : 65536 ≤ n) : enc n = [UInt8.ofNat (240 + n / 262144), UInt8.ofNat (128 + n / 4096 % 64), UInt8.ofNat (128 + n / 64 % 64), UInt8.ofNat (128 + n % 64)] := by
  have : ¬ n < 128 := by omega
  have : ¬ n < 2048 := by omega
  have : ¬ n < 65536 := by omega
  simp [enc, *]

theorem enc_length (n : Nat) : 1 ≤ (enc n).length ∧ (enc n).length ≤ 4 := by
  unfold enc; repeat' split
  all_goals simp


theorem decN_1 {x0 x1 x2 x3 : Nat} {c1 c2 c3 : Bool} (h : x0 < 128) : decN x0 x1 x2 x3 c1 c2 c3 = (x0, 1) := by unfold decN; rw [if_pos h]
theorem decN_2 {x0 x1 x2 x3 : Nat} {c1 c2 c3 : Bool} (h : x0 / 32 = 6) (h1 : c1 = true) : decN x0 x1 x2 x3 c1 c2 c3 = if x0 % 32 * 64 + x1 % 64 ≥ 128 then (x0 % 32 * 64 + x1 % 64, 2) else bad := by
  unfold decN; rw [if_neg (by omega), if_pos (by simp [h, h1])]
theorem decN_3 {x0 x1 x2 x3 : Nat} {c1 c2 c3 : Bool} (h : x0 / 16 = 14) (h1 : c1 = true) (h2 : c2 = true) : decN x0 x1 x2 x3 c1 c2 c3 = if x0 % 16 * 4096 + x1 % 64 * 64 + x2 % 64 ≥ 2048 ∧ isL (x0 % 16 * 4096 + x1 % 64 * 64 + x2 % 64) = true then (x0 % 16 * 4096 + x1 % 64 * 64 + x2 % 64, 3) else bad := by
  have g : (x0 / 32 == 6) = false := by simp; omega
  unfold decN; rw [if_neg (by omega), if_neg (by simp [g]), if_pos (by simp [h, h1, h2])]
theorem decN_4 {x0 x1 x2 x3 : Nat} {c1 c2 c3 : Bool} (h : x0 / 8 = 30) (h1 : c1 = true) (h2 : c2 = true) (h3 : c3 = true) : decN x0 x1 x2 x3 c1 c2 c3 = if x0 % 8 * 262144 + x1 % 64 * 4096 + x2 % 64 * 64 + x3 % 64 ≥ 65536 ∧ isL (x0 % 8 * 262144 + x1 % 64 * 4096 + x2 % 64 * 64 + x3 % 64) = true then (x0 % 8 * 262144 + x1 % 64 * 4096 + x2 % 64 * 64 + x3 % 64, 4) else bad := by
  have g : (x0 / 32 == 6) = false := by simp; omega
  have g' : (x0 / 16 == 14) = false := by simp; omega
  unfold decN; rw [if_neg (by omega), if_neg (by simp [g]), if_neg (by simp [g']), if_pos (by simp [h, h1, h2, h3])]
theorem decN_no {x0 x1 x2 x3 : Nat} {c1 c2 c3 : Bool} (h0 : ¬ x0 < 128) (h2 : (x0 / 32 == 6 && c1) = false) (h3 : (x0 / 16 == 14 && c1 && c2) = false) (h4 : (x0 / 8 == 30 && c1 && c2 && c3) = false) : decN x0 x1 x2 x3 c1 c2 c3 = bad := by
  unfold decN; rw [if_neg h0, if_neg (by simp [h2]), if_neg (by simp [h3]), if_neg (by simp [h4])]

/-- what encodes a code point is read as it -/
theorem dec_enc (n : Nat) (h : isL n = true) (r : List UInt8) : dec (enc n ++ r) = (n, (enc n).length) := by
  have hl := isL_iff.1 h
  by_cases h1 : n < 128
  · rw [enc_one h1]
    have e : (UInt8.ofNat n).toNat = n := by simp; omega
    exact (decN_1 (by rw [List.cons_append, at_zero, e]; exact h1)).trans (by rw [List.cons_append, at_zero, e]; rfl)
  by_cases h2 : n < 2048
  · rw [enc_two (by omega) h2]
    have e0 : (UInt8.ofNat (192 + n / 64)).toNat = 192 + n / 64 := by simp; omega
    have e1 : (UInt8.ofNat (128 + n % 64)).toNat = 128 + n % 64 := by simp; omega
    have f3 : (192 + n / 64) % 32 * 64 + (128 + n % 64) % 64 = n := by omega
    refine (decN_2 ?_ ?_).trans ?_
    · rw [List.cons_append, at_zero, e0]; omega
    · rw [List.cons_append, List.cons_append, cont_succ, cont_zero, e1]; simp; omega
    · rw [List.cons_append, List.cons_append, at_succ, at_zero, at_zero, e0, e1, f3, if_pos (by omega)]
      rfl
  by_cases h3 : n < 65536
  · rw [enc_three (by omega) h3]
    have e0 : (UInt8.ofNat (224 + n / 4096)).toNat = 224 + n / 4096 := by simp; omega
    have e1 : (UInt8.ofNat (128 + n / 64 % 64)).toNat = 128 + n / 64 % 64 := by simp; omega
    have e2 : (UInt8.ofNat (128 + n % 64)).toNat = 128 + n % 64 := by simp; omega
    have f3 : (224 + n / 4096) % 16 * 4096 + (128 + n / 64 % 64) % 64 * 64 + (128 + n % 64) % 64 = n := by omega
    refine (decN_3 ?_ ?_ ?_).trans ?_
    · rw [List.cons_append, at_zero, e0]; omega
    · rw [List.cons_append, List.cons_append, cont_succ, cont_zero, e1]; simp; omega
    · rw [List.cons_append, List.cons_append, List.cons_append, cont_succ, cont_succ, cont_zero, e2]; simp; omega
    · rw [List.cons_append, List.cons_append, List.cons_append, at_succ, at_succ, at_succ, at_zero, at_zero, at_zero, e0, e1, e2, f3, if_pos ⟨by omega, h⟩]
      rfl
  · rw [enc_four (by omega)]
    have e0 : (UInt8.ofNat (240 + n / 262144)).toNat = 240 + n / 262144 := by simp; omega
    have e1 : (UInt8.ofNat (128 + n / 4096 % 64)).toNat = 128 + n / 4096 % 64 := by simp; omega
    have e2 : (UInt8.ofNat (128 + n / 64 % 64)).toNat = 128 + n / 64 % 64 := by simp; omega
    have e3 : (UInt8.ofNat (128 + n % 64)).toNat = 128 + n % 64 := by simp; omega
    have f3 : (240 + n / 262144) % 8 * 262144 + (128 + n / 4096 % 64) % 64 * 4096 + (128 + n / 64 % 64) % 64 * 64 + (128 + n % 64) % 64 = n := by omega
    refine (decN_4 ?_ ?_ ?_ ?_).trans ?_
    · rw [List.cons_append, at_zero, e0]; omega
    · rw [List.cons_append, List.cons_append, cont_succ, cont_zero, e1]; simp; omega
    · rw [List.cons_append, List.cons_append, List.cons_append, cont_succ, cont_succ, cont_zero, e2]; simp; omega
    · rw [List.cons_append, List.cons_append, List.cons_append, List.cons_append, cont_succ, cont_succ, cont_succ, cont_zero, e3]; simp; omega
    · rw [List.cons_append, List.cons_append, List.cons_append, List.cons_append, at_succ, at_succ, at_succ, at_succ, at_succ, at_succ, at_zero, at_zero, at_zero, at_zero, e0, e1, e2, e3, f3, if_pos ⟨by omega, h⟩]
      rfl

/-- what is read is a code point's encoding, or one byte is passed over -/
theorem dec_spec (l : List UInt8) (hl : l ≠ []) : dec l = bad ∨ ∃ n r, isL n = true ∧ l = enc n ++ r ∧ dec l = (n, (enc n).length) := by
  have key : ∀ n r, isL n = true → l = enc n ++ r → dec l = bad ∨ ∃ n r, isL n = true ∧ l = enc n ++ r ∧ dec l = (n, (enc n).length) := fun n r h e =>
    Or.inr ⟨n, r, h, e, by rw [e]; exact dec_enc n h r⟩
  obtain ⟨b0, l0, rfl⟩ := List.exists_cons_of_ne_nil hl
  have k0 := b0.toNat_lt
  by_cases h1 : b0.toNat < 128
  · exact key b0.toNat l0 (isL_iff.2 (by omega)) (by rw [enc_one h1]; simp)
  cases l0 with
  | nil =>
    left
    exact decN_no h1 (by simp [cont_succ, cont_nil]) (by simp [cont_succ, cont_nil]) (by simp [cont_succ, cont_nil])
  | cons b1 l1 =>
    have k1 := b1.toNat_lt
    by_cases h2 : b0.toNat / 32 = 6 ∧ b1.toNat / 64 = 2
    · obtain ⟨h2, h3⟩ := h2
      by_cases h4 : b0.toNat % 32 * 64 + b1.toNat % 64 ≥ 128
      · refine key (b0.toNat % 32 * 64 + b1.toNat % 64) l1 (isL_iff.2 (by omega)) ?_
        rw [enc_two h4 (by omega), ofNat_eq (b := b0) (by omega), ofNat_eq (b := b1) (by omega)]
        rfl
      · left
        exact (decN_2 h2 (by simp [cont_succ, cont_zero, h3])).trans (if_neg h4)
    have g2 : (b0.toNat / 32 == 6 && b1.toNat / 64 == 2) = false := by
      rw [Bool.eq_false_iff]; intro h; exact h2 (by simpa using h)
    cases l1 with
    | nil =>
      left
      exact decN_no h1 (by rw [cont_succ, cont_zero]; exact g2) (by simp [cont_succ, cont_nil]) (by simp [cont_succ, cont_nil])
    | cons b2 l2 =>
      have k2 := b2.toNat_lt
      by_cases h3 : b0.toNat / 16 = 14 ∧ b1.toNat / 64 = 2 ∧ b2.toNat / 64 = 2
      · obtain ⟨h3, h5, h6⟩ := h3
        by_cases h4 : b0.toNat % 16 * 4096 + b1.toNat % 64 * 64 + b2.toNat % 64 ≥ 2048 ∧ isL (b0.toNat % 16 * 4096 + b1.toNat % 64 * 64 + b2.toNat % 64) = true
        · refine key (b0.toNat % 16 * 4096 + b1.toNat % 64 * 64 + b2.toNat % 64) l2 h4.2 ?_
          rw [enc_three h4.1 (by omega), ofNat_eq (b := b0) (by omega), ofNat_eq (b := b1) (by omega), ofNat_eq (b := b2) (by omega)]
          rfl
        · left
          exact (decN_3 h3 (by simp [cont_succ, cont_zero, h5]) (by simp [cont_succ, cont_zero, h6])).trans (if_neg h4)
      have g3 : (b0.toNat / 16 == 14 && b1.toNat / 64 == 2 && b2.toNat / 64 == 2) = false := by
        rw [Bool.eq_false_iff]; intro h; exact h3 (by simpa [and_assoc] using h)
      cases l2 with
      | nil =>
        left
        exact decN_no h1 (by rw [cont_succ, cont_zero]; exact g2) (by rw [cont_succ, cont_zero, cont_succ, cont_succ, cont_zero]; exact g3) (by simp [cont_succ, cont_nil])
      | cons b3 l3 =>
        have k3 := b3.toNat_lt
        by_cases h7 : b0.toNat / 8 = 30 ∧ b1.toNat / 64 = 2 ∧ b2.toNat / 64 = 2 ∧ b3.toNat / 64 = 2
        · obtain ⟨h7, h8, h9, h10⟩ := h7
          by_cases h4 : b0.toNat % 8 * 262144 + b1.toNat % 64 * 4096 + b2.toNat % 64 * 64 + b3.toNat % 64 ≥ 65536 ∧ isL (b0.toNat % 8 * 262144 + b1.toNat % 64 * 4096 + b2.toNat % 64 * 64 + b3.toNat % 64) = true
          · refine key (b0.toNat % 8 * 262144 + b1.toNat % 64 * 4096 + b2.toNat % 64 * 64 + b3.toNat % 64) l3 h4.2 ?_
            rw [enc_four h4.1, ofNat_eq (b := b0) (by omega), ofNat_eq (b := b1) (by omega), ofNat_eq (b := b2) (by omega), ofNat_eq (b := b3) (by omega)]
            rfl
          · left
            exact (decN_4 h7 (by simp [cont_succ, cont_zero, h8]) (by simp [cont_succ, cont_zero, h9]) (by simp [cont_succ, cont_zero, h10])).trans (if_neg h4)
        have g7 : (b0.toNat / 8 == 30 && b1.toNat / 64 == 2 && b2.toNat / 64 == 2 && b3.toNat / 64 == 2) = false := by
          rw [Bool.eq_false_iff]; intro h; exact h7 (by simpa [and_assoc] using h)
        left
        exact decN_no h1 (by rw [cont_succ, cont_zero]; exact g2) (by rw [cont_succ, cont_zero, cont_succ, cont_succ, cont_zero]; exact g3) (by rw [cont_succ, cont_zero, cont_succ, cont_succ, cont_zero, cont_succ, cont_succ, cont_succ, cont_zero]; exact g7)

end U
end Go.Proofs.YtmfkefcdddoooaaGreatDoor

namespace Go.Proofs.YtmfkefcdddoooaaGreatDoor
namespace U

theorem bad_len : bad.2 = 1 := rfl

/-- the width: one to four bytes, and no more than there are -/
theorem dec_width (l : List UInt8) (hl : l ≠ []) : 1 ≤ (dec l).2 ∧ (dec l).2 ≤ 4 ∧ (dec l).2 ≤ l.length := by
  have h1 : 1 ≤ l.length := by cases l with | nil => exact absurd rfl hl | cons a r => simp
  rcases dec_spec l hl with h | ⟨n, r, _, e, h⟩
  · rw [h]; exact ⟨Nat.le_refl _, by decide, h1⟩
  · rw [h]
    have h2 := enc_length n
    have h3 : l.length = (enc n).length + r.length := by rw [e]; simp
    simp only
    omega

theorem dec_isL (l : List UInt8) (hl : l ≠ []) : isL (dec l).1 = true := by
  rcases dec_spec l hl with h | ⟨n, r, hn, e, h⟩
  · rw [h]; decide
  · rw [h]; exact hn

/-- the code points of bytes, by at most so many steps -/
def runesF : Nat → List UInt8 → List Nat
  | 0, _ => []
  | f + 1, l => if l = [] then [] else (dec l).1 :: runesF f (l.drop (dec l).2)
/-- the code points of bytes -/
def runes (l : List UInt8) : List Nat := runesF l.length l

theorem runesF_nil (f : Nat) : runesF f [] = [] := by cases f <;> simp [runesF]
theorem runesF_more : ∀ (f : Nat) (l : List UInt8), l.length ≤ f → runesF f l = runesF l.length l
  | 0, l, h => by
    have : l = [] := List.length_eq_zero_iff.1 (by omega)
    subst this; rfl
  | f + 1, l, h => by
    by_cases hl : l = []
    · subst hl; simp [runesF]
    · have hw := dec_width l hl
      have hd : (l.drop (dec l).2).length = l.length - (dec l).2 := by simp
      obtain ⟨k, hk⟩ : ∃ k, l.length = k + 1 := ⟨l.length - 1, by omega⟩
      rw [hk]
      simp only [runesF, if_neg hl]
      rw [runesF_more f (l.drop (dec l).2) (by omega), runesF_more k (l.drop (dec l).2) (by omega)]
theorem runes_of_fuel {f : Nat} {l : List UInt8} (h : l.length ≤ f) : runesF f l = runes l := runesF_more f l h
theorem runes_nil : runes [] = [] := rfl
theorem runes_cons {l : List UInt8} (hl : l ≠ []) : runes l = (dec l).1 :: runes (l.drop (dec l).2) := by
  have hw := dec_width l hl
  have hd : (l.drop (dec l).2).length = l.length - (dec l).2 := by simp
  have hk : ∃ k, l.length = k + 1 := ⟨l.length - 1, by omega⟩
  obtain ⟨k, hk⟩ := hk
  unfold runes
  rw [hk]
  simp only [runesF, if_neg hl]
  rw [runesF_more k _ (by omega)]

/-- an induction along the code points -/
theorem rec_runes {P : List UInt8 → Prop} (h0 : P []) (h1 : ∀ l, l ≠ [] → P (l.drop (dec l).2) → P l) : ∀ l, P l := by
  have key : ∀ (n : Nat) (l : List UInt8), l.length ≤ n → P l := by
    intro n
    induction n with
    | zero => intro l h; have : l = [] := List.length_eq_zero_iff.1 (by omega); subst this; exact h0
    | succ n ih =>
      intro l h
      by_cases hl : l = []
      · subst hl; exact h0
      · have hw := dec_width l hl
        exact h1 l hl (ih _ (by rw [List.length_drop]; omega))
  exact fun l => key l.length l (Nat.le_refl _)

theorem runes_isL (l : List UInt8) : ∀ n ∈ runes l, isL n = true := by
  induction l using rec_runes with
  | h0 => intro n h; simp [runes_nil] at h
  | h1 l hl ih =>
    intro n h
    rw [runes_cons hl] at h
    rcases List.mem_cons.1 h with h | h
    · rw [h]; exact dec_isL l hl
    · exact ih n h

theorem runes_enc {n : Nat} (h : isL n = true) (r : List UInt8) : runes (enc n ++ r) = n :: runes r := by
  have hne : enc n ++ r ≠ [] := by
    have h1 := (enc_length n).1
    intro e
    have h2 := congrArg List.length e
    rw [List.length_append, List.length_nil] at h2
    omega
  rw [runes_cons hne, dec_enc n h r]
  simp

/-- the encoding of code points -/
def encs (l : List Nat) : List UInt8 := l.flatMap enc
theorem encs_nil : encs [] = [] := rfl
theorem encs_cons (n : Nat) (l : List Nat) : encs (n :: l) = enc n ++ encs l := by simp [encs]
theorem encs_append (a b : List Nat) : encs (a ++ b) = encs a ++ encs b := by simp [encs]
theorem encs_length_ge (l : List Nat) : l.length ≤ (encs l).length := by
  induction l with
  | nil => simp
  | cons n l ih => have := (enc_length n).1; rw [encs_cons, List.length_append, List.length_cons]; omega
theorem encs_length_le (l : List Nat) : (encs l).length ≤ 4 * l.length := by
  induction l with
  | nil => simp [encs]
  | cons n l ih => have := (enc_length n).2; rw [encs_cons, List.length_append, List.length_cons]; omega

theorem runes_encs (a : List Nat) (h : ∀ n ∈ a, isL n = true) (r : List UInt8) : runes (encs a ++ r) = a ++ runes r := by
  induction a with
  | nil => simp [encs_nil]
  | cons n a ih =>
    rw [encs_cons, List.append_assoc, runes_enc (h n (List.mem_cons_self ..)), ih (fun m hm => h m (List.mem_cons_of_mem _ hm))]
    rfl

theorem runes_encs' (a : List Nat) (h : ∀ n ∈ a, isL n = true) : runes (encs a) = a := by
  have := runes_encs a h []
  simpa [runes_nil] using this

/-- one encoding for one list of code points -/
theorem encs_inj {a b : List Nat} (ha : ∀ n ∈ a, isL n = true) (hb : ∀ n ∈ b, isL n = true) : encs a = encs b ↔ a = b :=
  ⟨fun h => by rw [← runes_encs' a ha, h, runes_encs' b hb], fun h => by rw [h]⟩

/-- how many: no more than bytes, and a fourth of the bytes at the least -/
theorem runes_length (l : List UInt8) : (runes l).length ≤ l.length ∧ l.length ≤ 4 * (runes l).length := by
  induction l using rec_runes with
  | h0 => simp [runes_nil]
  | h1 l hl ih =>
    have hw := dec_width l hl
    rw [runes_cons hl, List.length_cons]
    rw [List.length_drop] at ih
    omega

/-- two texts, one behind the other: what is read of the first, as long as it lies in the first -/
theorem dec_append (s t : List UInt8) (hs : s ≠ []) (h : (dec (s ++ t)).2 ≤ s.length) : dec s = dec (s ++ t) := by
  have hst : s ++ t ≠ [] := by simp [hs]
  rcases dec_spec (s ++ t) hst with e | ⟨n, r, hn, e, e2⟩
  · rcases dec_spec s hs with e' | ⟨m, q, hm, f, f2⟩
    · rw [e, e']
    · -- what the first alone begins with, both begin with
      have g := dec_enc m hm (q ++ t)
      rw [← List.append_assoc, ← f] at g
      rw [f2, g]
  · rw [e2] at h ⊢
    simp only at h
    have f : s = enc n ++ s.drop (enc n).length := by
      have h1 : (s ++ t).take (enc n).length = enc n := by rw [e]; simp
      rw [List.take_append_of_le_length h] at h1
      conv => lhs; rw [← List.take_append_drop (enc n).length s, h1]
    rw [f]
    exact dec_enc n hn _

/-- a byte that carries six bits begins nothing -/
theorem dec_six (b : UInt8) (r : List UInt8) (h : b.toNat / 64 = 2) : dec (b :: r) = bad :=
  decN_no (by rw [at_zero]; omega) (by rw [at_zero, Bool.and_eq_false_iff]; left; simp; omega) (by rw [at_zero, Bool.and_eq_false_iff, Bool.and_eq_false_iff]; left; left; simp; omega) (by rw [at_zero, Bool.and_eq_false_iff, Bool.and_eq_false_iff, Bool.and_eq_false_iff]; left; left; left; simp; omega)

theorem runes_six (c r : List UInt8) (h : ∀ b ∈ c, b.toNat / 64 = 2) : (runes (c ++ r)).length = c.length + (runes r).length := by
  induction c with
  | nil => simp
  | cons b c ih =>
    rw [List.cons_append, runes_cons (by simp), dec_six b _ (h b (List.mem_cons_self ..))]
    show ((65533 : Nat) :: runes (List.drop 1 (b :: (c ++ r)))).length = _
    rw [List.drop_one, List.tail_cons, List.length_cons, List.length_cons, ih (fun x hx => h x (List.mem_cons_of_mem _ hx))]
    omega

/-- behind its first byte an encoding carries six bits a byte -/
theorem enc_tail (n : Nat) : ∀ b ∈ (enc n).drop 1, b.toNat / 64 = 2 := by
  intro b hb
  by_cases h1 : n < 128
  · rw [enc_one h1] at hb; simp at hb
  by_cases h2 : n < 2048
  · rw [enc_two (by omega) h2] at hb; simp at hb; subst hb; simp; omega
  by_cases h3 : n < 65536
  · rw [enc_three (by omega) h3] at hb; simp at hb; rcases hb with rfl | rfl <;> (simp; omega)
  · rw [enc_four (by omega)] at hb; simp at hb; rcases hb with rfl | rfl | rfl <;> (simp; omega)

/-- an encoding that is cut off is passed over byte by byte -/
theorem runes_cut {n : Nat} (hn : isL n = true) {s t : List UInt8} (h : s ++ t = enc n) (ht : t ≠ []) : (runes s).length = s.length := by
  cases s with
  | nil => rfl
  | cons b s =>
    have hs6 : ∀ x ∈ s, x.toNat / 64 = 2 := fun x hx => enc_tail n x (by rw [← h]; simp; exact Or.inl hx |> fun h => by simpa using h)
    have hb : dec (b :: s) = bad := by
      rcases dec_spec (b :: s) (by simp) with e | ⟨m, q, hm, f, _⟩
      · exact e
      · exfalso
        have g := dec_enc m hm (q ++ t)
        rw [← List.append_assoc, ← f, h] at g
        have g2 := dec_enc n hn []
        rw [List.append_nil, g] at g2
        have h3 : (enc m).length = (enc n).length := congrArg Prod.snd g2
        have h4 : (enc n).length = (b :: s).length + t.length := by rw [← h, List.length_append]
        have h5 : (b :: s).length = (enc m).length + q.length := by rw [f, List.length_append]
        have h6 : 0 < t.length := List.length_pos_iff.2 ht
        omega
    rw [runes_cons (by simp), hb]
    show ((65533 : Nat) :: runes (List.drop 1 (b :: s))).length = _
    have := runes_six s [] hs6
    rw [List.append_nil] at this
    rw [List.drop_one, List.tail_cons, List.length_cons, List.length_cons, this, runes_nil]
    simp

/-- of two texts, one behind the other, there are no more than of both by themselves, and at most three fewer -/
theorem runes_append_length (s t : List UInt8) : (runes (s ++ t)).length ≤ (runes s).length + (runes t).length ∧ (runes s).length + (runes t).length ≤ (runes (s ++ t)).length + 3 := by
  induction s using rec_runes with
  | h0 => simp [runes_nil]
  | h1 s hs ih =>
    have hst : s ++ t ≠ [] := by simp [hs]
    by_cases h : (dec (s ++ t)).2 ≤ s.length
    · have e := dec_append s t hs h
      rw [runes_cons hst, runes_cons hs, ← e, List.drop_append_of_le_length (by rw [e]; exact h), List.length_cons, List.length_cons]
      omega
    · rcases dec_spec (s ++ t) hst with e | ⟨n, r, hn, e, e2⟩
      · rw [e] at h
        have : 0 < s.length := List.length_pos_iff.2 hs
        simp only [bad] at h
        omega
      · rw [e2] at h
        simp only at h
        -- the encoding begins in the first and ends in the second
        have f1 : enc n = s ++ t.take ((enc n).length - s.length) := by
          have h1 : (s ++ t).take (enc n).length = enc n := by rw [e]; simp
          rw [List.take_append, List.take_of_length_le (by omega)] at h1
          exact h1.symm
        have f2 : t = t.take ((enc n).length - s.length) ++ r := by
          have h1 : (s ++ t).drop (enc n).length = r := by rw [e]; simp
          rw [List.drop_append, List.drop_of_length_le (by omega), List.nil_append] at h1
          conv => lhs; rw [← List.take_append_drop ((enc n).length - s.length) t, h1]
        generalize t.take ((enc n).length - s.length) = c at f1 f2
        have hc0 : c ≠ [] := by
          rintro rfl
          rw [f1] at h
          simp at h
        have hs1 : 0 < s.length := List.length_pos_iff.2 hs
        have hc6 : ∀ x ∈ c, x.toNat / 64 = 2 := fun x hx => enc_tail n x (by
          rw [f1]
          obtain ⟨b, q, rfl⟩ := List.exists_cons_of_ne_nil hs
          simp
          exact Or.inr hx)
        have c1 := runes_cut hn f1.symm hc0
        have c2 := runes_six c r hc6
        have c3 := (enc_length n).2
        have c4 : (enc n).length = s.length + c.length := by rw [f1, List.length_append]
        have c5 : 0 < c.length := List.length_pos_iff.2 hc0
        rw [e, runes_enc hn, List.length_cons, c1, f2, c2]
        omega

end U
end Go.Proofs.YtmfkefcdddoooaaGreatDoor

namespace Go.Proofs.YtmfkefcdddoooaaGreatDoor
namespace U

/-! ### P2.1 -/

/-- what stands in place of a byte -/
def esc1 (q : Bool) (b : UInt8) : List UInt8 :=
  if b = 38 then [38, 97, 109, 112, 59] else if b = 60 then [38, 108, 116, 59] else if b = 62 then [38, 103, 116, 59]
  else if (b == 34 && q) = true then [38, 113, 117, 111, 116, 59] else [b]
def esc (q : Bool) (l : List UInt8) : List UInt8 := l.flatMap (esc1 q)

theorem esc_nil (q : Bool) : esc q [] = [] := rfl
theorem esc_cons (q : Bool) (b : UInt8) (l : List UInt8) : esc q (b :: l) = esc1 q b ++ esc q l := by simp [esc]
theorem esc_append (q : Bool) (a b : List UInt8) : esc q (a ++ b) = esc q a ++ esc q b := by simp [esc]
theorem esc1_amp (q : Bool) : esc1 q 38 = [38, 97, 109, 112, 59] := rfl
theorem esc1_lt (q : Bool) : esc1 q 60 = [38, 108, 116, 59] := rfl
theorem esc1_gt (q : Bool) : esc1 q 62 = [38, 103, 116, 59] := rfl
theorem esc1_quot : esc1 true 34 = [38, 113, 117, 111, 116, 59] := rfl
theorem esc1_quot' : esc1 false 34 = [34] := rfl
theorem esc1_other {q : Bool} {b : UInt8} (h1 : b ≠ 38) (h2 : b ≠ 60) (h3 : b ≠ 62) (h4 : b ≠ 34) : esc1 q b = [b] := by
  unfold esc1
  rw [if_neg h1, if_neg h2, if_neg h3, if_neg (by simp [h4])]
theorem esc1_cases (q : Bool) (b : UInt8) : (b = 38 ∧ esc1 q b = [38, 97, 109, 112, 59]) ∨ (b = 60 ∧ esc1 q b = [38, 108, 116, 59]) ∨ (b = 62 ∧ esc1 q b = [38, 103, 116, 59]) ∨
    (b = 34 ∧ q = true ∧ esc1 q b = [38, 113, 117, 111, 116, 59]) ∨ (b ≠ 38 ∧ b ≠ 60 ∧ b ≠ 62 ∧ (b = 34 → q = false) ∧ esc1 q b = [b]) := by
  by_cases h1 : b = 38
  · subst h1; exact .inl ⟨rfl, rfl⟩
  by_cases h2 : b = 60
  · subst h2; exact .inr (.inl ⟨rfl, rfl⟩)
  by_cases h3 : b = 62
  · subst h3; exact .inr (.inr (.inl ⟨rfl, rfl⟩))
  by_cases h4 : b = 34
  · subst h4
    cases q
    · exact .inr (.inr (.inr (.inr ⟨by decide, by decide, by decide, fun _ => rfl, rfl⟩)))
    · exact .inr (.inr (.inr (.inl ⟨rfl, rfl, rfl⟩)))
  · exact .inr (.inr (.inr (.inr ⟨h1, h2, h3, fun h => absurd h h4, esc1_other h1 h2 h3 h4⟩)))
theorem esc1_length (q : Bool) (b : UInt8) : 1 ≤ (esc1 q b).length ∧ (esc1 q b).length ≤ 6 := by
  rcases esc1_cases q b with ⟨_, h⟩ | ⟨_, h⟩ | ⟨_, h⟩ | ⟨_, _, h⟩ | ⟨_, _, _, _, h⟩ <;> rw [h] <;> simp
theorem esc_length (q : Bool) : ∀ l : List UInt8, l.length ≤ (esc q l).length ∧ (esc q l).length ≤ 6 * l.length
  | [] => ⟨Nat.le_refl _, Nat.le_refl _⟩
  | b :: l => by
    have h1 := esc1_length q b
    have h2 := esc_length q l
    rw [esc_cons, List.length_append, List.length_cons]
    omega
/-- no <, no >, and no double quote where that was asked for -/
theorem esc_clean (q : Bool) : ∀ (l : List UInt8) (c : UInt8), c ∈ esc q l → c ≠ 60 ∧ c ≠ 62 ∧ (q = true → c ≠ 34)
  | [], c, h => by cases h
  | b :: l, c, h => by
    rw [esc_cons, List.mem_append] at h
    rcases h with h | h
    · rcases esc1_cases q b with ⟨_, e⟩ | ⟨_, e⟩ | ⟨_, e⟩ | ⟨_, hq, e⟩ | ⟨_, h2, h3, h4, e⟩
      · rw [e] at h; simp at h; rcases h with rfl | rfl | rfl | rfl | rfl <;> exact ⟨by decide, by decide, fun _ => by decide⟩
      · rw [e] at h; simp at h; rcases h with rfl | rfl | rfl | rfl <;> exact ⟨by decide, by decide, fun _ => by decide⟩
      · rw [e] at h; simp at h; rcases h with rfl | rfl | rfl | rfl <;> exact ⟨by decide, by decide, fun _ => by decide⟩
      · rw [e] at h; simp at h; rcases h with rfl | rfl | rfl | rfl | rfl | rfl <;> exact ⟨by decide, by decide, fun _ => by decide⟩
      · rw [e] at h
        simp at h
        subst h
        exact ⟨h2, h3, fun hq e => by have := h4 e; rw [hq] at this; cases this⟩
    · exact esc_clean q l c h

/-! ### P2.2: a reference -/

/-- a digit's number; 99: none -/
def dig (b : UInt8) : Nat :=
  if 48 ≤ b.toNat ∧ b.toNat ≤ 57 then b.toNat - 48 else if 97 ≤ b.toNat ∧ b.toNat ≤ 102 then b.toNat - 87 else if 65 ≤ b.toNat ∧ b.toNat ≤ 70 then b.toNat - 55 else 99
/-- the number that digits write -/
def val (base : Nat) (acc : Nat) (d : List UInt8) : Nat := d.foldl (fun n b => n * base + dig b) acc
/-- all of them digits -/
def allDig (base : Nat) (d : List UInt8) : Bool := d.all fun b => decide (dig b < base)
/-- a number's code point -/
def point (n : Nat) : Nat := if (n == 0 || !isL n) = true then 65533 else n
/-- digits in one base: one to so many -/
def numIn (base most : Nat) (d : List UInt8) : Option Nat := if (decide (1 ≤ d.length ∧ d.length ≤ most) && allDig base d) = true then some (point (val base 0 d)) else none
/-- what stands behind &# -/
def numOf : List UInt8 → Option Nat
  | [] => none
  | b :: d => if b = 120 ∨ b = 88 then numIn 16 6 d else numIn 10 7 (b :: d)
/-- what stands between & and the semicolon -/
def body (l : List UInt8) : Option Nat :=
  if l = [97, 109, 112] then some 38 else if l = [108, 116] then some 60 else if l = [103, 116] then some 62 else if l = [113, 117, 111, 116] then some 34
  else if l = [110, 98, 115, 112] then some 160 else if l = [99, 111, 112, 121] then some 169
  else match l with
    | [] => none
    | b :: d => if b = 35 then numOf d else none
/-- the bytes up to the first semicolon -/
def upTo (l : List UInt8) : List UInt8 := l.takeWhile fun b => b != 59
/-- what stands behind an &: the code point, and the reference's length -/
def refTail (r : List UInt8) : Option (Nat × Nat) := if 59 ∈ r then (body (upTo r)).map fun n => (n, (upTo r).length + 2) else none
/-- what bytes begin with -/
def refAt : List UInt8 → Option (Nat × Nat)
  | [] => none
  | b :: r => if b = 38 then refTail r else none

theorem numOf_nil : numOf [] = none := rfl
theorem numOf_cons (b : UInt8) (d : List UInt8) : numOf (b :: d) = if b = 120 ∨ b = 88 then numIn 16 6 d else numIn 10 7 (b :: d) := rfl
theorem numIn_some {base most : Nat} {d : List UInt8} {n : Nat} (h : numIn base most d = some n) : 1 ≤ d.length ∧ d.length ≤ most ∧ allDig base d = true ∧ n = point (val base 0 d) := by
  unfold numIn at h
  split at h
  · rename_i hc
    simp only [Bool.and_eq_true, decide_eq_true_eq] at hc
    injection h with h
    exact ⟨hc.1.1, hc.1.2, hc.2, h.symm⟩
  · cases h
theorem numOf_short {d : List UInt8} {n : Nat} (h : numOf d = some n) : 1 ≤ d.length ∧ d.length ≤ 7 := by
  cases d with
  | nil => cases h
  | cons b d =>
    rw [numOf_cons] at h
    split at h
    · have := numIn_some h
      rw [List.length_cons]
      omega
    · have := numIn_some h
      omega
theorem body_short {l : List UInt8} {n : Nat} (h : body l = some n) : 2 ≤ l.length ∧ l.length ≤ 8 := by
  unfold body at h
  split at h
  · rename_i e; subst e; decide
  split at h
  · rename_i e; subst e; decide
  split at h
  · rename_i e; subst e; decide
  split at h
  · rename_i e; subst e; decide
  split at h
  · rename_i e; subst e; decide
  split at h
  · rename_i e; subst e; decide
  cases l with
  | nil => cases h
  | cons b d =>
    simp only at h
    split at h
    · have := numOf_short h
      rw [List.length_cons]
      omega
    · cases h
theorem isL_point (n : Nat) : isL (point n) = true := by
  unfold point
  split
  · decide
  · rename_i h
    simp at h
    exact h.2
theorem numOf_isL {d : List UInt8} {n : Nat} (h : numOf d = some n) : isL n = true := by
  cases d with
  | nil => cases h
  | cons b d =>
    rw [numOf_cons] at h
    split at h
    · obtain ⟨_, _, _, rfl⟩ := numIn_some h; exact isL_point _
    · obtain ⟨_, _, _, rfl⟩ := numIn_some h; exact isL_point _
theorem body_isL {l : List UInt8} {n : Nat} (h : body l = some n) : isL n = true := by
  unfold body at h
  split at h
  · injection h with h; subst h; decide
  split at h
  · injection h with h; subst h; decide
  split at h
  · injection h with h; subst h; decide
  split at h
  · injection h with h; subst h; decide
  split at h
  · injection h with h; subst h; decide
  split at h
  · injection h with h; subst h; decide
  cases l with
  | nil => cases h
  | cons b d =>
    simp only at h
    split at h
    · exact numOf_isL h
    · cases h

theorem upTo_append {p r : List UInt8} (h : 59 ∉ p) : upTo (p ++ 59 :: r) = p := by
  unfold upTo
  induction p with
  | nil => rfl
  | cons b p ih =>
    have hb : b ≠ 59 := fun e => h (by rw [e]; exact List.mem_cons_self ..)
    rw [List.cons_append, List.takeWhile_cons, if_pos (by simpa using hb), ih fun h' => h (List.mem_cons_of_mem _ h')]
theorem upTo_split {r : List UInt8} (h : 59 ∈ r) : ∃ t, r = upTo r ++ 59 :: t ∧ 59 ∉ upTo r := by
  unfold upTo
  induction r with
  | nil => cases h
  | cons b r ih =>
    by_cases hb : b = 59
    · subst hb
      exact ⟨r, by simp, by simp⟩
    · have h' : 59 ∈ r := by
        rcases List.mem_cons.1 h with e | h
        · exact absurd e.symm hb
        · exact h
      obtain ⟨t, e, hn⟩ := ih h'
      rw [List.takeWhile_cons, if_pos (by simpa using hb)]
      refine ⟨t, by rw [List.cons_append, ← e], fun hm => ?_⟩
      rcases List.mem_cons.1 hm with e | hm
      · exact hb e.symm
      · exact hn hm
theorem refTail_of {p t : List UInt8} (h : 59 ∉ p) : refTail (p ++ 59 :: t) = (body p).map fun n => (n, p.length + 2) := by
  unfold refTail
  rw [if_pos (by simp), upTo_append h]
theorem refTail_none {r : List UInt8} (h : 59 ∉ r) : refTail r = none := by unfold refTail; rw [if_neg h]
theorem refAt_amp (r : List UInt8) : refAt (38 :: r) = refTail r := by simp [refAt]
theorem refAt_other {b : UInt8} (r : List UInt8) (h : b ≠ 38) : refAt (b :: r) = none := by simp [refAt, h]
/-- a reference: its code point, its length, what it is made of -/
theorem refAt_some {l : List UInt8} {n k : Nat} (h : refAt l = some (n, k)) : ∃ p t, l = 38 :: (p ++ 59 :: t) ∧ 59 ∉ p ∧ body p = some n ∧ k = p.length + 2 ∧ 4 ≤ k ∧ k ≤ 10 ∧ k ≤ l.length ∧ isL n = true := by
  cases l with
  | nil => cases h
  | cons b r =>
    by_cases hb : b = 38
    · subst hb
      rw [refAt_amp] at h
      unfold refTail at h
      split at h
      · rename_i hm
        obtain ⟨t, e, hn⟩ := upTo_split hm
        cases hbd : body (upTo r) with
        | none => rw [hbd] at h; cases h
        | some m =>
          rw [hbd] at h
          simp at h
          obtain ⟨rfl, rfl⟩ := h
          have h1 := body_short hbd
          have h2 := body_isL hbd
          refine ⟨upTo r, t, by rw [← e], hn, hbd, rfl, by omega, by omega, ?_, h2⟩
          have h3 := congrArg List.length e
          rw [List.length_append, List.length_cons] at h3
          rw [List.length_cons]
          omega
      · cases h
    · rw [refAt_other _ hb] at h; cases h

theorem refAt_bounds {l : List UInt8} {n k : Nat} (h : refAt l = some (n, k)) : 4 ≤ k ∧ k ≤ l.length ∧ isL n = true := by
  obtain ⟨_, _, _, _, _, _, h4, _, hk, hL⟩ := refAt_some h
  exact ⟨h4, hk, hL⟩

/-! ### P2.2: a whole text -/

/-- by at most so many steps -/
def unescF : Nat → List UInt8 → List UInt8
  | 0, _ => []
  | _ + 1, [] => []
  | f + 1, b :: r => match refAt (b :: r) with
    | some (n, k) => enc n ++ unescF f ((b :: r).drop k)
    | none => b :: unescF f r
def unesc (l : List UInt8) : List UInt8 := unescF l.length l

theorem unescF_more : ∀ (f : Nat) (l : List UInt8), l.length ≤ f → unescF f l = unescF l.length l
  | 0, l, h => by
    have : l = [] := List.length_eq_zero_iff.1 (by omega)
    subst this; rfl
  | f + 1, [], _ => rfl
  | f + 1, b :: r, h => by
    rw [List.length_cons] at h ⊢
    unfold unescF
    split
    · rename_i n k hr
      obtain ⟨_, _, _, _, _, _, h4, _, hk, _⟩ := refAt_some hr
      rw [List.length_cons] at hk
      have hd : ((b :: r).drop k).length = r.length + 1 - k := by simp
      rw [unescF_more f _ (by omega), unescF_more r.length _ (by omega)]
    · rw [unescF_more f r (by omega)]
theorem unesc_nil : unesc [] = [] := rfl
theorem unesc_some {l : List UInt8} {n k : Nat} (h : refAt l = some (n, k)) : unesc l = enc n ++ unesc (l.drop k) := by
  cases l with
  | nil => cases h
  | cons b r =>
    obtain ⟨_, _, _, _, _, _, h4, _, hk, _⟩ := refAt_some h
    have hd : ((b :: r).drop k).length = r.length + 1 - k := by simp
    rw [List.length_cons] at hk
    show unescF (r.length + 1) (b :: r) = _
    unfold unescF
    rw [h]
    simp only
    rw [unescF_more r.length _ (by omega)]
    rfl
theorem unesc_none {b : UInt8} {r : List UInt8} (h : refAt (b :: r) = none) : unesc (b :: r) = b :: unesc r := by
  show unescF (r.length + 1) (b :: r) = _
  unfold unescF
  rw [h]
  rfl
theorem unesc_plain {b : UInt8} (r : List UInt8) (h : b ≠ 38) : unesc (b :: r) = b :: unesc r := unesc_none (refAt_other r h)
theorem unesc_pre {p : List UInt8} (s : List UInt8) (h : 38 ∉ p) : unesc (p ++ s) = p ++ unesc s := by
  induction p with
  | nil => rfl
  | cons b p ih =>
    rw [List.cons_append, unesc_plain _ (fun e => h (by rw [e]; exact List.mem_cons_self ..)), ih fun h' => h (List.mem_cons_of_mem _ h'), List.cons_append]
theorem unesc_same {p : List UInt8} (h : 38 ∉ p) : unesc p = p := by
  have := unesc_pre [] h
  simpa [unesc_nil] using this
/-- one reference, whatever stands behind -/
theorem unesc_ref {p : List UInt8} {n : Nat} (t : List UInt8) (h : 59 ∉ p) (hb : body p = some n) : unesc (38 :: (p ++ 59 :: t)) = enc n ++ unesc t := by
  have hr : refAt (38 :: (p ++ 59 :: t)) = some (n, p.length + 2) := by rw [refAt_amp, refTail_of h, hb]; rfl
  rw [unesc_some hr]
  have : (38 :: (p ++ 59 :: t)).drop (p.length + 2) = t := by
    rw [List.drop_succ_cons, ← List.drop_drop (i := 1), List.drop_left' rfl]
    rfl
  rw [this]
/-- WHAT IS ESCAPED COMES BACK -/
theorem unesc_esc1 (q : Bool) (b : UInt8) (t : List UInt8) : unesc (esc1 q b ++ t) = b :: unesc t := by
  rcases esc1_cases q b with ⟨rfl, e⟩ | ⟨rfl, e⟩ | ⟨rfl, e⟩ | ⟨rfl, _, e⟩ | ⟨h1, _, _, _, e⟩
  · rw [e]; exact unesc_ref (p := [97, 109, 112]) t (by decide) rfl
  · rw [e]; exact unesc_ref (p := [108, 116]) t (by decide) rfl
  · rw [e]; exact unesc_ref (p := [103, 116]) t (by decide) rfl
  · rw [e]; exact unesc_ref (p := [113, 117, 111, 116]) t (by decide) rfl
  · rw [e]; exact unesc_plain t h1
theorem unesc_esc (q : Bool) (l t : List UInt8) : unesc (esc q l ++ t) = l ++ unesc t := by
  induction l with
  | nil => rfl
  | cons b l ih => rw [esc_cons, List.append_assoc, unesc_esc1, ih, List.cons_append]
theorem unesc_esc_nil (q : Bool) (l : List UInt8) : unesc (esc q l) = l := by
  have := unesc_esc q l []
  simpa [unesc_nil] using this
theorem unesc_amp (t : List UInt8) : unesc ([38, 97, 109, 112, 59] ++ t) = 38 :: unesc t := unesc_ref (p := [97, 109, 112]) t (by decide) rfl
/-- it is never longer -/
theorem unesc_length : ∀ (f : Nat) (l : List UInt8), l.length ≤ f → (unesc l).length ≤ l.length
  | 0, l, h => by
    have : l = [] := List.length_eq_zero_iff.1 (by omega)
    subst this; exact Nat.le_refl _
  | f + 1, [], _ => Nat.le_refl _
  | f + 1, b :: r, h => by
    rw [List.length_cons] at h ⊢
    cases hr : refAt (b :: r) with
    | none => rw [unesc_none hr, List.length_cons]; have := unesc_length f r (by omega); omega
    | some x =>
      obtain ⟨n, k⟩ := x
      obtain ⟨_, _, _, _, _, _, h4, _, hk, _⟩ := refAt_some hr
      rw [List.length_cons] at hk
      have hd : ((b :: r).drop k).length = r.length + 1 - k := by simp
      have h1 := unesc_length f ((b :: r).drop k) (by omega)
      have h2 := (enc_length n).2
      rw [unesc_some hr, List.length_append]
      omega
theorem unesc_le (l : List UInt8) : (unesc l).length ≤ l.length := unesc_length _ l (Nat.le_refl _)

end U
end Go.Proofs.YtmfkefcdddoooaaGreatDoor

namespace Go.Proofs.YtmfkefcdddoooaaGreatDoor
namespace U

def isSp (b : UInt8) : Bool := b == 32 || b == 9 || b == 10 || b == 12
def isAl (b : UInt8) : Bool := (decide (97 ≤ b.toNat) && decide (b.toNat ≤ 122)) || (decide (65 ≤ b.toNat) && decide (b.toNat ≤ 90))
def low1 (b : UInt8) : UInt8 := if 65 ≤ b.toNat ∧ b.toNat ≤ 90 then UInt8.ofNat (b.toNat + 32) else b
def low (l : List UInt8) : List UInt8 := l.map low1
theorem low_nil : low [] = [] := rfl
theorem low_append (a b : List UInt8) : low (a ++ b) = low a ++ low b := by simp [low]
theorem low_length (l : List UInt8) : (low l).length = l.length := by simp [low]

/-- an attribute: its name, its value -/
abbrev Att := List UInt8 × List UInt8
/-- a token: kind (1 start, 2 end, 3 chars, 4 comment), name, attributes, whether it closes itself, text -/
structure Tok where
  kind : Nat
  name : List UInt8
  attrs : List Att
  self : Bool
  text : List UInt8

/-! ### the machine that reads a tag -/
structure St where
  state : Nat
  tname : List UInt8
  name : List UInt8
  value : List UInt8
  quote : UInt8
  slash : Bool
  all : List Att
inductive Res where
  | go (s : St)
  | again (s : St)
  | fin (s : St)

def endsName (b : UInt8) : Bool := isSp b || b == 47 || b == 62
/-- ahead of the switch: a name, a value or a name without a value ends -/
def pre0 (st : St) : St := if st.state = 0 then { st with state := 1, slash := false } else st
def pre2 (st : St) (b : UInt8) : St := if st.state = 2 ∧ (endsName b || b == 61) = true then { st with state := 3 } else st
def pre6 (st : St) (b : UInt8) : St := if st.state = 6 ∧ (isSp b || b == 62) = true then { st with all := st.all ++ [(low st.name, unesc st.value)], state := 1, slash := false } else st
def pre3 (st : St) (b : UInt8) : St := if st.state = 3 ∧ (!isSp b && b != 61) = true then { st with all := st.all ++ [(low st.name, [])], state := 1, slash := false } else st
def post (st : St) (b : UInt8) : Res :=
  if st.state = 2 then .go { st with name := st.name ++ [b] }
  else if st.state = 3 then (if b = 61 then .go { st with state := 4 } else .go st)
  else if st.state = 4 then (if isSp b = true then .go st else if b = 34 ∨ b = 39 then .go { st with state := 5, quote := b, value := [] } else .again { st with state := 6, value := [] })
  else if st.state = 5 then (if b = st.quote then .go { st with all := st.all ++ [(low st.name, unesc st.value)], state := 1, slash := false } else .go { st with value := st.value ++ [b] })
  else if st.state = 6 then .go { st with value := st.value ++ [b] }
  else if b = 62 then .fin st
  else if b = 47 then .go { st with slash := true }
  else if isSp b = true then .go { st with slash := false }
  else .go { st with state := 2, name := [b] }
def step (st : St) (b : UInt8) : Res :=
  if st.state = 0 ∧ endsName b = false then .go { st with tname := st.tname ++ [b] } else post (pre3 (pre6 (pre2 (pre0 st) b) b) b) b
def runM : St → List UInt8 → Option (St × List UInt8)
  | _, [] => none
  | st, b :: r => match step st b with
    | .go st' => runM st' r
    | .fin st' => some (st', r)
    | .again st' => match step st' b with
      | .go st'' => runM st'' r
      | .fin st'' => some (st'', r)
      | .again _ => none
def st0 : St := ⟨0, [], [], [], 0, false, []⟩

theorem runM_nil (st : St) : runM st [] = none := rfl
theorem runM_go {st st' : St} {b : UInt8} (r : List UInt8) (h : step st b = .go st') : runM st (b :: r) = runM st' r := by rw [runM, h]
theorem runM_fin {st st' : St} {b : UInt8} (r : List UInt8) (h : step st b = .fin st') : runM st (b :: r) = some (st', r) := by rw [runM, h]
theorem step_again {st st' : St} {b : UInt8} (h : step st b = .again st') : st'.state = 6 := by
  unfold step at h
  split at h
  · cases h
  · generalize pre3 (pre6 (pre2 (pre0 st) b) b) b = t at h
    unfold post at h
    split at h
    · cases h
    split at h
    · split at h <;> cases h
    split at h
    · split at h
      · cases h
      split at h
      · cases h
      · injection h with h; rw [← h]
    split at h
    · split at h <;> cases h
    split at h
    · cases h
    split at h
    · cases h
    split at h
    · cases h
    split at h
    · cases h
    · cases h
theorem runM_again {st st' : St} {b : UInt8} (r : List UInt8) (h : step st b = .again st') : runM st (b :: r) = runM st' (b :: r) := by
  have h6 := step_again h
  rw [runM, h]
  simp only
  rw [runM]
  cases h2 : step st' b with
  | go s => rfl
  | fin s => rfl
  | again s =>
    exfalso
    have h4 := h2
    unfold step at h2
    rw [if_neg (fun hh => by rw [h6] at hh; exact absurd hh.1 (by decide))] at h2
    have e0 : pre0 st' = st' := by unfold pre0; rw [if_neg (by rw [h6]; decide)]
    have e2 : pre2 st' b = st' := by unfold pre2; rw [if_neg (fun hh => by rw [h6] at hh; exact absurd hh.1 (by decide))]
    rw [e0, e2] at h2
    by_cases hq : (isSp b || b == 62) = true
    · have e6 : (pre6 st' b).state = 1 := by unfold pre6; rw [if_pos ⟨h6, hq⟩]
      have e3 : pre3 (pre6 st' b) b = pre6 st' b := by unfold pre3; rw [if_neg (fun hh => by rw [e6] at hh; exact absurd hh.1 (by decide))]
      rw [e3] at h2
      unfold post at h2
      rw [if_neg (by rw [e6]; decide), if_neg (by rw [e6]; decide), if_neg (by rw [e6]; decide), if_neg (by rw [e6]; decide), if_neg (by rw [e6]; decide)] at h2
      split at h2
      · cases h2
      split at h2
      · cases h2
      split at h2
      · cases h2
      · cases h2
    · have e6 : pre6 st' b = st' := by unfold pre6; rw [if_neg (fun hh => hq hh.2)]
      have e3 : pre3 st' b = st' := by unfold pre3; rw [if_neg (fun hh => by rw [h6] at hh; exact absurd hh.1 (by decide))]
      rw [e6, e3] at h2
      unfold post at h2
      rw [if_neg (by rw [h6]; decide), if_neg (by rw [h6]; decide), if_neg (by rw [h6]; decide), if_neg (by rw [h6]; decide), if_pos h6] at h2
      cases h2

/-- what is left is shorter -/
theorem runM_shorter : ∀ (l : List UInt8) (st : St) {st' : St} {r : List UInt8}, runM st l = some (st', r) → r.length < l.length
  | [], st, st', r, h => by cases h
  | b :: l, st, st', r, h => by
    rw [List.length_cons]
    rw [runM] at h
    split at h
    · exact Nat.lt_succ_of_lt (runM_shorter l _ h)
    · injection h with h; injection h with _ h; subst h; omega
    · split at h
      · exact Nat.lt_succ_of_lt (runM_shorter l _ h)
      · injection h with h; injection h with _ h; subst h; omega
      · cases h

/-- of several attributes with one name the first one -/
def firsts : List Att → List Att → List Att
  | acc, [] => acc
  | acc, a :: l => firsts (if acc.all (fun c => c.1 != a.1) = true then acc ++ [a] else acc) l

/-! ### the tokens -/
/-- the first place of a text in bytes -/
def placeOf (find : List UInt8) : List UInt8 → Option Nat
  | [] => if find = [] then some 0 else none
  | b :: r => if (b :: r).take find.length = find then some 0 else (placeOf find r).map (· + 1)
def chars (txt : List UInt8) : List Tok := if txt = [] then [] else [⟨3, [], [], false, unesc txt⟩]
/-- a comment, and what is left -/
def remark (find l : List UInt8) : Tok × List UInt8 := match placeOf find l with
  | none => (⟨4, [], [], false, l⟩, [])
  | some k => (⟨4, [], [], false, l.take k⟩, l.drop (k + find.length))
def rawName (n : List UInt8) : Bool := n == [115, 99, 114, 105, 112, 116] || n == [115, 116, 121, 108, 101] || n == [116, 101, 120, 116, 97, 114, 101, 97] || n == [116, 105, 116, 108, 101]
/-- a raw text's end lies here -/
def rawEnd (n : List UInt8) (l : List UInt8) : Bool := match l.drop (2 + n.length) with
  | [] => false
  | c :: _ => l.take 2 == [60, 47] && low ((l.drop 2).take n.length) == n && (isSp c || c == 47 || c == 62)
/-- a raw text, and what is left -/
def rawText (n : List UInt8) : List UInt8 → List UInt8 × List UInt8
  | [] => ([], [])
  | b :: r => if rawEnd n (b :: r) = true then ([], b :: r) else (b :: (rawText n r).1, (rawText n r).2)
def rawToks (n raw : List UInt8) : List Tok :=
  if raw = [] then [] else [⟨3, [], [], false, if n.head? = some 116 then unesc raw else raw⟩]
/-- what stands at a place -/
inductive Item where
  | text                                  -- a byte of a text
  | mark (t : Tok) (rest : List UInt8)    -- a comment
  | stop                                  -- a tag that does not end
  | close (n : List UInt8) (rest : List UInt8)
  | start (n : List UInt8) (as : List Att) (self : Bool) (rest : List UInt8)
def startI (l : List UInt8) : Item := match runM st0 l with
  | none => .stop
  | some (s, t) => .start (low s.tname) (firsts [] s.all) s.slash t
def closeI (l : List UInt8) : Item := match runM st0 l with
  | none => .stop
  | some (s, t) => .close (low s.tname) t
def markI (find l : List UInt8) : Item := .mark (remark find l).1 (remark find l).2
def slashI (r : List UInt8) : Item := match r with
  | [] => .text
  | d :: r' => if isAl d = true then closeI (d :: r') else markI [62] (d :: r')
def bangI (r : List UInt8) : Item := if r.take 2 = [45, 45] then markI [45, 45, 62] (r.drop 2) else markI [62] r
def item : List UInt8 → Item
  | a :: c :: r => if a ≠ 60 then .text else if isAl c = true then startI (c :: r) else if c = 33 then bangI r else if c = 63 then markI [62] (c :: r) else if c = 47 then slashI r else .text
  | _ => .text
def toksF : Nat → List UInt8 → List UInt8 → List Tok
  | 0, txt, _ => chars txt
  | _ + 1, txt, [] => chars txt
  | f + 1, txt, b :: r => match item (b :: r) with
    | .text => toksF f (txt ++ [b]) r
    | .mark t rest => chars txt ++ t :: toksF f [] rest
    | .stop => chars txt
    | .close n rest => chars txt ++ ⟨2, n, [], false, []⟩ :: toksF f [] rest
    | .start n as self rest => if rawName n = true then chars txt ++ ⟨1, n, as, self, []⟩ :: (rawToks n (rawText n rest).1 ++ toksF f [] (rawText n rest).2)
      else chars txt ++ ⟨1, n, as, self, []⟩ :: toksF f [] rest
def toks (l : List UInt8) : List Tok := toksF l.length [] l

end U
end Go.Proofs.YtmfkefcdddoooaaGreatDoor

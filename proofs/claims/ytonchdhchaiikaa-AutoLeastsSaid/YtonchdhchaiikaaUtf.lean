/- Plain mathematics on UTF-8: lists of bytes and code points; nothing of the program. -/
import Derived.Lib.RuneBytes
import Derived.Laws.RangeAny
import Derived.Laws.Runes
namespace Go.Proofs.Ytonchdhchaiikaa
namespace U

/-- a code point -/
def isL (n : Nat) : Bool := decide (n ≤ 1114111 ∧ (n < 55296 ∨ 57343 < n))
theorem isL_iff {n : Nat} : isL n = true ↔ n ≤ 1114111 ∧ (n < 55296 ∨ 57343 < n) := by unfold isL; exact decide_eq_true_iff

/-- its bytes -/
def enc (n : Nat) : List UInt8 :=
  if n < 128 then [UInt8.ofNat n]
  else if n < 2048 then [UInt8.ofNat (192 + n / 64), UInt8.ofNat (128 + n % 64)]
  else if n < 65536 then [UInt8.ofNat (224 + n / 4096), UInt8.ofNat (128 + n / 64 % 64), UInt8.ofNat (128 + n % 64)]
  else [UInt8.ofNat (240 + n / 262144), UInt8.ofNat (128 + n / 4096 % 64), UInt8.ofNat (128 + n / 64 % 64), UInt8.ofNat (128 + n % 64)]

/-- the byte at a place -/
def at' (l : List UInt8) (k : Nat) : Nat := (l.getD k 0).toNat
def cont (l : List UInt8) (k : Nat) : Bool := decide (k < l.length) && at' l k / 64 == 2

/-- one byte is passed over -/
def bad : Nat × Nat := (65533, 1)
/-- what four bytes begin with (c: is there a further byte, and does it carry six bits?) -/
def decN (x0 x1 x2 x3 : Nat) (c1 c2 c3 : Bool) : Nat × Nat :=
  if x0 < 128 then (x0, 1)
  else if (x0 / 32 == 6 && c1) = true then
    if x0 % 32 * 64 + x1 % 64 ≥ 128 then (x0 % 32 * 64 + x1 % 64, 2) else bad
  else if (x0 / 16 == 14 && c1 && c2) = true then
    if x0 % 16 * 4096 + x1 % 64 * 64 + x2 % 64 ≥ 2048 ∧ isL (x0 % 16 * 4096 + x1 % 64 * 64 + x2 % 64) = true then (x0 % 16 * 4096 + x1 % 64 * 64 + x2 % 64, 3) else bad
  else if (x0 / 8 == 30 && c1 && c2 && c3) = true then
    if x0 % 8 * 262144 + x1 % 64 * 4096 + x2 % 64 * 64 + x3 % 64 ≥ 65536 ∧ isL (x0 % 8 * 262144 + x1 % 64 * 4096 + x2 % 64 * 64 + x3 % 64) = true then (x0 % 8 * 262144 + x1 % 64 * 4096 + x2 % 64 * 64 + x3 % 64, 4) else bad
  else bad
/-- what bytes begin with: the code point, and how many bytes it has -/
def dec (l : List UInt8) : Nat × Nat := decN (at' l 0) (at' l 1) (at' l 2) (at' l 3) (cont l 1) (cont l 2) (cont l 3)

theorem at_lt (l : List UInt8) (k : Nat) : at' l k < 256 := (l.getD k 0).toNat_lt

/-- the model's own decode -/
theorem decode_eq (s : ByteArray) (i : Nat) (h : i < s.size) : Utf8.decode s i = dec (s.data.toList.drop i) := by
  have hat : ∀ k, i + k < s.size → (s.get! (i + k)).toNat = at' (s.data.toList.drop i) k := by
    intro k hk
    have hk2 : i + k < s.data.size := hk
    simp only [at', ByteArray.get!, List.getD_eq_getElem?_getD, List.getElem?_drop, Array.getElem?_toList]
    rw [getElem!_pos s.data (i + k) hk2, getElem?_pos s.data (i + k) hk2]
    rfl
  have hlen : (s.data.toList.drop i).length = s.size - i := by simp
  have h0 := hat 0 (by omega)
  have hc : ∀ k, (decide (i + k < s.size) && (s.get! (i + k)).toNat / 64 == 2) = cont (s.data.toList.drop i) k := by
    intro k
    unfold cont
    by_cases hk : i + k < s.size
    · rw [hat k hk, hlen, decide_eq_true hk, decide_eq_true (by omega)]
    · rw [hlen, decide_eq_false hk, decide_eq_false (by omega)]; rfl
  have hv : ∀ c : Nat, Utf8.valid (c : Int) = isL c := by
    intro c
    rw [validRune_eq]
    unfold validRune isL
    rw [decide_eq_decide]
    omega
  unfold Utf8.decode dec decN
  simp only [hc, h0]
  by_cases b1 : at' (s.data.toList.drop i) 0 < 128
  · simp [b1]
  rw [if_neg b1, if_neg b1]
  cases hb2 : (at' (s.data.toList.drop i) 0 / 32 == 6 && cont (s.data.toList.drop i) 1)
  · simp only [Bool.false_eq_true, if_false]
    cases hb3 : (at' (s.data.toList.drop i) 0 / 16 == 14 && cont (s.data.toList.drop i) 1 && cont (s.data.toList.drop i) 2)
    · simp only [Bool.false_eq_true, if_false]
      cases hb4 : (at' (s.data.toList.drop i) 0 / 8 == 30 && cont (s.data.toList.drop i) 1 && cont (s.data.toList.drop i) 2 && cont (s.data.toList.drop i) 3)
      · simp [Utf8.runeError, bad]
      · simp only [Bool.and_eq_true, cont, decide_eq_true_eq] at hb4
        obtain ⟨⟨⟨_, c1, _⟩, c2, _⟩, c3, _⟩ := hb4
        rw [hat 1 (by omega), hat 2 (by omega), hat 3 (by omega), hv]
        simp [Utf8.runeError, bad]
    · simp only [Bool.and_eq_true, cont, decide_eq_true_eq] at hb3
      obtain ⟨⟨_, c1, _⟩, c2, _⟩ := hb3
      rw [hat 1 (by omega), hat 2 (by omega), hv]
      simp [Utf8.runeError, bad]
  · simp only [Bool.and_eq_true, cont, decide_eq_true_eq] at hb2
    obtain ⟨_, c1, _⟩ := hb2
    rw [hat 1 (by omega)]
    simp [Utf8.runeError, bad]

theorem ofNat_eq {n : Nat} {b : UInt8} (h : n = b.toNat) : UInt8.ofNat n = b := by subst h; simp

theorem at_zero (b : UInt8) (r : List UInt8) : at' (b :: r) 0 = b.toNat := rfl
theorem at_succ (b : UInt8) (r : List UInt8) (k : Nat) : at' (b :: r) (k + 1) = at' r k := rfl
theorem cont_succ (b : UInt8) (r : List UInt8) (k : Nat) : cont (b :: r) (k + 1) = cont r k := by simp [cont, at_succ]
theorem cont_zero (b : UInt8) (r : List UInt8) : cont (b :: r) 0 = (b.toNat / 64 == 2) := by simp [cont, at_zero]
theorem cont_nil (k : Nat) : cont [] k = false := by simp [cont]

theorem enc_one {n : Nat} (h : n < 128) : enc n = [UInt8.ofNat n] := by simp [enc, h]
theorem enc_two {n : Nat} (h0 : 128 ≤ n) (h1 : n < 2048) : enc n = [UInt8.ofNat (192 + n / 64), UInt8.ofNat (128 + n % 64)] := by
  simp [enc, h1, Nat.not_lt.2 h0]
theorem enc_three {n : Nat} (h0 : 2048 ≤ n) (h1 : n < 65536) : enc n = [UInt8.ofNat (224 + n / 4096), UInt8.ofNat (128 + n / 64 % 64), UInt8.ofNat (128 + n % 64)] := by
  have : ¬ n < 128 := by omega
  simp [enc, h1, Nat.not_lt.2 h0, this]
theorem enc_four {n : Nat} (h0 : 65536 ≤ n) : enc n = [UInt8.ofNat (240 + n / 262144), UInt8.ofNat (128 + n / 4096 % 64), UInt8.ofNat (128 + n / 64 % 64), UInt8.ofNat (128 + n % 64)] := by
  have : ¬ n < 128 := by omega
  have : ¬ n < 2048 := by omega
  have : ¬ n < 65536 := by omega
  simp [enc, *]

theorem enc_length (n : Nat) : 1 ≤ (enc n).length ∧ (enc n).length ≤ 4 := by
  unfold enc; repeat' split
  all_goals simp


theorem decN_1 {x0 x1 x2 x3 : Nat} {c1 c2 c3 : Bool} (h : x0 < 128) : decN x0 x1 x2 x3 c1 c2 c3 = (x0, 1) := by unfold decN; rw [if_pos h]
theorem decN_2 {x0 x1 x2 x3 : Nat} {c1 c2 c3 : Bool} (h : x0 / 32 = 6) (h1 : c1 = true) : decN x0 x1 x2 x3 c1 c2 c3 = if x0 % 32 * 64 + x1 % 64 ≥ 128 then (x0 % 32 * 64 + x1 % 64, 2) else bad := by
  unfold decN; rw [if_neg (by omega), if_pos (by simp [h, h1])]
theorem decN_3 {x0 x1 x2 x3 : Nat} {c1 c2 c3 : Bool} (h : x0 / 16 = 14) (h1 : c1 = true) (h2 : c2 = true) : decN x0 x1 x2 x3 c1 c2 c3 = if x0 % 16 * 4096 + x1 % 64 * 64 + x2 % 64 ≥ 2048 ∧ isL (x0 % 16 * 4096 + x1 % 64 * 64 + x2 % 64) = true then (x0 % 16 * 4096 + x1 % 64 * 64 + x2 % 64, 3) else bad := by
  have g : (x0 / 32 == 6) = false := by simp; omega
  unfold decN; rw [if_neg (by omega), if_neg (by simp [g]), if_pos (by simp [h, h1, h2])]
theorem decN_4 {x0 x1 x2 x3 : Nat} {c1 c2 c3 : Bool} (h : x0 / 8 = 30) (h1 : c1 = true) (h2 : c2 = true) (h3 : c3 = true) : decN x0 x1 x2 x3 c1 c2 c3 = if x0 % 8 * 262144 + x1 % 64 * 4096 + x2 % 64 * 64 + x3 % 64 ≥ 65536 ∧ isL (x0 % 8 * 262144 + x1 % 64 * 4096 + x2 % 64 * 64 + x3 % 64) = true then (x0 % 8 * 262144 + x1 % 64 * 4096 + x2 % 64 * 64 + x3 % 64, 4) else bad := by
  have g : (x0 / 32 == 6) = false := by simp; omega
  have g' : (x0 / 16 == 14) = false := by simp; omega
  unfold decN; rw [if_neg (by omega), if_neg (by simp [g]), if_neg (by simp [g']), if_pos (by simp [h, h1, h2, h3])]
theorem decN_no {x0 x1 x2 x3 : Nat} {c1 c2 c3 : Bool} (h0 : ¬ x0 < 128) (h2 : (x0 / 32 == 6 && c1) = false) (h3 : (x0 / 16 == 14 && c1 && c2) = false) (h4 : (x0 / 8 == 30 && c1 && c2 && c3) = false) : decN x0 x1 x2 x3 c1 c2 c3 = bad := by
  unfold decN; rw [if_neg h0, if_neg (by simp [h2]), if_neg (by simp [h3]), if_neg (by simp [h4])]

/-- what encodes a code point is read as it -/
theorem dec_enc (n : Nat) (h : isL n = true) (r : List UInt8) : dec (enc n ++ r) = (n, (enc n).length) := by
  have hl := isL_iff.1 h
  by_cases h1 : n < 128
  · rw [enc_one h1]
    have e : (UInt8.ofNat n).toNat = n := by simp; omega
    exact (decN_1 (by rw [List.cons_append, at_zero, e]; exact h1)).trans (by rw [List.cons_append, at_zero, e]; rfl)
  by_cases h2 : n < 2048
  · rw [enc_two (by omega) h2]
    have e0 : (UInt8.ofNat (192 + n / 64)).toNat = 192 + n / 64 := by simp; omega
    have e1 : (UInt8.ofNat (128 + n % 64)).toNat = 128 + n % 64 := by simp; omega
    have f3 : (192 + n / 64) % 32 * 64 + (128 + n % 64) % 64 = n := by omega
    refine (decN_2 ?_ ?_).trans ?_
    · rw [List.cons_append, at_zero, e0]; omega
    · rw [List.cons_append, List.cons_append, cont_succ, cont_zero, e1]; simp; omega
    · rw [List.cons_append, List.cons_append, at_succ, at_zero, at_zero, e0, e1, f3, if_pos (by omega)]
      rfl
  by_cases h3 : n < 65536
  · rw [enc_three (by omega) h3]
    have e0 : (UInt8.ofNat (224 + n / 4096)).toNat = 224 + n / 4096 := by simp; omega
    have e1 : (UInt8.ofNat (128 + n / 64 % 64)).toNat = 128 + n / 64 % 64 := by simp; omega
    have e2 : (UInt8.ofNat (128 + n % 64)).toNat = 128 + n % 64 := by simp; omega
    have f3 : (224 + n / 4096) % 16 * 4096 + (128 + n / 64 % 64) % 64 * 64 + (128 + n % 64) % 64 = n := by omega
    refine (decN_3 ?_ ?_ ?_).trans ?_
    · rw [List.cons_append, at_zero, e0]; omega
    · rw [List.cons_append, List.cons_append, cont_succ, cont_zero, e1]; simp; omega
    · rw [List.cons_append, List.cons_append, List.cons_append, cont_succ, cont_succ, cont_zero, e2]; simp; omega
    · rw [List.cons_append, List.cons_append, List.cons_append, at_succ, at_succ, at_succ, at_zero, at_zero, at_zero, e0, e1, e2, f3, if_pos ⟨by omega, h⟩]
      rfl
  · rw [enc_four (by omega)]
    have e0 : (UInt8.ofNat (240 + n / 262144)).toNat = 240 + n / 262144 := by simp; omega
    have e1 : (UInt8.ofNat (128 + n / 4096 % 64)).toNat = 128 + n / 4096 % 64 := by simp; omega
    have e2 : (UInt8.ofNat (128 + n / 64 % 64)).toNat = 128 + n / 64 % 64 := by simp; omega
    have e3 : (UInt8.ofNat (128 + n % 64)).toNat = 128 + n % 64 := by simp; omega
    have f3 : (240 + n / 262144) % 8 * 262144 + (128 + n / 4096 % 64) % 64 * 4096 + (128 + n / 64 % 64) % 64 * 64 + (128 + n % 64) % 64 = n := by omega
    refine (decN_4 ?_ ?_ ?_ ?_).trans ?_
    · rw [List.cons_append, at_zero, e0]; omega
    · rw [List.cons_append, List.cons_append, cont_succ, cont_zero, e1]; simp; omega
    · rw [List.cons_append, List.cons_append, List.cons_append, cont_succ, cont_succ, cont_zero, e2]; simp; omega
    · rw [List.cons_append, List.cons_append, List.cons_append, List.cons_append, cont_succ, cont_succ, cont_succ, cont_zero, e3]; simp; omega
    · rw [List.cons_append, List.cons_append, List.cons_append, List.cons_append, at_succ, at_succ, at_succ, at_succ, at_succ, at_succ, at_zero, at_zero, at_zero, at_zero, e0, e1, e2, e3, f3, if_pos ⟨by omega, h⟩]
      rfl

/-- what is read is a code point's encoding, or one byte is passed over -/
theorem dec_spec (l : List UInt8) (hl : l ≠ []) : dec l = bad ∨ ∃ n r, isL n = true ∧ l = enc n ++ r ∧ dec l = (n, (enc n).length) := by
  have key : ∀ n r, isL n = true → l = enc n ++ r → dec l = bad ∨ ∃ n r, isL n = true ∧ l = enc n ++ r ∧ dec l = (n, (enc n).length) := fun n r h e =>
    Or.inr ⟨n, r, h, e, by rw [e]; exact dec_enc n h r⟩
  obtain ⟨b0, l0, rfl⟩ := List.exists_cons_of_ne_nil hl
  have k0 := b0.toNat_lt
  by_cases h1 : b0.toNat < 128
  · exact key b0.toNat l0 (isL_iff.2 (by omega)) (by rw [enc_one h1]; simp)
  cases l0 with
  | nil =>
    left
    exact decN_no h1 (by simp [cont_succ, cont_nil]) (by simp [cont_succ, cont_nil]) (by simp [cont_succ, cont_nil])
  | cons b1 l1 =>
    have k1 := b1.toNat_lt
    by_cases h2 : b0.toNat / 32 = 6 ∧ b1.toNat / 64 = 2
    · obtain ⟨h2, h3⟩ := h2
      by_cases h4 : b0.toNat % 32 * 64 + b1.toNat % 64 ≥ 128
      · refine key (b0.toNat % 32 * 64 + b1.toNat % 64) l1 (isL_iff.2 (by omega)) ?_
        rw [enc_two h4 (by omega), ofNat_eq (b := b0) (by omega), ofNat_eq (b := b1) (by omega)]
        rfl
      · left
        exact (decN_2 h2 (by simp [cont_succ, cont_zero, h3])).trans (if_neg h4)
    have g2 : (b0.toNat / 32 == 6 && b1.toNat / 64 == 2) = false := by
      rw [Bool.eq_false_iff]; intro h; exact h2 (by simpa using h)
    cases l1 with
    | nil =>
      left
      exact decN_no h1 (by rw [cont_succ, cont_zero]; exact g2) (by simp [cont_succ, cont_nil]) (by simp [cont_succ, cont_nil])
    | cons b2 l2 =>
      have k2 := b2.toNat_lt
      by_cases h3 : b0.toNat / 16 = 14 ∧ b1.toNat / 64 = 2 ∧ b2.toNat / 64 = 2
      · obtain ⟨h3, h5, h6⟩ := h3
        by_cases h4 : b0.toNat % 16 * 4096 + b1.toNat % 64 * 64 + b2.toNat % 64 ≥ 2048 ∧ isL (b0.toNat % 16 * 4096 + b1.toNat % 64 * 64 + b2.toNat % 64) = true
        · refine key (b0.toNat % 16 * 4096 + b1.toNat % 64 * 64 + b2.toNat % 64) l2 h4.2 ?_
          rw [enc_three h4.1 (by omega), ofNat_eq (b := b0) (by omega), ofNat_eq (b := b1) (by omega), ofNat_eq (b := b2) (by omega)]
          rfl
        · left
          exact (decN_3 h3 (by simp [cont_succ, cont_zero, h5]) (by simp [cont_succ, cont_zero, h6])).trans (if_neg h4)
      have g3 : (b0.toNat / 16 == 14 && b1.toNat / 64 == 2 && b2.toNat / 64 == 2) = false := by
        rw [Bool.eq_false_iff]; intro h; exact h3 (by simpa [and_assoc] using h)
      cases l2 with
      | nil =>
        left
        exact decN_no h1 (by rw [cont_succ, cont_zero]; exact g2) (by rw [cont_succ, cont_zero, cont_succ, cont_succ, cont_zero]; exact g3) (by simp [cont_succ, cont_nil])
      | cons b3 l3 =>
        have k3 := b3.toNat_lt
        by_cases h7 : b0.toNat / 8 = 30 ∧ b1.toNat / 64 = 2 ∧ b2.toNat / 64 = 2 ∧ b3.toNat / 64 = 2
        · obtain ⟨h7, h8, h9, h10⟩ := h7
          by_cases h4 : b0.toNat % 8 * 262144 + b1.toNat % 64 * 4096 + b2.toNat % 64 * 64 + b3.toNat % 64 ≥ 65536 ∧ isL (b0.toNat % 8 * 262144 + b1.toNat % 64 * 4096 + b2.toNat % 64 * 64 + b3.toNat % 64) = true
          · refine key (b0.toNat % 8 * 262144 + b1.toNat % 64 * 4096 + b2.toNat % 64 * 64 + b3.toNat % 64) l3 h4.2 ?_
            rw [enc_four h4.1, ofNat_eq (b := b0) (by omega), ofNat_eq (b := b1) (by omega), ofNat_eq (b := b2) (by omega), ofNat_eq (b := b3) (by omega)]
            rfl
          · left
            exact (decN_4 h7 (by simp [cont_succ, cont_zero, h8]) (by simp [cont_succ, cont_zero, h9]) (by simp [cont_succ, cont_zero, h10])).trans (if_neg h4)
        have g7 : (b0.toNat / 8 == 30 && b1.toNat / 64 == 2 && b2.toNat / 64 == 2 && b3.toNat / 64 == 2) = false := by
          rw [Bool.eq_false_iff]; intro h; exact h7 (by simpa [and_assoc] using h)
        left
        exact decN_no h1 (by rw [cont_succ, cont_zero]; exact g2) (by rw [cont_succ, cont_zero, cont_succ, cont_succ, cont_zero]; exact g3) (by rw [cont_succ, cont_zero, cont_succ, cont_succ, cont_zero, cont_succ, cont_succ, cont_succ, cont_zero]; exact g7)

end U
end Go.Proofs.Ytonchdhchaiikaa

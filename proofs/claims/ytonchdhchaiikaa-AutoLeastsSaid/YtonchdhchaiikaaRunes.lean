/- Plain mathematics: the code points of a list of bytes, the clean form, counting; nothing of the program. -/
import Derived.Test.YtonchdhchaiikaaUtf
namespace Go.Proofs.Ytonchdhchaiikaa
namespace U

theorem bad_len : bad.2 = 1 := rfl

/-- the width: one to four bytes, and no more than there are -/
theorem dec_width (l : List UInt8) (hl : l ≠ []) : 1 ≤ (dec l).2 ∧ (dec l).2 ≤ 4 ∧ (dec l).2 ≤ l.length := by
  have h1 : 1 ≤ l.length := by cases l with | nil => exact absurd rfl hl | cons a r => simp
  rcases dec_spec l hl with h | ⟨n, r, _, e, h⟩
  · rw [h]; exact ⟨Nat.le_refl _, by decide, h1⟩
  · rw [h]
    have h2 := enc_length n
    have h3 : l.length = (enc n).length + r.length := by rw [e]; simp
    simp only
    omega

theorem dec_isL (l : List UInt8) (hl : l ≠ []) : isL (dec l).1 = true := by
  rcases dec_spec l hl with h | ⟨n, r, hn, e, h⟩
  · rw [h]; decide
  · rw [h]; exact hn

/-- the code points of bytes, by at most so many steps -/
def runesF : Nat → List UInt8 → List Nat
  | 0, _ => []
  | f + 1, l => if l = [] then [] else (dec l).1 :: runesF f (l.drop (dec l).2)
/-- the code points of bytes -/
def runes (l : List UInt8) : List Nat := runesF l.length l

theorem runesF_nil (f : Nat) : runesF f [] = [] := by cases f <;> simp [runesF]
theorem runesF_more : ∀ (f : Nat) (l : List UInt8), l.length ≤ f → runesF f l = runesF l.length l
  | 0, l, h => by
    have : l = [] := List.length_eq_zero_iff.1 (by omega)
    subst this; rfl
  | f + 1, l, h => by
    by_cases hl : l = []
    · subst hl; simp [runesF]
    · have hw := dec_width l hl
      have hd : (l.drop (dec l).2).length = l.length - (dec l).2 := by simp
      obtain ⟨k, hk⟩ : ∃ k, l.length = k + 1 := ⟨l.length - 1, by omega⟩
      rw [hk]
      simp only [runesF, if_neg hl]
      rw [runesF_more f (l.drop (dec l).2) (by omega), runesF_more k (l.drop (dec l).2) (by omega)]
theorem runes_of_fuel {f : Nat} {l : List UInt8} (h : l.length ≤ f) : runesF f l = runes l := runesF_more f l h
theorem runes_nil : runes [] = [] := rfl
theorem runes_cons {l : List UInt8} (hl : l ≠ []) : runes l = (dec l).1 :: runes (l.drop (dec l).2) := by
  have hw := dec_width l hl
  have hd : (l.drop (dec l).2).length = l.length - (dec l).2 := by simp
  have hk : ∃ k, l.length = k + 1 := ⟨l.length - 1, by omega⟩
  obtain ⟨k, hk⟩ := hk
  unfold runes
  rw [hk]
  simp only [runesF, if_neg hl]
  rw [runesF_more k _ (by omega)]

/-- an induction along the code points -/
theorem rec_runes {P : List UInt8 → Prop} (h0 : P []) (h1 : ∀ l, l ≠ [] → P (l.drop (dec l).2) → P l) : ∀ l, P l := by
  have key : ∀ (n : Nat) (l : List UInt8), l.length ≤ n → P l := by
    intro n
    induction n with
    | zero => intro l h; have : l = [] := List.length_eq_zero_iff.1 (by omega); subst this; exact h0
    | succ n ih =>
      intro l h
      by_cases hl : l = []
      · subst hl; exact h0
      · have hw := dec_width l hl
        exact h1 l hl (ih _ (by rw [List.length_drop]; omega))
  exact fun l => key l.length l (Nat.le_refl _)

theorem runes_isL (l : List UInt8) : ∀ n ∈ runes l, isL n = true := by
  induction l using rec_runes with
  | h0 => intro n h; simp [runes_nil] at h
  | h1 l hl ih =>
    intro n h
    rw [runes_cons hl] at h
    rcases List.mem_cons.1 h with h | h
    · rw [h]; exact dec_isL l hl
    · exact ih n h

theorem runes_enc {n : Nat} (h : isL n = true) (r : List UInt8) : runes (enc n ++ r) = n :: runes r := by
  have hne : enc n ++ r ≠ [] := by
    have h1 := (enc_length n).1
    intro e
    have h2 := congrArg List.length e
    rw [List.length_append, List.length_nil] at h2
    omega
  rw [runes_cons hne, dec_enc n h r]
  simp

/-- the encoding of code points -/
def encs (l : List Nat) : List UInt8 := l.flatMap enc
theorem encs_nil : encs [] = [] := rfl
theorem encs_cons (n : Nat) (l : List Nat) : encs (n :: l) = enc n ++ encs l := by simp [encs]
theorem encs_append (a b : List Nat) : encs (a ++ b) = encs a ++ encs b := by simp [encs]
theorem encs_length_ge (l : List Nat) : l.length ≤ (encs l).length := by
  induction l with
  | nil => simp
  | cons n l ih => have := (enc_length n).1; rw [encs_cons, List.length_append, List.length_cons]; omega
theorem encs_length_le (l : List Nat) : (encs l).length ≤ 4 * l.length := by
  induction l with
  | nil => simp [encs]
  | cons n l ih => have := (enc_length n).2; rw [encs_cons, List.length_append, List.length_cons]; omega

theorem runes_encs (a : List Nat) (h : ∀ n ∈ a, isL n = true) (r : List UInt8) : runes (encs a ++ r) = a ++ runes r := by
  induction a with
  | nil => simp [encs_nil]
  | cons n a ih =>
    rw [encs_cons, List.append_assoc, runes_enc (h n (List.mem_cons_self ..)), ih (fun m hm => h m (List.mem_cons_of_mem _ hm))]
    rfl

theorem runes_encs' (a : List Nat) (h : ∀ n ∈ a, isL n = true) : runes (encs a) = a := by
  have := runes_encs a h []
  simpa [runes_nil] using this

/-- one encoding for one list of code points -/
theorem encs_inj {a b : List Nat} (ha : ∀ n ∈ a, isL n = true) (hb : ∀ n ∈ b, isL n = true) : encs a = encs b ↔ a = b :=
  ⟨fun h => by rw [← runes_encs' a ha, h, runes_encs' b hb], fun h => by rw [h]⟩

/-- how many: no more than bytes, and a fourth of the bytes at the least -/
theorem runes_length (l : List UInt8) : (runes l).length ≤ l.length ∧ l.length ≤ 4 * (runes l).length := by
  induction l using rec_runes with
  | h0 => simp [runes_nil]
  | h1 l hl ih =>
    have hw := dec_width l hl
    rw [runes_cons hl, List.length_cons]
    rw [List.length_drop] at ih
    omega

/-- two texts, one behind the other: what is read of the first, as long as it lies in the first -/
theorem dec_append (s t : List UInt8) (hs : s ≠ []) (h : (dec (s ++ t)).2 ≤ s.length) : dec s = dec (s ++ t) := by
  have hst : s ++ t ≠ [] := by simp [hs]
  rcases dec_spec (s ++ t) hst with e | ⟨n, r, hn, e, e2⟩
  · rcases dec_spec s hs with e' | ⟨m, q, hm, f, f2⟩
    · rw [e, e']
    · -- what the first alone begins with, both begin with
      have g := dec_enc m hm (q ++ t)
      rw [← List.append_assoc, ← f] at g
      rw [f2, g]
  · rw [e2] at h ⊢
    simp only at h
    have f : s = enc n ++ s.drop (enc n).length := by
      have h1 : (s ++ t).take (enc n).length = enc n := by rw [e]; simp
      rw [List.take_append_of_le_length h] at h1
      conv => lhs; rw [← List.take_append_drop (enc n).length s, h1]
    rw [f]
    exact dec_enc n hn _

/-- a byte that carries six bits begins nothing -/
theorem dec_six (b : UInt8) (r : List UInt8) (h : b.toNat / 64 = 2) : dec (b :: r) = bad :=
  decN_no (by rw [at_zero]; omega) (by rw [at_zero, Bool.and_eq_false_iff]; left; simp; omega) (by rw [at_zero, Bool.and_eq_false_iff, Bool.and_eq_false_iff]; left; left; simp; omega) (by rw [at_zero, Bool.and_eq_false_iff, Bool.and_eq_false_iff, Bool.and_eq_false_iff]; left; left; left; simp; omega)

theorem runes_six (c r : List UInt8) (h : ∀ b ∈ c, b.toNat / 64 = 2) : (runes (c ++ r)).length = c.length + (runes r).length := by
  induction c with
  | nil => simp
  | cons b c ih =>
    rw [List.cons_append, runes_cons (by simp), dec_six b _ (h b (List.mem_cons_self ..))]
    show ((65533 : Nat) :: runes (List.drop 1 (b :: (c ++ r)))).length = _
    rw [List.drop_one, List.tail_cons, List.length_cons, List.length_cons, ih (fun x hx => h x (List.mem_cons_of_mem _ hx))]
    omega

/-- behind its first byte an encoding carries six bits a byte -/
theorem enc_tail (n : Nat) : ∀ b ∈ (enc n).drop 1, b.toNat / 64 = 2 := by
  intro b hb
  by_cases h1 : n < 128
  · rw [enc_one h1] at hb; simp at hb
  by_cases h2 : n < 2048
  · rw [enc_two (by omega) h2] at hb; simp at hb; subst hb; simp; omega
  by_cases h3 : n < 65536
  · rw [enc_three (by omega) h3] at hb; simp at hb; rcases hb with rfl | rfl <;> (simp; omega)
  · rw [enc_four (by omega)] at hb; simp at hb; rcases hb with rfl | rfl | rfl <;> (simp; omega)

/-- an encoding that is cut off is passed over byte by byte -/
theorem runes_cut {n : Nat} (hn : isL n = true) {s t : List UInt8} (h : s ++ t = enc n) (ht : t ≠ []) : (runes s).length = s.length := by
  cases s with
  | nil => rfl
  | cons b s =>
    have hs6 : ∀ x ∈ s, x.toNat / 64 = 2 := fun x hx => enc_tail n x (by rw [← h]; simp; exact Or.inl hx |> fun h => by simpa using h)
    have hb : dec (b :: s) = bad := by
      rcases dec_spec (b :: s) (by simp) with e | ⟨m, q, hm, f, _⟩
      · exact e
      · exfalso
        have g := dec_enc m hm (q ++ t)
        rw [← List.append_assoc, ← f, h] at g
        have g2 := dec_enc n hn []
        rw [List.append_nil, g] at g2
        have h3 : (enc m).length = (enc n).length := congrArg Prod.snd g2
        have h4 : (enc n).length = (b :: s).length + t.length := by rw [← h, List.length_append]
        have h5 : (b :: s).length = (enc m).length + q.length := by rw [f, List.length_append]
        have h6 : 0 < t.length := List.length_pos_iff.2 ht
        omega
    rw [runes_cons (by simp), hb]
    show ((65533 : Nat) :: runes (List.drop 1 (b :: s))).length = _
    have := runes_six s [] hs6
    rw [List.append_nil] at this
    rw [List.drop_one, List.tail_cons, List.length_cons, List.length_cons, this, runes_nil]
    simp

/-- of two texts, one behind the other, there are no more than of both by themselves, and at most three fewer -/
theorem runes_append_length (s t : List UInt8) : (runes (s ++ t)).length ≤ (runes s).length + (runes t).length ∧ (runes s).length + (runes t).length ≤ (runes (s ++ t)).length + 3 := by
  induction s using rec_runes with
  | h0 => simp [runes_nil]
  | h1 s hs ih =>
    have hst : s ++ t ≠ [] := by simp [hs]
    by_cases h : (dec (s ++ t)).2 ≤ s.length
    · have e := dec_append s t hs h
      rw [runes_cons hst, runes_cons hs, ← e, List.drop_append_of_le_length (by rw [e]; exact h), List.length_cons, List.length_cons]
      omega
    · rcases dec_spec (s ++ t) hst with e | ⟨n, r, hn, e, e2⟩
      · rw [e] at h
        have : 0 < s.length := List.length_pos_iff.2 hs
        simp only [bad] at h
        omega
      · rw [e2] at h
        simp only at h
        -- the encoding begins in the first and ends in the second
        have f1 : enc n = s ++ t.take ((enc n).length - s.length) := by
          have h1 : (s ++ t).take (enc n).length = enc n := by rw [e]; simp
          rw [List.take_append, List.take_of_length_le (by omega)] at h1
          exact h1.symm
        have f2 : t = t.take ((enc n).length - s.length) ++ r := by
          have h1 : (s ++ t).drop (enc n).length = r := by rw [e]; simp
          rw [List.drop_append, List.drop_of_length_le (by omega), List.nil_append] at h1
          conv => lhs; rw [← List.take_append_drop ((enc n).length - s.length) t, h1]
        generalize t.take ((enc n).length - s.length) = c at f1 f2
        have hc0 : c ≠ [] := by
          rintro rfl
          rw [f1] at h
          simp at h
        have hs1 : 0 < s.length := List.length_pos_iff.2 hs
        have hc6 : ∀ x ∈ c, x.toNat / 64 = 2 := fun x hx => enc_tail n x (by
          rw [f1]
          obtain ⟨b, q, rfl⟩ := List.exists_cons_of_ne_nil hs
          simp
          exact Or.inr hx)
        have c1 := runes_cut hn f1.symm hc0
        have c2 := runes_six c r hc6
        have c3 := (enc_length n).2
        have c4 : (enc n).length = s.length + c.length := by rw [f1, List.length_append]
        have c5 : 0 < c.length := List.length_pos_iff.2 hc0
        rw [e, runes_enc hn, List.length_cons, c1, f2, c2]
        omega

end U
end Go.Proofs.Ytonchdhchaiikaa

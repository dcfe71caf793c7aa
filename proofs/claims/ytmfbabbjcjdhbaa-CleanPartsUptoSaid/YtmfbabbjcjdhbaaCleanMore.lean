/- Plain mathematics: clean part by part; clean once is clean for good; lines. -/
import Derived.Test.YtmfbabbjcjdhbaaCleanMath
namespace Go.Proofs.Ytmfbabbjcjdhbaa
namespace U

/-- a byte below 128 parts a text -/
theorem runes_append_low (s t : List UInt8) (x : UInt8) (hx : x.toNat < 128) : runes (s ++ x :: t) = runes s ++ x.toNat :: runes t := by
  induction s using rec_runes with
  | h0 => rw [List.nil_append, runes_nil, List.nil_append, runes_cons (by simp), dec_low x t hx]; rfl
  | h1 s hs ih =>
    have hst : s ++ x :: t ≠ [] := by simp [hs]
    by_cases h : (dec (s ++ x :: t)).2 ≤ s.length
    · have e := dec_append s (x :: t) hs h
      rw [runes_cons hst, runes_cons hs, ← e, List.drop_append_of_le_length (by rw [e]; exact h), ih]
      rfl
    · exfalso
      rcases dec_spec (s ++ x :: t) hst with e | ⟨n, r, hn, e, e2⟩
      · rw [e] at h
        have : 0 < s.length := List.length_pos_iff.2 hs
        simp only [bad] at h
        omega
      · rw [e2] at h
        simp only at h
        have f1 : enc n = s ++ (x :: t).take ((enc n).length - s.length) := by
          have h1 : (s ++ x :: t).take (enc n).length = enc n := by rw [e]; simp
          rw [List.take_append, List.take_of_length_le (by omega)] at h1
          exact h1.symm
        obtain ⟨k, hk⟩ : ∃ k, (enc n).length - s.length = k + 1 := ⟨(enc n).length - s.length - 1, by omega⟩
        rw [hk, List.take_succ_cons] at f1
        have h6 := enc_tail n x (by
          rw [f1]
          obtain ⟨b, q, rfl⟩ := List.exists_cons_of_ne_nil hs
          simp)
        omega

theorem cleanR_append_lf (a b : List Nat) (h : b.head? ≠ some 10) : cleanR (a ++ b) = cleanR a ++ cleanR b := by
  induction a with
  | nil => rfl
  | cons n a ih =>
    rw [List.cons_append, cleanR_cons, cleanR_cons, ih, List.append_assoc]
    cases a with
    | nil =>
      have : (b.head? == some 10) = false := by simpa using h
      rw [List.nil_append, this]
      rfl
    | cons m a => rfl

theorem clean1_not13 {n : Nat} (h : n ≠ 13) (f g : Bool) : clean1 n f = clean1 n g := by simp [clean1, h]

theorem cleanR_append_mid (a b : List Nat) (m : Nat) (hm : m ≠ 13) : cleanR (a ++ m :: b) = cleanR (a ++ [m]) ++ cleanR b := by
  induction a with
  | nil =>
    rw [List.nil_append, List.nil_append, cleanR_cons, cleanR_cons, clean1_not13 hm _ (([] : List Nat).head? == some 10)]
    simp [cleanR]
  | cons n a ih =>
    rw [List.cons_append, List.cons_append, cleanR_cons, cleanR_cons, ih, List.append_assoc]
    cases a <;> rfl

theorem clean_parts (s t : List UInt8) : clean (s ++ 120 :: t) = clean (s ++ [120]) ++ clean t := by
  unfold clean
  rw [runes_append_low s t 120 (by decide), runes_append_low s [] 120 (by decide), runes_nil]
  exact cleanR_append_mid _ _ _ (by decide)

/-- at most three bytes for one -/
theorem clean_length (l : List UInt8) : (clean l).length ≤ 3 * l.length := by
  induction l using rec_runes with
  | h0 => simp [clean_nil]
  | h1 l hl ih =>
    have hw := dec_width l hl
    have h1 : (clean1 (dec l).1 ((runes (l.drop (dec l).2)).head? == some 10)).length ≤ 3 * (dec l).2 := by
      have e3 : (enc 65533).length = 3 := by decide
      have e10 : (enc 10).length = 1 := by decide
      unfold clean1
      split
      · rw [e3]; omega
      · split
        · split
          · simp
          · rw [e10]; omega
        · rcases dec_spec l hl with e | ⟨n, r, hn, _, e⟩
          · rw [e]; exact Nat.le_of_eq e3
          · rw [e]; simp only; omega
    rw [clean_cons hl, List.length_append]
    rw [List.length_drop] at ih
    omega

/-- the code points of the clean form -/
def cl1 (n : Nat) (lf : Bool) : List Nat := if n = 0 then [65533] else if n = 13 then (if lf then [] else [10]) else [n]
def cl : List Nat → List Nat
  | [] => []
  | n :: r => cl1 n (r.head? == some 10) ++ cl r
def Pure (l : List Nat) : Prop := ∀ n ∈ l, isL n = true ∧ n ≠ 0 ∧ n ≠ 13

theorem encs_one (n : Nat) : encs [n] = enc n := by simp [encs]
theorem clean1_encs (n : Nat) (f : Bool) : clean1 n f = encs (cl1 n f) := by
  unfold clean1 cl1
  repeat' split
  all_goals first | rfl | rw [encs_one]
theorem cleanR_encs (l : List Nat) : cleanR l = encs (cl l) := by
  induction l with
  | nil => rfl
  | cons n r ih => rw [cleanR_cons, cl, encs_append, ih, clean1_encs]

theorem cl_pure (l : List Nat) (h : ∀ n ∈ l, isL n = true) : Pure (cl l) := by
  induction l with
  | nil => intro n hn; simp [cl] at hn
  | cons n r ih =>
    intro k hk
    rw [cl] at hk
    rcases List.mem_append.1 hk with hk | hk
    · unfold cl1 at hk
      split at hk
      · simp at hk; subst hk; decide
      · split at hk
        · split at hk
          · simp at hk
          · simp at hk; subst hk; decide
        · simp at hk; subst hk; exact ⟨h _ (List.mem_cons_self ..), by assumption, by assumption⟩
    · exact ih (fun m hm => h m (List.mem_cons_of_mem _ hm)) k hk

theorem cl_of_pure (l : List Nat) (h : Pure l) : cl l = l := by
  induction l with
  | nil => rfl
  | cons n r ih =>
    have hn := h n (List.mem_cons_self ..)
    rw [cl, ih (fun m hm => h m (List.mem_cons_of_mem _ hm))]
    simp [cl1, hn.2.1, hn.2.2]

theorem clean_encs (l : List UInt8) : clean l = encs (cl (runes l)) := cleanR_encs _
theorem clean_runes (l : List UInt8) : runes (clean l) = cl (runes l) := by
  rw [clean_encs]
  exact runes_encs' _ (fun n hn => (cl_pure _ (runes_isL l) n hn).1)
/-- what is clean is clean -/
theorem clean_clean (l : List UInt8) : clean (clean l) = clean l := by
  rw [clean_encs (clean l), clean_runes, cl_of_pure _ (cl_pure _ (runes_isL l)), ← clean_encs]
/-- and is the encoding of its code points -/
theorem encs_runes_clean (l : List UInt8) : encs (runes (clean l)) = clean l := by rw [clean_runes, ← clean_encs]

theorem enc_bytes {n : Nat} {b : UInt8} (h : b ∈ enc n) (hn : isL n = true) : b.toNat = n ∨ 128 ≤ b.toNat := by
  have hl := isL_iff.1 hn
  by_cases h1 : n < 128
  · rw [enc_one h1] at h; simp at h; subst h; left; simp; omega
  by_cases h2 : n < 2048
  · rw [enc_two (by omega) h2] at h; simp at h; right; rcases h with rfl | rfl <;> (simp; omega)
  by_cases h3 : n < 65536
  · rw [enc_three (by omega) h3] at h; simp at h; right; rcases h with rfl | rfl | rfl <;> (simp; omega)
  · rw [enc_four (by omega)] at h; simp at h; right; rcases h with rfl | rfl | rfl | rfl <;> (simp; omega)

/-- neither the byte 0 nor 13 -/
theorem clean_bytes (l : List UInt8) : ∀ b ∈ clean l, b.toNat ≠ 0 ∧ b.toNat ≠ 13 := by
  intro b hb
  rw [clean_encs] at hb
  obtain ⟨n, hn, hb⟩ := List.mem_flatMap.1 hb
  have hp := cl_pure _ (runes_isL l) n hn
  rcases enc_bytes hb hp.1 with e | e
  · rw [e]; exact hp.2
  · omega

/-- bytes below 128 stand for themselves -/
theorem runes_ascii (l : List UInt8) (h : ∀ b ∈ l, b.toNat < 128) : runes l = l.map UInt8.toNat := by
  induction l with
  | nil => rfl
  | cons b r ih =>
    have := runes_append_low [] r b (h b (List.mem_cons_self ..))
    rw [List.nil_append, runes_nil, List.nil_append] at this
    rw [this, ih (fun x hx => h x (List.mem_cons_of_mem _ hx)), List.map_cons]

/-- a line more: a letter, and one of the four ends -/
theorem clean_line (S : List UInt8) (hS : ∀ b ∈ S, b.toNat < 128) (x : UInt8) (hx : 13 < x.toNat ∧ x.toNat < 128) (e e' : List UInt8)
    (he : (e = [] ∧ e' = []) ∨ (e = [10] ∧ e' = [10]) ∨ (e = [13, 10] ∧ e' = [10]) ∨ (e = [13] ∧ e' = [10])) :
    clean (S ++ ([x] ++ e)) = clean S ++ ([x] ++ e') ∧ ∀ b ∈ S ++ ([x] ++ e), b.toNat < 128 := by
  have hA : ∀ b ∈ [x] ++ e, b.toNat < 128 := by
    intro b hb
    rcases List.mem_append.1 hb with hb | hb
    · simp at hb; subst hb; exact hx.2
    · rcases he with ⟨rfl, _⟩ | ⟨rfl, _⟩ | ⟨rfl, _⟩ | ⟨rfl, _⟩
      · simp at hb
      · simp at hb; subst hb; decide
      · simp at hb; rcases hb with rfl | rfl <;> decide
      · simp at hb; subst hb; decide
  have hall : ∀ b ∈ S ++ ([x] ++ e), b.toNat < 128 := by
    intro b hb
    rcases List.mem_append.1 hb with hb | hb
    · exact hS b hb
    · exact hA b hb
  refine ⟨?_, hall⟩
  unfold clean
  rw [runes_ascii _ hall, runes_ascii S hS, List.map_append]
  rw [cleanR_append_lf _ _ (by simp; omega)]
  congr 1
  have hx1 : clean1 x.toNat (((e.map UInt8.toNat)).head? == some 10) = [x] := by
    unfold clean1
    rw [if_neg (by omega), if_neg (by omega), enc_one hx.2]
    simp
  rw [List.map_append, List.map_cons, List.map_nil, List.cons_append, List.nil_append, cleanR_cons, hx1]
  congr 1
  rcases he with ⟨rfl, rfl⟩ | ⟨rfl, rfl⟩ | ⟨rfl, rfl⟩ | ⟨rfl, rfl⟩ <;> decide

end U
end Go.Proofs.Ytmfbabbjcjdhbaa

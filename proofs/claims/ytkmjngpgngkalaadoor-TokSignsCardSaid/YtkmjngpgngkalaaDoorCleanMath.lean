/- Plain mathematics: the clean form of bytes. -/
import Derived.Test.YtkmjngpgngkalaaDoorRunes
import Derived.Lib.RuneBytes
import Derived.Lib.Strings
namespace Go.Proofs.YtkmjngpgngkalaaDoor
namespace U

/-- what is written for one code point, if a line feed comes behind it or not -/
def clean1 (n : Nat) (lf : Bool) : List UInt8 := if n = 0 then enc 65533 else if n = 13 then (if lf then [] else enc 10) else enc n
def cleanR : List Nat → List UInt8
  | [] => []
  | n :: r => clean1 n (r.head? == some 10) ++ cleanR r
/-- the clean form -/
def clean (l : List UInt8) : List UInt8 := cleanR (runes l)

theorem cleanR_cons (n : Nat) (r : List Nat) : cleanR (n :: r) = clean1 n (r.head? == some 10) ++ cleanR r := rfl
theorem clean_nil : clean [] = [] := rfl
theorem clean_cons {l : List UInt8} (hl : l ≠ []) : clean l = clean1 (dec l).1 ((runes (l.drop (dec l).2)).head? == some 10) ++ clean (l.drop (dec l).2) := by
  unfold clean
  rw [runes_cons hl, cleanR_cons]

/-- below 128 a byte stands for itself -/
theorem dec_low (b : UInt8) (r : List UInt8) (h : b.toNat < 128) : dec (b :: r) = (b.toNat, 1) := decN_1 h
theorem dec_val_low {l : List UInt8} (hl : l ≠ []) (h : (dec l).1 < 128) : ∃ b r, l = b :: r ∧ b.toNat = (dec l).1 ∧ (dec l).2 = 1 ∧ l.drop (dec l).2 = r := by
  rcases dec_spec l hl with e | ⟨n, r, hn, e, e2⟩
  · rw [e] at h; exact absurd h (by decide)
  · rw [e2] at h ⊢
    simp only at h
    rw [enc_one h] at e ⊢
    exact ⟨_, r, e, by simp; omega, rfl, by rw [e]; rfl⟩

/-- a code point below 128 is at the head exactly where its byte is -/
theorem runes_head_low (l : List UInt8) (c : UInt8) (hc : c.toNat < 128) : (runes l).head? = some c.toNat ↔ l.head? = some c := by
  cases l with
  | nil => simp [runes_nil]
  | cons b r =>
    have hne : b :: r ≠ [] := by simp
    rw [runes_cons hne, List.head?_cons, List.head?_cons]
    constructor
    · intro h
      have h1 : (dec (b :: r)).1 = c.toNat := Option.some.inj h
      obtain ⟨b', r', e, hb, _⟩ := dec_val_low hne (by omega)
      injection e with e1 e2
      subst e1
      rw [h1] at hb
      rw [UInt8.toNat_inj.1 hb]
    · intro h
      have h1 : b = c := Option.some.inj h
      subst h1
      rw [dec_low b r hc]

theorem runes_head10 (l : List UInt8) : ((runes l).head? == some 10) = (l.head? == some 10) := by
  have := runes_head_low l 10 (by decide)
  rw [Bool.eq_iff_iff]
  simpa using this

theorem encodeRune_eq {n : Nat} (h : isL n = true) : Lib.encodeRune (n : Int) = enc n := by
  have hl := isL_iff.1 h
  unfold Lib.encodeRune
  by_cases h1 : n < 128
  · rw [Lib.encodeRuneZ_one (by omega) (by omega), enc_one h1]; simp
  by_cases h2 : n < 2048
  · rw [Lib.encodeRuneZ_two (by omega) (by omega), enc_two (by omega) h2]
    simp only [List.map_cons, List.map_nil]
    rw [show (192 + (n : Int) / 64).toNat = 192 + n / 64 by omega, show (128 + (n : Int) % 64).toNat = 128 + n % 64 by omega]
  by_cases h3 : n < 65536
  · rw [Lib.encodeRuneZ_three (by omega), enc_three (by omega) h3]
    simp only [List.map_cons, List.map_nil]
    rw [show (224 + (n : Int) / 4096).toNat = 224 + n / 4096 by omega, show (128 + (n : Int) / 64 % 64).toNat = 128 + n / 64 % 64 by omega, show (128 + (n : Int) % 64).toNat = 128 + n % 64 by omega]
  · rw [Lib.encodeRuneZ_four (by omega) (by omega), enc_four (by omega)]
    simp only [List.map_cons, List.map_nil]
    rw [show (240 + (n : Int) / 262144).toNat = 240 + n / 262144 by omega, show (128 + (n : Int) / 4096 % 64).toNat = 128 + n / 4096 % 64 by omega, show (128 + (n : Int) / 64 % 64).toNat = 128 + n / 64 % 64 by omega, show (128 + (n : Int) % 64).toNat = 128 + n % 64 by omega]

theorem clean1_zero (f : Bool) : clean1 0 f = Lib.encodeRune 65533 := by
  rw [clean1, if_pos rfl]
  exact (encodeRune_eq (n := 65533) (by decide)).symm
theorem clean1_skip : clean1 13 true = [] := by decide
theorem clean1_cr : clean1 13 false = [UInt8.ofNat 10] := by decide
theorem clean1_other {n : Nat} (f : Bool) (h0 : n ≠ 0) (h13 : n ≠ 13) (hL : isL n = true) : clean1 n f = Lib.encodeRune (n : Int) := by
  rw [clean1, if_neg h0, if_neg h13, encodeRune_eq hL]
theorem encodeRune_length (r : Int) : (Lib.encodeRune r).length ≤ 4 := by
  have := Lib.encodeRuneZ_length r
  unfold Lib.encodeRune
  rw [List.length_map]
  exact this.2
theorem hasPrefix_lf (l : List UInt8) : Lib.hasPrefix l [10] = (l.head? == some 10) := by
  cases l with
  | nil => rfl
  | cons b r =>
    simp [Lib.hasPrefix, List.isPrefixOf]
    rw [Bool.eq_iff_iff]
    simp
    exact eq_comm

theorem clean1_length (n : Nat) (f : Bool) : (clean1 n f).length ≤ 4 := by
  unfold clean1
  repeat' split
  · exact (enc_length _).2
  · simp
  · exact (enc_length _).2
  · exact (enc_length _).2

end U
end Go.Proofs.YtkmjngpgngkalaaDoor

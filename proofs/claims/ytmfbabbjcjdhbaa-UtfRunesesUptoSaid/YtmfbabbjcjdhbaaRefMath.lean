/- Plain mathematics: the first code point by trial of one to four bytes. -/
import Derived.Test.YtmfbabbjcjdhbaaCleanMath
namespace Go.Proofs.Ytmfbabbjcjdhbaa
namespace U

/-- what so many bytes would be, if they were one code point -/
def cand (l : List UInt8) (k : Nat) : Nat :=
  if k = 1 then at' l 0
  else if k = 2 then at' l 0 % 32 * 64 + at' l 1 % 64
  else if k = 3 then (at' l 0 % 16 * 64 + at' l 1 % 64) * 64 + at' l 2 % 64
  else ((at' l 0 % 8 * 64 + at' l 1 % 64) * 64 + at' l 2 % 64) * 64 + at' l 3 % 64

theorem cand_enc (n : Nat) (h : isL n = true) (r : List UInt8) : cand (enc n ++ r) (enc n).length = n := by
  have hl := isL_iff.1 h
  by_cases h1 : n < 128
  · rw [enc_one h1]
    show (UInt8.ofNat n).toNat = n
    simp; omega
  by_cases h2 : n < 2048
  · rw [enc_two (by omega) h2]
    show (UInt8.ofNat (192 + n / 64)).toNat % 32 * 64 + (UInt8.ofNat (128 + n % 64)).toNat % 64 = n
    simp; omega
  by_cases h3 : n < 65536
  · rw [enc_three (by omega) h3]
    show ((UInt8.ofNat (224 + n / 4096)).toNat % 16 * 64 + (UInt8.ofNat (128 + n / 64 % 64)).toNat % 64) * 64 + (UInt8.ofNat (128 + n % 64)).toNat % 64 = n
    simp; omega
  · rw [enc_four (by omega)]
    show (((UInt8.ofNat (240 + n / 262144)).toNat % 8 * 64 + (UInt8.ofNat (128 + n / 4096 % 64)).toNat % 64) * 64 + (UInt8.ofNat (128 + n / 64 % 64)).toNat % 64) * 64 + (UInt8.ofNat (128 + n % 64)).toNat % 64 = n
    simp; omega

/-- so many bytes are one code point -/
def fits (l : List UInt8) (k : Nat) : Bool := decide (k ≤ l.length) && isL (cand l k) && decide (enc (cand l k) = l.take k)

theorem fits_dec {l : List UInt8} {k : Nat} (h : fits l k = true) : dec l = (cand l k, k) := by
  unfold fits at h
  rw [Bool.and_eq_true, Bool.and_eq_true, decide_eq_true_eq, decide_eq_true_eq] at h
  obtain ⟨⟨h1, h2⟩, h3⟩ := h
  have e : l = enc (cand l k) ++ l.drop k := by rw [h3, List.take_append_drop]
  have h4 : (enc (cand l k)).length = k := by rw [h3, List.length_take]; omega
  generalize cand l k = c at *
  rw [e, dec_enc c h2, h4]

theorem none_dec {l : List UInt8} (hl : l ≠ []) (h : ∀ k, 1 ≤ k → k ≤ 4 → fits l k = false) : dec l = (65533, 1) := by
  rcases dec_spec l hl with e | ⟨n, r, hn, e, _⟩
  · exact e
  · exfalso
    have hk := enc_length n
    have h1 := h (enc n).length hk.1 hk.2
    have hc : cand l (enc n).length = n := by rw [e]; exact cand_enc n hn r
    have ht : l.take (enc n).length = enc n := by rw [e]; simp
    have hle : (enc n).length ≤ l.length := by rw [e]; simp
    unfold fits at h1
    rw [hc, ht, hn] at h1
    simp [hle] at h1

theorem cand_bd (l : List UInt8) (k : Nat) : cand l k ≤ 2097151 := by
  have h0 := at_lt l 0
  unfold cand
  repeat' split
  all_goals omega

end U
end Go.Proofs.Ytmfbabbjcjdhbaa

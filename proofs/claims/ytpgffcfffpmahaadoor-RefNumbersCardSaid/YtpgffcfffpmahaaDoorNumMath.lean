/- Plain mathematics: a number's digits, and the reference that they make. -/
import Derived.Test.YtpgffcfffpmahaaDoorLead
namespace Go.Proofs.YtpgffcfffpmahaaDoor
namespace U

/-- a digit's letter -/
def chr (d : Nat) : UInt8 := if d < 10 then UInt8.ofNat (48 + d) else UInt8.ofNat (87 + d)
theorem chr_all : ∀ d : Fin 16, dig (chr d.val) = d.val ∧ chr d.val ≠ 59 ∧ chr d.val ≠ 38 ∧ chr d.val ≠ 120 ∧ chr d.val ≠ 88 := by decide
theorem dig_chr {d : Nat} (h : d < 16) : dig (chr d) = d := (chr_all ⟨d, h⟩).1
theorem chr_other {d : Nat} (h : d < 16) : chr d ≠ 59 ∧ chr d ≠ 38 ∧ chr d ≠ 120 ∧ chr d ≠ 88 := (chr_all ⟨d, h⟩).2
/-- a number is being taken apart: what is left, the digits that are laid -/
structure Inv (base l x : Nat) (str : List UInt8) : Prop where
  value : val base x str = l
  digits : allDig base str = true
  room : x * base ^ str.length ≤ l
  short : str = [] ∨ base ^ str.length ≤ l * base
  plain : ∀ c ∈ str, c ≠ 59 ∧ c ≠ 38 ∧ c ≠ 120 ∧ c ≠ 88
theorem Inv.start (base l : Nat) : Inv base l l [] := ⟨rfl, rfl, by simp, .inl rfl, fun c h => by cases h⟩
theorem Inv.step {base l x : Nat} {str : List UInt8} (h : Inv base l x str) (hx : 0 < x) (hb : 0 < base) (hb2 : base ≤ 16) : Inv base l (x / base) (chr (x % base) :: str) := by
  have hm : x % base < base := Nat.mod_lt _ hb
  have hd := dig_chr (show x % base < 16 by omega)
  have hdm : x / base * base + x % base = x := by rw [Nat.mul_comm]; exact Nat.div_add_mod x base
  refine ⟨?_, ?_, ?_, .inr ?_, ?_⟩
  · show val base (x / base * base + dig (chr (x % base))) str = l
    rw [hd, hdm]
    exact h.value
  · have : allDig base (chr (x % base) :: str) = (decide (dig (chr (x % base)) < base) && allDig base str) := by simp [allDig]
    rw [this, h.digits, hd, decide_eq_true hm]
    rfl
  · rw [List.length_cons, Nat.pow_succ, Nat.mul_comm (base ^ str.length) base, ← Nat.mul_assoc]
    refine Nat.le_trans (Nat.mul_le_mul_right _ ?_) h.room
    omega
  · rw [List.length_cons, Nat.pow_succ]
    refine Nat.mul_le_mul_right _ (Nat.le_trans ?_ h.room)
    exact Nat.le_mul_of_pos_left _ hx
  · intro c hc
    rcases List.mem_cons.1 hc with rfl | hc
    · exact chr_other (by omega)
    · exact h.plain c hc
theorem Inv.length {base l x : Nat} {str : List UInt8} (h : Inv base l x str) (m : Nat) (hb : 1 ≤ base) (hm : l * base < base ^ (m + 1)) : str.length ≤ m := by
  rcases h.short with e | hs
  · rw [e]; exact Nat.zero_le _
  · rcases Nat.lt_or_ge m str.length with hlt | hge
    · have := Nat.pow_le_pow_right hb (show m + 1 ≤ str.length from hlt)
      omega
    · exact hge
theorem Inv.len10 {l x : Nat} {str : List UInt8} (h : Inv 10 l x str) (hl : l ≤ 1114111) : str.length ≤ 7 := h.length 7 (by decide) (by omega)
theorem Inv.len16 {l x : Nat} {str : List UInt8} (h : Inv 16 l x str) (hl : l ≤ 1114111) : str.length ≤ 6 := h.length 6 (by decide) (by omega)
theorem point_same {l : Nat} (h0 : l ≠ 0) (hl : isL l = true) : point l = l := by unfold point; rw [if_neg (by simp [h0, hl])]
theorem Inv.ne {base l : Nat} {str : List UInt8} (h : Inv base l 0 str) (h0 : l ≠ 0) : str ≠ [] := by
  rintro rfl
  exact h0 h.value.symm
theorem Inv.num {base l most : Nat} {str : List UInt8} (h : Inv base l 0 str) (h0 : l ≠ 0) (hl : isL l = true) (hm : str.length ≤ most) : numIn base most str = some l := by
  rw [numIn_short hm, h.digits, if_pos (by simpa using h.ne h0), h.value, point_same h0 hl]
theorem Inv.no59 {base l x : Nat} {str : List UInt8} (h : Inv base l x str) : 59 ∉ str := fun hm => (h.plain 59 hm).1 rfl
theorem Inv.no38 {base l x : Nat} {str : List UInt8} (h : Inv base l x str) : 38 ∉ str := fun hm => (h.plain 38 hm).2.1 rfl
/-- decimal -/
theorem unesc_dec {l : Nat} {str : List UInt8} (h : Inv 10 l 0 str) (h0 : l ≠ 0) (hl : isL l = true) : unesc (38 :: 35 :: (str ++ [59])) = enc l := by
  have hlen := h.len10 (isL_iff.1 hl).1
  have hb : body (35 :: str) = some l := by
    rw [body_hash]
    cases hs : str with
    | nil => exact absurd hs (h.ne h0)
    | cons c d =>
      have hp := h.plain c (by rw [hs]; exact List.mem_cons_self ..)
      rw [numOf_cons, if_neg (fun e => e.elim hp.2.2.1 hp.2.2.2), ← hs]
      exact h.num h0 hl hlen
  have := unesc_ref (p := 35 :: str) [] (by
    intro hm
    rcases List.mem_cons.1 hm with e | hm
    · exact absurd e (by decide)
    · exact h.no59 hm) hb
  simpa [unesc_nil] using this
/-- hexadecimal -/
theorem unesc_hex {l : Nat} {str : List UInt8} (x : UInt8) (hx : x = 120 ∨ x = 88) (h : Inv 16 l 0 str) (h0 : l ≠ 0) (hl : isL l = true) : unesc (38 :: 35 :: x :: (str ++ [59])) = enc l := by
  have hlen := h.len16 (isL_iff.1 hl).1
  have hb : body (35 :: x :: str) = some l := by
    rw [body_hash, numOf_cons, if_pos hx]
    exact h.num h0 hl hlen
  have := unesc_ref (p := 35 :: x :: str) [] (by
    intro hm
    rcases List.mem_cons.1 hm with e | hm
    · exact absurd e (by decide)
    rcases List.mem_cons.1 hm with e | hm
    · rcases hx with rfl | rfl
      · exact absurd e (by decide)
      · exact absurd e (by decide)
    · exact h.no59 hm) hb
  simpa [unesc_nil] using this
/-- without a semicolon -/
theorem unesc_open {base l x : Nat} {str : List UInt8} (h : Inv base l x str) : unesc (38 :: 35 :: str) = 38 :: 35 :: str := by
  have h1 : refAt (38 :: 35 :: str) = none := by
    rw [refAt_amp]
    apply refTail_none
    intro hm
    rcases List.mem_cons.1 hm with e | hm
    · exact absurd e (by decide)
    · exact h.no59 hm
  rw [unesc_none h1, unesc_same]
  intro hm
  rcases List.mem_cons.1 hm with e | hm
  · exact absurd e (by decide)
  · exact h.no38 hm

end U
end Go.Proofs.YtpgffcfffpmahaaDoor

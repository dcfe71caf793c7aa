/- Several texts in one: Digits, Lead, CleanMath. -/
import Derived.Lib.Strings
import Derived.Lib.IndexLaws
import Derived.Lib.Small
import Derived.Lib.RuneBytes
import Derived.Test.YtfockedeikdbjaaGreatDoorP00
import Derived.Test.YtfockedeikdbjaaGreatDoorP03
namespace Go.Proofs.YtfockedeikdbjaaGreatDoor
namespace U

theorem allDig_append (base : Nat) (a b : List UInt8) : allDig base (a ++ b) = (allDig base a && allDig base b) := by simp [allDig]
theorem allDig_one (base : Nat) (c : UInt8) : allDig base [c] = decide (dig c < base) := by simp [allDig]
theorem val_append (base acc : Nat) (a b : List UInt8) : val base acc (a ++ b) = val base (val base acc a) b := by simp [val, List.foldl_append]
theorem val_one (base acc : Nat) (c : UInt8) : val base acc [c] = acc * base + dig c := rfl
theorem val_lt (base : Nat) : ∀ (d : List UInt8) (acc : Nat), allDig base d = true → val base acc d < (acc + 1) * base ^ d.length
  | [], acc, _ => by simp [val]
  | c :: d, acc, h => by
    have h1 : dig c < base := by simpa [allDig] using (List.all_eq_true.1 h) c (List.mem_cons_self ..)
    have h2 : allDig base d = true := List.all_eq_true.2 fun x hx => (List.all_eq_true.1 h) x (List.mem_cons_of_mem _ hx)
    have h3 := val_lt base d (acc * base + dig c) h2
    have e : val base acc (c :: d) = val base (acc * base + dig c) d := rfl
    rw [e, List.length_cons, Nat.pow_succ]
    refine Nat.lt_of_lt_of_le h3 ?_
    rw [Nat.mul_comm (base ^ d.length) base, ← Nat.mul_assoc]
    apply Nat.mul_le_mul_right
    rw [Nat.add_mul]
    omega
theorem val_small {base : Nat} {d : List UInt8} (h : allDig base d = true) (hb : base ≤ 16) (hl : d.length ≤ 7) : val base 0 d < 268435456 := by
  have h1 := val_lt base d 0 h
  have h2 : base ^ d.length ≤ 16 ^ d.length := Nat.pow_le_pow_left hb _
  have h3 : 16 ^ d.length ≤ 16 ^ 7 := Nat.pow_le_pow_right (by decide) hl
  have h4 : (16 : Nat) ^ 7 = 268435456 := by decide
  omega
theorem val_small8 {base : Nat} {d : List UInt8} (h : allDig base d = true) (hb : base ≤ 16) (hl : d.length ≤ 8) : val base 0 d < 4294967296 := by
  have h1 := val_lt base d 0 h
  have h2 : base ^ d.length ≤ 16 ^ d.length := Nat.pow_le_pow_left hb _
  have h3 : 16 ^ d.length ≤ 16 ^ 8 := Nat.pow_le_pow_right (by decide) hl
  have h4 : (16 : Nat) ^ 8 = 4294967296 := by decide
  omega
theorem allDig_take {base : Nat} {l : List UInt8} {j : Nat} (h : allDig base (l.take j) = true) (m : Nat) (hm : m ≤ j) : allDig base (l.take m) = true := by
  refine List.all_eq_true.2 fun x hx => List.all_eq_true.1 h x ?_
  have : l.take m = (l.take j).take m := by rw [List.take_take, Nat.min_eq_left hm]
  rw [this] at hx
  exact List.mem_of_mem_take hx
theorem take_succ_get {l : List UInt8} {k : Nat} {c : UInt8} (h : l[k]? = some c) : l.take (k + 1) = l.take k ++ [c] := by
  obtain ⟨hk, e⟩ := List.getElem?_eq_some_iff.1 h
  rw [List.take_succ_eq_append_getElem hk, e]
/-- one digit more -/
theorem dig_more {base : Nat} {l : List UInt8} {k : Nat} {c : UInt8} (h : l[k]? = some c) (ha : allDig base (l.take k) = true) (hd : dig c < base) :
    allDig base (l.take (k + 1)) = true ∧ val base 0 (l.take (k + 1)) = val base 0 (l.take k) * base + dig c := by
  rw [take_succ_get h, allDig_append, ha, allDig_one, decide_eq_true hd, val_append, val_one]
  exact ⟨rfl, rfl⟩
theorem dig_bad {base : Nat} {l : List UInt8} {k : Nat} {c : UInt8} (h : l[k]? = some c) (hd : ¬ dig c < base) : allDig base l = false := by
  rw [Bool.eq_false_iff]
  intro ha
  have := List.all_eq_true.1 ha c (List.mem_of_getElem? h)
  simp at this
  exact hd this
/-- a digit's kinds -/
theorem dig_09 {c : UInt8} (h0 : 48 ≤ c.toNat) (h1 : c.toNat ≤ 57) : dig c = c.toNat - 48 := by unfold dig; rw [if_pos ⟨h0, h1⟩]
theorem dig_af {c : UInt8} (h0 : 97 ≤ c.toNat) (h1 : c.toNat ≤ 102) : dig c = c.toNat - 87 := by unfold dig; rw [if_neg (by omega), if_pos ⟨h0, h1⟩]
theorem dig_AF {c : UInt8} (h0 : 65 ≤ c.toNat) (h1 : c.toNat ≤ 70) : dig c = c.toNat - 55 := by unfold dig; rw [if_neg (by omega), if_neg (by omega), if_pos ⟨h0, h1⟩]
theorem dig_no {c : UInt8} (h0 : ¬ (48 ≤ c.toNat ∧ c.toNat ≤ 57)) (h1 : ¬ (97 ≤ c.toNat ∧ c.toNat ≤ 102)) (h2 : ¬ (65 ≤ c.toNat ∧ c.toNat ≤ 70)) : dig c = 99 := by unfold dig; rw [if_neg h0, if_neg h1, if_neg h2]
/-- the bit 32 set -/
theorem lower_all : ∀ c : Fin 256, bits .or .u8 ((c.val : Nat) : Int) 32 = ((if c.val / 32 % 2 = 0 then c.val + 32 else c.val : Nat) : Int) := by decide +kernel
theorem lower_eq {c : Nat} (h : c < 256) : bits .or .u8 (c : Int) 32 = ((if c / 32 % 2 = 0 then c + 32 else c : Nat) : Int) := lower_all ⟨c, h⟩
theorem lower_at {c : Nat} (h : c < 256) (v : Nat) (hv : (if c / 32 % 2 = 0 then c + 32 else c) = v) : bits .or .u8 (c : Int) 32 = (v : Int) := by rw [lower_eq h, hv]

end U
end Go.Proofs.YtfockedeikdbjaaGreatDoor

namespace Go.Proofs.YtfockedeikdbjaaGreatDoor
namespace U

/-- a reference by name -/
def nameOf (l : List UInt8) : Option Nat :=
  if l = [97, 109, 112] then some 38 else if l = [108, 116] then some 60 else if l = [103, 116] then some 62 else if l = [113, 117, 111, 116] then some 34
  else if l = [110, 98, 115, 112] then some 160 else if l = [99, 111, 112, 121] then some 169 else none
theorem body_hash (d : List UInt8) : body (35 :: d) = numOf d := by
  unfold body
  rw [if_neg (by simp), if_neg (by simp), if_neg (by simp), if_neg (by simp), if_neg (by simp), if_neg (by simp)]
  simp
theorem body_name {l : List UInt8} (h : ∀ d, l ≠ 35 :: d) : body l = nameOf l := by
  unfold body nameOf
  split
  · rfl
  split
  · rfl
  split
  · rfl
  split
  · rfl
  split
  · rfl
  split
  · rfl
  cases l with
  | nil => rfl
  | cons b d =>
    simp only
    rw [if_neg (fun e => h d (by rw [e]))]

theorem numIn_short {base most : Nat} {d : List UInt8} (h : d.length ≤ most) : numIn base most d = if (decide (d ≠ []) && allDig base d) = true then some (point (val base 0 d)) else none := by
  unfold numIn
  have e : decide (1 ≤ d.length ∧ d.length ≤ most) = decide (d ≠ []) := by
    rw [decide_eq_decide]
    cases d with
    | nil => simp
    | cons b d => simp at h ⊢; exact h
  rw [e]

theorem index_cases (r : List UInt8) : (Lib.indexByte ((38 :: r).take 10) 59 = -1 ∧ refTail r = none) ∨
    ∃ o : Nat, 1 ≤ o ∧ o ≤ 9 ∧ o ≤ r.length ∧ Lib.indexByte ((38 :: r).take 10) 59 = (o : Int) ∧ refTail r = (body (r.take (o - 1))).map fun n => (n, o + 1) := by
  have hge := Lib.indexByte_ge ((38 :: r).take 10) 59
  by_cases hneg : Lib.indexByte ((38 :: r).take 10) 59 = -1
  · refine .inl ⟨hneg, ?_⟩
    cases hr : refTail r with
    | none => rfl
    | some x =>
      obtain ⟨n, k⟩ := x
      obtain ⟨p, t, e, _, _, hk, _, h10, _, _⟩ := refAt_some (by rw [refAt_amp]; exact hr)
      have h1 := Lib.indexByte_none hneg (p.length + 1)
      rw [List.getElem?_take_of_lt (by omega), e] at h1
      exact absurd (by simp) h1
  · obtain ⟨o, ho⟩ : ∃ o : Nat, Lib.indexByte ((38 :: r).take 10) 59 = (o : Int) := Int.eq_ofNat_of_zero_le (by omega)
    obtain ⟨h1, h2⟩ := Lib.indexByte_some ho
    have hlt := (List.getElem?_eq_some_iff.1 h1).1
    rw [List.length_take, List.length_cons] at hlt
    rw [List.getElem?_take_of_lt (by omega)] at h1
    obtain ⟨q, rfl⟩ : ∃ q, o = q + 1 := by
      cases o with
      | zero => simp at h1
      | succ q => exact ⟨q, rfl⟩
    rw [List.getElem?_cons_succ] at h1
    have hq : q < r.length := by omega
    have hno : 59 ∉ r.take q := by
      intro hm
      obtain ⟨k, hk⟩ := List.getElem?_of_mem hm
      have hk2 := (List.getElem?_eq_some_iff.1 hk).1
      rw [List.length_take] at hk2
      rw [List.getElem?_take_of_lt (by omega)] at hk
      have := h2 (k + 1) (by omega)
      rw [List.getElem?_take_of_lt (by omega), List.getElem?_cons_succ] at this
      exact this hk
    have hsp : r = r.take q ++ 59 :: r.drop (q + 1) := by
      have e : r.drop q = 59 :: r.drop (q + 1) := by
        obtain ⟨hk, e⟩ := List.getElem?_eq_some_iff.1 h1
        rw [List.drop_eq_getElem_cons hk, e]
      rw [← e, List.take_append_drop]
    refine .inr ⟨q + 1, by omega, by omega, by omega, ho, ?_⟩
    have := refTail_of (t := r.drop (q + 1)) hno
    rw [← hsp, List.length_take, Nat.min_eq_left (by omega)] at this
    rw [this]
    simp

theorem valid_eq {n : Nat} : Lib.validRune (n : Int) = isL n := by
  unfold Lib.validRune isL
  rw [decide_eq_decide]
  omega
theorem prefix_hash (l : List UInt8) : Lib.hasPrefix l [35] = (match l with | [] => false | b :: _ => b == 35) := by
  unfold Lib.hasPrefix
  cases l with
  | nil => rfl
  | cons b d =>
    show ((35 : UInt8) == b && true) = (b == 35)
    rw [Bool.and_true, Bool.eq_iff_iff, beq_iff_eq, beq_iff_eq]
    exact ⟨Eq.symm, Eq.symm⟩
theorem prefix_hash_yes (d : List UInt8) : Lib.hasPrefix (35 :: d) [35] = true ∧ Lib.trimPrefix (35 :: d) [35] = d := by
  have h : Lib.hasPrefix (35 :: d) [35] = true := by rw [prefix_hash]; rfl
  exact ⟨h, by unfold Lib.trimPrefix; rw [if_pos h]; rfl⟩
theorem prefix_hash_no {l : List UInt8} (h : ∀ d, l ≠ 35 :: d) : Lib.hasPrefix l [35] = false := by
  rw [prefix_hash]
  cases l with
  | nil => rfl
  | cons b d =>
    have : b ≠ 35 := fun e => h d (by rw [e])
    simpa using this

end U
end Go.Proofs.YtfockedeikdbjaaGreatDoor

namespace Go.Proofs.YtfockedeikdbjaaGreatDoor
namespace U

/-- what is written for one code point, if a line feed comes behind it or not -/
def clean1 (n : Nat) (lf : Bool) : List UInt8 := if n = 0 then enc 65533 else if n = 13 then (if lf then [] else enc 10) else enc n
def cleanR : List Nat → List UInt8
  | [] => []
  | n :: r => clean1 n (r.head? == some 10) ++ cleanR r
/-- the clean form -/
def clean (l : List UInt8) : List UInt8 := cleanR (runes l)

theorem cleanR_cons (n : Nat) (r : List Nat) : cleanR (n :: r) = clean1 n (r.head? == some 10) ++ cleanR r := rfl
theorem clean_nil : clean [] = [] := rfl
theorem clean_cons {l : List UInt8} (hl : l ≠ []) : clean l = clean1 (dec l).1 ((runes (l.drop (dec l).2)).head? == some 10) ++ clean (l.drop (dec l).2) := by
  unfold clean
  rw [runes_cons hl, cleanR_cons]

/-- below 128 a byte stands for itself -/
theorem dec_low (b : UInt8) (r : List UInt8) (h : b.toNat < 128) : dec (b :: r) = (b.toNat, 1) := decN_1 h
theorem dec_val_low {l : List UInt8} (hl : l ≠ []) (h : (dec l).1 < 128) : ∃ b r, l = b :: r ∧ b.toNat = (dec l).1 ∧ (dec l).2 = 1 ∧ l.drop (dec l).2 = r := by
  rcases dec_spec l hl with e | ⟨n, r, hn, e, e2⟩
  · rw [e] at h; exact absurd h (by decide)
  · rw [e2] at h ⊢
    simp only at h
    rw [enc_one h] at e ⊢
    exact ⟨_, r, e, by simp; omega, rfl, by rw [e]; rfl⟩

/-- a code point below 128 is at the head exactly where its byte is -/
theorem runes_head_low (l : List UInt8) (c : UInt8) (hc : c.toNat < 128) : (runes l).head? = some c.toNat ↔ l.head? = some c := by
  cases l with
  | nil => simp [runes_nil]
  | cons b r =>
    have hne : b :: r ≠ [] := by simp
    rw [runes_cons hne, List.head?_cons, List.head?_cons]
    constructor
    · intro h
      have h1 : (dec (b :: r)).1 = c.toNat := Option.some.inj h
      obtain ⟨b', r', e, hb, _⟩ := dec_val_low hne (by omega)
      injection e with e1 e2
      subst e1
      rw [h1] at hb
      rw [UInt8.toNat_inj.1 hb]
    · intro h
      have h1 : b = c := Option.some.inj h
      subst h1
      rw [dec_low b r hc]

theorem runes_head10 (l : List UInt8) : ((runes l).head? == some 10) = (l.head? == some 10) := by
  have := runes_head_low l 10 (by decide)
  rw [Bool.eq_iff_iff]
  simpa using this

theorem encodeRune_eq {n : Nat} (h : isL n = true) : Lib.encodeRune (n : Int) = enc n := by
  have hl := isL_iff.1 h
  unfold Lib.encodeRune
  by_cases h1 : n < 128
  · rw [Lib.encodeRuneZ_one (by omega) (by omega), enc_one h1]; simp
  by_cases h2 : n < 2048
  · rw [Lib.encodeRuneZ_two (by omega) (by omega), enc_two (by omega) h2]
    simp only [List.map_cons, List.map_nil]
    rw [show (192 + (n : Int) / 64).toNat = 192 + n / 64 by omega, show (128 + (n : Int) % 64).toNat = 128 + n % 64 by omega]
  by_cases h3 : n < 65536
  · rw [Lib.encodeRuneZ_three (by omega), enc_three (by omega) h3]
    simp only [List.map_cons, List.map_nil]
    rw [show (224 + (n : Int) / 4096).toNat = 224 + n / 4096 by omega, show (128 + (n : Int) / 64 % 64).toNat = 128 + n / 64 % 64 by omega, show (128 + (n : Int) % 64).toNat = 128 + n % 64 by omega]
  · rw [Lib.encodeRuneZ_four (by omega) (by omega), enc_four (by omega)]
    simp only [List.map_cons, List.map_nil]
    rw [show (240 + (n : Int) / 262144).toNat = 240 + n / 262144 by omega, show (128 + (n : Int) / 4096 % 64).toNat = 128 + n / 4096 % 64 by omega, show (128 + (n : Int) / 64 % 64).toNat = 128 + n / 64 % 64 by omega, show (128 + (n : Int) % 64).toNat = 128 + n % 64 by omega]

theorem clean1_zero (f : Bool) : clean1 0 f = Lib.encodeRune 65533 := by
  rw [clean1, if_pos rfl]
  exact (encodeRune_eq (n := 65533) (by decide)).symm
theorem clean1_skip : clean1 13 true = [] := by decide
theorem clean1_cr : clean1 13 false = [UInt8.ofNat 10] := by decide
theorem clean1_other {n : Nat} (f : Bool) (h0 : n ≠ 0) (h13 : n ≠ 13) (hL : isL n = true) : clean1 n f = Lib.encodeRune (n : Int) := by
  rw [clean1, if_neg h0, if_neg h13, encodeRune_eq hL]
theorem encodeRune_length (r : Int) : (Lib.encodeRune r).length ≤ 4 := by
  have := Lib.encodeRuneZ_length r
  unfold Lib.encodeRune
  rw [List.length_map]
  exact this.2
theorem hasPrefix_lf (l : List UInt8) : Lib.hasPrefix l [10] = (l.head? == some 10) := by
  cases l with
  | nil => rfl
  | cons b r =>
    simp [Lib.hasPrefix, List.isPrefixOf]
    rw [Bool.eq_iff_iff]
    simp
    exact eq_comm

theorem clean1_length (n : Nat) (f : Bool) : (clean1 n f).length ≤ 4 := by
  unfold clean1
  repeat' split
  · exact (enc_length _).2
  · simp
  · exact (enc_length _).2
  · exact (enc_length _).2

end U
end Go.Proofs.YtfockedeikdbjaaGreatDoor

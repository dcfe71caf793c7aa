/- Plain mathematics: digits. -/
import Derived.Test.YtkmjngpgngkalaaDoorChar
import Derived.Lib.Strings
namespace Go.Proofs.YtkmjngpgngkalaaDoor
namespace U

theorem allDig_append (base : Nat) (a b : List UInt8) : allDig base (a ++ b) = (allDig base a && allDig base b) := by simp [allDig]
theorem allDig_one (base : Nat) (c : UInt8) : allDig base [c] = decide (dig c < base) := by simp [allDig]
theorem val_append (base acc : Nat) (a b : List UInt8) : val base acc (a ++ b) = val base (val base acc a) b := by simp [val, List.foldl_append]
theorem val_one (base acc : Nat) (c : UInt8) : val base acc [c] = acc * base + dig c := rfl
theorem val_lt (base : Nat) : ∀ (d : List UInt8) (acc : Nat), allDig base d = true → val base acc d < (acc + 1) * base ^ d.length
  | [], acc, _ => by simp [val]
  | c :: d, acc, h => by
    have h1 : dig c < base := by simpa [allDig] using (List.all_eq_true.1 h) c (List.mem_cons_self ..)
    have h2 : allDig base d = true := List.all_eq_true.2 fun x hx => (List.all_eq_true.1 h) x (List.mem_cons_of_mem _ hx)
    have h3 := val_lt base d (acc * base + dig c) h2
    have e : val base acc (c :: d) = val base (acc * base + dig c) d := rfl
    rw [e, List.length_cons, Nat.pow_succ]
    refine Nat.lt_of_lt_of_le h3 ?_
    rw [Nat.mul_comm (base ^ d.length) base, ← Nat.mul_assoc]
    apply Nat.mul_le_mul_right
    rw [Nat.add_mul]
    omega
theorem val_small {base : Nat} {d : List UInt8} (h : allDig base d = true) (hb : base ≤ 16) (hl : d.length ≤ 7) : val base 0 d < 268435456 := by
  have h1 := val_lt base d 0 h
  have h2 : base ^ d.length ≤ 16 ^ d.length := Nat.pow_le_pow_left hb _
  have h3 : 16 ^ d.length ≤ 16 ^ 7 := Nat.pow_le_pow_right (by decide) hl
  have h4 : (16 : Nat) ^ 7 = 268435456 := by decide
  omega
theorem val_small8 {base : Nat} {d : List UInt8} (h : allDig base d = true) (hb : base ≤ 16) (hl : d.length ≤ 8) : val base 0 d < 4294967296 := by
  have h1 := val_lt base d 0 h
  have h2 : base ^ d.length ≤ 16 ^ d.length := Nat.pow_le_pow_left hb _
  have h3 : 16 ^ d.length ≤ 16 ^ 8 := Nat.pow_le_pow_right (by decide) hl
  have h4 : (16 : Nat) ^ 8 = 4294967296 := by decide
  omega
theorem allDig_take {base : Nat} {l : List UInt8} {j : Nat} (h : allDig base (l.take j) = true) (m : Nat) (hm : m ≤ j) : allDig base (l.take m) = true := by
  refine List.all_eq_true.2 fun x hx => List.all_eq_true.1 h x ?_
  have : l.take m = (l.take j).take m := by rw [List.take_take, Nat.min_eq_left hm]
  rw [this] at hx
  exact List.mem_of_mem_take hx
theorem take_succ_get {l : List UInt8} {k : Nat} {c : UInt8} (h : l[k]? = some c) : l.take (k + 1) = l.take k ++ [c] := by
  obtain ⟨hk, e⟩ := List.getElem?_eq_some_iff.1 h
  rw [List.take_succ_eq_append_getElem hk, e]
/-- one digit more -/
theorem dig_more {base : Nat} {l : List UInt8} {k : Nat} {c : UInt8} (h : l[k]? = some c) (ha : allDig base (l.take k) = true) (hd : dig c < base) :
    allDig base (l.take (k + 1)) = true ∧ val base 0 (l.take (k + 1)) = val base 0 (l.take k) * base + dig c := by
  rw [take_succ_get h, allDig_append, ha, allDig_one, decide_eq_true hd, val_append, val_one]
  exact ⟨rfl, rfl⟩
theorem dig_bad {base : Nat} {l : List UInt8} {k : Nat} {c : UInt8} (h : l[k]? = some c) (hd : ¬ dig c < base) : allDig base l = false := by
  rw [Bool.eq_false_iff]
  intro ha
  have := List.all_eq_true.1 ha c (List.mem_of_getElem? h)
  simp at this
  exact hd this
/-- a digit's kinds -/
theorem dig_09 {c : UInt8} (h0 : 48 ≤ c.toNat) (h1 : c.toNat ≤ 57) : dig c = c.toNat - 48 := by unfold dig; rw [if_pos ⟨h0, h1⟩]
theorem dig_af {c : UInt8} (h0 : 97 ≤ c.toNat) (h1 : c.toNat ≤ 102) : dig c = c.toNat - 87 := by unfold dig; rw [if_neg (by omega), if_pos ⟨h0, h1⟩]
theorem dig_AF {c : UInt8} (h0 : 65 ≤ c.toNat) (h1 : c.toNat ≤ 70) : dig c = c.toNat - 55 := by unfold dig; rw [if_neg (by omega), if_neg (by omega), if_pos ⟨h0, h1⟩]
theorem dig_no {c : UInt8} (h0 : ¬ (48 ≤ c.toNat ∧ c.toNat ≤ 57)) (h1 : ¬ (97 ≤ c.toNat ∧ c.toNat ≤ 102)) (h2 : ¬ (65 ≤ c.toNat ∧ c.toNat ≤ 70)) : dig c = 99 := by unfold dig; rw [if_neg h0, if_neg h1, if_neg h2]
/-- the bit 32 set -/
theorem lower_all : ∀ c : Fin 256, bits .or .u8 ((c.val : Nat) : Int) 32 = ((if c.val / 32 % 2 = 0 then c.val + 32 else c.val : Nat) : Int) := by decide +kernel
theorem lower_eq {c : Nat} (h : c < 256) : bits .or .u8 (c : Int) 32 = ((if c / 32 % 2 = 0 then c + 32 else c : Nat) : Int) := lower_all ⟨c, h⟩
theorem lower_at {c : Nat} (h : c < 256) (v : Nat) (hv : (if c / 32 % 2 = 0 then c + 32 else c) = v) : bits .or .u8 (c : Int) 32 = (v : Int) := by rw [lower_eq h, hv]

end U
end Go.Proofs.YtkmjngpgngkalaaDoor

/- Plain mathematics: how a reference is found: the first semicolon among ten bytes. -/
import Derived.Test.YtkmjngpgngkalaaDoorDigits
import Derived.Lib.IndexLaws
import Derived.Lib.Small
namespace Go.Proofs.YtkmjngpgngkalaaDoor
namespace U

/-- a reference by name -/
def nameOf (l : List UInt8) : Option Nat :=
  if l = [97, 109, 112] then some 38 else if l = [108, 116] then some 60 else if l = [103, 116] then some 62 else if l = [113, 117, 111, 116] then some 34
  else if l = [110, 98, 115, 112] then some 160 else if l = [99, 111, 112, 121] then some 169 else none
theorem body_hash (d : List UInt8) : body (35 :: d) = numOf d := by
  unfold body
  rw [if_neg (by simp), if_neg (by simp), if_neg (by simp), if_neg (by simp), if_neg (by simp), if_neg (by simp)]
  simp
theorem body_name {l : List UInt8} (h : ∀ d, l ≠ 35 :: d) : body l = nameOf l := by
  unfold body nameOf
  split
  · rfl
  split
  · rfl
  split
  · rfl
  split
  · rfl
  split
  · rfl
  split
  · rfl
  cases l with
  | nil => rfl
  | cons b d =>
    simp only
    rw [if_neg (fun e => h d (by rw [e]))]

theorem numIn_short {base most : Nat} {d : List UInt8} (h : d.length ≤ most) : numIn base most d = if (decide (d ≠ []) && allDig base d) = true then some (point (val base 0 d)) else none := by
  unfold numIn
  have e : decide (1 ≤ d.length ∧ d.length ≤ most) = decide (d ≠ []) := by
    rw [decide_eq_decide]
    cases d with
    | nil => simp
    | cons b d => simp at h ⊢; exact h
  rw [e]

theorem index_cases (r : List UInt8) : (Lib.indexByte ((38 :: r).take 10) 59 = -1 ∧ refTail r = none) ∨
    ∃ o : Nat, 1 ≤ o ∧ o ≤ 9 ∧ o ≤ r.length ∧ Lib.indexByte ((38 :: r).take 10) 59 = (o : Int) ∧ refTail r = (body (r.take (o - 1))).map fun n => (n, o + 1) := by
  have hge := Lib.indexByte_ge ((38 :: r).take 10) 59
  by_cases hneg : Lib.indexByte ((38 :: r).take 10) 59 = -1
  · refine .inl ⟨hneg, ?_⟩
    cases hr : refTail r with
    | none => rfl
    | some x =>
      obtain ⟨n, k⟩ := x
      obtain ⟨p, t, e, _, _, hk, _, h10, _, _⟩ := refAt_some (by rw [refAt_amp]; exact hr)
      have h1 := Lib.indexByte_none hneg (p.length + 1)
      rw [List.getElem?_take_of_lt (by omega), e] at h1
      exact absurd (by simp) h1
  · obtain ⟨o, ho⟩ : ∃ o : Nat, Lib.indexByte ((38 :: r).take 10) 59 = (o : Int) := Int.eq_ofNat_of_zero_le (by omega)
    obtain ⟨h1, h2⟩ := Lib.indexByte_some ho
    have hlt := (List.getElem?_eq_some_iff.1 h1).1
    rw [List.length_take, List.length_cons] at hlt
    rw [List.getElem?_take_of_lt (by omega)] at h1
    obtain ⟨q, rfl⟩ : ∃ q, o = q + 1 := by
      cases o with
      | zero => simp at h1
      | succ q => exact ⟨q, rfl⟩
    rw [List.getElem?_cons_succ] at h1
    have hq : q < r.length := by omega
    have hno : 59 ∉ r.take q := by
      intro hm
      obtain ⟨k, hk⟩ := List.getElem?_of_mem hm
      have hk2 := (List.getElem?_eq_some_iff.1 hk).1
      rw [List.length_take] at hk2
      rw [List.getElem?_take_of_lt (by omega)] at hk
      have := h2 (k + 1) (by omega)
      rw [List.getElem?_take_of_lt (by omega), List.getElem?_cons_succ] at this
      exact this hk
    have hsp : r = r.take q ++ 59 :: r.drop (q + 1) := by
      have e : r.drop q = 59 :: r.drop (q + 1) := by
        obtain ⟨hk, e⟩ := List.getElem?_eq_some_iff.1 h1
        rw [List.drop_eq_getElem_cons hk, e]
      rw [← e, List.take_append_drop]
    refine .inr ⟨q + 1, by omega, by omega, by omega, ho, ?_⟩
    have := refTail_of (t := r.drop (q + 1)) hno
    rw [← hsp, List.length_take, Nat.min_eq_left (by omega)] at this
    rw [this]
    simp

theorem valid_eq {n : Nat} : Lib.validRune (n : Int) = isL n := by
  unfold Lib.validRune isL
  rw [decide_eq_decide]
  omega
theorem prefix_hash (l : List UInt8) : Lib.hasPrefix l [35] = (match l with | [] => false | b :: _ => b == 35) := by
  unfold Lib.hasPrefix
  cases l with
  | nil => rfl
  | cons b d =>
    show ((35 : UInt8) == b && true) = (b == 35)
    rw [Bool.and_true, Bool.eq_iff_iff, beq_iff_eq, beq_iff_eq]
    exact ⟨Eq.symm, Eq.symm⟩
theorem prefix_hash_yes (d : List UInt8) : Lib.hasPrefix (35 :: d) [35] = true ∧ Lib.trimPrefix (35 :: d) [35] = d := by
  have h : Lib.hasPrefix (35 :: d) [35] = true := by rw [prefix_hash]; rfl
  exact ⟨h, by unfold Lib.trimPrefix; rw [if_pos h]; rfl⟩
theorem prefix_hash_no {l : List UInt8} (h : ∀ d, l ≠ 35 :: d) : Lib.hasPrefix l [35] = false := by
  rw [prefix_hash]
  cases l with
  | nil => rfl
  | cons b d =>
    have : b ≠ 35 := fun e => h d (by rw [e])
    simpa using this

end U
end Go.Proofs.YtkmjngpgngkalaaDoor

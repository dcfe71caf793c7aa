/- Plain mathematics: expressions; what is wrong with one; its text. -/
import Derived.WalkKit
namespace Go.Proofs.Ytfloeijklogcfaa
namespace U

/-- an expression: a kind, a letter, parts -/
inductive Ex where
  | mk (kind type : Int) (parts : List Ex)
def Ex.kind : Ex → Int | .mk k _ _ => k
def Ex.type : Ex → Int | .mk _ t _ => t
def Ex.parts : Ex → List Ex | .mk _ _ p => p
theorem Ex.eta : ∀ (x : Ex), Ex.mk x.kind x.type x.parts = x | .mk _ _ _ => rfl

/-- are the parts and the letter as the kind lets them be -/
def Ex.form (x : Ex) : Bool :=
  if x.kind = 1 then x.parts.length == 0
  else if x.kind = 2 then x.type == 0 && (x.parts.length != 1 && !x.parts.any (fun p => p.kind == 2))
  else if x.kind = 3 then x.type == 0 && (decide (2 ≤ x.parts.length) && !x.parts.any (fun p => p.kind == 3))
  else x.type == 0 && x.parts.length == 1
/-- what is wrong with it, but for its parts -/
def Ex.own (x : Ex) : Nat := if x.kind < 1 ∨ 6 < x.kind then 3 else if x.form = false then 4 else if 0 ≤ x.type ∧ x.type < 8 then 0 else 2
mutual
def exF : Ex → Nat
  | .mk k t p => if Ex.own (.mk k t p) = 0 then exFs p else Ex.own (.mk k t p)
def exFs : List Ex → Nat
  | [] => 0
  | x :: r => if exF x = 0 then exFs r else exF x
end
theorem exF_eq : ∀ (x : Ex), exF x = if x.own = 0 then exFs x.parts else x.own
  | .mk _ _ _ => by rw [exF]; rfl
theorem exFs_nil : exFs [] = 0 := by rw [exFs]
theorem exFs_cons (x : Ex) (r : List Ex) : exFs (x :: r) = if exF x = 0 then exFs r else exF x := by rw [exFs]
theorem exFs_zero : ∀ {l : List Ex}, exFs l = 0 ↔ ∀ x ∈ l, exF x = 0
  | [] => by rw [exFs]; simp
  | x :: r => by
    rw [exFs]
    by_cases h : exF x = 0
    · rw [if_pos h, exFs_zero (l := r)]; simp [h]
    · rw [if_neg h]; simp [h]
theorem exFs_drop {l : List Ex} {k : Nat} {x : Ex} (hx : l[k]? = some x) : exFs (l.drop k) = if exF x = 0 then exFs (l.drop (k + 1)) else exF x := by
  obtain ⟨hi, e⟩ := List.getElem?_eq_some_iff.1 hx
  rw [List.drop_eq_getElem_cons hi, exFs_cons, e]
theorem Ex.own_le (x : Ex) : x.own ≤ 4 := by
  unfold Ex.own
  repeat' split
  all_goals decide

/-! ### how many there are -/
mutual
def cntE : Ex → Nat
  | .mk _ _ p => cntEs p + 1
def cntEs : List Ex → Nat
  | [] => 0
  | x :: r => cntE x + cntEs r
end
theorem cntE_eq : ∀ (x : Ex), cntE x = cntEs x.parts + 1
  | .mk _ _ _ => by rw [cntE]; rfl
theorem cntEs_nil : cntEs [] = 0 := by rw [cntEs]
theorem cntEs_cons (x : Ex) (r : List Ex) : cntEs (x :: r) = cntE x + cntEs r := by rw [cntEs]
theorem cntEs_get : ∀ {l : List Ex} {k : Nat} {x : Ex}, l[k]? = some x → cntE x ≤ cntEs l
  | [], _, _, h => by cases h
  | a :: r, 0, x, h => by
    simp at h
    subst h
    rw [cntEs_cons]
    omega
  | a :: r, k + 1, x, h => by
    have := cntEs_get (l := r) (k := k) (x := x) (by simpa using h)
    rw [cntEs_cons]
    omega
theorem cntEs_mem {l : List Ex} {x : Ex} (h : x ∈ l) : cntE x ≤ cntEs l := by
  obtain ⟨k, hk⟩ := List.getElem?_of_mem h
  exact cntEs_get hk
theorem cntEs_append : ∀ (a b : List Ex), cntEs (a ++ b) = cntEs a + cntEs b
  | [], b => by rw [cntEs_nil, List.nil_append, Nat.zero_add]
  | x :: r, b => by rw [List.cons_append, cntEs_cons, cntEs_cons, cntEs_append r b, Nat.add_assoc]
theorem cntEs_take {l : List Ex} {k : Nat} {x : Ex} (hx : l[k]? = some x) : cntEs (l.take (k + 1)) = cntEs (l.take k) + cntE x := by
  obtain ⟨hi, e⟩ := List.getElem?_eq_some_iff.1 hx
  rw [List.take_succ_eq_append_getElem hi, e, cntEs_append, cntEs_cons, cntEs_nil, Nat.add_zero]
theorem cntEs_take_le (l : List Ex) (k : Nat) : cntEs (l.take k) ≤ cntEs l := by
  have h := cntEs_append (l.take k) (l.drop k)
  rw [List.take_append_drop] at h
  omega
theorem len_cntE : ∀ (l : List Ex), l.length ≤ cntEs l
  | [] => Nat.zero_le _
  | x :: r => by
    have := len_cntE r
    have := cntE_eq x
    rw [cntEs_cons, List.length_cons]
    omega

/-! ### texts -/
def sign (k : Int) : UInt8 := if k = 4 then 42 else if k = 5 then 43 else 63
def encl (b : Bool) (t : List UInt8) : List UInt8 := if b = true then 40 :: (t ++ [41]) else t
mutual
/-- bound: 0: as it is; 1: as a part of a Seq; 2: ahead of a sign -/
def exT (bound : Nat) : Ex → List UInt8
  | .mk k t p => if k = 1 then [UInt8.ofNat (97 + t.toNat)] else if k = 2 then encl (decide (2 ≤ bound)) (exS p) else if k = 3 then encl (decide (1 ≤ bound)) (exA p) else exP p ++ [sign k]
def exS : List Ex → List UInt8
  | [] => []
  | x :: r => exT 1 x ++ exS r
def exA : List Ex → List UInt8
  | [] => []
  | x :: r => exT 0 x ++ exB r
def exB : List Ex → List UInt8
  | [] => []
  | x :: r => 124 :: (exT 0 x ++ exB r)
def exP : List Ex → List UInt8
  | [] => []
  | x :: _ => exT 2 x
end
theorem exT_eq (b : Nat) : ∀ (x : Ex), exT b x = if x.kind = 1 then [UInt8.ofNat (97 + x.type.toNat)] else if x.kind = 2 then encl (decide (2 ≤ b)) (exS x.parts) else if x.kind = 3 then encl (decide (1 ≤ b)) (exA x.parts) else exP x.parts ++ [sign x.kind]
  | .mk _ _ _ => by rw [exT]; rfl
theorem exS_nil : exS [] = [] := by rw [exS]
theorem exS_cons (x : Ex) (r : List Ex) : exS (x :: r) = exT 1 x ++ exS r := by rw [exS]
theorem exA_nil : exA [] = [] := by rw [exA]
theorem exA_cons (x : Ex) (r : List Ex) : exA (x :: r) = exT 0 x ++ exB r := by rw [exA]
theorem exB_nil : exB [] = [] := by rw [exB]
theorem exB_cons (x : Ex) (r : List Ex) : exB (x :: r) = 124 :: (exT 0 x ++ exB r) := by rw [exB]
theorem exP_cons (x : Ex) (r : List Ex) : exP (x :: r) = exT 2 x := by rw [exP]
theorem exS_append : ∀ (a b : List Ex), exS (a ++ b) = exS a ++ exS b
  | [], b => by rw [exS_nil]; rfl
  | x :: r, b => by rw [List.cons_append, exS_cons, exS_cons, exS_append r b, List.append_assoc]
theorem exB_append : ∀ (a b : List Ex), exB (a ++ b) = exB a ++ exB b
  | [], b => by rw [exB_nil]; rfl
  | x :: r, b => by rw [List.cons_append, exB_cons, exB_cons, exB_append r b, List.cons_append, List.append_assoc]
theorem exA_append : ∀ (a b : List Ex), a ≠ [] → exA (a ++ b) = exA a ++ exB b
  | [], b, h => absurd rfl h
  | x :: r, b, _ => by rw [List.cons_append, exA_cons, exA_cons, exB_append r b, List.append_assoc]
theorem exS_take {l : List Ex} {k : Nat} {x : Ex} (hx : l[k]? = some x) : exS (l.take (k + 1)) = exS (l.take k) ++ exT 1 x := by
  obtain ⟨hi, e⟩ := List.getElem?_eq_some_iff.1 hx
  rw [List.take_succ_eq_append_getElem hi, e, exS_append, exS_cons, exS_nil, List.append_nil]
theorem exA_take {l : List Ex} {k : Nat} {x : Ex} (hx : l[k]? = some x) : exA (l.take (k + 1)) = if k = 0 then exT 0 x else exA (l.take k) ++ 124 :: exT 0 x := by
  obtain ⟨hi, e⟩ := List.getElem?_eq_some_iff.1 hx
  rw [List.take_succ_eq_append_getElem hi, e]
  by_cases h : k = 0
  · rw [if_pos h, h, List.take_zero, List.nil_append, exA_cons, exB_nil, List.append_nil]
  · rw [if_neg h, exA_append _ _ (by
      intro h2
      have := congrArg List.length h2
      rw [List.length_take, List.length_nil] at this
      omega), exB_cons, exB_nil, List.append_nil]
theorem encl_len (b : Bool) (t : List UInt8) : (encl b t).length ≤ t.length + 2 := by
  unfold encl
  split
  · simp
  · omega
mutual
theorem exT_len (b : Nat) : ∀ (x : Ex), (exT b x).length + 1 ≤ 3 * cntE x
  | .mk k t p => by
    rw [exT, cntE]
    have h1 := exS_len p
    have h2 := exA_len p
    have h3 := exP_len p
    have h4 := encl_len (decide (2 ≤ b)) (exS p)
    have h5 := encl_len (decide (1 ≤ b)) (exA p)
    split
    · simp; omega
    split
    · omega
    split
    · omega
    · rw [List.length_append, List.length_singleton]; omega
theorem exS_len : ∀ (l : List Ex), (exS l).length ≤ 3 * cntEs l
  | [] => by rw [exS]; exact Nat.zero_le _
  | x :: r => by
    rw [exS, cntEs, List.length_append]
    have := exT_len 1 x
    have := exS_len r
    omega
theorem exA_len : ∀ (l : List Ex), (exA l).length ≤ 3 * cntEs l
  | [] => by rw [exA]; exact Nat.zero_le _
  | x :: r => by
    rw [exA, cntEs, List.length_append]
    have := exT_len 0 x
    have := exB_len r
    omega
theorem exB_len : ∀ (l : List Ex), (exB l).length ≤ 3 * cntEs l
  | [] => by rw [exB]; exact Nat.zero_le _
  | x :: r => by
    rw [exB, cntEs, List.length_cons, List.length_append]
    have := exT_len 0 x
    have := exB_len r
    omega
theorem exP_len : ∀ (l : List Ex), (exP l).length ≤ 3 * cntEs l
  | [] => by rw [exP]; exact Nat.zero_le _
  | x :: r => by
    rw [exP, cntEs]
    have := exT_len 2 x
    omega
end
/-- what Check answers -/
def exFault (x : Ex) : Nat := if exF x = 0 then (if 40 < (exT 0 x).length then 1 else 0) else exF x
/-- what Print answers -/
def exPrint (x : Ex) : List UInt8 × Nat := if exFault x = 0 then (exT 0 x, 0) else ([], exFault x)
/-- what holds of one with nothing wrong -/
theorem exF_zero {x : Ex} (h : exF x = 0) : x.own = 0 ∧ ∀ p ∈ x.parts, exF p = 0 := by
  rw [exF_eq] at h
  by_cases h0 : x.own = 0
  · rw [if_pos h0] at h
    exact ⟨h0, exFs_zero.1 h⟩
  · rw [if_neg h0] at h
    exact absurd h h0
theorem own_zero {x : Ex} (h : x.own = 0) : 1 ≤ x.kind ∧ x.kind ≤ 6 ∧ x.form = true ∧ 0 ≤ x.type ∧ x.type < 8 := by
  unfold Ex.own at h
  split at h
  · cases h
  rename_i h1
  split at h
  · cases h
  rename_i h2
  split at h
  · rename_i h3
    refine ⟨by omega, by omega, ?_, h3.1, h3.2⟩
    cases hf : x.form with
    | true => rfl
    | false => exact absurd hf h2
  · cases h
theorem form_one {x : Ex} (h : x.form = true) (hk : ¬ x.kind = 1) (h2 : ¬ x.kind = 2) (h3 : ¬ x.kind = 3) : ∃ p, x.parts = [p] := by
  unfold Ex.form at h
  rw [if_neg hk, if_neg h2, if_neg h3] at h
  simp at h
  exact List.length_eq_one_iff.1 h.2

end U
end Go.Proofs.Ytfloeijklogcfaa

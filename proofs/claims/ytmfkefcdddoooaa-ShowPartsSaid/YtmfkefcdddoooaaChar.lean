/- Plain mathematics on character references: lists of bytes; nothing of the program. -/
import Derived.Test.YtmfkefcdddoooaaUtf
namespace Go.Proofs.Ytmfkefcdddoooaa
namespace U

/-! ### P2.1 -/

/-- what stands in place of a byte -/
def esc1 (q : Bool) (b : UInt8) : List UInt8 :=
  if b = 38 then [38, 97, 109, 112, 59] else if b = 60 then [38, 108, 116, 59] else if b = 62 then [38, 103, 116, 59]
  else if (b == 34 && q) = true then [38, 113, 117, 111, 116, 59] else [b]
def esc (q : Bool) (l : List UInt8) : List UInt8 := l.flatMap (esc1 q)

theorem esc_nil (q : Bool) : esc q [] = [] := rfl
theorem esc_cons (q : Bool) (b : UInt8) (l : List UInt8) : esc q (b :: l) = esc1 q b ++ esc q l := by simp [esc]
theorem esc_append (q : Bool) (a b : List UInt8) : esc q (a ++ b) = esc q a ++ esc q b := by simp [esc]
theorem esc1_amp (q : Bool) : esc1 q 38 = [38, 97, 109, 112, 59] := rfl
theorem esc1_lt (q : Bool) : esc1 q 60 = [38, 108, 116, 59] := rfl
theorem esc1_gt (q : Bool) : esc1 q 62 = [38, 103, 116, 59] := rfl
theorem esc1_quot : esc1 true 34 = [38, 113, 117, 111, 116, 59] := rfl
theorem esc1_quot' : esc1 false 34 = [34] := rfl
theorem esc1_other {q : Bool} {b : UInt8} (h1 : b ≠ 38) (h2 : b ≠ 60) (h3 : b ≠ 62) (h4 : b ≠ 34) : esc1 q b = [b] := by
  unfold esc1
  rw [if_neg h1, if_neg h2, if_neg h3, if_neg (by simp [h4])]
theorem esc1_cases (q : Bool) (b : UInt8) : (b = 38 ∧ esc1 q b = [38, 97, 109, 112, 59]) ∨ (b = 60 ∧ esc1 q b = [38, 108, 116, 59]) ∨ (b = 62 ∧ esc1 q b = [38, 103, 116, 59]) ∨
    (b = 34 ∧ q = true ∧ esc1 q b = [38, 113, 117, 111, 116, 59]) ∨ (b ≠ 38 ∧ b ≠ 60 ∧ b ≠ 62 ∧ (b = 34 → q = false) ∧ esc1 q b = [b]) := by
  by_cases h1 : b = 38
  · subst h1; exact .inl ⟨rfl, rfl⟩
  by_cases h2 : b = 60
  · subst h2; exact .inr (.inl ⟨rfl, rfl⟩)
  by_cases h3 : b = 62
  · subst h3; exact .inr (.inr (.inl ⟨rfl, rfl⟩))
  by_cases h4 : b = 34
  · subst h4
    cases q
    · exact .inr (.inr (.inr (.inr ⟨by decide, by decide, by decide, fun _ => rfl, rfl⟩)))
    · exact .inr (.inr (.inr (.inl ⟨rfl, rfl, rfl⟩)))
  · exact .inr (.inr (.inr (.inr ⟨h1, h2, h3, fun h => absurd h h4, esc1_other h1 h2 h3 h4⟩)))
theorem esc1_length (q : Bool) (b : UInt8) : 1 ≤ (esc1 q b).length ∧ (esc1 q b).length ≤ 6 := by
  rcases esc1_cases q b with ⟨_, h⟩ | ⟨_, h⟩ | ⟨_, h⟩ | ⟨_, _, h⟩ | ⟨_, _, _, _, h⟩ <;> rw [h] <;> simp
theorem esc_length (q : Bool) : ∀ l : List UInt8, l.length ≤ (esc q l).length ∧ (esc q l).length ≤ 6 * l.length
  | [] => ⟨Nat.le_refl _, Nat.le_refl _⟩
  | b :: l => by
    have h1 := esc1_length q b
    have h2 := esc_length q l
    rw [esc_cons, List.length_append, List.length_cons]
    omega
/-- no <, no >, and no double quote where that was asked for -/
theorem esc_clean (q : Bool) : ∀ (l : List UInt8) (c : UInt8), c ∈ esc q l → c ≠ 60 ∧ c ≠ 62 ∧ (q = true → c ≠ 34)
  | [], c, h => by cases h
  | b :: l, c, h => by
    rw [esc_cons, List.mem_append] at h
    rcases h with h | h
    · rcases esc1_cases q b with ⟨_, e⟩ | ⟨_, e⟩ | ⟨_, e⟩ | ⟨_, hq, e⟩ | ⟨_, h2, h3, h4, e⟩
      · rw [e] at h; simp at h; rcases h with rfl | rfl | rfl | rfl | rfl <;> exact ⟨by decide, by decide, fun _ => by decide⟩
      · rw [e] at h; simp at h; rcases h with rfl | rfl | rfl | rfl <;> exact ⟨by decide, by decide, fun _ => by decide⟩
      · rw [e] at h; simp at h; rcases h with rfl | rfl | rfl | rfl <;> exact ⟨by decide, by decide, fun _ => by decide⟩
      · rw [e] at h; simp at h; rcases h with rfl | rfl | rfl | rfl | rfl | rfl <;> exact ⟨by decide, by decide, fun _ => by decide⟩
      · rw [e] at h
        simp at h
        subst h
        exact ⟨h2, h3, fun hq e => by have := h4 e; rw [hq] at this; cases this⟩
    · exact esc_clean q l c h

/-! ### P2.2: a reference -/

/-- a digit's number; 99: none -/
def dig (b : UInt8) : Nat :=
  if 48 ≤ b.toNat ∧ b.toNat ≤ 57 then b.toNat - 48 else if 97 ≤ b.toNat ∧ b.toNat ≤ 102 then b.toNat - 87 else if 65 ≤ b.toNat ∧ b.toNat ≤ 70 then b.toNat - 55 else 99
/-- the number that digits write -/
def val (base : Nat) (acc : Nat) (d : List UInt8) : Nat := d.foldl (fun n b => n * base + dig b) acc
/-- all of them digits -/
def allDig (base : Nat) (d : List UInt8) : Bool := d.all fun b => decide (dig b < base)
/-- a number's code point -/
def point (n : Nat) : Nat := if (n == 0 || !isL n) = true then 65533 else n
/-- digits in one base: one to so many -/
def numIn (base most : Nat) (d : List UInt8) : Option Nat := if (decide (1 ≤ d.length ∧ d.length ≤ most) && allDig base d) = true then some (point (val base 0 d)) else none
/-- what stands behind &# -/
def numOf : List UInt8 → Option Nat
  | [] => none
  | b :: d => if b = 120 ∨ b = 88 then numIn 16 6 d else numIn 10 7 (b :: d)
/-- what stands between & and the semicolon -/
def body (l : List UInt8) : Option Nat :=
  if l = [97, 109, 112] then some 38 else if l = [108, 116] then some 60 else if l = [103, 116] then some 62 else if l = [113, 117, 111, 116] then some 34
  else if l = [110, 98, 115, 112] then some 160 else if l = [99, 111, 112, 121] then some 169
  else match l with
    | [] => none
    | b :: d => if b = 35 then numOf d else none
/-- the bytes up to the first semicolon -/
def upTo (l : List UInt8) : List UInt8 := l.takeWhile fun b => b != 59
/-- what stands behind an &: the code point, and the reference's length -/
def refTail (r : List UInt8) : Option (Nat × Nat) := if 59 ∈ r then (body (upTo r)).map fun n => (n, (upTo r).length + 2) else none
/-- what bytes begin with -/
def refAt : List UInt8 → Option (Nat × Nat)
  | [] => none
  | b :: r => if b = 38 then refTail r else none

theorem numOf_nil : numOf [] = none := rfl
theorem numOf_cons (b : UInt8) (d : List UInt8) : numOf (b :: d) = if b = 120 ∨ b = 88 then numIn 16 6 d else numIn 10 7 (b :: d) := rfl
theorem numIn_some {base most : Nat} {d : List UInt8} {n : Nat} (h : numIn base most d = some n) : 1 ≤ d.length ∧ d.length ≤ most ∧ allDig base d = true ∧ n = point (val base 0 d) := by
  unfold numIn at h
  split at h
  · rename_i hc
    simp only [Bool.and_eq_true, decide_eq_true_eq] at hc
    injection h with h
    exact ⟨hc.1.1, hc.1.2, hc.2, h.symm⟩
  · cases h
theorem numOf_short {d : List UInt8} {n : Nat} (h : numOf d = some n) : 1 ≤ d.length ∧ d.length ≤ 7 := by
  cases d with
  | nil => cases h
  | cons b d =>
    rw [numOf_cons] at h
    split at h
    · have := numIn_some h
      rw [List.length_cons]
      omega
    · have := numIn_some h
      omega
theorem body_short {l : List UInt8} {n : Nat} (h : body l = some n) : 2 ≤ l.length ∧ l.length ≤ 8 := by
  unfold body at h
  split at h
  · rename_i e; subst e; decide
  split at h
  · rename_i e; subst e; decide
  split at h
  · rename_i e; subst e; decide
  split at h
  · rename_i e; subst e; decide
  split at h
  · rename_i e; subst e; decide
  split at h
  · rename_i e; subst e; decide
  cases l with
  | nil => cases h
  | cons b d =>
    simp only at h
    split at h
    · have := numOf_short h
      rw [List.length_cons]
      omega
    · cases h
theorem isL_point (n : Nat) : isL (point n) = true := by
  unfold point
  split
  · decide
  · rename_i h
    simp at h
    exact h.2
theorem numOf_isL {d : List UInt8} {n : Nat} (h : numOf d = some n) : isL n = true := by
  cases d with
  | nil => cases h
  | cons b d =>
    rw [numOf_cons] at h
    split at h
    · obtain ⟨_, _, _, rfl⟩ := numIn_some h; exact isL_point _
    · obtain ⟨_, _, _, rfl⟩ := numIn_some h; exact isL_point _
theorem body_isL {l : List UInt8} {n : Nat} (h : body l = some n) : isL n = true := by
  unfold body at h
  split at h
  · injection h with h; subst h; decide
  split at h
  · injection h with h; subst h; decide
  split at h
  · injection h with h; subst h; decide
  split at h
  · injection h with h; subst h; decide
  split at h
  · injection h with h; subst h; decide
  split at h
  · injection h with h; subst h; decide
  cases l with
  | nil => cases h
  | cons b d =>
    simp only at h
    split at h
    · exact numOf_isL h
    · cases h

theorem upTo_append {p r : List UInt8} (h : 59 ∉ p) : upTo (p ++ 59 :: r) = p := by
  unfold upTo
  induction p with
  | nil => rfl
  | cons b p ih =>
    have hb : b ≠ 59 := fun e => h (by rw [e]; exact List.mem_cons_self ..)
    rw [List.cons_append, List.takeWhile_cons, if_pos (by simpa using hb), ih fun h' => h (List.mem_cons_of_mem _ h')]
theorem upTo_split {r : List UInt8} (h : 59 ∈ r) : ∃ t, r = upTo r ++ 59 :: t ∧ 59 ∉ upTo r := by
  unfold upTo
  induction r with
  | nil => cases h
  | cons b r ih =>
    by_cases hb : b = 59
    · subst hb
      exact ⟨r, by simp, by simp⟩
    · have h' : 59 ∈ r := by
        rcases List.mem_cons.1 h with e | h
        · exact absurd e.symm hb
        · exact h
      obtain ⟨t, e, hn⟩ := ih h'
      rw [List.takeWhile_cons, if_pos (by simpa using hb)]
      refine ⟨t, by rw [List.cons_append, ← e], fun hm => ?_⟩
      rcases List.mem_cons.1 hm with e | hm
      · exact hb e.symm
      · exact hn hm
theorem refTail_of {p t : List UInt8} (h : 59 ∉ p) : refTail (p ++ 59 :: t) = (body p).map fun n => (n, p.length + 2) := by
  unfold refTail
  rw [if_pos (by simp), upTo_append h]
theorem refTail_none {r : List UInt8} (h : 59 ∉ r) : refTail r = none := by unfold refTail; rw [if_neg h]
theorem refAt_amp (r : List UInt8) : refAt (38 :: r) = refTail r := by simp [refAt]
theorem refAt_other {b : UInt8} (r : List UInt8) (h : b ≠ 38) : refAt (b :: r) = none := by simp [refAt, h]
/-- a reference: its code point, its length, what it is made of -/
theorem refAt_some {l : List UInt8} {n k : Nat} (h : refAt l = some (n, k)) : ∃ p t, l = 38 :: (p ++ 59 :: t) ∧ 59 ∉ p ∧ body p = some n ∧ k = p.length + 2 ∧ 4 ≤ k ∧ k ≤ 10 ∧ k ≤ l.length ∧ isL n = true := by
  cases l with
  | nil => cases h
  | cons b r =>
    by_cases hb : b = 38
    · subst hb
      rw [refAt_amp] at h
      unfold refTail at h
      split at h
      · rename_i hm
        obtain ⟨t, e, hn⟩ := upTo_split hm
        cases hbd : body (upTo r) with
        | none => rw [hbd] at h; cases h
        | some m =>
          rw [hbd] at h
          simp at h
          obtain ⟨rfl, rfl⟩ := h
          have h1 := body_short hbd
          have h2 := body_isL hbd
          refine ⟨upTo r, t, by rw [← e], hn, hbd, rfl, by omega, by omega, ?_, h2⟩
          have h3 := congrArg List.length e
          rw [List.length_append, List.length_cons] at h3
          rw [List.length_cons]
          omega
      · cases h
    · rw [refAt_other _ hb] at h; cases h

theorem refAt_bounds {l : List UInt8} {n k : Nat} (h : refAt l = some (n, k)) : 4 ≤ k ∧ k ≤ l.length ∧ isL n = true := by
  obtain ⟨_, _, _, _, _, _, h4, _, hk, hL⟩ := refAt_some h
  exact ⟨h4, hk, hL⟩

/-! ### P2.2: a whole text -/

/-- by at most so many steps -/
def unescF : Nat → List UInt8 → List UInt8
  | 0, _ => []
  | _ + 1, [] => []
  | f + 1, b :: r => match refAt (b :: r) with
    | some (n, k) => enc n ++ unescF f ((b :: r).drop k)
    | none => b :: unescF f r
def unesc (l : List UInt8) : List UInt8 := unescF l.length l

theorem unescF_more : ∀ (f : Nat) (l : List UInt8), l.length ≤ f → unescF f l = unescF l.length l
  | 0, l, h => by
    have : l = [] := List.length_eq_zero_iff.1 (by omega)
    subst this; rfl
  | f + 1, [], _ => rfl
  | f + 1, b :: r, h => by
    rw [List.length_cons] at h ⊢
    unfold unescF
    split
    · rename_i n k hr
      obtain ⟨_, _, _, _, _, _, h4, _, hk, _⟩ := refAt_some hr
      rw [List.length_cons] at hk
      have hd : ((b :: r).drop k).length = r.length + 1 - k := by simp
      rw [unescF_more f _ (by omega), unescF_more r.length _ (by omega)]
    · rw [unescF_more f r (by omega)]
theorem unesc_nil : unesc [] = [] := rfl
theorem unesc_some {l : List UInt8} {n k : Nat} (h : refAt l = some (n, k)) : unesc l = enc n ++ unesc (l.drop k) := by
  cases l with
  | nil => cases h
  | cons b r =>
    obtain ⟨_, _, _, _, _, _, h4, _, hk, _⟩ := refAt_some h
    have hd : ((b :: r).drop k).length = r.length + 1 - k := by simp
    rw [List.length_cons] at hk
    show unescF (r.length + 1) (b :: r) = _
    unfold unescF
    rw [h]
    simp only
    rw [unescF_more r.length _ (by omega)]
    rfl
theorem unesc_none {b : UInt8} {r : List UInt8} (h : refAt (b :: r) = none) : unesc (b :: r) = b :: unesc r := by
  show unescF (r.length + 1) (b :: r) = _
  unfold unescF
  rw [h]
  rfl
theorem unesc_plain {b : UInt8} (r : List UInt8) (h : b ≠ 38) : unesc (b :: r) = b :: unesc r := unesc_none (refAt_other r h)
theorem unesc_pre {p : List UInt8} (s : List UInt8) (h : 38 ∉ p) : unesc (p ++ s) = p ++ unesc s := by
  induction p with
  | nil => rfl
  | cons b p ih =>
    rw [List.cons_append, unesc_plain _ (fun e => h (by rw [e]; exact List.mem_cons_self ..)), ih fun h' => h (List.mem_cons_of_mem _ h'), List.cons_append]
theorem unesc_same {p : List UInt8} (h : 38 ∉ p) : unesc p = p := by
  have := unesc_pre [] h
  simpa [unesc_nil] using this
/-- one reference, whatever stands behind -/
theorem unesc_ref {p : List UInt8} {n : Nat} (t : List UInt8) (h : 59 ∉ p) (hb : body p = some n) : unesc (38 :: (p ++ 59 :: t)) = enc n ++ unesc t := by
  have hr : refAt (38 :: (p ++ 59 :: t)) = some (n, p.length + 2) := by rw [refAt_amp, refTail_of h, hb]; rfl
  rw [unesc_some hr]
  have : (38 :: (p ++ 59 :: t)).drop (p.length + 2) = t := by
    rw [List.drop_succ_cons, ← List.drop_drop (i := 1), List.drop_left' rfl]
    rfl
  rw [this]
/-- WHAT IS ESCAPED COMES BACK -/
theorem unesc_esc1 (q : Bool) (b : UInt8) (t : List UInt8) : unesc (esc1 q b ++ t) = b :: unesc t := by
  rcases esc1_cases q b with ⟨rfl, e⟩ | ⟨rfl, e⟩ | ⟨rfl, e⟩ | ⟨rfl, _, e⟩ | ⟨h1, _, _, _, e⟩
  · rw [e]; exact unesc_ref (p := [97, 109, 112]) t (by decide) rfl
  · rw [e]; exact unesc_ref (p := [108, 116]) t (by decide) rfl
  · rw [e]; exact unesc_ref (p := [103, 116]) t (by decide) rfl
  · rw [e]; exact unesc_ref (p := [113, 117, 111, 116]) t (by decide) rfl
  · rw [e]; exact unesc_plain t h1
theorem unesc_esc (q : Bool) (l t : List UInt8) : unesc (esc q l ++ t) = l ++ unesc t := by
  induction l with
  | nil => rfl
  | cons b l ih => rw [esc_cons, List.append_assoc, unesc_esc1, ih, List.cons_append]
theorem unesc_esc_nil (q : Bool) (l : List UInt8) : unesc (esc q l) = l := by
  have := unesc_esc q l []
  simpa [unesc_nil] using this
theorem unesc_amp (t : List UInt8) : unesc ([38, 97, 109, 112, 59] ++ t) = 38 :: unesc t := unesc_ref (p := [97, 109, 112]) t (by decide) rfl
/-- it is never longer -/
theorem unesc_length : ∀ (f : Nat) (l : List UInt8), l.length ≤ f → (unesc l).length ≤ l.length
  | 0, l, h => by
    have : l = [] := List.length_eq_zero_iff.1 (by omega)
    subst this; exact Nat.le_refl _
  | f + 1, [], _ => Nat.le_refl _
  | f + 1, b :: r, h => by
    rw [List.length_cons] at h ⊢
    cases hr : refAt (b :: r) with
    | none => rw [unesc_none hr, List.length_cons]; have := unesc_length f r (by omega); omega
    | some x =>
      obtain ⟨n, k⟩ := x
      obtain ⟨_, _, _, _, _, _, h4, _, hk, _⟩ := refAt_some hr
      rw [List.length_cons] at hk
      have hd : ((b :: r).drop k).length = r.length + 1 - k := by simp
      have h1 := unesc_length f ((b :: r).drop k) (by omega)
      have h2 := (enc_length n).2
      rw [unesc_some hr, List.length_append]
      omega
theorem unesc_le (l : List UInt8) : (unesc l).length ≤ l.length := unesc_length _ l (Nat.le_refl _)

end U
end Go.Proofs.Ytmfkefcdddoooaa

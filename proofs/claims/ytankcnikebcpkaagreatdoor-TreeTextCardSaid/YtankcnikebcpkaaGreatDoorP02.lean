/- Several texts in one: ReadMath, Digits, Lead, ToksMath. -/
import Derived.Lib.Strings
import Derived.Lib.IndexLaws
import Derived.Lib.Small
import Derived.Test.YtankcnikebcpkaaGreatDoorP01
import Derived.Test.YtankcnikebcpkaaGreatDoorP00
namespace Go.Proofs.YtankcnikebcpkaaGreatDoor
namespace U

/-- bytes of an element's name, of an attribute's name, of a value without quotes; bytes that are skipped -/
def nameB (b : UInt8) : Bool := !endsName b
def attB (b : UInt8) : Bool := !(endsName b || b == 61)
def bareB (b : UInt8) : Bool := !(isSp b || b == 62)
def gapB (b : UInt8) : Bool := isSp b || b == 47
/-- whether the last byte skipped is a slash -/
def slashOf (sl : Bool) (l : List UInt8) : Bool := l.foldl (fun _ c => c == 47) sl

theorem run_same {st st' : St} {b : UInt8} (r : List UInt8) (h : step st b = step st' b) : runM st (b :: r) = runM st' (b :: r) := by
  rw [runM, runM, h]

theorem run_name : ∀ (l t n v : List UInt8) (q : UInt8) (sl : Bool) (al : List Att), runM ⟨0, t, n, v, q, sl, al⟩ l = runM ⟨1, t ++ l.takeWhile nameB, n, v, q, false, al⟩ (l.dropWhile nameB)
  | [], t, n, v, q, sl, al => rfl
  | b :: l, t, n, v, q, sl, al => by
    by_cases h : nameB b = true
    · have h0 := h
      simp only [nameB, endsName, Bool.not_eq_true', Bool.or_eq_false_iff, beq_eq_false_iff_ne] at h0
      obtain ⟨⟨h1, h2⟩, h3⟩ := h0
      rw [List.takeWhile_cons_of_pos h, List.dropWhile_cons_of_pos h, runM_go l (step_N4 h1 h2 h3), run_name l, List.append_assoc, List.singleton_append]
    · rw [List.takeWhile_cons_of_neg h, List.dropWhile_cons_of_neg h, List.append_nil]
      have h0 : endsName b = true := by simpa [nameB] using h
      simp only [endsName, Bool.or_eq_true, beq_iff_eq] at h0
      apply run_same
      rcases h0 with (h1 | h2) | h3
      · rw [step_N1 h1, step_A3 h1]
      · rw [step_N2 h2, step_A2 h2]
      · rw [step_N3 h3, step_A1 h3]

theorem run_gap : ∀ (l t n v : List UInt8) (q : UInt8) (sl : Bool) (al : List Att), runM ⟨1, t, n, v, q, sl, al⟩ l = runM ⟨1, t, n, v, q, slashOf sl (l.takeWhile gapB), al⟩ (l.dropWhile gapB)
  | [], t, n, v, q, sl, al => rfl
  | b :: l, t, n, v, q, sl, al => by
    by_cases h : gapB b = true
    · rw [List.takeWhile_cons_of_pos h, List.dropWhile_cons_of_pos h]
      simp only [gapB, Bool.or_eq_true, beq_iff_eq] at h
      rcases h with h1 | h2
      · rw [runM_go l (step_A3 h1), run_gap l]
        have : (b == 47) = false := beq_eq_false_iff_ne.2 (isSp_ne h1).1
        simp only [slashOf, List.foldl_cons, this]
      · rw [runM_go l (step_A2 h2), run_gap l]
        have : (b == 47) = true := beq_iff_eq.2 h2
        simp only [slashOf, List.foldl_cons, this]
    · rw [List.takeWhile_cons_of_neg h, List.dropWhile_cons_of_neg h]
      rfl

theorem run_close (r t n v : List UInt8) (q : UInt8) (sl : Bool) (al : List Att) : runM ⟨1, t, n, v, q, sl, al⟩ (62 :: r) = some (⟨1, t, n, v, q, sl, al⟩, r) := runM_fin r (step_A1 rfl)
theorem run_open (b : UInt8) (r t n v : List UInt8) (q : UInt8) (sl : Bool) (al : List Att) (h : gapB b = false) (h2 : b ≠ 62) : runM ⟨1, t, n, v, q, sl, al⟩ (b :: r) = runM ⟨2, t, [b], v, q, sl, al⟩ r := by
  simp only [gapB, Bool.or_eq_false_iff, beq_eq_false_iff_ne] at h
  exact runM_go r (step_A4 h.1 h.2 h2)

theorem run_att : ∀ (l t n v : List UInt8) (q : UInt8) (sl : Bool) (al : List Att), runM ⟨2, t, n, v, q, sl, al⟩ l = runM ⟨3, t, n ++ l.takeWhile attB, v, q, sl, al⟩ (l.dropWhile attB)
  | [], t, n, v, q, sl, al => rfl
  | b :: l, t, n, v, q, sl, al => by
    by_cases h : attB b = true
    · have h0 := h
      simp only [attB, endsName, Bool.not_eq_true', Bool.or_eq_false_iff, beq_eq_false_iff_ne] at h0
      obtain ⟨⟨⟨h1, h2⟩, h3⟩, h4⟩ := h0
      rw [List.takeWhile_cons_of_pos h, List.dropWhile_cons_of_pos h, runM_go l (step_B5 h1 h2 h3 h4), run_att l, List.append_assoc, List.singleton_append]
    · rw [List.takeWhile_cons_of_neg h, List.dropWhile_cons_of_neg h, List.append_nil]
      have h0 : (endsName b || b == 61) = true := by cases hh : (endsName b || b == 61) with
        | true => rfl
        | false => exact absurd (by simp only [attB, hh, Bool.not_false]) h
      simp only [endsName, Bool.or_eq_true, beq_iff_eq] at h0
      apply run_same
      rcases h0 with ((h1 | h2) | h3) | h4
      · rw [step_B1 h1, step_C1 h1]
      · rw [step_B2 h2, step_C3 h2]
      · rw [step_B3 h3, step_C4 h3]
      · rw [step_B4 h4, step_C2 h4]

theorem run_gap3 : ∀ (l t n v : List UInt8) (q : UInt8) (sl : Bool) (al : List Att), runM ⟨3, t, n, v, q, sl, al⟩ l = runM ⟨3, t, n, v, q, sl, al⟩ (l.dropWhile isSp)
  | [], t, n, v, q, sl, al => rfl
  | b :: l, t, n, v, q, sl, al => by
    by_cases h : isSp b = true
    · rw [List.dropWhile_cons_of_pos h, runM_go l (step_C1 h), run_gap3 l]
    · rw [List.dropWhile_cons_of_neg h]
theorem run_gap4 : ∀ (l t n v : List UInt8) (q : UInt8) (sl : Bool) (al : List Att), runM ⟨4, t, n, v, q, sl, al⟩ l = runM ⟨4, t, n, v, q, sl, al⟩ (l.dropWhile isSp)
  | [], t, n, v, q, sl, al => rfl
  | b :: l, t, n, v, q, sl, al => by
    by_cases h : isSp b = true
    · rw [List.dropWhile_cons_of_pos h, runM_go l (step_D1 h), run_gap4 l]
    · rw [List.dropWhile_cons_of_neg h]
theorem run_noval (b : UInt8) (r t n v : List UInt8) (q : UInt8) (sl : Bool) (al : List Att) (hs : isSp b = false) (h61 : b ≠ 61) : runM ⟨3, t, n, v, q, sl, al⟩ (b :: r) = runM ⟨1, t, n, v, q, false, al ++ [(low n, [])]⟩ (b :: r) := by
  apply run_same
  by_cases h47 : b = 47
  · rw [step_C3 h47, step_A2 h47]
  by_cases h62 : b = 62
  · rw [step_C4 h62, step_A1 h62]
  rw [step_C5 hs h47 h62 h61, step_A4 hs h47 h62]
theorem run_eq (r t n v : List UInt8) (q : UInt8) (sl : Bool) (al : List Att) : runM ⟨3, t, n, v, q, sl, al⟩ (61 :: r) = runM ⟨4, t, n, v, q, sl, al⟩ r := runM_go r (step_C2 rfl)
theorem run_quote (b : UInt8) (r t n v : List UInt8) (q : UInt8) (sl : Bool) (al : List Att) (hq : b = 34 ∨ b = 39) : runM ⟨4, t, n, v, q, sl, al⟩ (b :: r) = runM ⟨5, t, n, [], b, sl, al⟩ r :=
  runM_go r (step_D2 (by rcases hq with rfl | rfl <;> rfl) hq)
theorem run_bare (b : UInt8) (r t n v : List UInt8) (q : UInt8) (sl : Bool) (al : List Att) (hs : isSp b = false) (hq : ¬ (b = 34 ∨ b = 39)) : runM ⟨4, t, n, v, q, sl, al⟩ (b :: r) = runM ⟨6, t, n, [], q, sl, al⟩ (b :: r) := runM_again r (step_D3 hs hq)
theorem run_quoted : ∀ (l t n v : List UInt8) (q : UInt8) (sl : Bool) (al : List Att), runM ⟨5, t, n, v, q, sl, al⟩ l = match placeOf [q] l with
    | none => none
    | some k => runM ⟨1, t, n, v ++ l.take k, q, false, al ++ [(low n, unesc (v ++ l.take k))]⟩ (l.drop (k + 1))
  | [], t, n, v, q, sl, al => rfl
  | b :: l, t, n, v, q, sl, al => by
    by_cases h : b = q
    · have hp : placeOf [q] (b :: l) = some 0 := by rw [placeOf]; simp [h]
      rw [hp, runM_go l (step_E1 h)]
      simp
    · have hp : placeOf [q] (b :: l) = (placeOf [q] l).map (· + 1) := by rw [placeOf, if_neg (by simp [h])]
      rw [hp, runM_go l (step_E2 h), run_quoted l]
      cases placeOf [q] l with
      | none => rfl
      | some k => simp
theorem run_bared : ∀ (l t n v : List UInt8) (q : UInt8) (sl : Bool) (al : List Att), runM ⟨6, t, n, v, q, sl, al⟩ l = runM ⟨1, t, n, v ++ l.takeWhile bareB, q, false, al ++ [(low n, unesc (v ++ l.takeWhile bareB))]⟩ (l.dropWhile bareB)
  | [], t, n, v, q, sl, al => rfl
  | b :: l, t, n, v, q, sl, al => by
    by_cases h : bareB b = true
    · have h0 := h
      simp only [bareB, Bool.not_eq_true', Bool.or_eq_false_iff, beq_eq_false_iff_ne] at h0
      rw [List.takeWhile_cons_of_pos h, List.dropWhile_cons_of_pos h, runM_go l (step_F3 h0.1 h0.2), run_bared l, List.append_assoc, List.singleton_append]
    · rw [List.takeWhile_cons_of_neg h, List.dropWhile_cons_of_neg h, List.append_nil]
      have h0 : (isSp b || b == 62) = true := by cases hh : (isSp b || b == 62) with
        | true => rfl
        | false => exact absurd (by simp only [bareB, hh, Bool.not_false]) h
      simp only [Bool.or_eq_true, beq_iff_eq] at h0
      apply run_same
      rcases h0 with h1 | h2
      · rw [step_F1 h1, step_A3 h1]
      · rw [step_F2 h2, step_A1 h2]

/-- one attribute: what it adds, and what is left -/
def readVal (l : List UInt8) : List UInt8 × List UInt8 := match l with
  | [] => ([], [])
  | b :: r => if b = 34 ∨ b = 39 then (match placeOf [b] r with
      | none => (r, [])
      | some k => (r.take k, r.drop (k + 1)))
    else (l.takeWhile bareB, l.dropWhile bareB)
def readAtt (b : UInt8) (r : List UInt8) : Att × List UInt8 :=
  match (r.dropWhile attB).dropWhile isSp with
  | 61 :: u => ((low (b :: r.takeWhile attB), unesc (readVal (u.dropWhile isSp)).1), (readVal (u.dropWhile isSp)).2)
  | u => ((low (b :: r.takeWhile attB), []), u)
theorem drop_not (p : UInt8 → Bool) (l : List UInt8) {b : UInt8} {r : List UInt8} (h : l.dropWhile p = b :: r) : p b = false := by
  induction l with
  | nil => cases h
  | cons a l ih =>
    by_cases ha : p a = true
    · rw [List.dropWhile_cons_of_pos ha] at h; exact ih h
    · rw [List.dropWhile_cons_of_neg ha] at h
      injection h with h _
      subst h
      simpa using ha
theorem run_val (l t n v : List UInt8) (q : UInt8) (sl : Bool) (al : List Att) : ∃ v' q', runM ⟨4, t, n, v, q, sl, al⟩ (l.dropWhile isSp) = runM ⟨1, t, n, v', q', false, al ++ [(low n, unesc (readVal (l.dropWhile isSp)).1)]⟩ (readVal (l.dropWhile isSp)).2 := by
  cases h : l.dropWhile isSp with
  | nil => exact ⟨v, q, rfl⟩
  | cons b r =>
    have hs := drop_not isSp l h
    by_cases hq : b = 34 ∨ b = 39
    · rw [run_quote b r t n v q sl al hq, run_quoted]
      unfold readVal
      simp only [if_pos hq]
      cases hp : placeOf [b] r with
      | none => exact ⟨v, q, rfl⟩
      | some k => exact ⟨r.take k, b, by simp⟩
    · rw [run_bare b r t n v q sl al hs hq, run_bared]
      unfold readVal
      simp only [if_neg hq]
      exact ⟨(b :: r).takeWhile bareB, q, by simp⟩
theorem run_readAtt (b : UInt8) (r t n v : List UInt8) (q : UInt8) (sl : Bool) (al : List Att) (h : gapB b = false) (h2 : b ≠ 62) :
    ∃ n' v' q', runM ⟨1, t, n, v, q, sl, al⟩ (b :: r) = runM ⟨1, t, n', v', q', false, al ++ [(readAtt b r).1]⟩ (readAtt b r).2 := by
  rw [run_open b r t n v q sl al h h2, run_att, run_gap3, List.singleton_append]
  unfold readAtt
  split
  · rename_i u hu
    rw [hu, run_eq, run_gap4]
    obtain ⟨v', q', e⟩ := run_val u t (b :: r.takeWhile attB) v q sl al
    exact ⟨_, v', q', e⟩
  · rename_i u hu
    cases he : (r.dropWhile attB).dropWhile isSp with
    | nil => exact ⟨n, v, q, rfl⟩
    | cons c u' =>
      have hs := drop_not isSp _ he
      rw [run_noval c u' t (b :: r.takeWhile attB) v q sl al hs (fun e => hu u' (by rw [he, e]))]
      exact ⟨_, _, _, rfl⟩

/-- the attributes, one by one -/
def withAtt (acc : List Att) (a : Att) : List Att := if acc.all (fun c => c.1 != a.1) = true then acc ++ [a] else acc
theorem firsts_snoc : ∀ (l acc : List Att) (a : Att), firsts acc (l ++ [a]) = withAtt (firsts acc l) a
  | [], acc, a => rfl
  | b :: l, acc, a => by
    rw [List.cons_append, firsts, firsts, firsts_snoc l]
theorem slashOf_append (a : List UInt8) (c : UInt8) (sl : Bool) : slashOf sl (a ++ [c]) = (c == 47) := by simp [slashOf]
theorem slashOf_suffix (a : List UInt8) : slashOf false a = List.isSuffixOf [47] a := by
  rcases List.eq_nil_or_concat a with rfl | ⟨l, c, rfl⟩
  · rfl
  · rw [List.concat_eq_append, slashOf_append]
    simp [List.isSuffixOf, List.isPrefixOf]
    rw [Bool.beq_comm]

end U
end Go.Proofs.YtankcnikebcpkaaGreatDoor

namespace Go.Proofs.YtankcnikebcpkaaGreatDoor
namespace U

theorem allDig_append (base : Nat) (a b : List UInt8) : allDig base (a ++ b) = (allDig base a && allDig base b) := by simp [allDig]
theorem allDig_one (base : Nat) (c : UInt8) : allDig base [c] = decide (dig c < base) := by simp [allDig]
theorem val_append (base acc : Nat) (a b : List UInt8) : val base acc (a ++ b) = val base (val base acc a) b := by simp [val, List.foldl_append]
theorem val_one (base acc : Nat) (c : UInt8) : val base acc [c] = acc * base + dig c := rfl
theorem val_lt (base : Nat) : ∀ (d : List UInt8) (acc : Nat), allDig base d = true → val base acc d < (acc + 1) * base ^ d.length
  | [], acc, _ => by simp [val]
  | c :: d, acc, h => by
    have h1 : dig c < base := by simpa [allDig] using (List.all_eq_true.1 h) c (List.mem_cons_self ..)
    have h2 : allDig base d = true := List.all_eq_true.2 fun x hx => (List.all_eq_true.1 h) x (List.mem_cons_of_mem _ hx)
    have h3 := val_lt base d (acc * base + dig c) h2
    have e : val base acc (c :: d) = val base (acc * base + dig c) d := rfl
    rw [e, List.length_cons, Nat.pow_succ]
    refine Nat.lt_of_lt_of_le h3 ?_
    rw [Nat.mul_comm (base ^ d.length) base, ← Nat.mul_assoc]
    apply Nat.mul_le_mul_right
    rw [Nat.add_mul]
    omega
theorem val_small {base : Nat} {d : List UInt8} (h : allDig base d = true) (hb : base ≤ 16) (hl : d.length ≤ 7) : val base 0 d < 268435456 := by
  have h1 := val_lt base d 0 h
  have h2 : base ^ d.length ≤ 16 ^ d.length := Nat.pow_le_pow_left hb _
  have h3 : 16 ^ d.length ≤ 16 ^ 7 := Nat.pow_le_pow_right (by decide) hl
  have h4 : (16 : Nat) ^ 7 = 268435456 := by decide
  omega
theorem val_small8 {base : Nat} {d : List UInt8} (h : allDig base d = true) (hb : base ≤ 16) (hl : d.length ≤ 8) : val base 0 d < 4294967296 := by
  have h1 := val_lt base d 0 h
  have h2 : base ^ d.length ≤ 16 ^ d.length := Nat.pow_le_pow_left hb _
  have h3 : 16 ^ d.length ≤ 16 ^ 8 := Nat.pow_le_pow_right (by decide) hl
  have h4 : (16 : Nat) ^ 8 = 4294967296 := by decide
  omega
theorem allDig_take {base : Nat} {l : List UInt8} {j : Nat} (h : allDig base (l.take j) = true) (m : Nat) (hm : m ≤ j) : allDig base (l.take m) = true := by
  refine List.all_eq_true.2 fun x hx => List.all_eq_true.1 h x ?_
  have : l.take m = (l.take j).take m := by rw [List.take_take, Nat.min_eq_left hm]
  rw [this] at hx
  exact List.mem_of_mem_take hx
theorem take_succ_get {l : List UInt8} {k : Nat} {c : UInt8} (h : l[k]? = some c) : l.take (k + 1) = l.take k ++ [c] := by
  obtain ⟨hk, e⟩ := List.getElem?_eq_some_iff.1 h
  rw [List.take_succ_eq_append_getElem hk, e]
/-- one digit more -/
theorem dig_more {base : Nat} {l : List UInt8} {k : Nat} {c : UInt8} (h : l[k]? = some c) (ha : allDig base (l.take k) = true) (hd : dig c < base) :
    allDig base (l.take (k + 1)) = true ∧ val base 0 (l.take (k + 1)) = val base 0 (l.take k) * base + dig c := by
  rw [take_succ_get h, allDig_append, ha, allDig_one, decide_eq_true hd, val_append, val_one]
  exact ⟨rfl, rfl⟩
theorem dig_bad {base : Nat} {l : List UInt8} {k : Nat} {c : UInt8} (h : l[k]? = some c) (hd : ¬ dig c < base) : allDig base l = false := by
  rw [Bool.eq_false_iff]
  intro ha
  have := List.all_eq_true.1 ha c (List.mem_of_getElem? h)
  simp at this
  exact hd this
/-- a digit's kinds -/
theorem dig_09 {c : UInt8} (h0 : 48 ≤ c.toNat) (h1 : c.toNat ≤ 57) : dig c = c.toNat - 48 := by unfold dig; rw [if_pos ⟨h0, h1⟩]
theorem dig_af {c : UInt8} (h0 : 97 ≤ c.toNat) (h1 : c.toNat ≤ 102) : dig c = c.toNat - 87 := by unfold dig; rw [if_neg (by omega), if_pos ⟨h0, h1⟩]
theorem dig_AF {c : UInt8} (h0 : 65 ≤ c.toNat) (h1 : c.toNat ≤ 70) : dig c = c.toNat - 55 := by unfold dig; rw [if_neg (by omega), if_neg (by omega), if_pos ⟨h0, h1⟩]
theorem dig_no {c : UInt8} (h0 : ¬ (48 ≤ c.toNat ∧ c.toNat ≤ 57)) (h1 : ¬ (97 ≤ c.toNat ∧ c.toNat ≤ 102)) (h2 : ¬ (65 ≤ c.toNat ∧ c.toNat ≤ 70)) : dig c = 99 := by unfold dig; rw [if_neg h0, if_neg h1, if_neg h2]
/-- the bit 32 set -/
theorem lower_all : ∀ c : Fin 256, bits .or .u8 ((c.val : Nat) : Int) 32 = ((if c.val / 32 % 2 = 0 then c.val + 32 else c.val : Nat) : Int) := by decide +kernel
theorem lower_eq {c : Nat} (h : c < 256) : bits .or .u8 (c : Int) 32 = ((if c / 32 % 2 = 0 then c + 32 else c : Nat) : Int) := lower_all ⟨c, h⟩
theorem lower_at {c : Nat} (h : c < 256) (v : Nat) (hv : (if c / 32 % 2 = 0 then c + 32 else c) = v) : bits .or .u8 (c : Int) 32 = (v : Int) := by rw [lower_eq h, hv]

end U
end Go.Proofs.YtankcnikebcpkaaGreatDoor

namespace Go.Proofs.YtankcnikebcpkaaGreatDoor
namespace U

/-- a reference by name -/
def nameOf (l : List UInt8) : Option Nat :=
  if l = [97, 109, 112] then some 38 else if l = [108, 116] then some 60 else if l = [103, 116] then some 62 else if l = [113, 117, 111, 116] then some 34
  else if l = [110, 98, 115, 112] then some 160 else if l = [99, 111, 112, 121] then some 169 else none
theorem body_hash (d : List UInt8) : body (35 :: d) = numOf d := by
  unfold body
  rw [if_neg (by simp), if_neg (by simp), if_neg (by simp), if_neg (by simp), if_neg (by simp), if_neg (by simp)]
  simp
theorem body_name {l : List UInt8} (h : ∀ d, l ≠ 35 :: d) : body l = nameOf l := by
  unfold body nameOf
  split
  · rfl
  split
  · rfl
  split
  · rfl
  split
  · rfl
  split
  · rfl
  split
  · rfl
  cases l with
  | nil => rfl
  | cons b d =>
    simp only
    rw [if_neg (fun e => h d (by rw [e]))]

theorem numIn_short {base most : Nat} {d : List UInt8} (h : d.length ≤ most) : numIn base most d = if (decide (d ≠ []) && allDig base d) = true then some (point (val base 0 d)) else none := by
  unfold numIn
  have e : decide (1 ≤ d.length ∧ d.length ≤ most) = decide (d ≠ []) := by
    rw [decide_eq_decide]
    cases d with
    | nil => simp
    | cons b d => simp at h ⊢; exact h
  rw [e]

theorem index_cases (r : List UInt8) : (Lib.indexByte ((38 :: r).take 10) 59 = -1 ∧ refTail r = none) ∨
    ∃ o : Nat, 1 ≤ o ∧ o ≤ 9 ∧ o ≤ r.length ∧ Lib.indexByte ((38 :: r).take 10) 59 = (o : Int) ∧ refTail r = (body (r.take (o - 1))).map fun n => (n, o + 1) := by
  have hge := Lib.indexByte_ge ((38 :: r).take 10) 59
  by_cases hneg : Lib.indexByte ((38 :: r).take 10) 59 = -1
  · refine .inl ⟨hneg, ?_⟩
    cases hr : refTail r with
    | none => rfl
    | some x =>
      obtain ⟨n, k⟩ := x
      obtain ⟨p, t, e, _, _, hk, _, h10, _, _⟩ := refAt_some (by rw [refAt_amp]; exact hr)
      have h1 := Lib.indexByte_none hneg (p.length + 1)
      rw [List.getElem?_take_of_lt (by omega), e] at h1
      exact absurd (by simp) h1
  · obtain ⟨o, ho⟩ : ∃ o : Nat, Lib.indexByte ((38 :: r).take 10) 59 = (o : Int) := Int.eq_ofNat_of_zero_le (by omega)
    obtain ⟨h1, h2⟩ := Lib.indexByte_some ho
    have hlt := (List.getElem?_eq_some_iff.1 h1).1
    rw [List.length_take, List.length_cons] at hlt
    rw [List.getElem?_take_of_lt (by omega)] at h1
    obtain ⟨q, rfl⟩ : ∃ q, o = q + 1 := by
      cases o with
      | zero => simp at h1
      | succ q => exact ⟨q, rfl⟩
    rw [List.getElem?_cons_succ] at h1
    have hq : q < r.length := by omega
    have hno : 59 ∉ r.take q := by
      intro hm
      obtain ⟨k, hk⟩ := List.getElem?_of_mem hm
      have hk2 := (List.getElem?_eq_some_iff.1 hk).1
      rw [List.length_take] at hk2
      rw [List.getElem?_take_of_lt (by omega)] at hk
      have := h2 (k + 1) (by omega)
      rw [List.getElem?_take_of_lt (by omega), List.getElem?_cons_succ] at this
      exact this hk
    have hsp : r = r.take q ++ 59 :: r.drop (q + 1) := by
      have e : r.drop q = 59 :: r.drop (q + 1) := by
        obtain ⟨hk, e⟩ := List.getElem?_eq_some_iff.1 h1
        rw [List.drop_eq_getElem_cons hk, e]
      rw [← e, List.take_append_drop]
    refine .inr ⟨q + 1, by omega, by omega, by omega, ho, ?_⟩
    have := refTail_of (t := r.drop (q + 1)) hno
    rw [← hsp, List.length_take, Nat.min_eq_left (by omega)] at this
    rw [this]
    simp

theorem valid_eq {n : Nat} : Lib.validRune (n : Int) = isL n := by
  unfold Lib.validRune isL
  rw [decide_eq_decide]
  omega
theorem prefix_hash (l : List UInt8) : Lib.hasPrefix l [35] = (match l with | [] => false | b :: _ => b == 35) := by
  unfold Lib.hasPrefix
  cases l with
  | nil => rfl
  | cons b d =>
    show ((35 : UInt8) == b && true) = (b == 35)
    rw [Bool.and_true, Bool.eq_iff_iff, beq_iff_eq, beq_iff_eq]
    exact ⟨Eq.symm, Eq.symm⟩
theorem prefix_hash_yes (d : List UInt8) : Lib.hasPrefix (35 :: d) [35] = true ∧ Lib.trimPrefix (35 :: d) [35] = d := by
  have h : Lib.hasPrefix (35 :: d) [35] = true := by rw [prefix_hash]; rfl
  exact ⟨h, by unfold Lib.trimPrefix; rw [if_pos h]; rfl⟩
theorem prefix_hash_no {l : List UInt8} (h : ∀ d, l ≠ 35 :: d) : Lib.hasPrefix l [35] = false := by
  rw [prefix_hash]
  cases l with
  | nil => rfl
  | cons b d =>
    have : b ≠ 35 := fun e => h d (by rw [e])
    simpa using this

end U
end Go.Proofs.YtankcnikebcpkaaGreatDoor

namespace Go.Proofs.YtankcnikebcpkaaGreatDoor
namespace U

/-- the kind of the token that begins here: 1 a start, 2 an end, 4 a comment, 3 a text -/
def kindS : List UInt8 → Nat
  | [] => 3
  | d :: _ => if isAl d = true then 2 else 4
def kindOf : List UInt8 → Nat
  | a :: c :: r => if a ≠ 60 then 3 else if isAl c = true then 1 else if c = 33 ∨ c = 63 then 4 else if c = 47 then kindS r else 3
  | _ => 3
theorem kindOf_cons (a c : UInt8) (r : List UInt8) : kindOf (a :: c :: r) = if a ≠ 60 then 3 else if isAl c = true then 1 else if c = 33 ∨ c = 63 then 4 else if c = 47 then kindS r else 3 := rfl
theorem kindS_cons (d : UInt8) (r : List UInt8) : kindS (d :: r) = if isAl d = true then 2 else 4 := rfl
theorem item_cons (a c : UInt8) (r : List UInt8) : item (a :: c :: r) = if a ≠ 60 then .text else if isAl c = true then startI (c :: r) else if c = 33 then bangI r else if c = 63 then markI [62] (c :: r) else if c = 47 then slashI r else .text := rfl
theorem slashI_cons (d : UInt8) (r : List UInt8) : slashI (d :: r) = if isAl d = true then closeI (d :: r) else markI [62] (d :: r) := rfl
theorem isAl_ne {c : UInt8} (h : isAl c = true) : c ≠ 33 ∧ c ≠ 63 ∧ c ≠ 47 := by
  refine ⟨?_, ?_, ?_⟩ <;> rintro rfl <;> exact absurd h (by decide)
theorem item_text {l : List UInt8} (h : kindOf l = 3) : item l = .text := by
  match l, h with
  | [], _ => rfl
  | [a], _ => rfl
  | a :: c :: r, h =>
    rw [kindOf_cons] at h
    rw [item_cons]
    split at h
    · rename_i h1; rw [if_pos h1]
    rename_i h1
    rw [if_neg h1]
    split at h
    · cases h
    rename_i h2
    rw [if_neg h2]
    split at h
    · cases h
    rename_i h3
    rw [if_neg (fun e => h3 (.inl e)), if_neg (fun e => h3 (.inr e))]
    split at h
    · rename_i h4
      rw [if_pos h4]
      cases r with
      | nil => rfl
      | cons d r' => rw [kindS_cons] at h; split at h <;> cases h
    · rename_i h4; rw [if_neg h4]
theorem item_start {l : List UInt8} (h : kindOf l = 1) : ∃ c r, l = 60 :: c :: r ∧ isAl c = true ∧ item l = startI (c :: r) := by
  match l, h with
  | a :: c :: r, h =>
    rw [kindOf_cons] at h
    split at h
    · cases h
    rename_i h1
    split at h
    · rename_i h2
      exact ⟨c, r, by simpa using h1, h2, by rw [item_cons]; rw [if_neg h1, if_pos h2]⟩
    split at h
    · cases h
    split at h
    · cases r with
      | nil => cases h
      | cons d r' => rw [kindS_cons] at h; split at h <;> cases h
    · cases h
theorem item_end {l : List UInt8} (h : kindOf l = 2) : ∃ c r, l = 60 :: 47 :: c :: r ∧ isAl c = true ∧ item l = closeI (c :: r) := by
  match l, h with
  | a :: c :: r, h =>
    rw [kindOf_cons] at h
    split at h
    · cases h
    rename_i h1
    split at h
    · cases h
    rename_i h2
    split at h
    · cases h
    rename_i h3
    split at h
    · rename_i h4
      subst h4
      cases r with
      | nil => cases h
      | cons d r' =>
        rw [kindS_cons] at h
        split at h
        · rename_i h5
          refine ⟨d, r', by simpa using h1, h5, ?_⟩
          rw [item_cons]
          rw [if_neg h1, if_neg h2, if_neg (by decide), if_neg (by decide), if_pos rfl]
          rw [slashI_cons, if_pos h5]
        · cases h
    · cases h
/-- a comment: what opens it, what closes it, and where it begins -/
theorem item_mark {l : List UInt8} (h : kindOf l = 4) :
    (l.take 4 = [60, 33, 45, 45] ∧ item l = markI [45, 45, 62] (l.drop 4)) ∨
    (l.take 4 ≠ [60, 33, 45, 45] ∧ l.take 2 = [60, 63] ∧ item l = markI [62] (l.drop 1)) ∨
    (l.take 4 ≠ [60, 33, 45, 45] ∧ l.take 2 ≠ [60, 63] ∧ item l = markI [62] (l.drop 2)) := by
  match l, h with
  | a :: c :: r, h =>
    rw [kindOf_cons] at h
    split at h
    · cases h
    rename_i h1
    obtain rfl : a = 60 := by simpa using h1
    split at h
    · cases h
    rename_i h2
    split at h
    · rename_i h3
      rcases h3 with rfl | rfl
      · have e : item (60 :: 33 :: r) = bangI r := by rw [item_cons]; rw [if_neg h1, if_neg h2, if_pos rfl]
        rw [e]
        unfold bangI
        by_cases h5 : r.take 2 = [45, 45]
        · rw [if_pos h5]
          exact .inl ⟨by simp [h5], by simp⟩
        · rw [if_neg h5]
          exact .inr (.inr ⟨fun e => h5 (by simpa using e), by simp, by simp⟩)
      · have e : item (60 :: 63 :: r) = markI [62] (63 :: r) := by rw [item_cons]; rw [if_neg h1, if_neg h2, if_neg (by decide), if_pos rfl]
        exact .inr (.inl ⟨by simp, by simp, by simpa using e⟩)
    rename_i h3
    split at h
    · rename_i h4
      subst h4
      cases r with
      | nil => cases h
      | cons d r' =>
        rw [kindS_cons] at h
        split at h
        · cases h
        · rename_i h5
          have e : item (60 :: 47 :: d :: r') = markI [62] (d :: r') := by
            rw [item_cons]
            rw [if_neg h1, if_neg h2, if_neg (by decide), if_neg (by decide), if_pos rfl]
            rw [slashI_cons, if_neg h5]
          exact .inr (.inr ⟨by simp, by simp, by simpa using e⟩)
    · cases h
theorem kindOf_cases (l : List UInt8) : kindOf l = 1 ∨ kindOf l = 2 ∨ kindOf l = 3 ∨ kindOf l = 4 := by
  match l with
  | [] => exact .inr (.inr (.inl rfl))
  | [a] => exact .inr (.inr (.inl rfl))
  | a :: c :: r =>
    rw [kindOf_cons]
    split
    · simp
    split
    · simp
    split
    · simp
    split
    · cases r with
      | nil => simp [kindS]
      | cons d r' => rw [kindS_cons]; split <;> simp
    · simp

/-! ### fuel -/
theorem remark_le (find l : List UInt8) : (remark find l).2.length ≤ l.length := by
  unfold remark
  split
  · simp
  · simp
theorem mark_le {find l rest : List UInt8} {t : Tok} (h : markI find l = .mark t rest) : rest.length ≤ l.length := by
  unfold markI at h
  injection h with _ h
  rw [← h]
  exact remark_le find l
/-- what is left behind what stands here -/
theorem rawText_le : ∀ (n l : List UInt8), (rawText n l).2.length ≤ l.length
  | n, [] => by simp [rawText]
  | n, b :: r => by
    rw [rawText]
    split
    · simp
    · have := rawText_le n r
      simp only [List.length_cons]
      omega
theorem item_shorter {l : List UInt8} : (∀ t rest, item l = .mark t rest → rest.length < l.length) ∧ (∀ n rest, item l = .close n rest → rest.length < l.length) ∧ (∀ n as s rest, item l = .start n as s rest → rest.length < l.length) := by
  rcases kindOf_cases l with h | h | h | h
  · obtain ⟨c, r, rfl, _, e⟩ := item_start h
    rw [e]
    unfold startI
    cases hr : runM st0 (c :: r) with
    | none => refine ⟨?_, ?_, ?_⟩ <;> intros <;> simp_all
    | some x =>
      obtain ⟨st, t⟩ := x
      have := runM_shorter _ _ hr
      simp only [List.length_cons] at this ⊢
      refine ⟨fun _ _ h => by simp at h, fun _ _ h => by simp at h, fun _ _ _ rest h => ?_⟩
      simp only [Item.start.injEq] at h
      obtain ⟨_, _, _, rfl⟩ := h
      omega
  · obtain ⟨c, r, rfl, _, e⟩ := item_end h
    rw [e]
    unfold closeI
    cases hr : runM st0 (c :: r) with
    | none => refine ⟨?_, ?_, ?_⟩ <;> intros <;> simp_all
    | some x =>
      obtain ⟨st, t⟩ := x
      have := runM_shorter _ _ hr
      simp only [List.length_cons] at this ⊢
      refine ⟨fun _ _ h => by simp at h, fun _ rest h => ?_, fun _ _ _ _ h => by simp at h⟩
      simp only [Item.close.injEq] at h
      obtain ⟨_, rfl⟩ := h
      omega
  · rw [item_text h]
    refine ⟨?_, ?_, ?_⟩ <;> intros <;> simp_all
  · have h2 : ∃ a c r, l = a :: c :: r := by
      match l, h with
      | a :: c :: r, _ => exact ⟨a, c, r, rfl⟩
    obtain ⟨a, c, r, rfl⟩ := h2
    refine ⟨fun t rest e0 => ?_, ?_, ?_⟩
    · rcases item_mark h with ⟨_, e⟩ | ⟨_, _, e⟩ | ⟨_, _, e⟩ <;> rw [e] at e0 <;> have := mark_le e0 <;> simp only [List.length_drop, List.length_cons] at this ⊢ <;> omega
    · rcases item_mark h with ⟨_, e⟩ | ⟨_, _, e⟩ | ⟨_, _, e⟩ <;> rw [e] <;> intro n rest e0 <;> simp [markI] at e0
    · rcases item_mark h with ⟨_, e⟩ | ⟨_, _, e⟩ | ⟨_, _, e⟩ <;> rw [e] <;> intro n as s rest e0 <;> simp [markI] at e0

theorem toksF_fuel : ∀ (f g : Nat) (l txt : List UInt8), l.length ≤ f → l.length ≤ g → toksF f txt l = toksF g txt l
  | 0, g, l, txt, hf, hg => by
    obtain rfl : l = [] := List.eq_nil_of_length_eq_zero (by omega)
    cases g <;> rfl
  | f + 1, g, l, txt, hf, hg => by
    cases l with
    | nil => cases g <;> rfl
    | cons b r =>
      cases g with
      | zero => simp at hg
      | succ g =>
        rw [toksF, toksF]
        simp only [List.length_cons] at hf hg
        obtain ⟨i1, i2, i3⟩ := item_shorter (l := b :: r)
        cases hi : item (b :: r) with
        | text => exact toksF_fuel f g r _ (by omega) (by omega)
        | mark t rest => have := i1 t rest hi; simp only [List.length_cons] at this; simp only; rw [toksF_fuel f g rest [] (by omega) (by omega)]
        | stop => rfl
        | close n rest => have := i2 n rest hi; simp only [List.length_cons] at this; simp only; rw [toksF_fuel f g rest [] (by omega) (by omega)]
        | start n as s rest =>
          have h3 := i3 n as s rest hi
          have h4 := rawText_le n rest
          simp only [List.length_cons] at h3
          simp only
          rw [toksF_fuel f g rest [] (by omega) (by omega), toksF_fuel f g (rawText n rest).2 [] (by omega) (by omega)]

/-- the tokens of a text behind what is gathered -/
def toksT (txt l : List UInt8) : List Tok := toksF l.length txt l
theorem toksT_nil (txt : List UInt8) : toksT txt [] = chars txt := rfl
theorem toksT_text {l : List UInt8} (txt : List UInt8) {b : UInt8} {r : List UInt8} (e : l = b :: r) (h : item l = .text) : toksT txt l = toksT (txt ++ [b]) r := by
  subst e
  unfold toksT
  rw [List.length_cons, toksF, h]
theorem toksT_flush {l : List UInt8} (txt : List UInt8) (h : l = [] ∨ item l ≠ .text) : toksT txt l = chars txt ++ toksT [] l := by
  cases l with
  | nil => simp [toksT_nil, chars]
  | cons b r =>
    have h : item (b :: r) ≠ .text := by rcases h with h | h; cases h; exact h
    have e0 : chars ([] : List UInt8) = [] := rfl
    unfold toksT
    rw [List.length_cons, toksF, toksF]
    cases hi : item (b :: r) with
    | text => exact absurd hi h
    | mark t rest => simp [e0]
    | stop => simp [e0]
    | close n rest => simp [e0]
    | start n as s rest => simp only; split <;> simp [e0]
theorem toksT_mark {l rest : List UInt8} {t : Tok} (h : item l = .mark t rest) : toksT [] l = t :: toksT [] rest := by
  cases l with
  | nil => cases h
  | cons b r =>
    have := item_shorter.1 t rest h
    rw [List.length_cons] at this
    have e := toksF_fuel r.length rest.length rest [] (by omega) (Nat.le_refl _)
    unfold toksT
    rw [List.length_cons, toksF, h]
    simp only
    rw [e]
    rfl
theorem toksT_stop {l : List UInt8} (h : item l = .stop) : toksT [] l = [] := by
  cases l with
  | nil => cases h
  | cons b r =>
    unfold toksT
    rw [List.length_cons, toksF, h]
    rfl
theorem toksT_close {l n rest : List UInt8} (h : item l = .close n rest) : toksT [] l = ⟨2, n, [], false, []⟩ :: toksT [] rest := by
  cases l with
  | nil => cases h
  | cons b r =>
    have := item_shorter.2.1 n rest h
    rw [List.length_cons] at this
    have e := toksF_fuel r.length rest.length rest [] (by omega) (Nat.le_refl _)
    unfold toksT
    rw [List.length_cons, toksF, h]
    simp only
    rw [e]
    rfl
theorem toksT_start {l n rest : List UInt8} {as : List Att} {s : Bool} (h : item l = .start n as s rest) :
    toksT [] l = ⟨1, n, as, s, []⟩ :: (if rawName n = true then rawToks n (rawText n rest).1 ++ toksT [] (rawText n rest).2 else toksT [] rest) := by
  cases l with
  | nil => cases h
  | cons b r =>
    have := item_shorter.2.2 n as s rest h
    have h4 := rawText_le n rest
    rw [List.length_cons] at this
    have e := toksF_fuel r.length rest.length rest [] (by omega) (Nat.le_refl _)
    have e2 := toksF_fuel r.length (rawText n rest).2.length (rawText n rest).2 [] (by omega) (Nat.le_refl _)
    unfold toksT
    rw [List.length_cons, toksF, h]
    simp only
    rw [e, e2]
    split <;> rfl
theorem toks_toksT (l : List UInt8) : toks l = toksT [] l := rfl

/-- a run of text -/
theorem toksT_run (l : List UInt8) : ∀ (n : Nat) (txt : List UInt8), n ≤ l.length → (∀ i, i < n → kindOf (l.drop i) = 3) → toksT txt l = toksT (txt ++ l.take n) (l.drop n) := by
  intro n
  induction n with
  | zero => intro txt _ _; simp
  | succ n ih =>
    intro txt hn h
    rw [ih txt (by omega) (fun i hi => h i (by omega))]
    have hlt : n < l.length := by omega
    rw [toksT_text (txt ++ l.take n) (List.drop_eq_getElem_cons hlt) (item_text (h n (by omega))), List.append_assoc, ← List.take_append_getElem hlt]
theorem item_notext {l : List UInt8} (h : kindOf l ≠ 3) : item l ≠ .text := by
  rcases kindOf_cases l with h1 | h1 | h1 | h1
  · obtain ⟨c, r, _, _, e⟩ := item_start h1
    rw [e]
    unfold startI
    split <;> simp
  · obtain ⟨c, r, _, _, e⟩ := item_end h1
    rw [e]
    unfold closeI
    split <;> simp
  · exact absurd h1 h
  · rcases item_mark h1 with ⟨_, e⟩ | ⟨_, _, e⟩ | ⟨_, _, e⟩ <;> rw [e] <;> simp [markI]
theorem toks_chars {l : List UInt8} {n : Nat} (h0 : 0 < n) (hn : n ≤ l.length) (h : ∀ i, i < n → kindOf (l.drop i) = 3) (he : n = l.length ∨ kindOf (l.drop n) ≠ 3) :
    toksT [] l = ⟨3, [], [], false, unesc (l.take n)⟩ :: toksT [] (l.drop n) := by
  rw [toksT_run l n [] hn h, List.nil_append, toksT_flush (l.take n)]
  · unfold chars
    rw [if_neg (fun e => by have := congrArg List.length e; rw [List.length_take, List.length_nil] at this; omega)]
    rfl
  · rcases he with rfl | he
    · exact .inl (by simp)
    · exact .inr (item_notext he)

/-- a raw text by its length -/
theorem rawText_at (n : List UInt8) : ∀ (l : List UInt8) (k : Nat), k ≤ l.length → (∀ i, i < k → rawEnd n (l.drop i) = false) → (k = l.length ∨ rawEnd n (l.drop k) = true) → rawText n l = (l.take k, l.drop k)
  | [], k, hk, _, _ => by
    obtain rfl : k = 0 := by simpa using hk
    rfl
  | b :: r, 0, hk, _, he => by
    rw [rawText]
    rcases he with he | he
    · simp at he
    · rw [List.drop_zero] at he
      rw [if_pos he]
      rfl
  | b :: r, k + 1, hk, h, he => by
    rw [rawText]
    have h0 := h 0 (by omega)
    rw [List.drop_zero] at h0
    rw [if_neg (by rw [h0]; decide), rawText_at n r k (by simpa using hk) (fun i hi => by simpa using h (i + 1) (by omega)) (by simpa using he)]
    rfl

theorem placeOf_le {find l : List UInt8} {k : Nat} (hf : find ≠ []) (h : placeOf find l = some k) : k + find.length ≤ l.length := by
  induction l generalizing k with
  | nil => rw [placeOf, if_neg hf] at h; cases h
  | cons b r ih =>
    rw [placeOf] at h
    split at h
    · rename_i h1
      injection h with h
      subst h
      have := congrArg List.length h1
      rw [List.length_take] at this
      omega
    · cases h2 : placeOf find r with
      | none => rw [h2] at h; cases h
      | some j =>
        rw [h2] at h
        injection h with h
        simp only at h
        have := ih h2
        rw [List.length_cons]
        omega

end U
end Go.Proofs.YtankcnikebcpkaaGreatDoor

/- Several texts in one: ReadMath, ToksMath, PrefixMath, SmallMath. -/
import Derived.Test.YtfockedeikdbjaaGreatDoorP00
namespace Go.Proofs.YtfockedeikdbjaaGreatDoor
namespace U

/-- bytes of an element's name, of an attribute's name, of a value without quotes; bytes that are skipped -/
def nameB (b : UInt8) : Bool := !endsName b
def attB (b : UInt8) : Bool := !(endsName b || b == 61)
def bareB (b : UInt8) : Bool := !(isSp b || b == 62)
def gapB (b : UInt8) : Bool := isSp b || b == 47
/-- whether the last byte skipped is a slash -/
def slashOf (sl : Bool) (l : List UInt8) : Bool := l.foldl (fun _ c => c == 47) sl

theorem run_same {st st' : St} {b : UInt8} (r : List UInt8) (h : step st b = step st' b) : runM st (b :: r) = runM st' (b :: r) := by
  rw [runM, runM, h]

theorem run_name : ∀ (l t n v : List UInt8) (q : UInt8) (sl : Bool) (al : List Att), runM ⟨0, t, n, v, q, sl, al⟩ l = runM ⟨1, t ++ l.takeWhile nameB, n, v, q, false, al⟩ (l.dropWhile nameB)
  | [], t, n, v, q, sl, al => rfl
  | b :: l, t, n, v, q, sl, al => by
    by_cases h : nameB b = true
    · have h0 := h
      simp only [nameB, endsName, Bool.not_eq_true', Bool.or_eq_false_iff, beq_eq_false_iff_ne] at h0
      obtain ⟨⟨h1, h2⟩, h3⟩ := h0
      rw [List.takeWhile_cons_of_pos h, List.dropWhile_cons_of_pos h, runM_go l (step_N4 h1 h2 h3), run_name l, List.append_assoc, List.singleton_append]
    · rw [List.takeWhile_cons_of_neg h, List.dropWhile_cons_of_neg h, List.append_nil]
      have h0 : endsName b = true := by simpa [nameB] using h
      simp only [endsName, Bool.or_eq_true, beq_iff_eq] at h0
      apply run_same
      rcases h0 with (h1 | h2) | h3
      · rw [step_N1 h1, step_A3 h1]
      · rw [step_N2 h2, step_A2 h2]
      · rw [step_N3 h3, step_A1 h3]

theorem run_gap : ∀ (l t n v : List UInt8) (q : UInt8) (sl : Bool) (al : List Att), runM ⟨1, t, n, v, q, sl, al⟩ l = runM ⟨1, t, n, v, q, slashOf sl (l.takeWhile gapB), al⟩ (l.dropWhile gapB)
  | [], t, n, v, q, sl, al => rfl
  | b :: l, t, n, v, q, sl, al => by
    by_cases h : gapB b = true
    · rw [List.takeWhile_cons_of_pos h, List.dropWhile_cons_of_pos h]
      simp only [gapB, Bool.or_eq_true, beq_iff_eq] at h
      rcases h with h1 | h2
      · rw [runM_go l (step_A3 h1), run_gap l]
        have : (b == 47) = false := beq_eq_false_iff_ne.2 (isSp_ne h1).1
        simp only [slashOf, List.foldl_cons, this]
      · rw [runM_go l (step_A2 h2), run_gap l]
        have : (b == 47) = true := beq_iff_eq.2 h2
        simp only [slashOf, List.foldl_cons, this]
    · rw [List.takeWhile_cons_of_neg h, List.dropWhile_cons_of_neg h]
      rfl

theorem run_close (r t n v : List UInt8) (q : UInt8) (sl : Bool) (al : List Att) : runM ⟨1, t, n, v, q, sl, al⟩ (62 :: r) = some (⟨1, t, n, v, q, sl, al⟩, r) := runM_fin r (step_A1 rfl)
theorem run_open (b : UInt8) (r t n v : List UInt8) (q : UInt8) (sl : Bool) (al : List Att) (h : gapB b = false) (h2 : b ≠ 62) : runM ⟨1, t, n, v, q, sl, al⟩ (b :: r) = runM ⟨2, t, [b], v, q, sl, al⟩ r := by
  simp only [gapB, Bool.or_eq_false_iff, beq_eq_false_iff_ne] at h
  exact runM_go r (step_A4 h.1 h.2 h2)

theorem run_att : ∀ (l t n v : List UInt8) (q : UInt8) (sl : Bool) (al : List Att), runM ⟨2, t, n, v, q, sl, al⟩ l = runM ⟨3, t, n ++ l.takeWhile attB, v, q, sl, al⟩ (l.dropWhile attB)
  | [], t, n, v, q, sl, al => rfl
  | b :: l, t, n, v, q, sl, al => by
    by_cases h : attB b = true
    · have h0 := h
      simp only [attB, endsName, Bool.not_eq_true', Bool.or_eq_false_iff, beq_eq_false_iff_ne] at h0
      obtain ⟨⟨⟨h1, h2⟩, h3⟩, h4⟩ := h0
      rw [List.takeWhile_cons_of_pos h, List.dropWhile_cons_of_pos h, runM_go l (step_B5 h1 h2 h3 h4), run_att l, List.append_assoc, List.singleton_append]
    · rw [List.takeWhile_cons_of_neg h, List.dropWhile_cons_of_neg h, List.append_nil]
      have h0 : (endsName b || b == 61) = true := by cases hh : (endsName b || b == 61) with
        | true => rfl
        | false => exact absurd (by simp only [attB, hh, Bool.not_false]) h
      simp only [endsName, Bool.or_eq_true, beq_iff_eq] at h0
      apply run_same
      rcases h0 with ((h1 | h2) | h3) | h4
      · rw [step_B1 h1, step_C1 h1]
      · rw [step_B2 h2, step_C3 h2]
      · rw [step_B3 h3, step_C4 h3]
      · rw [step_B4 h4, step_C2 h4]

theorem run_gap3 : ∀ (l t n v : List UInt8) (q : UInt8) (sl : Bool) (al : List Att), runM ⟨3, t, n, v, q, sl, al⟩ l = runM ⟨3, t, n, v, q, sl, al⟩ (l.dropWhile isSp)
  | [], t, n, v, q, sl, al => rfl
  | b :: l, t, n, v, q, sl, al => by
    by_cases h : isSp b = true
    · rw [List.dropWhile_cons_of_pos h, runM_go l (step_C1 h), run_gap3 l]
    · rw [List.dropWhile_cons_of_neg h]
theorem run_gap4 : ∀ (l t n v : List UInt8) (q : UInt8) (sl : Bool) (al : List Att), runM ⟨4, t, n, v, q, sl, al⟩ l = runM ⟨4, t, n, v, q, sl, al⟩ (l.dropWhile isSp)
  | [], t, n, v, q, sl, al => rfl
  | b :: l, t, n, v, q, sl, al => by
    by_cases h : isSp b = true
    · rw [List.dropWhile_cons_of_pos h, runM_go l (step_D1 h), run_gap4 l]
    · rw [List.dropWhile_cons_of_neg h]
theorem run_noval (b : UInt8) (r t n v : List UInt8) (q : UInt8) (sl : Bool) (al : List Att) (hs : isSp b = false) (h61 : b ≠ 61) : runM ⟨3, t, n, v, q, sl, al⟩ (b :: r) = runM ⟨1, t, n, v, q, false, al ++ [(low n, [])]⟩ (b :: r) := by
  apply run_same
  by_cases h47 : b = 47
  · rw [step_C3 h47, step_A2 h47]
  by_cases h62 : b = 62
  · rw [step_C4 h62, step_A1 h62]
  rw [step_C5 hs h47 h62 h61, step_A4 hs h47 h62]
theorem run_eq (r t n v : List UInt8) (q : UInt8) (sl : Bool) (al : List Att) : runM ⟨3, t, n, v, q, sl, al⟩ (61 :: r) = runM ⟨4, t, n, v, q, sl, al⟩ r := runM_go r (step_C2 rfl)
theorem run_quote (b : UInt8) (r t n v : List UInt8) (q : UInt8) (sl : Bool) (al : List Att) (hq : b = 34 ∨ b = 39) : runM ⟨4, t, n, v, q, sl, al⟩ (b :: r) = runM ⟨5, t, n, [], b, sl, al⟩ r :=
  runM_go r (step_D2 (by rcases hq with rfl | rfl <;> rfl) hq)
theorem run_bare (b : UInt8) (r t n v : List UInt8) (q : UInt8) (sl : Bool) (al : List Att) (hs : isSp b = false) (hq : ¬ (b = 34 ∨ b = 39)) : runM ⟨4, t, n, v, q, sl, al⟩ (b :: r) = runM ⟨6, t, n, [], q, sl, al⟩ (b :: r) := runM_again r (step_D3 hs hq)
theorem run_quoted : ∀ (l t n v : List UInt8) (q : UInt8) (sl : Bool) (al : List Att), runM ⟨5, t, n, v, q, sl, al⟩ l = match placeOf [q] l with
    | none => none
    | some k => runM ⟨1, t, n, v ++ l.take k, q, false, al ++ [(low n, unesc (v ++ l.take k))]⟩ (l.drop (k + 1))
  | [], t, n, v, q, sl, al => rfl
  | b :: l, t, n, v, q, sl, al => by
    by_cases h : b = q
    · have hp : placeOf [q] (b :: l) = some 0 := by rw [placeOf]; simp [h]
      rw [hp, runM_go l (step_E1 h)]
      simp
    · have hp : placeOf [q] (b :: l) = (placeOf [q] l).map (· + 1) := by rw [placeOf, if_neg (by simp [h])]
      rw [hp, runM_go l (step_E2 h), run_quoted l]
      cases placeOf [q] l with
      | none => rfl
      | some k => simp
theorem run_bared : ∀ (l t n v : List UInt8) (q : UInt8) (sl : Bool) (al : List Att), runM ⟨6, t, n, v, q, sl, al⟩ l = runM ⟨1, t, n, v ++ l.takeWhile bareB, q, false, al ++ [(low n, unesc (v ++ l.takeWhile bareB))]⟩ (l.dropWhile bareB)
  | [], t, n, v, q, sl, al => rfl
  | b :: l, t, n, v, q, sl, al => by
    by_cases h : bareB b = true
    · have h0 := h
      simp only [bareB, Bool.not_eq_true', Bool.or_eq_false_iff, beq_eq_false_iff_ne] at h0
      rw [List.takeWhile_cons_of_pos h, List.dropWhile_cons_of_pos h, runM_go l (step_F3 h0.1 h0.2), run_bared l, List.append_assoc, List.singleton_append]
    · rw [List.takeWhile_cons_of_neg h, List.dropWhile_cons_of_neg h, List.append_nil]
      have h0 : (isSp b || b == 62) = true := by cases hh : (isSp b || b == 62) with
        | true => rfl
        | false => exact absurd (by simp only [bareB, hh, Bool.not_false]) h
      simp only [Bool.or_eq_true, beq_iff_eq] at h0
      apply run_same
      rcases h0 with h1 | h2
      · rw [step_F1 h1, step_A3 h1]
      · rw [step_F2 h2, step_A1 h2]

/-- one attribute: what it adds, and what is left -/
def readVal (l : List UInt8) : List UInt8 × List UInt8 := match l with
  | [] => ([], [])
  | b :: r => if b = 34 ∨ b = 39 then (match placeOf [b] r with
      | none => (r, [])
      | some k => (r.take k, r.drop (k + 1)))
    else (l.takeWhile bareB, l.dropWhile bareB)
def readAtt (b : UInt8) (r : List UInt8) : Att × List UInt8 :=
  match (r.dropWhile attB).dropWhile isSp with
  | 61 :: u => ((low (b :: r.takeWhile attB), unesc (readVal (u.dropWhile isSp)).1), (readVal (u.dropWhile isSp)).2)
  | u => ((low (b :: r.takeWhile attB), []), u)
theorem drop_not (p : UInt8 → Bool) (l : List UInt8) {b : UInt8} {r : List UInt8} (h : l.dropWhile p = b :: r) : p b = false := by
  induction l with
  | nil => cases h
  | cons a l ih =>
    by_cases ha : p a = true
    · rw [List.dropWhile_cons_of_pos ha] at h; exact ih h
    · rw [List.dropWhile_cons_of_neg ha] at h
      injection h with h _
      subst h
      simpa using ha
theorem run_val (l t n v : List UInt8) (q : UInt8) (sl : Bool) (al : List Att) : ∃ v' q', runM ⟨4, t, n, v, q, sl, al⟩ (l.dropWhile isSp) = runM ⟨1, t, n, v', q', false, al ++ [(low n, unesc (readVal (l.dropWhile isSp)).1)]⟩ (readVal (l.dropWhile isSp)).2 := by
  cases h : l.dropWhile isSp with
  | nil => exact ⟨v, q, rfl⟩
  | cons b r =>
    have hs := drop_not isSp l h
    by_cases hq : b = 34 ∨ b = 39
    · rw [run_quote b r t n v q sl al hq, run_quoted]
      unfold readVal
      simp only [if_pos hq]
      cases hp : placeOf [b] r with
      | none => exact ⟨v, q, rfl⟩
      | some k => exact ⟨r.take k, b, by simp⟩
    · rw [run_bare b r t n v q sl al hs hq, run_bared]
      unfold readVal
      simp only [if_neg hq]
      exact ⟨(b :: r).takeWhile bareB, q, by simp⟩
theorem run_readAtt (b : UInt8) (r t n v : List UInt8) (q : UInt8) (sl : Bool) (al : List Att) (h : gapB b = false) (h2 : b ≠ 62) :
    ∃ n' v' q', runM ⟨1, t, n, v, q, sl, al⟩ (b :: r) = runM ⟨1, t, n', v', q', false, al ++ [(readAtt b r).1]⟩ (readAtt b r).2 := by
  rw [run_open b r t n v q sl al h h2, run_att, run_gap3, List.singleton_append]
  unfold readAtt
  split
  · rename_i u hu
    rw [hu, run_eq, run_gap4]
    obtain ⟨v', q', e⟩ := run_val u t (b :: r.takeWhile attB) v q sl al
    exact ⟨_, v', q', e⟩
  · rename_i u hu
    cases he : (r.dropWhile attB).dropWhile isSp with
    | nil => exact ⟨n, v, q, rfl⟩
    | cons c u' =>
      have hs := drop_not isSp _ he
      rw [run_noval c u' t (b :: r.takeWhile attB) v q sl al hs (fun e => hu u' (by rw [he, e]))]
      exact ⟨_, _, _, rfl⟩

/-- the attributes, one by one -/
def withAtt (acc : List Att) (a : Att) : List Att := if acc.all (fun c => c.1 != a.1) = true then acc ++ [a] else acc
theorem firsts_snoc : ∀ (l acc : List Att) (a : Att), firsts acc (l ++ [a]) = withAtt (firsts acc l) a
  | [], acc, a => rfl
  | b :: l, acc, a => by
    rw [List.cons_append, firsts, firsts, firsts_snoc l]
theorem slashOf_append (a : List UInt8) (c : UInt8) (sl : Bool) : slashOf sl (a ++ [c]) = (c == 47) := by simp [slashOf]
theorem slashOf_suffix (a : List UInt8) : slashOf false a = List.isSuffixOf [47] a := by
  rcases List.eq_nil_or_concat a with rfl | ⟨l, c, rfl⟩
  · rfl
  · rw [List.concat_eq_append, slashOf_append]
    simp [List.isSuffixOf, List.isPrefixOf]
    rw [Bool.beq_comm]

end U
end Go.Proofs.YtfockedeikdbjaaGreatDoor

namespace Go.Proofs.YtfockedeikdbjaaGreatDoor
namespace U

/-- the kind of the token that begins here: 1 a start, 2 an end, 4 a comment, 3 a text -/
def kindS : List UInt8 → Nat
  | [] => 3
  | d :: _ => if isAl d = true then 2 else 4
def kindOf : List UInt8 → Nat
  | a :: c :: r => if a ≠ 60 then 3 else if isAl c = true then 1 else if c = 33 ∨ c = 63 then 4 else if c = 47 then kindS r else 3
  | _ => 3
theorem kindOf_cons (a c : UInt8) (r : List UInt8) : kindOf (a :: c :: r) = if a ≠ 60 then 3 else if isAl c = true then 1 else if c = 33 ∨ c = 63 then 4 else if c = 47 then kindS r else 3 := rfl
theorem kindS_cons (d : UInt8) (r : List UInt8) : kindS (d :: r) = if isAl d = true then 2 else 4 := rfl
theorem item_cons (a c : UInt8) (r : List UInt8) : item (a :: c :: r) = if a ≠ 60 then .text else if isAl c = true then startI (c :: r) else if c = 33 then bangI r else if c = 63 then markI [62] (c :: r) else if c = 47 then slashI r else .text := rfl
theorem slashI_cons (d : UInt8) (r : List UInt8) : slashI (d :: r) = if isAl d = true then closeI (d :: r) else markI [62] (d :: r) := rfl
theorem isAl_ne {c : UInt8} (h : isAl c = true) : c ≠ 33 ∧ c ≠ 63 ∧ c ≠ 47 := by
  refine ⟨?_, ?_, ?_⟩ <;> rintro rfl <;> exact absurd h (by decide)
theorem item_text {l : List UInt8} (h : kindOf l = 3) : item l = .text := by
  match l, h with
  | [], _ => rfl
  | [a], _ => rfl
  | a :: c :: r, h =>
    rw [kindOf_cons] at h
    rw [item_cons]
    split at h
    · rename_i h1; rw [if_pos h1]
    rename_i h1
    rw [if_neg h1]
    split at h
    · cases h
    rename_i h2
    rw [if_neg h2]
    split at h
    · cases h
    rename_i h3
    rw [if_neg (fun e => h3 (.inl e)), if_neg (fun e => h3 (.inr e))]
    split at h
    · rename_i h4
      rw [if_pos h4]
      cases r with
      | nil => rfl
      | cons d r' => rw [kindS_cons] at h; split at h <;> cases h
    · rename_i h4; rw [if_neg h4]
theorem item_start {l : List UInt8} (h : kindOf l = 1) : ∃ c r, l = 60 :: c :: r ∧ isAl c = true ∧ item l = startI (c :: r) := by
  match l, h with
  | a :: c :: r, h =>
    rw [kindOf_cons] at h
    split at h
    · cases h
    rename_i h1
    split at h
    · rename_i h2
      exact ⟨c, r, by simpa using h1, h2, by rw [item_cons]; rw [if_neg h1, if_pos h2]⟩
    split at h
    · cases h
    split at h
    · cases r with
      | nil => cases h
      | cons d r' => rw [kindS_cons] at h; split at h <;> cases h
    · cases h
theorem item_end {l : List UInt8} (h : kindOf l = 2) : ∃ c r, l = 60 :: 47 :: c :: r ∧ isAl c = true ∧ item l = closeI (c :: r) := by
  match l, h with
  | a :: c :: r, h =>
    rw [kindOf_cons] at h
    split at h
    · cases h
    rename_i h1
    split at h
    · cases h
    rename_i h2
    split at h
    · cases h
    rename_i h3
    split at h
    · rename_i h4
      subst h4
      cases r with
      | nil => cases h
      | cons d r' =>
        rw [kindS_cons] at h
        split at h
        · rename_i h5
          refine ⟨d, r', by simpa using h1, h5, ?_⟩
          rw [item_cons]
          rw [if_neg h1, if_neg h2, if_neg (by decide), if_neg (by decide), if_pos rfl]
          rw [slashI_cons, if_pos h5]
        · cases h
    · cases h
/-- a comment: what opens it, what closes it, and where it begins -/
theorem item_mark {l : List UInt8} (h : kindOf l = 4) :
    (l.take 4 = [60, 33, 45, 45] ∧ item l = markI [45, 45, 62] (l.drop 4)) ∨
    (l.take 4 ≠ [60, 33, 45, 45] ∧ l.take 2 = [60, 63] ∧ item l = markI [62] (l.drop 1)) ∨
    (l.take 4 ≠ [60, 33, 45, 45] ∧ l.take 2 ≠ [60, 63] ∧ item l = markI [62] (l.drop 2)) := by
  match l, h with
  | a :: c :: r, h =>
    rw [kindOf_cons] at h
    split at h
    · cases h
    rename_i h1
    obtain rfl : a = 60 := by simpa using h1
    split at h
    · cases h
    rename_i h2
    split at h
    · rename_i h3
      rcases h3 with rfl | rfl
      · have e : item (60 :: 33 :: r) = bangI r := by rw [item_cons]; rw [if_neg h1, if_neg h2, if_pos rfl]
        rw [e]
        unfold bangI
        by_cases h5 : r.take 2 = [45, 45]
        · rw [if_pos h5]
          exact .inl ⟨by simp [h5], by simp⟩
        · rw [if_neg h5]
          exact .inr (.inr ⟨fun e => h5 (by simpa using e), by simp, by simp⟩)
      · have e : item (60 :: 63 :: r) = markI [62] (63 :: r) := by rw [item_cons]; rw [if_neg h1, if_neg h2, if_neg (by decide), if_pos rfl]
        exact .inr (.inl ⟨by simp, by simp, by simpa using e⟩)
    rename_i h3
    split at h
    · rename_i h4
      subst h4
      cases r with
      | nil => cases h
      | cons d r' =>
        rw [kindS_cons] at h
        split at h
        · cases h
        · rename_i h5
          have e : item (60 :: 47 :: d :: r') = markI [62] (d :: r') := by
            rw [item_cons]
            rw [if_neg h1, if_neg h2, if_neg (by decide), if_neg (by decide), if_pos rfl]
            rw [slashI_cons, if_neg h5]
          exact .inr (.inr ⟨by simp, by simp, by simpa using e⟩)
    · cases h
theorem kindOf_cases (l : List UInt8) : kindOf l = 1 ∨ kindOf l = 2 ∨ kindOf l = 3 ∨ kindOf l = 4 := by
  match l with
  | [] => exact .inr (.inr (.inl rfl))
  | [a] => exact .inr (.inr (.inl rfl))
  | a :: c :: r =>
    rw [kindOf_cons]
    split
    · simp
    split
    · simp
    split
    · simp
    split
    · cases r with
      | nil => simp [kindS]
      | cons d r' => rw [kindS_cons]; split <;> simp
    · simp

/-! ### fuel -/
theorem remark_le (find l : List UInt8) : (remark find l).2.length ≤ l.length := by
  unfold remark
  split
  · simp
  · simp
theorem mark_le {find l rest : List UInt8} {t : Tok} (h : markI find l = .mark t rest) : rest.length ≤ l.length := by
  unfold markI at h
  injection h with _ h
  rw [← h]
  exact remark_le find l
/-- what is left behind what stands here -/
theorem rawText_le : ∀ (n l : List UInt8), (rawText n l).2.length ≤ l.length
  | n, [] => by simp [rawText]
  | n, b :: r => by
    rw [rawText]
    split
    · simp
    · have := rawText_le n r
      simp only [List.length_cons]
      omega
theorem item_shorter {l : List UInt8} : (∀ t rest, item l = .mark t rest → rest.length < l.length) ∧ (∀ n rest, item l = .close n rest → rest.length < l.length) ∧ (∀ n as s rest, item l = .start n as s rest → rest.length < l.length) := by
  rcases kindOf_cases l with h | h | h | h
  · obtain ⟨c, r, rfl, _, e⟩ := item_start h
    rw [e]
    unfold startI
    cases hr : runM st0 (c :: r) with
    | none => refine ⟨?_, ?_, ?_⟩ <;> intros <;> simp_all
    | some x =>
      obtain ⟨st, t⟩ := x
      have := runM_shorter _ _ hr
      simp only [List.length_cons] at this ⊢
      refine ⟨fun _ _ h => by simp at h, fun _ _ h => by simp at h, fun _ _ _ rest h => ?_⟩
      simp only [Item.start.injEq] at h
      obtain ⟨_, _, _, rfl⟩ := h
      omega
  · obtain ⟨c, r, rfl, _, e⟩ := item_end h
    rw [e]
    unfold closeI
    cases hr : runM st0 (c :: r) with
    | none => refine ⟨?_, ?_, ?_⟩ <;> intros <;> simp_all
    | some x =>
      obtain ⟨st, t⟩ := x
      have := runM_shorter _ _ hr
      simp only [List.length_cons] at this ⊢
      refine ⟨fun _ _ h => by simp at h, fun _ rest h => ?_, fun _ _ _ _ h => by simp at h⟩
      simp only [Item.close.injEq] at h
      obtain ⟨_, rfl⟩ := h
      omega
  · rw [item_text h]
    refine ⟨?_, ?_, ?_⟩ <;> intros <;> simp_all
  · have h2 : ∃ a c r, l = a :: c :: r := by
      match l, h with
      | a :: c :: r, _ => exact ⟨a, c, r, rfl⟩
    obtain ⟨a, c, r, rfl⟩ := h2
    refine ⟨fun t rest e0 => ?_, ?_, ?_⟩
    · rcases item_mark h with ⟨_, e⟩ | ⟨_, _, e⟩ | ⟨_, _, e⟩ <;> rw [e] at e0 <;> have := mark_le e0 <;> simp only [List.length_drop, List.length_cons] at this ⊢ <;> omega
    · rcases item_mark h with ⟨_, e⟩ | ⟨_, _, e⟩ | ⟨_, _, e⟩ <;> rw [e] <;> intro n rest e0 <;> simp [markI] at e0
    · rcases item_mark h with ⟨_, e⟩ | ⟨_, _, e⟩ | ⟨_, _, e⟩ <;> rw [e] <;> intro n as s rest e0 <;> simp [markI] at e0

theorem toksF_fuel : ∀ (f g : Nat) (l txt : List UInt8), l.length ≤ f → l.length ≤ g → toksF f txt l = toksF g txt l
  | 0, g, l, txt, hf, hg => by
    obtain rfl : l = [] := List.eq_nil_of_length_eq_zero (by omega)
    cases g <;> rfl
  | f + 1, g, l, txt, hf, hg => by
    cases l with
    | nil => cases g <;> rfl
    | cons b r =>
      cases g with
      | zero => simp at hg
      | succ g =>
        rw [toksF, toksF]
        simp only [List.length_cons] at hf hg
        obtain ⟨i1, i2, i3⟩ := item_shorter (l := b :: r)
        cases hi : item (b :: r) with
        | text => exact toksF_fuel f g r _ (by omega) (by omega)
        | mark t rest => have := i1 t rest hi; simp only [List.length_cons] at this; simp only; rw [toksF_fuel f g rest [] (by omega) (by omega)]
        | stop => rfl
        | close n rest => have := i2 n rest hi; simp only [List.length_cons] at this; simp only; rw [toksF_fuel f g rest [] (by omega) (by omega)]
        | start n as s rest =>
          have h3 := i3 n as s rest hi
          have h4 := rawText_le n rest
          simp only [List.length_cons] at h3
          simp only
          rw [toksF_fuel f g rest [] (by omega) (by omega), toksF_fuel f g (rawText n rest).2 [] (by omega) (by omega)]

/-- the tokens of a text behind what is gathered -/
def toksT (txt l : List UInt8) : List Tok := toksF l.length txt l
theorem toksT_nil (txt : List UInt8) : toksT txt [] = chars txt := rfl
theorem toksT_text {l : List UInt8} (txt : List UInt8) {b : UInt8} {r : List UInt8} (e : l = b :: r) (h : item l = .text) : toksT txt l = toksT (txt ++ [b]) r := by
  subst e
  unfold toksT
  rw [List.length_cons, toksF, h]
theorem toksT_flush {l : List UInt8} (txt : List UInt8) (h : l = [] ∨ item l ≠ .text) : toksT txt l = chars txt ++ toksT [] l := by
  cases l with
  | nil => simp [toksT_nil, chars]
  | cons b r =>
    have h : item (b :: r) ≠ .text := by rcases h with h | h; cases h; exact h
    have e0 : chars ([] : List UInt8) = [] := rfl
    unfold toksT
    rw [List.length_cons, toksF, toksF]
    cases hi : item (b :: r) with
    | text => exact absurd hi h
    | mark t rest => simp [e0]
    | stop => simp [e0]
    | close n rest => simp [e0]
    | start n as s rest => simp only; split <;> simp [e0]
theorem toksT_mark {l rest : List UInt8} {t : Tok} (h : item l = .mark t rest) : toksT [] l = t :: toksT [] rest := by
  cases l with
  | nil => cases h
  | cons b r =>
    have := item_shorter.1 t rest h
    rw [List.length_cons] at this
    have e := toksF_fuel r.length rest.length rest [] (by omega) (Nat.le_refl _)
    unfold toksT
    rw [List.length_cons, toksF, h]
    simp only
    rw [e]
    rfl
theorem toksT_stop {l : List UInt8} (h : item l = .stop) : toksT [] l = [] := by
  cases l with
  | nil => cases h
  | cons b r =>
    unfold toksT
    rw [List.length_cons, toksF, h]
    rfl
theorem toksT_close {l n rest : List UInt8} (h : item l = .close n rest) : toksT [] l = ⟨2, n, [], false, []⟩ :: toksT [] rest := by
  cases l with
  | nil => cases h
  | cons b r =>
    have := item_shorter.2.1 n rest h
    rw [List.length_cons] at this
    have e := toksF_fuel r.length rest.length rest [] (by omega) (Nat.le_refl _)
    unfold toksT
    rw [List.length_cons, toksF, h]
    simp only
    rw [e]
    rfl
theorem toksT_start {l n rest : List UInt8} {as : List Att} {s : Bool} (h : item l = .start n as s rest) :
    toksT [] l = ⟨1, n, as, s, []⟩ :: (if rawName n = true then rawToks n (rawText n rest).1 ++ toksT [] (rawText n rest).2 else toksT [] rest) := by
  cases l with
  | nil => cases h
  | cons b r =>
    have := item_shorter.2.2 n as s rest h
    have h4 := rawText_le n rest
    rw [List.length_cons] at this
    have e := toksF_fuel r.length rest.length rest [] (by omega) (Nat.le_refl _)
    have e2 := toksF_fuel r.length (rawText n rest).2.length (rawText n rest).2 [] (by omega) (Nat.le_refl _)
    unfold toksT
    rw [List.length_cons, toksF, h]
    simp only
    rw [e, e2]
    split <;> rfl
theorem toks_toksT (l : List UInt8) : toks l = toksT [] l := rfl

/-- a run of text -/
theorem toksT_run (l : List UInt8) : ∀ (n : Nat) (txt : List UInt8), n ≤ l.length → (∀ i, i < n → kindOf (l.drop i) = 3) → toksT txt l = toksT (txt ++ l.take n) (l.drop n) := by
  intro n
  induction n with
  | zero => intro txt _ _; simp
  | succ n ih =>
    intro txt hn h
    rw [ih txt (by omega) (fun i hi => h i (by omega))]
    have hlt : n < l.length := by omega
    rw [toksT_text (txt ++ l.take n) (List.drop_eq_getElem_cons hlt) (item_text (h n (by omega))), List.append_assoc, ← List.take_append_getElem hlt]
theorem item_notext {l : List UInt8} (h : kindOf l ≠ 3) : item l ≠ .text := by
  rcases kindOf_cases l with h1 | h1 | h1 | h1
  · obtain ⟨c, r, _, _, e⟩ := item_start h1
    rw [e]
    unfold startI
    split <;> simp
  · obtain ⟨c, r, _, _, e⟩ := item_end h1
    rw [e]
    unfold closeI
    split <;> simp
  · exact absurd h1 h
  · rcases item_mark h1 with ⟨_, e⟩ | ⟨_, _, e⟩ | ⟨_, _, e⟩ <;> rw [e] <;> simp [markI]
theorem toks_chars {l : List UInt8} {n : Nat} (h0 : 0 < n) (hn : n ≤ l.length) (h : ∀ i, i < n → kindOf (l.drop i) = 3) (he : n = l.length ∨ kindOf (l.drop n) ≠ 3) :
    toksT [] l = ⟨3, [], [], false, unesc (l.take n)⟩ :: toksT [] (l.drop n) := by
  rw [toksT_run l n [] hn h, List.nil_append, toksT_flush (l.take n)]
  · unfold chars
    rw [if_neg (fun e => by have := congrArg List.length e; rw [List.length_take, List.length_nil] at this; omega)]
    rfl
  · rcases he with rfl | he
    · exact .inl (by simp)
    · exact .inr (item_notext he)

/-- a raw text by its length -/
theorem rawText_at (n : List UInt8) : ∀ (l : List UInt8) (k : Nat), k ≤ l.length → (∀ i, i < k → rawEnd n (l.drop i) = false) → (k = l.length ∨ rawEnd n (l.drop k) = true) → rawText n l = (l.take k, l.drop k)
  | [], k, hk, _, _ => by
    obtain rfl : k = 0 := by simpa using hk
    rfl
  | b :: r, 0, hk, _, he => by
    rw [rawText]
    rcases he with he | he
    · simp at he
    · rw [List.drop_zero] at he
      rw [if_pos he]
      rfl
  | b :: r, k + 1, hk, h, he => by
    rw [rawText]
    have h0 := h 0 (by omega)
    rw [List.drop_zero] at h0
    rw [if_neg (by rw [h0]; decide), rawText_at n r k (by simpa using hk) (fun i hi => by simpa using h (i + 1) (by omega)) (by simpa using he)]
    rfl

theorem placeOf_le {find l : List UInt8} {k : Nat} (hf : find ≠ []) (h : placeOf find l = some k) : k + find.length ≤ l.length := by
  induction l generalizing k with
  | nil => rw [placeOf, if_neg hf] at h; cases h
  | cons b r ih =>
    rw [placeOf] at h
    split at h
    · rename_i h1
      injection h with h
      subst h
      have := congrArg List.length h1
      rw [List.length_take] at this
      omega
    · cases h2 : placeOf find r with
      | none => rw [h2] at h; cases h
      | some j =>
        rw [h2] at h
        injection h with h
        simp only at h
        have := ih h2
        rw [List.length_cons]
        omega

end U
end Go.Proofs.YtfockedeikdbjaaGreatDoor

namespace Go.Proofs.YtfockedeikdbjaaGreatDoor
namespace U

theorem runM_more : ∀ (l : List UInt8) (st : St) {st' : St} {r : List UInt8}, runM st l = some (st', r) → ∀ e, runM st (l ++ e) = some (st', r ++ e)
  | [], st, _, _, h, e => by cases h
  | b :: l, st, st', r, h, e => by
    rw [List.cons_append, runM]
    rw [runM] at h
    cases hs : step st b with
    | go s =>
      rw [hs] at h
      exact runM_more l s h e
    | fin s =>
      rw [hs] at h
      simp only [Option.some.injEq, Prod.mk.injEq] at h
      obtain ⟨rfl, rfl⟩ := h
      rfl
    | again s =>
      rw [hs] at h
      simp only at h ⊢
      cases hs2 : step s b with
      | go s2 =>
        rw [hs2] at h
        exact runM_more l s2 h e
      | fin s2 =>
        rw [hs2] at h
        simp only [Option.some.injEq, Prod.mk.injEq] at h
        obtain ⟨rfl, rfl⟩ := h
        rfl
      | again s2 => rw [hs2] at h; cases h

theorem placeOf_more {find : List UInt8} (hf : find ≠ []) : ∀ (l e : List UInt8) {k : Nat}, placeOf find l = some k → placeOf find (l ++ e) = some k
  | [], e, k, h => by rw [placeOf, if_neg hf] at h; cases h
  | b :: r, e, k, h => by
    have hle := placeOf_le hf h
    rw [placeOf] at h
    have ht : ((b :: r) ++ e).take find.length = (b :: r).take find.length := by rw [List.take_append_of_le_length (by omega)]
    rw [List.cons_append] at ht
    rw [List.cons_append, placeOf, ht]
    split at h
    · rename_i h1; rw [if_pos h1]; exact h
    · rename_i h1
      rw [if_neg h1]
      cases hp : placeOf find r with
      | none => rw [hp] at h; cases h
      | some j =>
        rw [hp] at h
        rw [placeOf_more hf r e hp]
        exact h

theorem kindOf_more {l : List UInt8} (e : List UInt8) (h : kindOf l ≠ 3) : kindOf (l ++ e) = kindOf l := by
  match l, h with
  | [], h => exact absurd rfl h
  | [a], h => exact absurd rfl h
  | a :: c :: [], h =>
    rw [kindOf_cons] at h
    simp only [List.cons_append, List.nil_append]
    rw [kindOf_cons, kindOf_cons]
    split
    · rfl
    rename_i h1
    rw [if_neg h1] at h
    split
    · rfl
    rename_i h2
    rw [if_neg h2] at h
    split
    · rfl
    rename_i h3
    rw [if_neg h3] at h
    split
    · rename_i h4
      rw [if_pos h4] at h
      exact absurd rfl h
    · rfl
  | a :: c :: d :: r, h => rfl
theorem kindOf_text {l : List UInt8} (e : List UInt8) (h : kindOf l = 3) (h0 : l ≠ []) (h1 : l ≠ [60]) (h2 : l ≠ [60, 47]) : kindOf (l ++ e) = 3 := by
  match l, h, h0, h1, h2 with
  | [a], h, h0, h1, h2 =>
    have ha : a ≠ 60 := fun e => h1 (by rw [e])
    cases e with
    | nil => rfl
    | cons c r => show kindOf (a :: c :: r) = 3; rw [kindOf_cons, if_pos ha]
  | a :: c :: [], h, h0, h1, h2 =>
    simp only [List.cons_append, List.nil_append]
    rw [kindOf_cons] at h ⊢
    split
    · rfl
    rename_i g1
    rw [if_neg g1] at h
    split
    · rename_i g2; rw [if_pos g2] at h; exact h
    rename_i g2
    rw [if_neg g2] at h
    split
    · rename_i g3; rw [if_pos g3] at h; exact h
    rename_i g3
    rw [if_neg g3] at h
    split
    · rename_i g4
      exact absurd (by rw [g4, show a = 60 by simpa using g1]) h2
    · rfl
  | a :: c :: d :: r, h, _, _, _ => exact h

theorem chars_le (txt : List UInt8) : (chars txt).length ≤ 1 := by unfold chars; split <;> simp
theorem dropLast_le {α : Type} {l : List α} (h : l.length ≤ 1) : l.dropLast = [] := by
  match l, h with
  | [], _ => rfl
  | [a], _ => rfl
theorem dropLast_ahead {a x y : List Tok} (ha : a.length ≤ 1) (h : ∃ z, y = x.dropLast ++ z) : ∃ z, a ++ y = (a ++ x).dropLast ++ z := by
  obtain ⟨z, rfl⟩ := h
  by_cases hx : x = []
  · subst hx
    rw [List.append_nil, dropLast_le ha]
    exact ⟨_, rfl⟩
  · rw [List.dropLast_append_of_ne_nil hx]
    exact ⟨z, by simp⟩
theorem rawToks_le (n raw : List UInt8) : (rawToks n raw).length ≤ 1 := by unfold rawToks; split <;> simp
theorem rawEnd_more {n l : List UInt8} (e : List UInt8) (h : rawEnd n l = true) : rawEnd n (l ++ e) = true := by
  unfold rawEnd at h ⊢
  cases hd : l.drop (2 + n.length) with
  | nil => rw [hd] at h; cases h
  | cons c r =>
    have hl : 2 + n.length < l.length := by
      have := congrArg List.length hd
      simp only [List.length_drop, List.length_cons] at this
      omega
    rw [hd] at h
    rw [List.drop_append_of_le_length (by omega), hd, List.take_append_of_le_length (by omega), List.drop_append_of_le_length (by omega), List.take_append_of_le_length (by rw [List.length_drop]; omega)]
    exact h
theorem rawEnd_less {n l : List UInt8} (e : List UInt8) (hl : 2 + n.length < l.length) : rawEnd n (l ++ e) = rawEnd n l := by
  unfold rawEnd
  rw [List.drop_append_of_le_length (by omega)]
  cases hd : l.drop (2 + n.length) with
  | nil => have := congrArg List.length hd; simp only [List.length_drop, List.length_nil] at this; omega
  | cons c r =>
    simp only [List.cons_append]
    rw [List.take_append_of_le_length (by omega), List.drop_append_of_le_length (by omega), List.take_append_of_le_length (by rw [List.length_drop]; omega)]
theorem rawText_rest : ∀ (n l : List UInt8), (rawText n l).2 ≠ [] → rawEnd n (rawText n l).2 = true
  | n, [], h => absurd rfl h
  | n, b :: r, h => by
    rw [rawText] at h ⊢
    split at h
    · rename_i h1; rw [if_pos h1]; exact h1
    · rename_i h1; rw [if_neg h1]; exact rawText_rest n r h
theorem rawEnd_long {n l : List UInt8} (h : rawEnd n l = true) : 2 + n.length < l.length := by
  unfold rawEnd at h
  cases hd : l.drop (2 + n.length) with
  | nil => rw [hd] at h; cases h
  | cons c r =>
    have := congrArg List.length hd
    simp only [List.length_drop, List.length_cons] at this
    omega
theorem rawText_more : ∀ (n l e : List UInt8), (rawText n l).2 ≠ [] → rawText n (l ++ e) = ((rawText n l).1, (rawText n l).2 ++ e)
  | n, [], e, h => absurd rfl h
  | n, b :: r, e, h => by
    rw [List.cons_append]
    by_cases h1 : rawEnd n (b :: r) = true
    · have h2 := rawEnd_more e h1
      rw [List.cons_append] at h2
      rw [rawText, rawText, if_pos h1, if_pos h2]
      rfl
    · have h3 : (rawText n r).2 ≠ [] := by rw [rawText, if_neg h1] at h; exact h
      have hlen : 2 + n.length < (b :: r).length := by
        have h4 := rawEnd_long (rawText_rest n r h3)
        have h5 := rawText_le n r
        rw [List.length_cons]
        omega
      have h2 := rawEnd_less e hlen
      rw [List.cons_append] at h2
      rw [rawText, rawText, if_neg h1, if_neg (by rw [h2]; exact h1), rawText_more n r e h3]

theorem startI_more {l n rest : List UInt8} {as : List Att} {s : Bool} (e : List UInt8) (h : startI l = .start n as s rest) : startI (l ++ e) = .start n as s (rest ++ e) := by
  unfold startI at h ⊢
  cases hr : runM st0 l with
  | none => rw [hr] at h; cases h
  | some x =>
    rw [hr] at h
    rw [runM_more l st0 hr e]
    simp only [Item.start.injEq] at h ⊢
    obtain ⟨h1, h2, h3, h4⟩ := h
    exact ⟨h1, h2, h3, by rw [h4]⟩
theorem closeI_more {l n rest : List UInt8} (e : List UInt8) (h : closeI l = .close n rest) : closeI (l ++ e) = .close n (rest ++ e) := by
  unfold closeI at h ⊢
  cases hr : runM st0 l with
  | none => rw [hr] at h; cases h
  | some x =>
    rw [hr] at h
    rw [runM_more l st0 hr e]
    simp only [Item.close.injEq] at h ⊢
    obtain ⟨h1, h4⟩ := h
    exact ⟨h1, by rw [h4]⟩
/-- a comment: open to the end, or closed for good -/
theorem mark_more {l : List UInt8} (h : kindOf l = 4) : (∃ t, item l = .mark t []) ∨ ∃ t rest, item l = .mark t rest ∧ ∀ e, item (l ++ e) = .mark t (rest ++ e) := by
  have key : ∀ (find : List UInt8) (j : Nat), find ≠ [] → item l = markI find (l.drop j) → j ≤ l.length → (∀ e, placeOf find (l.drop j) ≠ none → item (l ++ e) = markI find ((l ++ e).drop j)) →
      (∃ t, item l = .mark t []) ∨ ∃ t rest, item l = .mark t rest ∧ ∀ e, item (l ++ e) = .mark t (rest ++ e) := by
    intro find j hf he hj hm
    cases hp : placeOf find (l.drop j) with
    | none =>
      refine .inl ⟨⟨4, [], [], false, l.drop j⟩, ?_⟩
      rw [he]
      unfold markI remark
      rw [hp]
    | some k =>
      have hle := placeOf_le hf hp
      refine .inr ⟨⟨4, [], [], false, (l.drop j).take k⟩, (l.drop j).drop (k + find.length), ?_, fun e => ?_⟩
      · rw [he]
        unfold markI remark
        rw [hp]
      · rw [hm e (by rw [hp]; simp), List.drop_append_of_le_length hj]
        unfold markI remark
        rw [placeOf_more hf _ e hp]
        simp only
        rw [List.take_append_of_le_length (by omega), List.drop_append_of_le_length hle]
  have hk : ∀ e, kindOf (l ++ e) = 4 := fun e => by rw [kindOf_more e (by rw [h]; decide), h]
  have hl2 : 2 ≤ l.length := by
    match l, h with
    | a :: c :: r, _ => simp
  rcases item_mark h with ⟨h1, he⟩ | ⟨h1, h2, he⟩ | ⟨h1, h2, he⟩
  · have hl : 4 ≤ l.length := by
      have := congrArg List.length h1
      simp only [List.length_take, List.length_cons, List.length_nil] at this
      omega
    refine key _ 4 (by decide) he hl fun e _ => ?_
    have h4 : (l ++ e).take 4 = [60, 33, 45, 45] := by rw [List.take_append_of_le_length hl, h1]
    rcases item_mark (hk e) with ⟨_, g⟩ | ⟨g1, _, _⟩ | ⟨g1, _, _⟩
    · exact g
    · exact absurd h4 g1
    · exact absurd h4 g1
  · refine key _ 1 (by decide) he (by omega) fun e _ => ?_
    have h4 : (l ++ e).take 2 = [60, 63] := by rw [List.take_append_of_le_length hl2, h2]
    rcases item_mark (hk e) with ⟨g1, _⟩ | ⟨_, _, g⟩ | ⟨_, g2, _⟩
    · have := congrArg (List.take 2) g1
      rw [List.take_take] at this
      rw [show min 2 4 = 2 from rfl, h4] at this
      exact absurd this (by decide)
    · exact g
    · exact absurd h4 g2
  · refine key _ 2 (by decide) he hl2 fun e hp => ?_
    have h4 : (l ++ e).take 2 ≠ [60, 63] := by rw [List.take_append_of_le_length hl2]; exact h2
    rcases item_mark (hk e) with ⟨g1, _⟩ | ⟨_, g2, _⟩ | ⟨_, _, g⟩
    · exfalso
      match l, hl2, h1, hp, g1 with
      | [a, c], _, _, hp, _ => exact hp rfl
      | [a, c, d], _, _, hp, g1 =>
        have hd : d = 45 := by
          simp only [List.cons_append, List.nil_append, List.take_succ_cons, List.cons.injEq] at g1
          exact g1.2.2.1
        subst hd
        exact hp rfl
      | a :: c :: d :: f :: r, _, h1, _, g1 => exact h1 (by simpa using g1)
    · exact absurd g2 h4
    · exact g

theorem toksT_prefix : ∀ (m : Nat) (l txt e : List UInt8), l.length ≤ m → ∃ z, toksT txt (l ++ e) = (toksT txt l).dropLast ++ z
  | 0, l, txt, e, hm => by
    obtain rfl : l = [] := List.eq_nil_of_length_eq_zero (by omega)
    rw [toksT_nil, dropLast_le (chars_le txt)]
    exact ⟨_, rfl⟩
  | m + 1, [], txt, e, hm => by
    rw [toksT_nil, dropLast_le (chars_le txt)]
    exact ⟨_, rfl⟩
  | m + 1, b :: r, txt, e, hm => by
    have hr : r.length ≤ m := by simpa using hm
    by_cases h3 : kindOf (b :: r) = 3
    · by_cases h1 : b :: r = [60]
      · injection h1 with h1 h2
        subst h1; subst h2
        rw [toksT_text txt rfl (item_text h3), toksT_nil, dropLast_le (chars_le _)]
        exact ⟨_, rfl⟩
      by_cases h2 : b :: r = [60, 47]
      · injection h2 with h2 h4
        subst h2; subst h4
        rw [toksT_text txt rfl (item_text h3), toksT_text _ rfl (item_text (l := [47]) rfl), toksT_nil, dropLast_le (chars_le _)]
        exact ⟨_, rfl⟩
      have hk := kindOf_text e h3 (by simp) h1 h2
      rw [toksT_text txt rfl (item_text h3), toksT_text (l := b :: r ++ e) txt (List.cons_append ..) (item_text hk)]
      exact toksT_prefix m r _ e hr
    · have hk := kindOf_more e h3
      rw [toksT_flush txt (.inr (item_notext h3)), toksT_flush (l := b :: r ++ e) txt (.inr (item_notext (by rw [hk]; exact h3)))]
      refine dropLast_ahead (chars_le txt) ?_
      rcases kindOf_cases (b :: r) with h | h | h | h
      · obtain ⟨c, u, e1, ha, he⟩ := item_start h
        cases hs : startI (c :: u) with
        | start n as s rest =>
          have h4 := toksT_start (he.trans hs)
          have hk1 : kindOf (b :: r ++ e) = 1 := hk.trans h
          obtain ⟨c', u', e2, _, he2⟩ := item_start hk1
          have e3 : c' :: u' = (c :: u) ++ e := by
            have := e1 ▸ e2
            simpa using this.symm
          have h5 := toksT_start ((he2.trans (by rw [e3])).trans (startI_more e hs))
          have hsh := item_shorter.2.2 n as s rest (he.trans hs)
          rw [List.length_cons] at hsh
          by_cases hn : rawName n = true
          · rw [if_pos hn] at h4 h5
            by_cases hz : (rawText n rest).2 = []
            · rw [hz, toksT_nil, show chars ([] : List UInt8) = [] from rfl, List.append_nil] at h4
              rw [h4, h5]
              refine dropLast_ahead (a := [⟨1, n, as, s, []⟩]) (x := rawToks n (rawText n rest).1) (y := rawToks n (rawText n (rest ++ e)).1 ++ toksT [] (rawText n (rest ++ e)).2) (by simp) ?_
              rw [dropLast_le (rawToks_le _ _)]
              exact ⟨_, rfl⟩
            · rw [rawText_more n rest e hz] at h5
              rw [h4, h5]
              have := rawText_le n rest
              exact dropLast_ahead (a := [⟨1, n, as, s, []⟩]) (by simp) (dropLast_ahead (rawToks_le _ _) (toksT_prefix m _ [] e (by omega)))
          · rw [if_neg hn] at h4 h5
            rw [h4, h5]
            exact dropLast_ahead (a := [_]) (by simp) (toksT_prefix m rest [] e (by omega))
        | stop => rw [toksT_stop (he.trans hs)]; exact ⟨_, rfl⟩
        | text => unfold startI at hs; split at hs <;> cases hs
        | mark t rest => unfold startI at hs; split at hs <;> cases hs
        | close n rest => unfold startI at hs; split at hs <;> cases hs
      · obtain ⟨c, u, e1, ha, he⟩ := item_end h
        cases hs : closeI (c :: u) with
        | close n rest =>
          have h4 := toksT_close (he.trans hs)
          have hk1 : kindOf (b :: r ++ e) = 2 := hk.trans h
          obtain ⟨c', u', e2, _, he2⟩ := item_end hk1
          have e3 : c' :: u' = (c :: u) ++ e := by
            have := e1 ▸ e2
            simpa using this.symm
          have h5 := toksT_close ((he2.trans (by rw [e3])).trans (closeI_more e hs))
          rw [h4, h5]
          have hsh := item_shorter.2.1 n rest (he.trans hs)
          rw [List.length_cons] at hsh
          exact dropLast_ahead (a := [_]) (by simp) (toksT_prefix m rest [] e (by omega))
        | stop => rw [toksT_stop (he.trans hs)]; exact ⟨_, rfl⟩
        | text => unfold closeI at hs; split at hs <;> cases hs
        | mark t rest => unfold closeI at hs; split at hs <;> cases hs
        | start n as s rest => unfold closeI at hs; split at hs <;> cases hs
      · exact absurd h h3
      · rcases mark_more h with ⟨t, he⟩ | ⟨t, rest, he, hm⟩
        · rw [toksT_mark he, toksT_nil, dropLast_le (by simp [chars])]
          exact ⟨_, rfl⟩
        · rw [toksT_mark he, toksT_mark (hm e)]
          have hsh := item_shorter.1 t rest he
          rw [List.length_cons] at hsh
          exact dropLast_ahead (a := [t]) (by simp) (toksT_prefix m rest [] e (by omega))

/-- WHAT COMES LATER CHANGES NOTHING BUT THE LAST TOKEN -/
theorem toks_prefix (l e : List UInt8) : ∃ z, toks (l ++ e) = (toks l).dropLast ++ z := toksT_prefix l.length l [] e (Nat.le_refl _)

end U
end Go.Proofs.YtfockedeikdbjaaGreatDoor

namespace Go.Proofs.YtfockedeikdbjaaGreatDoor
namespace U

/-- no two attributes with one name -/
def uniq : List Att → Prop := List.Pairwise (fun a b => a.1 ≠ b.1)
structure OkTok (t : Tok) : Prop where
  text : t.kind = 3 → t.text ≠ []
  name : t.kind = 1 ∨ t.kind = 2 → t.name ≠ []
  low : ∀ c ∈ t.name, ¬ (65 ≤ c.toNat ∧ c.toNat ≤ 90)
  once : uniq t.attrs
/-- no two texts side by side -/
def apart : List Tok → Prop
  | [] => True
  | [_] => True
  | a :: b :: l => ¬ (a.kind = 3 ∧ b.kind = 3) ∧ apart (b :: l)
def headNo (l : List Tok) : Prop := ∀ t, l.head? = some t → t.kind ≠ 3

theorem low_small (l : List UInt8) : ∀ c ∈ low l, ¬ (65 ≤ c.toNat ∧ c.toNat ≤ 90) := by
  intro c hc
  unfold low at hc
  obtain ⟨b, _, rfl⟩ := List.mem_map.1 hc
  unfold low1
  split
  · rename_i h
    simp only [UInt8.toNat_ofNat']
    omega
  · assumption
theorem firsts_uniq : ∀ (l acc : List Att), uniq acc → uniq (firsts acc l)
  | [], acc, h => h
  | a :: l, acc, h => by
    rw [firsts]
    apply firsts_uniq
    split
    · rename_i h1
      refine List.pairwise_append.2 ⟨h, List.pairwise_singleton _ _, ?_⟩
      intro x hx y hy
      obtain rfl := List.mem_singleton.1 hy
      have := List.all_eq_true.1 h1 x hx
      simpa using this
    · exact h
theorem unesc_ne {l : List UInt8} (h : l ≠ []) : unesc l ≠ [] := by
  cases l with
  | nil => exact absurd rfl h
  | cons b r =>
    cases hr : refAt (b :: r) with
    | none => rw [unesc_none hr]; simp
    | some x =>
      obtain ⟨n, k⟩ := x
      rw [unesc_some hr]
      intro e
      have := congrArg List.length e
      rw [List.length_append, List.length_nil] at this
      have h2 := (enc_length n).1
      omega
theorem ok_chars (txt : List UInt8) : ∀ t ∈ chars txt, OkTok t := by
  intro t ht
  unfold chars at ht
  split at ht
  · cases ht
  · rename_i h
    obtain rfl := List.mem_singleton.1 ht
    exact ⟨fun _ => unesc_ne h, (fun h => by rcases h with h | h <;> cases h), (fun c hc => by cases hc), List.Pairwise.nil⟩
theorem ok_raw (n raw : List UInt8) : ∀ t ∈ rawToks n raw, OkTok t := by
  intro t ht
  unfold rawToks at ht
  split at ht
  · cases ht
  · rename_i h
    obtain rfl := List.mem_singleton.1 ht
    refine ⟨fun _ => ?_, (fun h => by rcases h with h | h <;> cases h), (fun c hc => by cases hc), List.Pairwise.nil⟩
    simp only
    split
    · exact unesc_ne h
    · exact h
theorem ok_mark {find l : List UInt8} : OkTok (remark find l).1 := by
  unfold remark
  split <;> exact ⟨(fun h => by cases h), (fun h => by rcases h with h | h <;> cases h), (fun c hc => by cases hc), List.Pairwise.nil⟩
theorem mark_kind {find l : List UInt8} : (remark find l).1.kind = 4 := by
  unfold remark
  split <;> rfl

/-- the name that the machine reads -/
theorem runM_tname : ∀ (l : List UInt8) (st : St) {st' : St} {r : List UInt8}, st.state ≠ 0 → runM st l = some (st', r) → st'.tname = st.tname := by
  have hstep : ∀ (st : St) (b : UInt8), st.state ≠ 0 → (∀ s, step st b = .go s → s.state ≠ 0 ∧ s.tname = st.tname) ∧ (∀ s, step st b = .fin s → s.tname = st.tname) ∧ (∀ s, step st b = .again s → s.state ≠ 0 ∧ s.tname = st.tname) := by
    intro st b h0
    have e0 : pre0 st = st := by unfold pre0; rw [if_neg h0]
    have e2 : (pre2 st b).state ≠ 0 ∧ (pre2 st b).tname = st.tname := by unfold pre2; split <;> simp [h0]
    have e6 : (pre6 (pre2 st b) b).state ≠ 0 ∧ (pre6 (pre2 st b) b).tname = st.tname := by unfold pre6; split <;> simp [e2]
    have e3 : (pre3 (pre6 (pre2 st b) b) b).state ≠ 0 ∧ (pre3 (pre6 (pre2 st b) b) b).tname = st.tname := by unfold pre3; split <;> simp [e6]
    unfold step
    rw [if_neg (fun h => h0 h.1), e0]
    generalize pre3 (pre6 (pre2 st b) b) b = t at e3
    obtain ⟨g1, g2⟩ := e3
    unfold post
    refine ⟨fun s h => ?_, fun s h => ?_, fun s h => ?_⟩
    all_goals
      repeat' split at h
      all_goals first
        | (cases h; done)
        | (injection h with h; subst h; simp_all; done)
        | skip
  intro l
  induction l with
  | nil => intro st st' r _ h; cases h
  | cons b l ih =>
    intro st st' r h0 h
    obtain ⟨s1, s2, s3⟩ := hstep st b h0
    rw [runM] at h
    cases hs : step st b with
    | go s =>
      rw [hs] at h
      obtain ⟨g1, g2⟩ := s1 s hs
      rw [ih s g1 h, g2]
    | fin s =>
      rw [hs] at h
      simp only [Option.some.injEq, Prod.mk.injEq] at h
      obtain ⟨rfl, _⟩ := h
      exact s2 s hs
    | again s =>
      rw [hs] at h
      simp only at h
      obtain ⟨g1, g2⟩ := s3 s hs
      obtain ⟨t1, t2, _⟩ := hstep s b g1
      cases hs2 : step s b with
      | go s' =>
        rw [hs2] at h
        obtain ⟨g3, g4⟩ := t1 s' hs2
        rw [ih s' g3 h, g4, g2]
      | fin s' =>
        rw [hs2] at h
        simp only [Option.some.injEq, Prod.mk.injEq] at h
        obtain ⟨rfl, _⟩ := h
        rw [t2 s' hs2, g2]
      | again s' => rw [hs2] at h; cases h
theorem tname_ne {c : UInt8} {r t : List UInt8} {s : St} (ha : isAl c = true) (h : runM st0 (c :: r) = some (s, t)) : s.tname ≠ [] := by
  unfold st0 at h
  rw [run_name] at h
  have := runM_tname _ _ (by simp) h
  rw [this]
  have hn : nameB c = true := by
    have h1 : endsName c = false := by
      obtain ⟨h1, h2, h3⟩ := isAl_ne ha
      have h4 : c ≠ 62 := by rintro rfl; exact absurd ha (by decide)
      have h5 : isSp c = false := by
        cases hs : isSp c with
        | false => rfl
        | true =>
          exfalso
          unfold isSp at hs
          simp only [Bool.or_eq_true, beq_iff_eq] at hs
          rcases hs with ((rfl | rfl) | rfl) | rfl <;> exact absurd ha (by decide)
      simp [endsName, h5, h3, h4]
    simp [nameB, h1]
  rw [List.takeWhile_cons_of_pos hn]
  simp
theorem low_ne {l : List UInt8} (h : l ≠ []) : low l ≠ [] := by
  intro e
  have := congrArg List.length e
  rw [low_length] at this
  exact h (List.eq_nil_of_length_eq_zero this)

theorem apart_cons {a : Tok} {l : List Tok} (h : apart l) (ha : a.kind ≠ 3 ∨ headNo l) : apart (a :: l) := by
  cases l with
  | nil => trivial
  | cons b l =>
    refine ⟨fun hh => ?_, h⟩
    rcases ha with ha | ha
    · exact ha hh.1
    · exact ha b rfl hh.2
theorem apart_chars {txt : List UInt8} {l : List Tok} (h : apart l) (h2 : headNo l) : apart (chars txt ++ l) := by
  unfold chars
  split
  · exact h
  · exact apart_cons h (.inr h2)
theorem raw_rest_kind {n l : List UInt8} (hn : ∃ c m, n = c :: m ∧ isAl c = true) (hz : (rawText n l).2 ≠ []) : kindOf (rawText n l).2 = 2 := by
  · have h1 := rawText_rest n l hz
    generalize (rawText n l).2 = r at h1 hz
    obtain ⟨c, m, rfl, hc⟩ := hn
    have hlong := rawEnd_long h1
    unfold rawEnd at h1
    cases hd : r.drop (2 + (c :: m).length) with
    | nil => rw [hd] at h1; cases h1
    | cons d e =>
      rw [hd] at h1
      simp only [Bool.and_eq_true, beq_iff_eq] at h1
      obtain ⟨⟨h2, h3⟩, _⟩ := h1
      match r, hlong, h2, h3 with
      | [], hl, _, _ => simp at hl
      | [_], hl, _, _ => simp at hl
      | [_, _], hl, _, _ => simp only [List.length_cons, List.length_nil] at hl; omega
      | x :: y :: z :: u, _, h2, h3 =>
        simp only [List.take_succ_cons, List.take_zero, List.cons.injEq, and_true] at h2
        obtain ⟨rfl, rfl⟩ := h2
        have hz2 : isAl z = true := by
          have h4 : low1 z = c := by
            have : (z :: u).take ((c :: m).length) = z :: u.take m.length := by simp
            simp only [List.drop_succ_cons, List.drop_zero] at h3
            rw [this] at h3
            unfold low at h3
            rw [List.map_cons] at h3
            injection h3
          rw [← h4] at hc
          unfold low1 at hc
          split at hc
          · rename_i h5
            unfold isAl
            simp [h5.1, h5.2]
          · exact hc
        rw [kindOf_cons, if_neg (by decide), if_neg (by decide), if_neg (by decide), if_pos rfl, kindS_cons, if_pos hz2]
theorem headNo_rest {n l : List UInt8} (hn : ∃ c m, n = c :: m ∧ isAl c = true) : headNo (toksT [] (rawText n l).2) := by
  by_cases hz : (rawText n l).2 = []
  · rw [hz]; intro t ht; cases ht
  · have hk := raw_rest_kind (l := l) hn hz
    obtain ⟨c', r', e1, _, he⟩ := item_end hk
    cases hs : closeI (c' :: r') with
    | close n' rest => rw [toksT_close (he.trans hs)]; intro t ht; injection ht with ht; subst ht; simp
    | stop => rw [toksT_stop (he.trans hs)]; intro t ht; cases ht
    | text => unfold closeI at hs; split at hs <;> cases hs
    | mark t rest => unfold closeI at hs; split at hs <;> cases hs
    | start n as s rest => unfold closeI at hs; split at hs <;> cases hs
theorem rawText_both : ∀ (n l : List UInt8), (rawText n l).1 ++ (rawText n l).2 = l
  | n, [] => rfl
  | n, b :: r => by
    rw [rawText]
    split
    · rfl
    · show b :: ((rawText n r).1 ++ (rawText n r).2) = b :: r
      rw [rawText_both n r]
theorem rawName_al {n : List UInt8} (h : rawName n = true) : ∃ c m, n = c :: m ∧ isAl c = true := by
  unfold rawName at h
  simp only [Bool.or_eq_true, beq_iff_eq] at h
  rcases h with ((rfl | rfl) | rfl) | rfl <;> exact ⟨_, _, rfl, by decide⟩

/-- all of it -/
theorem toksT_ok : ∀ (m : Nat) (l txt : List UInt8), l.length ≤ m → (∀ t ∈ toksT txt l, OkTok t) ∧ apart (toksT txt l) ∧ (toksT txt l).length ≤ l.length + (if txt = [] then 0 else 1)
  | 0, l, txt, hm => by
    obtain rfl : l = [] := List.eq_nil_of_length_eq_zero (by omega)
    rw [toksT_nil]
    refine ⟨ok_chars txt, ?_, ?_⟩
    · unfold chars; split <;> trivial
    · unfold chars; split <;> simp
  | m + 1, [], txt, hm => by
    rw [toksT_nil]
    refine ⟨ok_chars txt, ?_, ?_⟩
    · unfold chars; split <;> trivial
    · unfold chars; split <;> simp
  | m + 1, b :: r, txt, hm => by
    have hr : r.length ≤ m := by simpa using hm
    by_cases h3 : kindOf (b :: r) = 3
    · rw [toksT_text txt rfl (item_text h3)]
      obtain ⟨g1, g2, g3⟩ := toksT_ok m r (txt ++ [b]) hr
      refine ⟨g1, g2, ?_⟩
      rw [if_neg (by simp)] at g3
      rw [List.length_cons]
      split <;> omega
    · rw [toksT_flush txt (.inr (item_notext h3))]
      have hch : (chars txt).length = if txt = [] then 0 else 1 := by unfold chars; split <;> rfl
      have key : (∀ t ∈ toksT [] (b :: r), OkTok t) ∧ apart (toksT [] (b :: r)) ∧ headNo (toksT [] (b :: r)) ∧ (toksT [] (b :: r)).length ≤ (b :: r).length := by
        have step1 : ∀ (t : Tok) (rest : List UInt8), OkTok t → t.kind ≠ 3 → rest.length < (b :: r).length → (∀ u ∈ t :: toksT [] rest, OkTok u) ∧ apart (t :: toksT [] rest) ∧ headNo (t :: toksT [] rest) ∧ (t :: toksT [] rest).length ≤ (b :: r).length := by
          intro t rest ht hk hl
          rw [List.length_cons] at hl
          obtain ⟨g1, g2, g3⟩ := toksT_ok m rest [] (by omega)
          rw [if_pos rfl] at g3
          refine ⟨fun u hu => ?_, apart_cons g2 (.inl hk), fun u hu => ?_, ?_⟩
          · rcases List.mem_cons.1 hu with rfl | hu
            · exact ht
            · exact g1 u hu
          · injection hu with hu; subst hu; exact hk
          · rw [List.length_cons, List.length_cons]; omega
        have none1 : (∀ t ∈ ([] : List Tok), OkTok t) ∧ apart [] ∧ headNo [] ∧ ([] : List Tok).length ≤ (b :: r).length := ⟨(fun _ h => by cases h), trivial, (fun _ h => by cases h), by simp⟩
        rcases kindOf_cases (b :: r) with h | h | h | h
        · obtain ⟨c, u, e1, ha, he⟩ := item_start h
          cases hs : startI (c :: u) with
          | start n as s rest =>
            have hsh := item_shorter.2.2 n as s rest (he.trans hs)
            have hok : OkTok ⟨1, n, as, s, []⟩ := by
              unfold startI at hs
              cases hru : runM st0 (c :: u) with
              | none => rw [hru] at hs; cases hs
              | some x =>
                rw [hru] at hs
                obtain ⟨st, t⟩ := x
                simp only [Item.start.injEq] at hs
                obtain ⟨rfl, rfl, rfl, rfl⟩ := hs
                exact ⟨(fun h => by cases h), fun _ => low_ne (tname_ne ha hru), low_small _, firsts_uniq _ _ List.Pairwise.nil⟩
            rw [toksT_start (he.trans hs)]
            by_cases hn : rawName n = true
            · rw [if_pos hn]
              have hle := rawText_le n rest
              rw [List.length_cons] at hsh
              obtain ⟨g1, g2, g3⟩ := toksT_ok m (rawText n rest).2 [] (by omega)
              rw [if_pos rfl] at g3
              have hh := headNo_rest (l := rest) (rawName_al hn)
              refine ⟨fun x hx => ?_, apart_cons ?_ (.inl (by simp)), fun x hx => by injection hx with hx; subst hx; simp, ?_⟩
              · rcases List.mem_cons.1 hx with rfl | hx
                · exact hok
                rcases List.mem_append.1 hx with hx | hx
                · exact ok_raw _ _ x hx
                · exact g1 x hx
              · unfold rawToks
                split
                · exact g2
                · exact apart_cons g2 (.inr hh)
              · have hraw : (rawToks n (rawText n rest).1).length + (rawText n rest).2.length ≤ rest.length := by
                  have hlen : (rawText n rest).1.length + (rawText n rest).2.length = rest.length := by
                    have := congrArg List.length (rawText_both n rest)
                    rwa [List.length_append] at this
                  unfold rawToks
                  split
                  · simp; omega
                  · rename_i h9
                    have : (rawText n rest).1.length ≠ 0 := fun e => h9 (List.eq_nil_of_length_eq_zero e)
                    simp only [List.length_cons, List.length_nil]
                    omega
                rw [List.length_cons, List.length_append, List.length_cons]
                omega
            · rw [if_neg hn]
              exact step1 _ rest hok (by simp) hsh
          | stop => rw [toksT_stop (he.trans hs)]; exact none1
          | text => unfold startI at hs; split at hs <;> cases hs
          | mark t rest => unfold startI at hs; split at hs <;> cases hs
          | close n rest => unfold startI at hs; split at hs <;> cases hs
        · obtain ⟨c, u, e1, ha, he⟩ := item_end h
          cases hs : closeI (c :: u) with
          | close n rest =>
            have hsh := item_shorter.2.1 n rest (he.trans hs)
            rw [toksT_close (he.trans hs)]
            refine step1 _ rest ?_ (by simp) hsh
            unfold closeI at hs
            cases hru : runM st0 (c :: u) with
            | none => rw [hru] at hs; cases hs
            | some x =>
              rw [hru] at hs
              obtain ⟨st, t⟩ := x
              simp only [Item.close.injEq] at hs
              obtain ⟨rfl, rfl⟩ := hs
              exact ⟨(fun h => by cases h), fun _ => low_ne (tname_ne ha hru), low_small _, List.Pairwise.nil⟩
          | stop => rw [toksT_stop (he.trans hs)]; exact none1
          | text => unfold closeI at hs; split at hs <;> cases hs
          | mark t rest => unfold closeI at hs; split at hs <;> cases hs
          | start n as s rest => unfold closeI at hs; split at hs <;> cases hs
        · exact absurd h h3
        · obtain ⟨find, u, he⟩ : ∃ find u, item (b :: r) = markI find u := by
            rcases item_mark h with ⟨_, e⟩ | ⟨_, _, e⟩ | ⟨_, _, e⟩ <;> exact ⟨_, _, e⟩
          have hsh := item_shorter.1 _ _ he
          rw [toksT_mark he]
          exact step1 _ _ ok_mark (by rw [mark_kind]; decide) hsh
      obtain ⟨k1, k2, k3, k4⟩ := key
      refine ⟨fun t ht => ?_, apart_chars k2 k3, ?_⟩
      · rcases List.mem_append.1 ht with ht | ht
        · exact ok_chars _ t ht
        · exact k1 t ht
      · rw [List.length_append, hch]
        omega
theorem toks_ok (l : List UInt8) : (∀ t ∈ toks l, OkTok t) ∧ apart (toks l) ∧ (toks l).length ≤ l.length := by
  obtain ⟨h1, h2, h3⟩ := toksT_ok l.length l [] (Nat.le_refl _)
  rw [if_pos rfl] at h3
  exact ⟨h1, h2, h3⟩
theorem apart_at : ∀ (l : List Tok) (i : Nat) (a b : Tok), apart l → l[i]? = some a → l[i + 1]? = some b → ¬ (a.kind = 3 ∧ b.kind = 3)
  | [], i, a, b, _, h, _ => by cases h
  | [x], i, a, b, _, h, h2 => by cases i <;> simp at h2
  | x :: y :: l, 0, a, b, h, h1, h2 => by
    simp only [List.getElem?_cons_zero, Option.some.injEq, Nat.zero_add, List.getElem?_cons_succ] at h1 h2
    subst h1; subst h2
    exact h.1
  | x :: y :: l, i + 1, a, b, h, h1, h2 => by
    simp only [List.getElem?_cons_succ] at h1 h2
    exact apart_at (y :: l) i a b h.2 (by simpa using h1) (by simpa using h2)

end U
end Go.Proofs.YtfockedeikdbjaaGreatDoor

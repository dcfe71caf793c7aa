/- Plain mathematics: a tag read piece by piece, against the machine that reads it byte by byte. -/
import Derived.Test.YtkmjngpgngkalaaDoorTokStep
namespace Go.Proofs.YtkmjngpgngkalaaDoor
namespace U

/-- bytes of an element's name, of an attribute's name, of a value without quotes; bytes that are skipped -/
def nameB (b : UInt8) : Bool := !endsName b
def attB (b : UInt8) : Bool := !(endsName b || b == 61)
def bareB (b : UInt8) : Bool := !(isSp b || b == 62)
def gapB (b : UInt8) : Bool := isSp b || b == 47
/-- whether the last byte skipped is a slash -/
def slashOf (sl : Bool) (l : List UInt8) : Bool := l.foldl (fun _ c => c == 47) sl

theorem run_same {st st' : St} {b : UInt8} (r : List UInt8) (h : step st b = step st' b) : runM st (b :: r) = runM st' (b :: r) := by
  rw [runM, runM, h]

theorem run_name : ∀ (l t n v : List UInt8) (q : UInt8) (sl : Bool) (al : List Att), runM ⟨0, t, n, v, q, sl, al⟩ l = runM ⟨1, t ++ l.takeWhile nameB, n, v, q, false, al⟩ (l.dropWhile nameB)
  | [], t, n, v, q, sl, al => rfl
  | b :: l, t, n, v, q, sl, al => by
    by_cases h : nameB b = true
    · have h0 := h
      simp only [nameB, endsName, Bool.not_eq_true', Bool.or_eq_false_iff, beq_eq_false_iff_ne] at h0
      obtain ⟨⟨h1, h2⟩, h3⟩ := h0
      rw [List.takeWhile_cons_of_pos h, List.dropWhile_cons_of_pos h, runM_go l (step_N4 h1 h2 h3), run_name l, List.append_assoc, List.singleton_append]
    · rw [List.takeWhile_cons_of_neg h, List.dropWhile_cons_of_neg h, List.append_nil]
      have h0 : endsName b = true := by simpa [nameB] using h
      simp only [endsName, Bool.or_eq_true, beq_iff_eq] at h0
      apply run_same
      rcases h0 with (h1 | h2) | h3
      · rw [step_N1 h1, step_A3 h1]
      · rw [step_N2 h2, step_A2 h2]
      · rw [step_N3 h3, step_A1 h3]

theorem run_gap : ∀ (l t n v : List UInt8) (q : UInt8) (sl : Bool) (al : List Att), runM ⟨1, t, n, v, q, sl, al⟩ l = runM ⟨1, t, n, v, q, slashOf sl (l.takeWhile gapB), al⟩ (l.dropWhile gapB)
  | [], t, n, v, q, sl, al => rfl
  | b :: l, t, n, v, q, sl, al => by
    by_cases h : gapB b = true
    · rw [List.takeWhile_cons_of_pos h, List.dropWhile_cons_of_pos h]
      simp only [gapB, Bool.or_eq_true, beq_iff_eq] at h
      rcases h with h1 | h2
      · rw [runM_go l (step_A3 h1), run_gap l]
        have : (b == 47) = false := beq_eq_false_iff_ne.2 (isSp_ne h1).1
        simp only [slashOf, List.foldl_cons, this]
      · rw [runM_go l (step_A2 h2), run_gap l]
        have : (b == 47) = true := beq_iff_eq.2 h2
        simp only [slashOf, List.foldl_cons, this]
    · rw [List.takeWhile_cons_of_neg h, List.dropWhile_cons_of_neg h]
      rfl

theorem run_close (r t n v : List UInt8) (q : UInt8) (sl : Bool) (al : List Att) : runM ⟨1, t, n, v, q, sl, al⟩ (62 :: r) = some (⟨1, t, n, v, q, sl, al⟩, r) := runM_fin r (step_A1 rfl)
theorem run_open (b : UInt8) (r t n v : List UInt8) (q : UInt8) (sl : Bool) (al : List Att) (h : gapB b = false) (h2 : b ≠ 62) : runM ⟨1, t, n, v, q, sl, al⟩ (b :: r) = runM ⟨2, t, [b], v, q, sl, al⟩ r := by
  simp only [gapB, Bool.or_eq_false_iff, beq_eq_false_iff_ne] at h
  exact runM_go r (step_A4 h.1 h.2 h2)

theorem run_att : ∀ (l t n v : List UInt8) (q : UInt8) (sl : Bool) (al : List Att), runM ⟨2, t, n, v, q, sl, al⟩ l = runM ⟨3, t, n ++ l.takeWhile attB, v, q, sl, al⟩ (l.dropWhile attB)
  | [], t, n, v, q, sl, al => rfl
  | b :: l, t, n, v, q, sl, al => by
    by_cases h : attB b = true
    · have h0 := h
      simp only [attB, endsName, Bool.not_eq_true', Bool.or_eq_false_iff, beq_eq_false_iff_ne] at h0
      obtain ⟨⟨⟨h1, h2⟩, h3⟩, h4⟩ := h0
      rw [List.takeWhile_cons_of_pos h, List.dropWhile_cons_of_pos h, runM_go l (step_B5 h1 h2 h3 h4), run_att l, List.append_assoc, List.singleton_append]
    · rw [List.takeWhile_cons_of_neg h, List.dropWhile_cons_of_neg h, List.append_nil]
      have h0 : (endsName b || b == 61) = true := by cases hh : (endsName b || b == 61) with
        | true => rfl
        | false => exact absurd (by simp only [attB, hh, Bool.not_false]) h
      simp only [endsName, Bool.or_eq_true, beq_iff_eq] at h0
      apply run_same
      rcases h0 with ((h1 | h2) | h3) | h4
      · rw [step_B1 h1, step_C1 h1]
      · rw [step_B2 h2, step_C3 h2]
      · rw [step_B3 h3, step_C4 h3]
      · rw [step_B4 h4, step_C2 h4]

theorem run_gap3 : ∀ (l t n v : List UInt8) (q : UInt8) (sl : Bool) (al : List Att), runM ⟨3, t, n, v, q, sl, al⟩ l = runM ⟨3, t, n, v, q, sl, al⟩ (l.dropWhile isSp)
  | [], t, n, v, q, sl, al => rfl
  | b :: l, t, n, v, q, sl, al => by
    by_cases h : isSp b = true
    · rw [List.dropWhile_cons_of_pos h, runM_go l (step_C1 h), run_gap3 l]
    · rw [List.dropWhile_cons_of_neg h]
theorem run_gap4 : ∀ (l t n v : List UInt8) (q : UInt8) (sl : Bool) (al : List Att), runM ⟨4, t, n, v, q, sl, al⟩ l = runM ⟨4, t, n, v, q, sl, al⟩ (l.dropWhile isSp)
  | [], t, n, v, q, sl, al => rfl
  | b :: l, t, n, v, q, sl, al => by
    by_cases h : isSp b = true
    · rw [List.dropWhile_cons_of_pos h, runM_go l (step_D1 h), run_gap4 l]
    · rw [List.dropWhile_cons_of_neg h]
theorem run_noval (b : UInt8) (r t n v : List UInt8) (q : UInt8) (sl : Bool) (al : List Att) (hs : isSp b = false) (h61 : b ≠ 61) : runM ⟨3, t, n, v, q, sl, al⟩ (b :: r) = runM ⟨1, t, n, v, q, false, al ++ [(low n, [])]⟩ (b :: r) := by
  apply run_same
  by_cases h47 : b = 47
  · rw [step_C3 h47, step_A2 h47]
  by_cases h62 : b = 62
  · rw [step_C4 h62, step_A1 h62]
  rw [step_C5 hs h47 h62 h61, step_A4 hs h47 h62]
theorem run_eq (r t n v : List UInt8) (q : UInt8) (sl : Bool) (al : List Att) : runM ⟨3, t, n, v, q, sl, al⟩ (61 :: r) = runM ⟨4, t, n, v, q, sl, al⟩ r := runM_go r (step_C2 rfl)
theorem run_quote (b : UInt8) (r t n v : List UInt8) (q : UInt8) (sl : Bool) (al : List Att) (hq : b = 34 ∨ b = 39) : runM ⟨4, t, n, v, q, sl, al⟩ (b :: r) = runM ⟨5, t, n, [], b, sl, al⟩ r :=
  runM_go r (step_D2 (by rcases hq with rfl | rfl <;> rfl) hq)
theorem run_bare (b : UInt8) (r t n v : List UInt8) (q : UInt8) (sl : Bool) (al : List Att) (hs : isSp b = false) (hq : ¬ (b = 34 ∨ b = 39)) : runM ⟨4, t, n, v, q, sl, al⟩ (b :: r) = runM ⟨6, t, n, [], q, sl, al⟩ (b :: r) := runM_again r (step_D3 hs hq)
theorem run_quoted : ∀ (l t n v : List UInt8) (q : UInt8) (sl : Bool) (al : List Att), runM ⟨5, t, n, v, q, sl, al⟩ l = match placeOf [q] l with
    | none => none
    | some k => runM ⟨1, t, n, v ++ l.take k, q, false, al ++ [(low n, unesc (v ++ l.take k))]⟩ (l.drop (k + 1))
  | [], t, n, v, q, sl, al => rfl
  | b :: l, t, n, v, q, sl, al => by
    by_cases h : b = q
    · have hp : placeOf [q] (b :: l) = some 0 := by rw [placeOf]; simp [h]
      rw [hp, runM_go l (step_E1 h)]
      simp
    · have hp : placeOf [q] (b :: l) = (placeOf [q] l).map (· + 1) := by rw [placeOf, if_neg (by simp [h])]
      rw [hp, runM_go l (step_E2 h), run_quoted l]
      cases placeOf [q] l with
      | none => rfl
      | some k => simp
theorem run_bared : ∀ (l t n v : List UInt8) (q : UInt8) (sl : Bool) (al : List Att), runM ⟨6, t, n, v, q, sl, al⟩ l = runM ⟨1, t, n, v ++ l.takeWhile bareB, q, false, al ++ [(low n, unesc (v ++ l.takeWhile bareB))]⟩ (l.dropWhile bareB)
  | [], t, n, v, q, sl, al => rfl
  | b :: l, t, n, v, q, sl, al => by
    by_cases h : bareB b = true
    · have h0 := h
      simp only [bareB, Bool.not_eq_true', Bool.or_eq_false_iff, beq_eq_false_iff_ne] at h0
      rw [List.takeWhile_cons_of_pos h, List.dropWhile_cons_of_pos h, runM_go l (step_F3 h0.1 h0.2), run_bared l, List.append_assoc, List.singleton_append]
    · rw [List.takeWhile_cons_of_neg h, List.dropWhile_cons_of_neg h, List.append_nil]
      have h0 : (isSp b || b == 62) = true := by cases hh : (isSp b || b == 62) with
        | true => rfl
        | false => exact absurd (by simp only [bareB, hh, Bool.not_false]) h
      simp only [Bool.or_eq_true, beq_iff_eq] at h0
      apply run_same
      rcases h0 with h1 | h2
      · rw [step_F1 h1, step_A3 h1]
      · rw [step_F2 h2, step_A1 h2]

/-- one attribute: what it adds, and what is left -/
def readVal (l : List UInt8) : List UInt8 × List UInt8 := match l with
  | [] => ([], [])
  | b :: r => if b = 34 ∨ b = 39 then (match placeOf [b] r with
      | none => (r, [])
      | some k => (r.take k, r.drop (k + 1)))
    else (l.takeWhile bareB, l.dropWhile bareB)
def readAtt (b : UInt8) (r : List UInt8) : Att × List UInt8 :=
  match (r.dropWhile attB).dropWhile isSp with
  | 61 :: u => ((low (b :: r.takeWhile attB), unesc (readVal (u.dropWhile isSp)).1), (readVal (u.dropWhile isSp)).2)
  | u => ((low (b :: r.takeWhile attB), []), u)
theorem drop_not (p : UInt8 → Bool) (l : List UInt8) {b : UInt8} {r : List UInt8} (h : l.dropWhile p = b :: r) : p b = false := by
  induction l with
  | nil => cases h
  | cons a l ih =>
    by_cases ha : p a = true
    · rw [List.dropWhile_cons_of_pos ha] at h; exact ih h
    · rw [List.dropWhile_cons_of_neg ha] at h
      injection h with h _
      subst h
      simpa using ha
theorem run_val (l t n v : List UInt8) (q : UInt8) (sl : Bool) (al : List Att) : ∃ v' q', runM ⟨4, t, n, v, q, sl, al⟩ (l.dropWhile isSp) = runM ⟨1, t, n, v', q', false, al ++ [(low n, unesc (readVal (l.dropWhile isSp)).1)]⟩ (readVal (l.dropWhile isSp)).2 := by
  cases h : l.dropWhile isSp with
  | nil => exact ⟨v, q, rfl⟩
  | cons b r =>
    have hs := drop_not isSp l h
    by_cases hq : b = 34 ∨ b = 39
    · rw [run_quote b r t n v q sl al hq, run_quoted]
      unfold readVal
      simp only [if_pos hq]
      cases hp : placeOf [b] r with
      | none => exact ⟨v, q, rfl⟩
      | some k => exact ⟨r.take k, b, by simp⟩
    · rw [run_bare b r t n v q sl al hs hq, run_bared]
      unfold readVal
      simp only [if_neg hq]
      exact ⟨(b :: r).takeWhile bareB, q, by simp⟩
theorem run_readAtt (b : UInt8) (r t n v : List UInt8) (q : UInt8) (sl : Bool) (al : List Att) (h : gapB b = false) (h2 : b ≠ 62) :
    ∃ n' v' q', runM ⟨1, t, n, v, q, sl, al⟩ (b :: r) = runM ⟨1, t, n', v', q', false, al ++ [(readAtt b r).1]⟩ (readAtt b r).2 := by
  rw [run_open b r t n v q sl al h h2, run_att, run_gap3, List.singleton_append]
  unfold readAtt
  split
  · rename_i u hu
    rw [hu, run_eq, run_gap4]
    obtain ⟨v', q', e⟩ := run_val u t (b :: r.takeWhile attB) v q sl al
    exact ⟨_, v', q', e⟩
  · rename_i u hu
    cases he : (r.dropWhile attB).dropWhile isSp with
    | nil => exact ⟨n, v, q, rfl⟩
    | cons c u' =>
      have hs := drop_not isSp _ he
      rw [run_noval c u' t (b :: r.takeWhile attB) v q sl al hs (fun e => hu u' (by rw [he, e]))]
      exact ⟨_, _, _, rfl⟩

/-- the attributes, one by one -/
def withAtt (acc : List Att) (a : Att) : List Att := if acc.all (fun c => c.1 != a.1) = true then acc ++ [a] else acc
theorem firsts_snoc : ∀ (l acc : List Att) (a : Att), firsts acc (l ++ [a]) = withAtt (firsts acc l) a
  | [], acc, a => rfl
  | b :: l, acc, a => by
    rw [List.cons_append, firsts, firsts, firsts_snoc l]
theorem slashOf_append (a : List UInt8) (c : UInt8) (sl : Bool) : slashOf sl (a ++ [c]) = (c == 47) := by simp [slashOf]
theorem slashOf_suffix (a : List UInt8) : slashOf false a = List.isSuffixOf [47] a := by
  rcases List.eq_nil_or_concat a with rfl | ⟨l, c, rfl⟩
  · rfl
  · rw [List.concat_eq_append, slashOf_append]
    simp [List.isSuffixOf, List.isPrefixOf]
    rw [Bool.beq_comm]

end U
end Go.Proofs.YtkmjngpgngkalaaDoor

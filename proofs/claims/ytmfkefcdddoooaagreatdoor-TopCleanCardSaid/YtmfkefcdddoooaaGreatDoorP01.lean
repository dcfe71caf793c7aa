/- Several texts in one: TokStep, ReadMath, Digits, Lead. -/
import Derived.Lib.Strings
import Derived.Lib.IndexLaws
import Derived.Lib.Small
import Derived.Test.YtmfkefcdddoooaaGreatDoorP00
namespace Go.Proofs.YtmfkefcdddoooaaGreatDoor
namespace U

theorem isSp_ne {b : UInt8} (h : isSp b = true) : b ≠ 47 ∧ b ≠ 62 ∧ b ≠ 61 ∧ b ≠ 34 ∧ b ≠ 39 := by
  refine ⟨?_, ?_, ?_, ?_, ?_⟩ <;> rintro rfl <;> exact absurd h (by decide)
variable {t n v : List UInt8} {q b : UInt8} {sl : Bool} {al : List Att}
theorem step_N1 (hs : isSp b = true) : step ⟨0, t, n, v, q, sl, al⟩ b = .go ⟨1, t, n, v, q, false, al⟩ := by
  obtain ⟨h47, h62, h61, h34, h39⟩ := isSp_ne hs
  simp [step, pre0, pre2, pre6, pre3, post, endsName, hs, h47, h62]
theorem step_N2 (h47 : b = 47) : step ⟨0, t, n, v, q, sl, al⟩ b = .go ⟨1, t, n, v, q, true, al⟩ := by
  subst h47
  have hs : isSp 47 = false := by decide
  simp [step, pre0, pre2, pre6, pre3, post, endsName, hs]
theorem step_N3 (h62 : b = 62) : step ⟨0, t, n, v, q, sl, al⟩ b = .fin ⟨1, t, n, v, q, false, al⟩ := by
  subst h62
  have hs : isSp 62 = false := by decide
  simp [step, pre0, pre2, pre6, pre3, post, endsName, hs]
theorem step_N4 (hs : isSp b = false) (h47 : b ≠ 47) (h62 : b ≠ 62) : step ⟨0, t, n, v, q, sl, al⟩ b = .go ⟨0, (t ++ [b]), n, v, q, sl, al⟩ := by
  simp [step, endsName, hs, h47, h62]
theorem step_A1 (h62 : b = 62) : step ⟨1, t, n, v, q, sl, al⟩ b = .fin ⟨1, t, n, v, q, sl, al⟩ := by
  subst h62
  have hs : isSp 62 = false := by decide
  simp [step, pre0, pre2, pre6, pre3, post, endsName, hs]
theorem step_A2 (h47 : b = 47) : step ⟨1, t, n, v, q, sl, al⟩ b = .go ⟨1, t, n, v, q, true, al⟩ := by
  subst h47
  have hs : isSp 47 = false := by decide
  simp [step, pre0, pre2, pre6, pre3, post, endsName, hs]
theorem step_A3 (hs : isSp b = true) : step ⟨1, t, n, v, q, sl, al⟩ b = .go ⟨1, t, n, v, q, false, al⟩ := by
  obtain ⟨h47, h62, h61, h34, h39⟩ := isSp_ne hs
  simp [step, pre0, pre2, pre6, pre3, post, endsName, hs, h47, h62]
theorem step_A4 (hs : isSp b = false) (h47 : b ≠ 47) (h62 : b ≠ 62) : step ⟨1, t, n, v, q, sl, al⟩ b = .go ⟨2, t, [b], v, q, sl, al⟩ := by
  simp [step, pre0, pre2, pre6, pre3, post, endsName, hs, h47, h62]
theorem step_B1 (hs : isSp b = true) : step ⟨2, t, n, v, q, sl, al⟩ b = .go ⟨3, t, n, v, q, sl, al⟩ := by
  obtain ⟨h47, h62, h61, h34, h39⟩ := isSp_ne hs
  simp [step, pre0, pre2, pre6, pre3, post, endsName, hs, h61]
theorem step_B2 (h47 : b = 47) : step ⟨2, t, n, v, q, sl, al⟩ b = .go ⟨1, t, n, v, q, true, (al ++ [(low n, [])])⟩ := by
  subst h47
  have hs : isSp 47 = false := by decide
  simp [step, pre0, pre2, pre6, pre3, post, endsName, hs]
theorem step_B3 (h62 : b = 62) : step ⟨2, t, n, v, q, sl, al⟩ b = .fin ⟨1, t, n, v, q, false, (al ++ [(low n, [])])⟩ := by
  subst h62
  have hs : isSp 62 = false := by decide
  simp [step, pre0, pre2, pre6, pre3, post, endsName, hs]
theorem step_B4 (h61 : b = 61) : step ⟨2, t, n, v, q, sl, al⟩ b = .go ⟨4, t, n, v, q, sl, al⟩ := by
  subst h61
  have hs : isSp 61 = false := by decide
  simp [step, pre0, pre2, pre6, pre3, post, endsName, hs]
theorem step_B5 (hs : isSp b = false) (h47 : b ≠ 47) (h62 : b ≠ 62) (h61 : b ≠ 61) : step ⟨2, t, n, v, q, sl, al⟩ b = .go ⟨2, t, (n ++ [b]), v, q, sl, al⟩ := by
  simp [step, pre0, pre2, pre6, pre3, post, endsName, hs, h47, h62, h61]
theorem step_C1 (hs : isSp b = true) : step ⟨3, t, n, v, q, sl, al⟩ b = .go ⟨3, t, n, v, q, sl, al⟩ := by
  obtain ⟨h47, h62, h61, h34, h39⟩ := isSp_ne hs
  simp [step, pre0, pre2, pre6, pre3, post, endsName, hs, h61]
theorem step_C2 (h61 : b = 61) : step ⟨3, t, n, v, q, sl, al⟩ b = .go ⟨4, t, n, v, q, sl, al⟩ := by
  subst h61
  have hs : isSp 61 = false := by decide
  simp [step, pre0, pre2, pre6, pre3, post, endsName, hs]
theorem step_C3 (h47 : b = 47) : step ⟨3, t, n, v, q, sl, al⟩ b = .go ⟨1, t, n, v, q, true, (al ++ [(low n, [])])⟩ := by
  subst h47
  have hs : isSp 47 = false := by decide
  simp [step, pre0, pre2, pre6, pre3, post, endsName, hs]
theorem step_C4 (h62 : b = 62) : step ⟨3, t, n, v, q, sl, al⟩ b = .fin ⟨1, t, n, v, q, false, (al ++ [(low n, [])])⟩ := by
  subst h62
  have hs : isSp 62 = false := by decide
  simp [step, pre0, pre2, pre6, pre3, post, endsName, hs]
theorem step_C5 (hs : isSp b = false) (h47 : b ≠ 47) (h62 : b ≠ 62) (h61 : b ≠ 61) : step ⟨3, t, n, v, q, sl, al⟩ b = .go ⟨2, t, [b], v, q, false, (al ++ [(low n, [])])⟩ := by
  simp [step, pre0, pre2, pre6, pre3, post, endsName, hs, h47, h62, h61]
theorem step_D1 (hs : isSp b = true) : step ⟨4, t, n, v, q, sl, al⟩ b = .go ⟨4, t, n, v, q, sl, al⟩ := by
  obtain ⟨h47, h62, h61, h34, h39⟩ := isSp_ne hs
  simp [step, pre0, pre2, pre6, pre3, post, endsName, hs]
theorem step_D2 (hs : isSp b = false) (hq : b = 34 ∨ b = 39) : step ⟨4, t, n, v, q, sl, al⟩ b = .go ⟨5, t, n, [], b, sl, al⟩ := by
  simp [step, pre0, pre2, pre6, pre3, post, endsName, hs, hq]
theorem step_D3 (hs : isSp b = false) (hq : ¬ (b = 34 ∨ b = 39)) : step ⟨4, t, n, v, q, sl, al⟩ b = .again ⟨6, t, n, [], q, sl, al⟩ := by
  simp [step, pre0, pre2, pre6, pre3, post, endsName, hs, hq]
theorem step_E1 (hq : b = q) : step ⟨5, t, n, v, q, sl, al⟩ b = .go ⟨1, t, n, v, q, false, (al ++ [(low n, unesc v)])⟩ := by
  subst hq
  simp [step, pre0, pre2, pre6, pre3, post, endsName]
theorem step_E2 (hq : b ≠ q) : step ⟨5, t, n, v, q, sl, al⟩ b = .go ⟨5, t, n, (v ++ [b]), q, sl, al⟩ := by
  simp [step, pre0, pre2, pre6, pre3, post, endsName, hq]
theorem step_F1 (hs : isSp b = true) : step ⟨6, t, n, v, q, sl, al⟩ b = .go ⟨1, t, n, v, q, false, (al ++ [(low n, unesc v)])⟩ := by
  obtain ⟨h47, h62, h61, h34, h39⟩ := isSp_ne hs
  simp [step, pre0, pre2, pre6, pre3, post, endsName, hs, h47, h62]
theorem step_F2 (h62 : b = 62) : step ⟨6, t, n, v, q, sl, al⟩ b = .fin ⟨1, t, n, v, q, false, (al ++ [(low n, unesc v)])⟩ := by
  subst h62
  have hs : isSp 62 = false := by decide
  simp [step, pre0, pre2, pre6, pre3, post, endsName, hs]
theorem step_F3 (hs : isSp b = false) (h62 : b ≠ 62) : step ⟨6, t, n, v, q, sl, al⟩ b = .go ⟨6, t, n, (v ++ [b]), q, sl, al⟩ := by
  simp [step, pre0, pre2, pre6, pre3, post, endsName, hs, h62]

end U
end Go.Proofs.YtmfkefcdddoooaaGreatDoor

namespace Go.Proofs.YtmfkefcdddoooaaGreatDoor
namespace U

/-- bytes of an element's name, of an attribute's name, of a value without quotes; bytes that are skipped -/
def nameB (b : UInt8) : Bool := !endsName b
def attB (b : UInt8) : Bool := !(endsName b || b == 61)
def bareB (b : UInt8) : Bool := !(isSp b || b == 62)
def gapB (b : UInt8) : Bool := isSp b || b == 47
/-- whether the last byte skipped is a slash -/
def slashOf (sl : Bool) (l : List UInt8) : Bool := l.foldl (fun _ c => c == 47) sl

theorem run_same {st st' : St} {b : UInt8} (r : List UInt8) (h : step st b = step st' b) : runM st (b :: r) = runM st' (b :: r) := by
  rw [runM, runM, h]

theorem run_name : ∀ (l t n v : List UInt8) (q : UInt8) (sl : Bool) (al : List Att), runM ⟨0, t, n, v, q, sl, al⟩ l = runM ⟨1, t ++ l.takeWhile nameB, n, v, q, false, al⟩ (l.dropWhile nameB)
  | [], t, n, v, q, sl, al => rfl
  | b :: l, t, n, v, q, sl, al => by
    by_cases h : nameB b = true
    · have h0 := h
      simp only [nameB, endsName, Bool.not_eq_true', Bool.or_eq_false_iff, beq_eq_false_iff_ne] at h0
      obtain ⟨⟨h1, h2⟩, h3⟩ := h0
      rw [List.takeWhile_cons_of_pos h, List.dropWhile_cons_of_pos h, runM_go l (step_N4 h1 h2 h3), run_name l, List.append_assoc, List.singleton_append]
    · rw [List.takeWhile_cons_of_neg h, List.dropWhile_cons_of_neg h, List.append_nil]
      have h0 : endsName b = true := by simpa [nameB] using h
      simp only [endsName, Bool.or_eq_true, beq_iff_eq] at h0
      apply run_same
      rcases h0 with (h1 | h2) | h3
      · rw [step_N1 h1, step_A3 h1]
      · rw [step_N2 h2, step_A2 h2]
      · rw [step_N3 h3, step_A1 h3]

theorem run_gap : ∀ (l t n v : List UInt8) (q : UInt8) (sl : Bool) (al : List Att), runM ⟨1, t, n, v, q, sl, al⟩ l = runM ⟨1, t, n, v, q, slashOf sl (l.takeWhile gapB), al⟩ (l.dropWhile gapB)
  | [], t, n, v, q, sl, al => rfl
  | b :: l, t, n, v, q, sl, al => by
    by_cases h : gapB b = true
    · rw [List.takeWhile_cons_of_pos h, List.dropWhile_cons_of_pos h]
      simp only [gapB, Bool.or_eq_true, beq_iff_eq] at h
      rcases h with h1 | h2
      · rw [runM_go l (step_A3 h1), run_gap l]
        have : (b == 47) = false := beq_eq_false_iff_ne.2 (isSp_ne h1).1
        simp only [slashOf, List.foldl_cons, this]
      · rw [runM_go l (step_A2 h2), run_gap l]
        have : (b == 47) = true := beq_iff_eq.2 h2
        simp only [slashOf, List.foldl_cons, this]
    · rw [List.takeWhile_cons_of_neg h, List.dropWhile_cons_of_neg h]
      rfl

theorem run_close (r t n v : List UInt8) (q : UInt8) (sl : Bool) (al : List Att) : runM ⟨1, t, n, v, q, sl, al⟩ (62 :: r) = some (⟨1, t, n, v, q, sl, al⟩, r) := runM_fin r (step_A1 rfl)
theorem run_open (b : UInt8) (r t n v : List UInt8) (q : UInt8) (sl : Bool) (al : List Att) (h : gapB b = false) (h2 : b ≠ 62) : runM ⟨1, t, n, v, q, sl, al⟩ (b :: r) = runM ⟨2, t, [b], v, q, sl, al⟩ r := by
  simp only [gapB, Bool.or_eq_false_iff, beq_eq_false_iff_ne] at h
  exact runM_go r (step_A4 h.1 h.2 h2)

theorem run_att : ∀ (l t n v : List UInt8) (q : UInt8) (sl : Bool) (al : List Att), runM ⟨2, t, n, v, q, sl, al⟩ l = runM ⟨3, t, n ++ l.takeWhile attB, v, q, sl, al⟩ (l.dropWhile attB)
  | [], t, n, v, q, sl, al => rfl
  | b :: l, t, n, v, q, sl, al => by
    by_cases h : attB b = true
    · have h0 := h
      simp only [attB, endsName, Bool.not_eq_true', Bool.or_eq_false_iff, beq_eq_false_iff_ne] at h0
      obtain ⟨⟨⟨h1, h2⟩, h3⟩, h4⟩ := h0
      rw [List.takeWhile_cons_of_pos h, List.dropWhile_cons_of_pos h, runM_go l (step_B5 h1 h2 h3 h4), run_att l, List.append_assoc, List.singleton_append]
    · rw [List.takeWhile_cons_of_neg h, List.dropWhile_cons_of_neg h, List.append_nil]
      have h0 : (endsName b || b == 61) = true := by cases hh : (endsName b || b == 61) with
        | true => rfl
        | false => exact absurd (by simp only [attB, hh, Bool.not_false]) h
      simp only [endsName, Bool.or_eq_true, beq_iff_eq] at h0
      apply run_same
      rcases h0 with ((h1 | h2) | h3) | h4
      · rw [step_B1 h1, step_C1 h1]
      · rw [step_B2 h2, step_C3 h2]
      · rw [step_B3 h3, step_C4 h3]
      · rw [step_B4 h4, step_C2 h4]

theorem run_gap3 : ∀ (l t n v : List UInt8) (q : UInt8) (sl : Bool) (al : List Att), runM ⟨3, t, n, v, q, sl, al⟩ l = runM ⟨3, t, n, v, q, sl, al⟩ (l.dropWhile isSp)
  | [], t, n, v, q, sl, al => rfl
  | b :: l, t, n, v, q, sl, al => by
    by_cases h : isSp b = true
    · rw [List.dropWhile_cons_of_pos h, runM_go l (step_C1 h), run_gap3 l]
    · rw [List.dropWhile_cons_of_neg h]
theorem run_gap4 : ∀ (l t n v : List UInt8) (q : UInt8) (sl : Bool) (al : List Att), runM ⟨4, t, n, v, q, sl, al⟩ l = runM ⟨4, t, n, v, q, sl, al⟩ (l.dropWhile isSp)
  | [], t, n, v, q, sl, al => rfl
  | b :: l, t, n, v, q, sl, al => by
    by_cases h : isSp b = true
    · rw [List.dropWhile_cons_of_pos h, runM_go l (step_D1 h), run_gap4 l]
    · rw [List.dropWhile_cons_of_neg h]
theorem run_noval (b : UInt8) (r t n v : List UInt8) (q : UInt8) (sl : Bool) (al : List Att) (hs : isSp b = false) (h61 : b ≠ 61) : runM ⟨3, t, n, v, q, sl, al⟩ (b :: r) = runM ⟨1, t, n, v, q, false, al ++ [(low n, [])]⟩ (b :: r) := by
  apply run_same
  by_cases h47 : b = 47
  · rw [step_C3 h47, step_A2 h47]
  by_cases h62 : b = 62
  · rw [step_C4 h62, step_A1 h62]
  rw [step_C5 hs h47 h62 h61, step_A4 hs h47 h62]
theorem run_eq (r t n v : List UInt8) (q : UInt8) (sl : Bool) (al : List Att) : runM ⟨3, t, n, v, q, sl, al⟩ (61 :: r) = runM ⟨4, t, n, v, q, sl, al⟩ r := runM_go r (step_C2 rfl)
theorem run_quote (b : UInt8) (r t n v : List UInt8) (q : UInt8) (sl : Bool) (al : List Att) (hq : b = 34 ∨ b = 39) : runM ⟨4, t, n, v, q, sl, al⟩ (b :: r) = runM ⟨5, t, n, [], b, sl, al⟩ r :=
  runM_go r (step_D2 (by rcases hq with rfl | rfl <;> rfl) hq)
theorem run_bare (b : UInt8) (r t n v : List UInt8) (q : UInt8) (sl : Bool) (al : List Att) (hs : isSp b = false) (hq : ¬ (b = 34 ∨ b = 39)) : runM ⟨4, t, n, v, q, sl, al⟩ (b :: r) = runM ⟨6, t, n, [], q, sl, al⟩ (b :: r) := runM_again r (step_D3 hs hq)
theorem run_quoted : ∀ (l t n v : List UInt8) (q : UInt8) (sl : Bool) (al : List Att), runM ⟨5, t, n, v, q, sl, al⟩ l = match placeOf [q] l with
    | none => none
    | some k => runM ⟨1, t, n, v ++ l.take k, q, false, al ++ [(low n, unesc (v ++ l.take k))]⟩ (l.drop (k + 1))
  | [], t, n, v, q, sl, al => rfl
  | b :: l, t, n, v, q, sl, al => by
    by_cases h : b = q
    · have hp : placeOf [q] (b :: l) = some 0 := by rw [placeOf]; simp [h]
      rw [hp, runM_go l (step_E1 h)]
      simp
    · have hp : placeOf [q] (b :: l) = (placeOf [q] l).map (· + 1) := by rw [placeOf, if_neg (by simp [h])]
      rw [hp, runM_go l (step_E2 h), run_quoted l]
      cases placeOf [q] l with
      | none => rfl
      | some k => simp
theorem run_bared : ∀ (l t n v : List UInt8) (q : UInt8) (sl : Bool) (al : List Att), runM ⟨6, t, n, v, q, sl, al⟩ l = runM ⟨1, t, n, v ++ l.takeWhile bareB, q, false, al ++ [(low n, unesc (v ++ l.takeWhile bareB))]⟩ (l.dropWhile bareB)
  | [], t, n, v, q, sl, al => rfl
  | b :: l, t, n, v, q, sl, al => by
    by_cases h : bareB b = true
    · have h0 := h
      simp only [bareB, Bool.not_eq_true', Bool.or_eq_false_iff, beq_eq_false_iff_ne] at h0
      rw [List.takeWhile_cons_of_pos h, List.dropWhile_cons_of_pos h, runM_go l (step_F3 h0.1 h0.2), run_bared l, List.append_assoc, List.singleton_append]
    · rw [List.takeWhile_cons_of_neg h, List.dropWhile_cons_of_neg h, List.append_nil]
      have h0 : (isSp b || b == 62) = true := by cases hh : (isSp b || b == 62) with
        | true => rfl
        | false => exact absurd (by simp only [bareB, hh, Bool.not_false]) h
      simp only [Bool.or_eq_true, beq_iff_eq] at h0
      apply run_same
      rcases h0 with h1 | h2
      · rw [step_F1 h1, step_A3 h1]
      · rw [step_F2 h2, step_A1 h2]

/-- one attribute: what it adds, and what is left -/
def readVal (l : List UInt8) : List UInt8 × List UInt8 := match l with
  | [] => ([], [])
  | b :: r => if b = 34 ∨ b = 39 then (match placeOf [b] r with
      | none => (r, [])
      | some k => (r.take k, r.drop (k + 1)))
    else (l.takeWhile bareB, l.dropWhile bareB)
def readAtt (b : UInt8) (r : List UInt8) : Att × List UInt8 :=
  match (r.dropWhile attB).dropWhile isSp with
  | 61 :: u => ((low (b :: r.takeWhile attB), unesc (readVal (u.dropWhile isSp)).1), (readVal (u.dropWhile isSp)).2)
  | u => ((low (b :: r.takeWhile attB), []), u)
theorem drop_not (p : UInt8 → Bool) (l : List UInt8) {b : UInt8} {r : List UInt8} (h : l.dropWhile p = b :: r) : p b = false := by
  induction l with
  | nil => cases h
  | cons a l ih =>
    by_cases ha : p a = true
    · rw [List.dropWhile_cons_of_pos ha] at h; exact ih h
    · rw [List.dropWhile_cons_of_neg ha] at h
      injection h with h _
      subst h
      simpa using ha
theorem run_val (l t n v : List UInt8) (q : UInt8) (sl : Bool) (al : List Att) : ∃ v' q', runM ⟨4, t, n, v, q, sl, al⟩ (l.dropWhile isSp) = runM ⟨1, t, n, v', q', false, al ++ [(low n, unesc (readVal (l.dropWhile isSp)).1)]⟩ (readVal (l.dropWhile isSp)).2 := by
  cases h : l.dropWhile isSp with
  | nil => exact ⟨v, q, rfl⟩
  | cons b r =>
    have hs := drop_not isSp l h
    by_cases hq : b = 34 ∨ b = 39
    · rw [run_quote b r t n v q sl al hq, run_quoted]
      unfold readVal
      simp only [if_pos hq]
      cases hp : placeOf [b] r with
      | none => exact ⟨v, q, rfl⟩
      | some k => exact ⟨r.take k, b, by simp⟩
    · rw [run_bare b r t n v q sl al hs hq, run_bared]
      unfold readVal
      simp only [if_neg hq]
      exact ⟨(b :: r).takeWhile bareB, q, by simp⟩
theorem run_readAtt (b : UInt8) (r t n v : List UInt8) (q : UInt8) (sl : Bool) (al : List Att) (h : gapB b = false) (h2 : b ≠ 62) :
    ∃ n' v' q', runM ⟨1, t, n, v, q, sl, al⟩ (b :: r) = runM ⟨1, t, n', v', q', false, al ++ [(readAtt b r).1]⟩ (readAtt b r).2 := by
  rw [run_open b r t n v q sl al h h2, run_att, run_gap3, List.singleton_append]
  unfold readAtt
  split
  · rename_i u hu
    rw [hu, run_eq, run_gap4]
    obtain ⟨v', q', e⟩ := run_val u t (b :: r.takeWhile attB) v q sl al
    exact ⟨_, v', q', e⟩
  · rename_i u hu
    cases he : (r.dropWhile attB).dropWhile isSp with
    | nil => exact ⟨n, v, q, rfl⟩
    | cons c u' =>
      have hs := drop_not isSp _ he
      rw [run_noval c u' t (b :: r.takeWhile attB) v q sl al hs (fun e => hu u' (by rw [he, e]))]
      exact ⟨_, _, _, rfl⟩

/-- the attributes, one by one -/
def withAtt (acc : List Att) (a : Att) : List Att := if acc.all (fun c => c.1 != a.1) = true then acc ++ [a] else acc
theorem firsts_snoc : ∀ (l acc : List Att) (a : Att), firsts acc (l ++ [a]) = withAtt (firsts acc l) a
  | [], acc, a => rfl
  | b :: l, acc, a => by
    rw [List.cons_append, firsts, firsts, firsts_snoc l]
theorem slashOf_append (a : List UInt8) (c : UInt8) (sl : Bool) : slashOf sl (a ++ [c]) = (c == 47) := by simp [slashOf]
theorem slashOf_suffix (a : List UInt8) : slashOf false a = List.isSuffixOf [47] a := by
  rcases List.eq_nil_or_concat a with rfl | ⟨l, c, rfl⟩
  · rfl
  · rw [List.concat_eq_append, slashOf_append]
    simp [List.isSuffixOf, List.isPrefixOf]
    rw [Bool.beq_comm]

end U
end Go.Proofs.YtmfkefcdddoooaaGreatDoor

namespace Go.Proofs.YtmfkefcdddoooaaGreatDoor
namespace U

theorem allDig_append (base : Nat) (a b : List UInt8) : allDig base (a ++ b) = (allDig base a && allDig base b) := by simp [allDig]
theorem allDig_one (base : Nat) (c : UInt8) : allDig base [c] = decide (dig c < base) := by simp [allDig]
theorem val_append (base acc : Nat) (a b : List UInt8) : val base acc (a ++ b) = val base (val base acc a) b := by simp [val, List.foldl_append]
theorem val_one (base acc : Nat) (c : UInt8) : val base acc [c] = acc * base + dig c := rfl
theorem val_lt (base : Nat) : ∀ (d : List UInt8) (acc : Nat), allDig base d = true → val base acc d < (acc + 1) * base ^ d.length
  | [], acc, _ => by simp [val]
  | c :: d, acc, h => by
    have h1 : dig c < base := by simpa [allDig] using (List.all_eq_true.1 h) c (List.mem_cons_self ..)
    have h2 : allDig base d = true := List.all_eq_true.2 fun x hx => (List.all_eq_true.1 h) x (List.mem_cons_of_mem _ hx)
    have h3 := val_lt base d (acc * base + dig c) h2
    have e : val base acc (c :: d) = val base (acc * base + dig c) d := rfl
    rw [e, List.length_cons, Nat.pow_succ]
    refine Nat.lt_of_lt_of_le h3 ?_
    rw [Nat.mul_comm (base ^ d.length) base, ← Nat.mul_assoc]
    apply Nat.mul_le_mul_right
    rw [Nat.add_mul]
    omega
theorem val_small {base : Nat} {d : List UInt8} (h : allDig base d = true) (hb : base ≤ 16) (hl : d.length ≤ 7) : val base 0 d < 268435456 := by
  have h1 := val_lt base d 0 h
  have h2 : base ^ d.length ≤ 16 ^ d.length := Nat.pow_le_pow_left hb _
  have h3 : 16 ^ d.length ≤ 16 ^ 7 := Nat.pow_le_pow_right (by decide) hl
  have h4 : (16 : Nat) ^ 7 = 268435456 := by decide
  omega
theorem val_small8 {base : Nat} {d : List UInt8} (h : allDig base d = true) (hb : base ≤ 16) (hl : d.length ≤ 8) : val base 0 d < 4294967296 := by
  have h1 := val_lt base d 0 h
  have h2 : base ^ d.length ≤ 16 ^ d.length := Nat.pow_le_pow_left hb _
  have h3 : 16 ^ d.length ≤ 16 ^ 8 := Nat.pow_le_pow_right (by decide) hl
  have h4 : (16 : Nat) ^ 8 = 4294967296 := by decide
  omega
theorem allDig_take {base : Nat} {l : List UInt8} {j : Nat} (h : allDig base (l.take j) = true) (m : Nat) (hm : m ≤ j) : allDig base (l.take m) = true := by
  refine List.all_eq_true.2 fun x hx => List.all_eq_true.1 h x ?_
  have : l.take m = (l.take j).take m := by rw [List.take_take, Nat.min_eq_left hm]
  rw [this] at hx
  exact List.mem_of_mem_take hx
theorem take_succ_get {l : List UInt8} {k : Nat} {c : UInt8} (h : l[k]? = some c) : l.take (k + 1) = l.take k ++ [c] := by
  obtain ⟨hk, e⟩ := List.getElem?_eq_some_iff.1 h
  rw [List.take_succ_eq_append_getElem hk, e]
/-- one digit more -/
theorem dig_more {base : Nat} {l : List UInt8} {k : Nat} {c : UInt8} (h : l[k]? = some c) (ha : allDig base (l.take k) = true) (hd : dig c < base) :
    allDig base (l.take (k + 1)) = true ∧ val base 0 (l.take (k + 1)) = val base 0 (l.take k) * base + dig c := by
  rw [take_succ_get h, allDig_append, ha, allDig_one, decide_eq_true hd, val_append, val_one]
  exact ⟨rfl, rfl⟩
theorem dig_bad {base : Nat} {l : List UInt8} {k : Nat} {c : UInt8} (h : l[k]? = some c) (hd : ¬ dig c < base) : allDig base l = false := by
  rw [Bool.eq_false_iff]
  intro ha
  have := List.all_eq_true.1 ha c (List.mem_of_getElem? h)
  simp at this
  exact hd this
/-- a digit's kinds -/
theorem dig_09 {c : UInt8} (h0 : 48 ≤ c.toNat) (h1 : c.toNat ≤ 57) : dig c = c.toNat - 48 := by unfold dig; rw [if_pos ⟨h0, h1⟩]
theorem dig_af {c : UInt8} (h0 : 97 ≤ c.toNat) (h1 : c.toNat ≤ 102) : dig c = c.toNat - 87 := by unfold dig; rw [if_neg (by omega), if_pos ⟨h0, h1⟩]
theorem dig_AF {c : UInt8} (h0 : 65 ≤ c.toNat) (h1 : c.toNat ≤ 70) : dig c = c.toNat - 55 := by unfold dig; rw [if_neg (by omega), if_neg (by omega), if_pos ⟨h0, h1⟩]
theorem dig_no {c : UInt8} (h0 : ¬ (48 ≤ c.toNat ∧ c.toNat ≤ 57)) (h1 : ¬ (97 ≤ c.toNat ∧ c.toNat ≤ 102)) (h2 : ¬ (65 ≤ c.toNat ∧ c.toNat ≤ 70)) : dig c = 99 := by unfold dig; rw [if_neg h0, if_neg h1, if_neg h2]
/-- the bit 32 set -/
theorem lower_all : ∀ c : Fin 256, bits .or .u8 ((c.val : Nat) : Int) 32 = ((if c.val / 32 % 2 = 0 then c.val + 32 else c.val : Nat) : Int) := by decide +kernel
theorem lower_eq {c : Nat} (h : c < 256) : bits .or .u8 (c : Int) 32 = ((if c / 32 % 2 = 0 then c + 32 else c : Nat) : Int) := lower_all ⟨c, h⟩
theorem lower_at {c : Nat} (h : c < 256) (v : Nat) (hv : (if c / 32 % 2 = 0 then c + 32 else c) = v) : bits .or .u8 (c : Int) 32 = (v : Int) := by rw [lower_eq h, hv]

end U
end Go.Proofs.YtmfkefcdddoooaaGreatDoor

namespace Go.Proofs.YtmfkefcdddoooaaGreatDoor
namespace U

/-- a reference by name -/
def nameOf (l : List UInt8) : Option Nat :=
  if l = [97, 109, 112] then some 38 else if l = [108, 116] then some 60 else if l = [103, 116] then some 62 else if l = [113, 117, 111, 116] then some 34
  else if l = [110, 98, 115, 112] then some 160 else if l = [99, 111, 112, 121] then some 169 else none
theorem body_hash (d : List UInt8) : body (35 :: d) = numOf d := by
  unfold body
  rw [if_neg (by simp), if_neg (by simp), if_neg (by simp), if_neg (by simp), if_neg (by simp), if_neg (by simp)]
  simp
theorem body_name {l : List UInt8} (h : ∀ d, l ≠ 35 :: d) : body l = nameOf l := by
  unfold body nameOf
  split
  · rfl
  split
  · rfl
  split
  · rfl
  split
  · rfl
  split
  · rfl
  split
  · rfl
  cases l with
  | nil => rfl
  | cons b d =>
    simp only
    rw [if_neg (fun e => h d (by rw [e]))]

theorem numIn_short {base most : Nat} {d : List UInt8} (h : d.length ≤ most) : numIn base most d = if (decide (d ≠ []) && allDig base d) = true then some (point (val base 0 d)) else none := by
  unfold numIn
  have e : decide (1 ≤ d.length ∧ d.length ≤ most) = decide (d ≠ []) := by
    rw [decide_eq_decide]
    cases d with
    | nil => simp
    | cons b d => simp at h ⊢; exact h
  rw [e]

theorem index_cases (r : List UInt8) : (Lib.indexByte ((38 :: r).take 10) 59 = -1 ∧ refTail r = none) ∨
    ∃ o : Nat, 1 ≤ o ∧ o ≤ 9 ∧ o ≤ r.length ∧ Lib.indexByte ((38 :: r).take 10) 59 = (o : Int) ∧ refTail r = (body (r.take (o - 1))).map fun n => (n, o + 1) := by
  have hge := Lib.indexByte_ge ((38 :: r).take 10) 59
  by_cases hneg : Lib.indexByte ((38 :: r).take 10) 59 = -1
  · refine .inl ⟨hneg, ?_⟩
    cases hr : refTail r with
    | none => rfl
    | some x =>
      obtain ⟨n, k⟩ := x
      obtain ⟨p, t, e, _, _, hk, _, h10, _, _⟩ := refAt_some (by rw [refAt_amp]; exact hr)
      have h1 := Lib.indexByte_none hneg (p.length + 1)
      rw [List.getElem?_take_of_lt (by omega), e] at h1
      exact absurd (by simp) h1
  · obtain ⟨o, ho⟩ : ∃ o : Nat, Lib.indexByte ((38 :: r).take 10) 59 = (o : Int) := Int.eq_ofNat_of_zero_le (by omega)
    obtain ⟨h1, h2⟩ := Lib.indexByte_some ho
    have hlt := (List.getElem?_eq_some_iff.1 h1).1
    rw [List.length_take, List.length_cons] at hlt
    rw [List.getElem?_take_of_lt (by omega)] at h1
    obtain ⟨q, rfl⟩ : ∃ q, o = q + 1 := by
      cases o with
      | zero => simp at h1
      | succ q => exact ⟨q, rfl⟩
    rw [List.getElem?_cons_succ] at h1
    have hq : q < r.length := by omega
    have hno : 59 ∉ r.take q := by
      intro hm
      obtain ⟨k, hk⟩ := List.getElem?_of_mem hm
      have hk2 := (List.getElem?_eq_some_iff.1 hk).1
      rw [List.length_take] at hk2
      rw [List.getElem?_take_of_lt (by omega)] at hk
      have := h2 (k + 1) (by omega)
      rw [List.getElem?_take_of_lt (by omega), List.getElem?_cons_succ] at this
      exact this hk
    have hsp : r = r.take q ++ 59 :: r.drop (q + 1) := by
      have e : r.drop q = 59 :: r.drop (q + 1) := by
        obtain ⟨hk, e⟩ := List.getElem?_eq_some_iff.1 h1
        rw [List.drop_eq_getElem_cons hk, e]
      rw [← e, List.take_append_drop]
    refine .inr ⟨q + 1, by omega, by omega, by omega, ho, ?_⟩
    have := refTail_of (t := r.drop (q + 1)) hno
    rw [← hsp, List.length_take, Nat.min_eq_left (by omega)] at this
    rw [this]
    simp

theorem valid_eq {n : Nat} : Lib.validRune (n : Int) = isL n := by
  unfold Lib.validRune isL
  rw [decide_eq_decide]
  omega
theorem prefix_hash (l : List UInt8) : Lib.hasPrefix l [35] = (match l with | [] => false | b :: _ => b == 35) := by
  unfold Lib.hasPrefix
  cases l with
  | nil => rfl
  | cons b d =>
    show ((35 : UInt8) == b && true) = (b == 35)
    rw [Bool.and_true, Bool.eq_iff_iff, beq_iff_eq, beq_iff_eq]
    exact ⟨Eq.symm, Eq.symm⟩
theorem prefix_hash_yes (d : List UInt8) : Lib.hasPrefix (35 :: d) [35] = true ∧ Lib.trimPrefix (35 :: d) [35] = d := by
  have h : Lib.hasPrefix (35 :: d) [35] = true := by rw [prefix_hash]; rfl
  exact ⟨h, by unfold Lib.trimPrefix; rw [if_pos h]; rfl⟩
theorem prefix_hash_no {l : List UInt8} (h : ∀ d, l ≠ 35 :: d) : Lib.hasPrefix l [35] = false := by
  rw [prefix_hash]
  cases l with
  | nil => rfl
  | cons b d =>
    have : b ≠ 35 := fun e => h d (by rw [e])
    simpa using this

end U
end Go.Proofs.YtmfkefcdddoooaaGreatDoor

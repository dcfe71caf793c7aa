/- Plain mathematics: a reference as the document's own answer finds it: a name at the front, or a run of digits and a semicolon. -/
import Derived.Test.YtpgffcfffpmahaaDoorLead
namespace Go.Proofs.YtpgffcfffpmahaaDoor
namespace U

/-- the names, and their code points -/
def nm : Nat → List UInt8
  | 0 => [38, 97, 109, 112, 59]
  | 1 => [38, 108, 116, 59]
  | 2 => [38, 103, 116, 59]
  | 3 => [38, 113, 117, 111, 116, 59]
  | 4 => [38, 110, 98, 115, 112, 59]
  | _ => [38, 99, 111, 112, 121, 59]
def lt' : Nat → Nat
  | 0 => 38
  | 1 => 60
  | 2 => 62
  | 3 => 34
  | 4 => 160
  | _ => 169
/-- a text begins with the name -/
def hit (j : Nat) (l : List UInt8) : Prop := ∃ t, l = nm j ++ t
theorem hit_refAt {j : Nat} {l : List UInt8} (h : hit j l) : refAt l = some (lt' j, (nm j).length) := by
  obtain ⟨t, rfl⟩ := h
  match j with
  | 0 => exact (refAt_amp _).trans (refTail_of (p := [97, 109, 112]) (t := t) (by decide))
  | 1 => exact (refAt_amp _).trans (refTail_of (p := [108, 116]) (t := t) (by decide))
  | 2 => exact (refAt_amp _).trans (refTail_of (p := [103, 116]) (t := t) (by decide))
  | 3 => exact (refAt_amp _).trans (refTail_of (p := [113, 117, 111, 116]) (t := t) (by decide))
  | 4 => exact (refAt_amp _).trans (refTail_of (p := [110, 98, 115, 112]) (t := t) (by decide))
  | (k + 5) => exact (refAt_amp _).trans (refTail_of (p := [99, 111, 112, 121]) (t := t) (by decide))
theorem hit_iff {j : Nat} {l : List UInt8} : hit j l ↔ l.take (nm j).length = nm j := by
  constructor
  · rintro ⟨t, rfl⟩; simp
  · intro h
    refine ⟨l.drop (nm j).length, ?_⟩
    have := List.take_append_drop (nm j).length l
    rw [h] at this
    exact this.symm

/-- no name: it is a number's, or none -/
theorem refAt_nohit {l : List UInt8} (h : ∀ j, j < 6 → ¬ hit j l) {n k : Nat} (hr : refAt l = some (n, k)) : ∃ d t, l = 38 :: 35 :: (d ++ 59 :: t) ∧ 59 ∉ d ∧ numOf d = some n ∧ k = d.length + 3 := by
  obtain ⟨p, t, e, hn, hb, hk, _⟩ := refAt_some hr
  by_cases hp : ∃ d, p = 35 :: d
  · obtain ⟨d, rfl⟩ := hp
    rw [body_hash] at hb
    exact ⟨d, t, e, fun hm => hn (List.mem_cons_of_mem _ hm), hb, by rw [hk, List.length_cons]⟩
  · rw [body_name fun d e => hp ⟨d, e⟩] at hb
    unfold nameOf at hb
    split at hb
    · rename_i e1; subst e1; exact absurd ⟨t, e⟩ (h 0 (by decide))
    split at hb
    · rename_i e1; subst e1; exact absurd ⟨t, e⟩ (h 1 (by decide))
    split at hb
    · rename_i e1; subst e1; exact absurd ⟨t, e⟩ (h 2 (by decide))
    split at hb
    · rename_i e1; subst e1; exact absurd ⟨t, e⟩ (h 3 (by decide))
    split at hb
    · rename_i e1; subst e1; exact absurd ⟨t, e⟩ (h 4 (by decide))
    split at hb
    · rename_i e1; subst e1; exact absurd ⟨t, e⟩ (h 5 (by decide))
    · cases hb

/-- a number's text, its digits ahead of the semicolon -/
theorem refAt_digits {base most : Nat} {P d t : List UInt8} (h59 : 59 ∉ P) (hd : allDig base d = true) (hb : base ≤ 16) (hP : body (P ++ d) = numIn base most d) :
    refAt (38 :: (P ++ (d ++ 59 :: t))) = (numIn base most d).map fun n => (n, P.length + d.length + 2) := by
  rw [refAt_amp, ← List.append_assoc, refTail_of, hP, List.length_append]
  intro hm
  rcases List.mem_append.1 hm with hm | hm
  · exact h59 hm
  · have := List.all_eq_true.1 hd 59 hm
    have h2 : dig 59 = 99 := by decide
    rw [h2] at this
    simp at this
    omega
/-- all digits, and so they are the run -/
theorem numOf_dig {b : UInt8} {d : List UInt8} {n : Nat} (hx : ¬ (b = 120 ∨ b = 88)) (h : numOf (b :: d) = some n) : allDig 10 (b :: d) = true := by
  rw [numOf_cons, if_neg hx] at h
  exact (numIn_some h).2.2.1
theorem numOf_hex {b : UInt8} {d : List UInt8} {n : Nat} (hx : b = 120 ∨ b = 88) (h : numOf (b :: d) = some n) : allDig 16 d = true := by
  rw [numOf_cons, if_pos hx] at h
  exact (numIn_some h).2.2.1
/-- digits that end in no semicolon: none -/
theorem no_split {base : Nat} {r : List UInt8} {j : Nat} (hall : allDig base (r.take j) = true) (hbase : base ≤ 16) (hend : r[j]? = none ∨ ∃ c, r[j]? = some c ∧ c ≠ 59 ∧ ¬ dig c < base) {d t : List UInt8} (hd : allDig base d = true) (e : r = d ++ 59 :: t) : False := by
  have h59 : ¬ dig 59 < base := by
    have h99 : dig 59 = 99 := by decide
    omega
  rcases Nat.lt_trichotomy d.length j with h | h | h
  · have h1 : (r.take j)[d.length]? = some 59 := by
      rw [List.getElem?_take_of_lt h, e]
      simp
    have := List.all_eq_true.1 hall 59 (List.mem_of_getElem? h1)
    simp at this
    exact h59 this
  · have h1 : r[j]? = some 59 := by rw [← h, e]; simp
    rcases hend with h2 | ⟨c, h2, h3, _⟩
    · rw [h1] at h2; cases h2
    · rw [h1] at h2; injection h2 with h2; exact h3 h2.symm
  · have h1 : r[j]? = d[j]? := by rw [e, List.getElem?_append_left h]
    have h2 : d[j]? = some (d[j]'h) := List.getElem?_eq_getElem h
    rcases hend with h3 | ⟨c, h3, _, h4⟩
    · rw [h1, h2] at h3; cases h3
    · rw [h1, h2] at h3
      injection h3 with h3
      have := List.all_eq_true.1 hd (d[j]'h) (List.getElem_mem h)
      rw [h3] at this
      simp at this
      exact h4 this

/-- decimal, the run of j digits -/
theorem dec_end {l r : List UInt8} (hl : l = 38 :: 35 :: r) (hnm : ∀ j, j < 6 → ¬ hit j l) (hx : r.head? ≠ some 120 ∧ r.head? ≠ some 88) {j : Nat} (hall : allDig 10 (r.take j) = true)
    (hend : r[j]? = none ∨ ∃ c, r[j]? = some c ∧ ¬ dig c < 10) : refAt l = if r[j]? = some 59 ∧ 1 ≤ j ∧ j ≤ 7 then some (point (val 10 0 (r.take j)), j + 3) else none := by
  by_cases h59 : r[j]? = some 59
  · obtain ⟨hjl, e1⟩ := List.getElem?_eq_some_iff.1 h59
    have hsp : r = r.take j ++ 59 :: r.drop (j + 1) := by
      rw [← e1, ← List.drop_eq_getElem_cons hjl, List.take_append_drop]
    have htl : (r.take j).length = j := by rw [List.length_take]; omega
    have hb : body ([35] ++ r.take j) = numIn 10 7 (r.take j) := by
      show body (35 :: r.take j) = _
      rw [body_hash]
      cases hq : r.take j with
      | nil => rfl
      | cons c d =>
        have hc : r.head? = some c := by
          cases r with
          | nil => rw [List.take_nil] at hq; cases hq
          | cons x y =>
            cases j with
            | zero => cases hq
            | succ j => rw [List.take_succ_cons] at hq; injection hq with h1 h2; rw [← h1]; rfl
        rw [numOf_cons, if_neg]
        rintro (e | e)
        · exact hx.1 (by rw [hc, e])
        · exact hx.2 (by rw [hc, e])
    have hr := refAt_digits (t := r.drop (j + 1)) (P := [35]) (by decide) hall (by decide) hb
    rw [← hsp] at hr
    have hl' : l = 38 :: ([35] ++ r) := hl
    rw [hl', hr, htl]
    unfold numIn
    rw [htl, hall, Bool.and_true]
    by_cases hk : 1 ≤ j ∧ j ≤ 7
    · rw [decide_eq_true hk, if_pos rfl, if_pos ⟨h59, hk.1, hk.2⟩]
      simp only [Option.map_some, List.length_cons, List.length_nil]
      congr 2
      omega
    · rw [decide_eq_false hk, if_neg (by decide), if_neg (fun h => hk h.2)]
      rfl
  · rw [if_neg (fun h => h59 h.1)]
    cases hr : refAt l with
    | none => rfl
    | some x =>
      obtain ⟨n, k⟩ := x
      obtain ⟨d, t, e, _, hn, _⟩ := refAt_nohit hnm hr
      have e2 : r = d ++ 59 :: t := by rw [hl] at e; injection e with _ e; injection e
      have hdd : allDig 10 d = true := by
        cases d with
        | nil => cases hn
        | cons b d =>
          refine numOf_dig ?_ hn
          rintro (e3 | e3)
          · exact hx.1 (by rw [e2, e3]; rfl)
          · exact hx.2 (by rw [e2, e3]; rfl)
      exact (no_split hall (by decide) (by
        rcases hend with h | ⟨c, h, h2⟩
        · exact .inl h
        · exact .inr ⟨c, h, fun e => h59 (by rw [h, e]), h2⟩) hdd e2).elim
/-- hexadecimal, the run of j digits -/
theorem hex_end {l r : List UInt8} {x : UInt8} (hl : l = 38 :: 35 :: x :: r) (hnm : ∀ j, j < 6 → ¬ hit j l) (hx : x = 120 ∨ x = 88) {j : Nat} (hall : allDig 16 (r.take j) = true)
    (hend : r[j]? = none ∨ ∃ c, r[j]? = some c ∧ ¬ dig c < 16) : refAt l = if r[j]? = some 59 ∧ 1 ≤ j ∧ j ≤ 6 then some (point (val 16 0 (r.take j)), j + 4) else none := by
  by_cases h59 : r[j]? = some 59
  · obtain ⟨hjl, e1⟩ := List.getElem?_eq_some_iff.1 h59
    have hsp : r = r.take j ++ 59 :: r.drop (j + 1) := by
      rw [← e1, ← List.drop_eq_getElem_cons hjl, List.take_append_drop]
    have htl : (r.take j).length = j := by rw [List.length_take]; omega
    have hb : body ([35, x] ++ r.take j) = numIn 16 6 (r.take j) := by
      show body (35 :: x :: r.take j) = _
      rw [body_hash, numOf_cons, if_pos hx]
    have h5 : 59 ∉ [35, x] := by
      intro hm
      rcases List.mem_cons.1 hm with e | hm
      · exact absurd e (by decide)
      · rw [List.mem_singleton] at hm
        rcases hx with rfl | rfl
        · exact absurd hm (by decide)
        · exact absurd hm (by decide)
    have hr := refAt_digits (t := r.drop (j + 1)) (P := [35, x]) h5 hall (by decide) hb
    rw [← hsp] at hr
    have hl' : l = 38 :: ([35, x] ++ r) := hl
    rw [hl', hr, htl]
    unfold numIn
    rw [htl, hall, Bool.and_true]
    by_cases hk : 1 ≤ j ∧ j ≤ 6
    · rw [decide_eq_true hk, if_pos rfl, if_pos ⟨h59, hk.1, hk.2⟩]
      simp only [Option.map_some, List.length_cons, List.length_nil]
      congr 2
      omega
    · rw [decide_eq_false hk, if_neg (by decide), if_neg (fun h => hk h.2)]
      rfl
  · rw [if_neg (fun h => h59 h.1)]
    cases hr : refAt l with
    | none => rfl
    | some y =>
      obtain ⟨n, k⟩ := y
      obtain ⟨d, t, e, _, hn, _⟩ := refAt_nohit hnm hr
      have e2 : x :: r = d ++ 59 :: t := by rw [hl] at e; injection e with _ e; injection e
      cases d with
      | nil => cases hn
      | cons b d =>
        rw [List.cons_append] at e2
        injection e2 with e3 e4
        subst e3
        exact (no_split hall (by decide) (by
          rcases hend with h | ⟨c, h, h2⟩
          · exact .inl h
          · exact .inr ⟨c, h, fun e => h59 (by rw [h, e]), h2⟩) (numOf_hex hx hn) e4).elim
/-- neither a name nor &# -/
theorem refAt_plain {l : List UInt8} (hnm : ∀ j, j < 6 → ¬ hit j l) (h : ∀ r, l ≠ 38 :: 35 :: r) : refAt l = none := by
  cases hr : refAt l with
  | none => rfl
  | some y =>
    obtain ⟨n, k⟩ := y
    obtain ⟨d, t, e, _⟩ := refAt_nohit hnm hr
    exact absurd e (h _)
theorem refAt_two {l : List UInt8} (hnm : ∀ j, j < 6 → ¬ hit j l) (h : l.length < 3) : refAt l = none := by
  cases hr : refAt l with
  | none => rfl
  | some y =>
    obtain ⟨n, k⟩ := y
    obtain ⟨d, t, e, _, hn, _⟩ := refAt_nohit hnm hr
    rw [e] at h
    simp at h
    omega

end U
end Go.Proofs.YtpgffcfffpmahaaDoor

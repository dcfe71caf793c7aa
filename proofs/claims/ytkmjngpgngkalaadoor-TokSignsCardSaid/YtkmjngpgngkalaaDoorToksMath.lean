/- Plain mathematics: the tokens of a text, piece by piece. -/
import Derived.Test.YtkmjngpgngkalaaDoorReadMath
namespace Go.Proofs.YtkmjngpgngkalaaDoor
namespace U

/-- the kind of the token that begins here: 1 a start, 2 an end, 4 a comment, 3 a text -/
def kindS : List UInt8 → Nat
  | [] => 3
  | d :: _ => if isAl d = true then 2 else 4
def kindOf : List UInt8 → Nat
  | a :: c :: r => if a ≠ 60 then 3 else if isAl c = true then 1 else if c = 33 ∨ c = 63 then 4 else if c = 47 then kindS r else 3
  | _ => 3
theorem kindOf_cons (a c : UInt8) (r : List UInt8) : kindOf (a :: c :: r) = if a ≠ 60 then 3 else if isAl c = true then 1 else if c = 33 ∨ c = 63 then 4 else if c = 47 then kindS r else 3 := rfl
theorem kindS_cons (d : UInt8) (r : List UInt8) : kindS (d :: r) = if isAl d = true then 2 else 4 := rfl
theorem item_cons (a c : UInt8) (r : List UInt8) : item (a :: c :: r) = if a ≠ 60 then .text else if isAl c = true then startI (c :: r) else if c = 33 then bangI r else if c = 63 then markI [62] (c :: r) else if c = 47 then slashI r else .text := rfl
theorem slashI_cons (d : UInt8) (r : List UInt8) : slashI (d :: r) = if isAl d = true then closeI (d :: r) else markI [62] (d :: r) := rfl
theorem isAl_ne {c : UInt8} (h : isAl c = true) : c ≠ 33 ∧ c ≠ 63 ∧ c ≠ 47 := by
  refine ⟨?_, ?_, ?_⟩ <;> rintro rfl <;> exact absurd h (by decide)
theorem item_text {l : List UInt8} (h : kindOf l = 3) : item l = .text := by
  match l, h with
  | [], _ => rfl
  | [a], _ => rfl
  | a :: c :: r, h =>
    rw [kindOf_cons] at h
    rw [item_cons]
    split at h
    · rename_i h1; rw [if_pos h1]
    rename_i h1
    rw [if_neg h1]
    split at h
    · cases h
    rename_i h2
    rw [if_neg h2]
    split at h
    · cases h
    rename_i h3
    rw [if_neg (fun e => h3 (.inl e)), if_neg (fun e => h3 (.inr e))]
    split at h
    · rename_i h4
      rw [if_pos h4]
      cases r with
      | nil => rfl
      | cons d r' => rw [kindS_cons] at h; split at h <;> cases h
    · rename_i h4; rw [if_neg h4]
theorem item_start {l : List UInt8} (h : kindOf l = 1) : ∃ c r, l = 60 :: c :: r ∧ isAl c = true ∧ item l = startI (c :: r) := by
  match l, h with
  | a :: c :: r, h =>
    rw [kindOf_cons] at h
    split at h
    · cases h
    rename_i h1
    split at h
    · rename_i h2
      exact ⟨c, r, by simpa using h1, h2, by rw [item_cons]; rw [if_neg h1, if_pos h2]⟩
    split at h
    · cases h
    split at h
    · cases r with
      | nil => cases h
      | cons d r' => rw [kindS_cons] at h; split at h <;> cases h
    · cases h
theorem item_end {l : List UInt8} (h : kindOf l = 2) : ∃ c r, l = 60 :: 47 :: c :: r ∧ isAl c = true ∧ item l = closeI (c :: r) := by
  match l, h with
  | a :: c :: r, h =>
    rw [kindOf_cons] at h
    split at h
    · cases h
    rename_i h1
    split at h
    · cases h
    rename_i h2
    split at h
    · cases h
    rename_i h3
    split at h
    · rename_i h4
      subst h4
      cases r with
      | nil => cases h
      | cons d r' =>
        rw [kindS_cons] at h
        split at h
        · rename_i h5
          refine ⟨d, r', by simpa using h1, h5, ?_⟩
          rw [item_cons]
          rw [if_neg h1, if_neg h2, if_neg (by decide), if_neg (by decide), if_pos rfl]
          rw [slashI_cons, if_pos h5]
        · cases h
    · cases h
/-- a comment: what opens it, what closes it, and where it begins -/
theorem item_mark {l : List UInt8} (h : kindOf l = 4) :
    (l.take 4 = [60, 33, 45, 45] ∧ item l = markI [45, 45, 62] (l.drop 4)) ∨
    (l.take 4 ≠ [60, 33, 45, 45] ∧ l.take 2 = [60, 63] ∧ item l = markI [62] (l.drop 1)) ∨
    (l.take 4 ≠ [60, 33, 45, 45] ∧ l.take 2 ≠ [60, 63] ∧ item l = markI [62] (l.drop 2)) := by
  match l, h with
  | a :: c :: r, h =>
    rw [kindOf_cons] at h
    split at h
    · cases h
    rename_i h1
    obtain rfl : a = 60 := by simpa using h1
    split at h
    · cases h
    rename_i h2
    split at h
    · rename_i h3
      rcases h3 with rfl | rfl
      · have e : item (60 :: 33 :: r) = bangI r := by rw [item_cons]; rw [if_neg h1, if_neg h2, if_pos rfl]
        rw [e]
        unfold bangI
        by_cases h5 : r.take 2 = [45, 45]
        · rw [if_pos h5]
          exact .inl ⟨by simp [h5], by simp⟩
        · rw [if_neg h5]
          exact .inr (.inr ⟨fun e => h5 (by simpa using e), by simp, by simp⟩)
      · have e : item (60 :: 63 :: r) = markI [62] (63 :: r) := by rw [item_cons]; rw [if_neg h1, if_neg h2, if_neg (by decide), if_pos rfl]
        exact .inr (.inl ⟨by simp, by simp, by simpa using e⟩)
    rename_i h3
    split at h
    · rename_i h4
      subst h4
      cases r with
      | nil => cases h
      | cons d r' =>
        rw [kindS_cons] at h
        split at h
        · cases h
        · rename_i h5
          have e : item (60 :: 47 :: d :: r') = markI [62] (d :: r') := by
            rw [item_cons]
            rw [if_neg h1, if_neg h2, if_neg (by decide), if_neg (by decide), if_pos rfl]
            rw [slashI_cons, if_neg h5]
          exact .inr (.inr ⟨by simp, by simp, by simpa using e⟩)
    · cases h
theorem kindOf_cases (l : List UInt8) : kindOf l = 1 ∨ kindOf l = 2 ∨ kindOf l = 3 ∨ kindOf l = 4 := by
  match l with
  | [] => exact .inr (.inr (.inl rfl))
  | [a] => exact .inr (.inr (.inl rfl))
  | a :: c :: r =>
    rw [kindOf_cons]
    split
    · simp
    split
    · simp
    split
    · simp
    split
    · cases r with
      | nil => simp [kindS]
      | cons d r' => rw [kindS_cons]; split <;> simp
    · simp

/-! ### fuel -/
theorem remark_le (find l : List UInt8) : (remark find l).2.length ≤ l.length := by
  unfold remark
  split
  · simp
  · simp
theorem mark_le {find l rest : List UInt8} {t : Tok} (h : markI find l = .mark t rest) : rest.length ≤ l.length := by
  unfold markI at h
  injection h with _ h
  rw [← h]
  exact remark_le find l
/-- what is left behind what stands here -/
theorem rawText_le : ∀ (n l : List UInt8), (rawText n l).2.length ≤ l.length
  | n, [] => by simp [rawText]
  | n, b :: r => by
    rw [rawText]
    split
    · simp
    · have := rawText_le n r
      simp only [List.length_cons]
      omega
theorem item_shorter {l : List UInt8} : (∀ t rest, item l = .mark t rest → rest.length < l.length) ∧ (∀ n rest, item l = .close n rest → rest.length < l.length) ∧ (∀ n as s rest, item l = .start n as s rest → rest.length < l.length) := by
  rcases kindOf_cases l with h | h | h | h
  · obtain ⟨c, r, rfl, _, e⟩ := item_start h
    rw [e]
    unfold startI
    cases hr : runM st0 (c :: r) with
    | none => refine ⟨?_, ?_, ?_⟩ <;> intros <;> simp_all
    | some x =>
      obtain ⟨st, t⟩ := x
      have := runM_shorter _ _ hr
      simp only [List.length_cons] at this ⊢
      refine ⟨fun _ _ h => by simp at h, fun _ _ h => by simp at h, fun _ _ _ rest h => ?_⟩
      simp only [Item.start.injEq] at h
      obtain ⟨_, _, _, rfl⟩ := h
      omega
  · obtain ⟨c, r, rfl, _, e⟩ := item_end h
    rw [e]
    unfold closeI
    cases hr : runM st0 (c :: r) with
    | none => refine ⟨?_, ?_, ?_⟩ <;> intros <;> simp_all
    | some x =>
      obtain ⟨st, t⟩ := x
      have := runM_shorter _ _ hr
      simp only [List.length_cons] at this ⊢
      refine ⟨fun _ _ h => by simp at h, fun _ rest h => ?_, fun _ _ _ _ h => by simp at h⟩
      simp only [Item.close.injEq] at h
      obtain ⟨_, rfl⟩ := h
      omega
  · rw [item_text h]
    refine ⟨?_, ?_, ?_⟩ <;> intros <;> simp_all
  · have h2 : ∃ a c r, l = a :: c :: r := by
      match l, h with
      | a :: c :: r, _ => exact ⟨a, c, r, rfl⟩
    obtain ⟨a, c, r, rfl⟩ := h2
    refine ⟨fun t rest e0 => ?_, ?_, ?_⟩
    · rcases item_mark h with ⟨_, e⟩ | ⟨_, _, e⟩ | ⟨_, _, e⟩ <;> rw [e] at e0 <;> have := mark_le e0 <;> simp only [List.length_drop, List.length_cons] at this ⊢ <;> omega
    · rcases item_mark h with ⟨_, e⟩ | ⟨_, _, e⟩ | ⟨_, _, e⟩ <;> rw [e] <;> intro n rest e0 <;> simp [markI] at e0
    · rcases item_mark h with ⟨_, e⟩ | ⟨_, _, e⟩ | ⟨_, _, e⟩ <;> rw [e] <;> intro n as s rest e0 <;> simp [markI] at e0

theorem toksF_fuel : ∀ (f g : Nat) (l txt : List UInt8), l.length ≤ f → l.length ≤ g → toksF f txt l = toksF g txt l
  | 0, g, l, txt, hf, hg => by
    obtain rfl : l = [] := List.eq_nil_of_length_eq_zero (by omega)
    cases g <;> rfl
  | f + 1, g, l, txt, hf, hg => by
    cases l with
    | nil => cases g <;> rfl
    | cons b r =>
      cases g with
      | zero => simp at hg
      | succ g =>
        rw [toksF, toksF]
        simp only [List.length_cons] at hf hg
        obtain ⟨i1, i2, i3⟩ := item_shorter (l := b :: r)
        cases hi : item (b :: r) with
        | text => exact toksF_fuel f g r _ (by omega) (by omega)
        | mark t rest => have := i1 t rest hi; simp only [List.length_cons] at this; simp only; rw [toksF_fuel f g rest [] (by omega) (by omega)]
        | stop => rfl
        | close n rest => have := i2 n rest hi; simp only [List.length_cons] at this; simp only; rw [toksF_fuel f g rest [] (by omega) (by omega)]
        | start n as s rest =>
          have h3 := i3 n as s rest hi
          have h4 := rawText_le n rest
          simp only [List.length_cons] at h3
          simp only
          rw [toksF_fuel f g rest [] (by omega) (by omega), toksF_fuel f g (rawText n rest).2 [] (by omega) (by omega)]

/-- the tokens of a text behind what is gathered -/
def toksT (txt l : List UInt8) : List Tok := toksF l.length txt l
theorem toksT_nil (txt : List UInt8) : toksT txt [] = chars txt := rfl
theorem toksT_text {l : List UInt8} (txt : List UInt8) {b : UInt8} {r : List UInt8} (e : l = b :: r) (h : item l = .text) : toksT txt l = toksT (txt ++ [b]) r := by
  subst e
  unfold toksT
  rw [List.length_cons, toksF, h]
theorem toksT_flush {l : List UInt8} (txt : List UInt8) (h : l = [] ∨ item l ≠ .text) : toksT txt l = chars txt ++ toksT [] l := by
  cases l with
  | nil => simp [toksT_nil, chars]
  | cons b r =>
    have h : item (b :: r) ≠ .text := by rcases h with h | h; cases h; exact h
    have e0 : chars ([] : List UInt8) = [] := rfl
    unfold toksT
    rw [List.length_cons, toksF, toksF]
    cases hi : item (b :: r) with
    | text => exact absurd hi h
    | mark t rest => simp [e0]
    | stop => simp [e0]
    | close n rest => simp [e0]
    | start n as s rest => simp only; split <;> simp [e0]
theorem toksT_mark {l rest : List UInt8} {t : Tok} (h : item l = .mark t rest) : toksT [] l = t :: toksT [] rest := by
  cases l with
  | nil => cases h
  | cons b r =>
    have := item_shorter.1 t rest h
    rw [List.length_cons] at this
    have e := toksF_fuel r.length rest.length rest [] (by omega) (Nat.le_refl _)
    unfold toksT
    rw [List.length_cons, toksF, h]
    simp only
    rw [e]
    rfl
theorem toksT_stop {l : List UInt8} (h : item l = .stop) : toksT [] l = [] := by
  cases l with
  | nil => cases h
  | cons b r =>
    unfold toksT
    rw [List.length_cons, toksF, h]
    rfl
theorem toksT_close {l n rest : List UInt8} (h : item l = .close n rest) : toksT [] l = ⟨2, n, [], false, []⟩ :: toksT [] rest := by
  cases l with
  | nil => cases h
  | cons b r =>
    have := item_shorter.2.1 n rest h
    rw [List.length_cons] at this
    have e := toksF_fuel r.length rest.length rest [] (by omega) (Nat.le_refl _)
    unfold toksT
    rw [List.length_cons, toksF, h]
    simp only
    rw [e]
    rfl
theorem toksT_start {l n rest : List UInt8} {as : List Att} {s : Bool} (h : item l = .start n as s rest) :
    toksT [] l = ⟨1, n, as, s, []⟩ :: (if rawName n = true then rawToks n (rawText n rest).1 ++ toksT [] (rawText n rest).2 else toksT [] rest) := by
  cases l with
  | nil => cases h
  | cons b r =>
    have := item_shorter.2.2 n as s rest h
    have h4 := rawText_le n rest
    rw [List.length_cons] at this
    have e := toksF_fuel r.length rest.length rest [] (by omega) (Nat.le_refl _)
    have e2 := toksF_fuel r.length (rawText n rest).2.length (rawText n rest).2 [] (by omega) (Nat.le_refl _)
    unfold toksT
    rw [List.length_cons, toksF, h]
    simp only
    rw [e, e2]
    split <;> rfl
theorem toks_toksT (l : List UInt8) : toks l = toksT [] l := rfl

/-- a run of text -/
theorem toksT_run (l : List UInt8) : ∀ (n : Nat) (txt : List UInt8), n ≤ l.length → (∀ i, i < n → kindOf (l.drop i) = 3) → toksT txt l = toksT (txt ++ l.take n) (l.drop n) := by
  intro n
  induction n with
  | zero => intro txt _ _; simp
  | succ n ih =>
    intro txt hn h
    rw [ih txt (by omega) (fun i hi => h i (by omega))]
    have hlt : n < l.length := by omega
    rw [toksT_text (txt ++ l.take n) (List.drop_eq_getElem_cons hlt) (item_text (h n (by omega))), List.append_assoc, ← List.take_append_getElem hlt]
theorem item_notext {l : List UInt8} (h : kindOf l ≠ 3) : item l ≠ .text := by
  rcases kindOf_cases l with h1 | h1 | h1 | h1
  · obtain ⟨c, r, _, _, e⟩ := item_start h1
    rw [e]
    unfold startI
    split <;> simp
  · obtain ⟨c, r, _, _, e⟩ := item_end h1
    rw [e]
    unfold closeI
    split <;> simp
  · exact absurd h1 h
  · rcases item_mark h1 with ⟨_, e⟩ | ⟨_, _, e⟩ | ⟨_, _, e⟩ <;> rw [e] <;> simp [markI]
theorem toks_chars {l : List UInt8} {n : Nat} (h0 : 0 < n) (hn : n ≤ l.length) (h : ∀ i, i < n → kindOf (l.drop i) = 3) (he : n = l.length ∨ kindOf (l.drop n) ≠ 3) :
    toksT [] l = ⟨3, [], [], false, unesc (l.take n)⟩ :: toksT [] (l.drop n) := by
  rw [toksT_run l n [] hn h, List.nil_append, toksT_flush (l.take n)]
  · unfold chars
    rw [if_neg (fun e => by have := congrArg List.length e; rw [List.length_take, List.length_nil] at this; omega)]
    rfl
  · rcases he with rfl | he
    · exact .inl (by simp)
    · exact .inr (item_notext he)

/-- a raw text by its length -/
theorem rawText_at (n : List UInt8) : ∀ (l : List UInt8) (k : Nat), k ≤ l.length → (∀ i, i < k → rawEnd n (l.drop i) = false) → (k = l.length ∨ rawEnd n (l.drop k) = true) → rawText n l = (l.take k, l.drop k)
  | [], k, hk, _, _ => by
    obtain rfl : k = 0 := by simpa using hk
    rfl
  | b :: r, 0, hk, _, he => by
    rw [rawText]
    rcases he with he | he
    · simp at he
    · rw [List.drop_zero] at he
      rw [if_pos he]
      rfl
  | b :: r, k + 1, hk, h, he => by
    rw [rawText]
    have h0 := h 0 (by omega)
    rw [List.drop_zero] at h0
    rw [if_neg (by rw [h0]; decide), rawText_at n r k (by simpa using hk) (fun i hi => by simpa using h (i + 1) (by omega)) (by simpa using he)]
    rfl

theorem placeOf_le {find l : List UInt8} {k : Nat} (hf : find ≠ []) (h : placeOf find l = some k) : k + find.length ≤ l.length := by
  induction l generalizing k with
  | nil => rw [placeOf, if_neg hf] at h; cases h
  | cons b r ih =>
    rw [placeOf] at h
    split at h
    · rename_i h1
      injection h with h
      subst h
      have := congrArg List.length h1
      rw [List.length_take] at this
      omega
    · cases h2 : placeOf find r with
      | none => rw [h2] at h; cases h
      | some j =>
        rw [h2] at h
        injection h with h
        simp only at h
        have := ih h2
        rw [List.length_cons]
        omega

end U
end Go.Proofs.YtkmjngpgngkalaaDoor

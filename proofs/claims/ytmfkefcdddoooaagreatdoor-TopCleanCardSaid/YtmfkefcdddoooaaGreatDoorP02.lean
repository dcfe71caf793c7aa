/- Several texts in one: ToksMath, EmitDef, FaultMath, NodeMath. -/
import Derived.Test.YtmfkefcdddoooaaGreatDoorP01
import Derived.Test.YtmfkefcdddoooaaGreatDoorP00
namespace Go.Proofs.YtmfkefcdddoooaaGreatDoor
namespace U

/-- the kind of the token that begins here: 1 a start, 2 an end, 4 a comment, 3 a text -/
def kindS : List UInt8 → Nat
  | [] => 3
  | d :: _ => if isAl d = true then 2 else 4
def kindOf : List UInt8 → Nat
  | a :: c :: r => if a ≠ 60 then 3 else if isAl c = true then 1 else if c = 33 ∨ c = 63 then 4 else if c = 47 then kindS r else 3
  | _ => 3
theorem kindOf_cons (a c : UInt8) (r : List UInt8) : kindOf (a :: c :: r) = if a ≠ 60 then 3 else if isAl c = true then 1 else if c = 33 ∨ c = 63 then 4 else if c = 47 then kindS r else 3 := rfl
theorem kindS_cons (d : UInt8) (r : List UInt8) : kindS (d :: r) = if isAl d = true then 2 else 4 := rfl
theorem item_cons (a c : UInt8) (r : List UInt8) : item (a :: c :: r) = if a ≠ 60 then .text else if isAl c = true then startI (c :: r) else if c = 33 then bangI r else if c = 63 then markI [62] (c :: r) else if c = 47 then slashI r else .text := rfl
theorem slashI_cons (d : UInt8) (r : List UInt8) : slashI (d :: r) = if isAl d = true then closeI (d :: r) else markI [62] (d :: r) := rfl
theorem isAl_ne {c : UInt8} (h : isAl c = true) : c ≠ 33 ∧ c ≠ 63 ∧ c ≠ 47 := by
  refine ⟨?_, ?_, ?_⟩ <;> rintro rfl <;> exact absurd h (by decide)
theorem item_text {l : List UInt8} (h : kindOf l = 3) : item l = .text := by
  match l, h with
  | [], _ => rfl
  | [a], _ => rfl
  | a :: c :: r, h =>
    rw [kindOf_cons] at h
    rw [item_cons]
    split at h
    · rename_i h1; rw [if_pos h1]
    rename_i h1
    rw [if_neg h1]
    split at h
    · cases h
    rename_i h2
    rw [if_neg h2]
    split at h
    · cases h
    rename_i h3
    rw [if_neg (fun e => h3 (.inl e)), if_neg (fun e => h3 (.inr e))]
    split at h
    · rename_i h4
      rw [if_pos h4]
      cases r with
      | nil => rfl
      | cons d r' => rw [kindS_cons] at h; split at h <;> cases h
    · rename_i h4; rw [if_neg h4]
theorem item_start {l : List UInt8} (h : kindOf l = 1) : ∃ c r, l = 60 :: c :: r ∧ isAl c = true ∧ item l = startI (c :: r) := by
  match l, h with
  | a :: c :: r, h =>
    rw [kindOf_cons] at h
    split at h
    · cases h
    rename_i h1
    split at h
    · rename_i h2
      exact ⟨c, r, by simpa using h1, h2, by rw [item_cons]; rw [if_neg h1, if_pos h2]⟩
    split at h
    · cases h
    split at h
    · cases r with
      | nil => cases h
      | cons d r' => rw [kindS_cons] at h; split at h <;> cases h
    · cases h
theorem item_end {l : List UInt8} (h : kindOf l = 2) : ∃ c r, l = 60 :: 47 :: c :: r ∧ isAl c = true ∧ item l = closeI (c :: r) := by
  match l, h with
  | a :: c :: r, h =>
    rw [kindOf_cons] at h
    split at h
    · cases h
    rename_i h1
    split at h
    · cases h
    rename_i h2
    split at h
    · cases h
    rename_i h3
    split at h
    · rename_i h4
      subst h4
      cases r with
      | nil => cases h
      | cons d r' =>
        rw [kindS_cons] at h
        split at h
        · rename_i h5
          refine ⟨d, r', by simpa using h1, h5, ?_⟩
          rw [item_cons]
          rw [if_neg h1, if_neg h2, if_neg (by decide), if_neg (by decide), if_pos rfl]
          rw [slashI_cons, if_pos h5]
        · cases h
    · cases h
/-- a comment: what opens it, what closes it, and where it begins -/
theorem item_mark {l : List UInt8} (h : kindOf l = 4) :
    (l.take 4 = [60, 33, 45, 45] ∧ item l = markI [45, 45, 62] (l.drop 4)) ∨
    (l.take 4 ≠ [60, 33, 45, 45] ∧ l.take 2 = [60, 63] ∧ item l = markI [62] (l.drop 1)) ∨
    (l.take 4 ≠ [60, 33, 45, 45] ∧ l.take 2 ≠ [60, 63] ∧ item l = markI [62] (l.drop 2)) := by
  match l, h with
  | a :: c :: r, h =>
    rw [kindOf_cons] at h
    split at h
    · cases h
    rename_i h1
    obtain rfl : a = 60 := by simpa using h1
    split at h
    · cases h
    rename_i h2
    split at h
    · rename_i h3
      rcases h3 with rfl | rfl
      · have e : item (60 :: 33 :: r) = bangI r := by rw [item_cons]; rw [if_neg h1, if_neg h2, if_pos rfl]
        rw [e]
        unfold bangI
        by_cases h5 : r.take 2 = [45, 45]
        · rw [if_pos h5]
          exact .inl ⟨by simp [h5], by simp⟩
        · rw [if_neg h5]
          exact .inr (.inr ⟨fun e => h5 (by simpa using e), by simp, by simp⟩)
      · have e : item (60 :: 63 :: r) = markI [62] (63 :: r) := by rw [item_cons]; rw [if_neg h1, if_neg h2, if_neg (by decide), if_pos rfl]
        exact .inr (.inl ⟨by simp, by simp, by simpa using e⟩)
    rename_i h3
    split at h
    · rename_i h4
      subst h4
      cases r with
      | nil => cases h
      | cons d r' =>
        rw [kindS_cons] at h
        split at h
        · cases h
        · rename_i h5
          have e : item (60 :: 47 :: d :: r') = markI [62] (d :: r') := by
            rw [item_cons]
            rw [if_neg h1, if_neg h2, if_neg (by decide), if_neg (by decide), if_pos rfl]
            rw [slashI_cons, if_neg h5]
          exact .inr (.inr ⟨by simp, by simp, by simpa using e⟩)
    · cases h
theorem kindOf_cases (l : List UInt8) : kindOf l = 1 ∨ kindOf l = 2 ∨ kindOf l = 3 ∨ kindOf l = 4 := by
  match l with
  | [] => exact .inr (.inr (.inl rfl))
  | [a] => exact .inr (.inr (.inl rfl))
  | a :: c :: r =>
    rw [kindOf_cons]
    split
    · simp
    split
    · simp
    split
    · simp
    split
    · cases r with
      | nil => simp [kindS]
      | cons d r' => rw [kindS_cons]; split <;> simp
    · simp

/-! ### fuel -/
theorem remark_le (find l : List UInt8) : (remark find l).2.length ≤ l.length := by
  unfold remark
  split
  · simp
  · simp
theorem mark_le {find l rest : List UInt8} {t : Tok} (h : markI find l = .mark t rest) : rest.length ≤ l.length := by
  unfold markI at h
  injection h with _ h
  rw [← h]
  exact remark_le find l
/-- what is left behind what stands here -/
theorem rawText_le : ∀ (n l : List UInt8), (rawText n l).2.length ≤ l.length
  | n, [] => by simp [rawText]
  | n, b :: r => by
    rw [rawText]
    split
    · simp
    · have := rawText_le n r
      simp only [List.length_cons]
      omega
theorem item_shorter {l : List UInt8} : (∀ t rest, item l = .mark t rest → rest.length < l.length) ∧ (∀ n rest, item l = .close n rest → rest.length < l.length) ∧ (∀ n as s rest, item l = .start n as s rest → rest.length < l.length) := by
  rcases kindOf_cases l with h | h | h | h
  · obtain ⟨c, r, rfl, _, e⟩ := item_start h
    rw [e]
    unfold startI
    cases hr : runM st0 (c :: r) with
    | none => refine ⟨?_, ?_, ?_⟩ <;> intros <;> simp_all
    | some x =>
      obtain ⟨st, t⟩ := x
      have := runM_shorter _ _ hr
      simp only [List.length_cons] at this ⊢
      refine ⟨fun _ _ h => by simp at h, fun _ _ h => by simp at h, fun _ _ _ rest h => ?_⟩
      simp only [Item.start.injEq] at h
      obtain ⟨_, _, _, rfl⟩ := h
      omega
  · obtain ⟨c, r, rfl, _, e⟩ := item_end h
    rw [e]
    unfold closeI
    cases hr : runM st0 (c :: r) with
    | none => refine ⟨?_, ?_, ?_⟩ <;> intros <;> simp_all
    | some x =>
      obtain ⟨st, t⟩ := x
      have := runM_shorter _ _ hr
      simp only [List.length_cons] at this ⊢
      refine ⟨fun _ _ h => by simp at h, fun _ rest h => ?_, fun _ _ _ _ h => by simp at h⟩
      simp only [Item.close.injEq] at h
      obtain ⟨_, rfl⟩ := h
      omega
  · rw [item_text h]
    refine ⟨?_, ?_, ?_⟩ <;> intros <;> simp_all
  · have h2 : ∃ a c r, l = a :: c :: r := by
      match l, h with
      | a :: c :: r, _ => exact ⟨a, c, r, rfl⟩
    obtain ⟨a, c, r, rfl⟩ := h2
    refine ⟨fun t rest e0 => ?_, ?_, ?_⟩
    · rcases item_mark h with ⟨_, e⟩ | ⟨_, _, e⟩ | ⟨_, _, e⟩ <;> rw [e] at e0 <;> have := mark_le e0 <;> simp only [List.length_drop, List.length_cons] at this ⊢ <;> omega
    · rcases item_mark h with ⟨_, e⟩ | ⟨_, _, e⟩ | ⟨_, _, e⟩ <;> rw [e] <;> intro n rest e0 <;> simp [markI] at e0
    · rcases item_mark h with ⟨_, e⟩ | ⟨_, _, e⟩ | ⟨_, _, e⟩ <;> rw [e] <;> intro n as s rest e0 <;> simp [markI] at e0

theorem toksF_fuel : ∀ (f g : Nat) (l txt : List UInt8), l.length ≤ f → l.length ≤ g → toksF f txt l = toksF g txt l
  | 0, g, l, txt, hf, hg => by
    obtain rfl : l = [] := List.eq_nil_of_length_eq_zero (by omega)
    cases g <;> rfl
  | f + 1, g, l, txt, hf, hg => by
    cases l with
    | nil => cases g <;> rfl
    | cons b r =>
      cases g with
      | zero => simp at hg
      | succ g =>
        rw [toksF, toksF]
        simp only [List.length_cons] at hf hg
        obtain ⟨i1, i2, i3⟩ := item_shorter (l := b :: r)
        cases hi : item (b :: r) with
        | text => exact toksF_fuel f g r _ (by omega) (by omega)
        | mark t rest => have := i1 t rest hi; simp only [List.length_cons] at this; simp only; rw [toksF_fuel f g rest [] (by omega) (by omega)]
        | stop => rfl
        | close n rest => have := i2 n rest hi; simp only [List.length_cons] at this; simp only; rw [toksF_fuel f g rest [] (by omega) (by omega)]
        | start n as s rest =>
          have h3 := i3 n as s rest hi
          have h4 := rawText_le n rest
          simp only [List.length_cons] at h3
          simp only
          rw [toksF_fuel f g rest [] (by omega) (by omega), toksF_fuel f g (rawText n rest).2 [] (by omega) (by omega)]

/-- the tokens of a text behind what is gathered -/
def toksT (txt l : List UInt8) : List Tok := toksF l.length txt l
theorem toksT_nil (txt : List UInt8) : toksT txt [] = chars txt := rfl
theorem toksT_text {l : List UInt8} (txt : List UInt8) {b : UInt8} {r : List UInt8} (e : l = b :: r) (h : item l = .text) : toksT txt l = toksT (txt ++ [b]) r := by
  subst e
  unfold toksT
  rw [List.length_cons, toksF, h]
theorem toksT_flush {l : List UInt8} (txt : List UInt8) (h : l = [] ∨ item l ≠ .text) : toksT txt l = chars txt ++ toksT [] l := by
  cases l with
  | nil => simp [toksT_nil, chars]
  | cons b r =>
    have h : item (b :: r) ≠ .text := by rcases h with h | h; cases h; exact h
    have e0 : chars ([] : List UInt8) = [] := rfl
    unfold toksT
    rw [List.length_cons, toksF, toksF]
    cases hi : item (b :: r) with
    | text => exact absurd hi h
    | mark t rest => simp [e0]
    | stop => simp [e0]
    | close n rest => simp [e0]
    | start n as s rest => simp only; split <;> simp [e0]
theorem toksT_mark {l rest : List UInt8} {t : Tok} (h : item l = .mark t rest) : toksT [] l = t :: toksT [] rest := by
  cases l with
  | nil => cases h
  | cons b r =>
    have := item_shorter.1 t rest h
    rw [List.length_cons] at this
    have e := toksF_fuel r.length rest.length rest [] (by omega) (Nat.le_refl _)
    unfold toksT
    rw [List.length_cons, toksF, h]
    simp only
    rw [e]
    rfl
theorem toksT_stop {l : List UInt8} (h : item l = .stop) : toksT [] l = [] := by
  cases l with
  | nil => cases h
  | cons b r =>
    unfold toksT
    rw [List.length_cons, toksF, h]
    rfl
theorem toksT_close {l n rest : List UInt8} (h : item l = .close n rest) : toksT [] l = ⟨2, n, [], false, []⟩ :: toksT [] rest := by
  cases l with
  | nil => cases h
  | cons b r =>
    have := item_shorter.2.1 n rest h
    rw [List.length_cons] at this
    have e := toksF_fuel r.length rest.length rest [] (by omega) (Nat.le_refl _)
    unfold toksT
    rw [List.length_cons, toksF, h]
    simp only
    rw [e]
    rfl
theorem toksT_start {l n rest : List UInt8} {as : List Att} {s : Bool} (h : item l = .start n as s rest) :
    toksT [] l = ⟨1, n, as, s, []⟩ :: (if rawName n = true then rawToks n (rawText n rest).1 ++ toksT [] (rawText n rest).2 else toksT [] rest) := by
  cases l with
  | nil => cases h
  | cons b r =>
    have := item_shorter.2.2 n as s rest h
    have h4 := rawText_le n rest
    rw [List.length_cons] at this
    have e := toksF_fuel r.length rest.length rest [] (by omega) (Nat.le_refl _)
    have e2 := toksF_fuel r.length (rawText n rest).2.length (rawText n rest).2 [] (by omega) (Nat.le_refl _)
    unfold toksT
    rw [List.length_cons, toksF, h]
    simp only
    rw [e, e2]
    split <;> rfl
theorem toks_toksT (l : List UInt8) : toks l = toksT [] l := rfl

/-- a run of text -/
theorem toksT_run (l : List UInt8) : ∀ (n : Nat) (txt : List UInt8), n ≤ l.length → (∀ i, i < n → kindOf (l.drop i) = 3) → toksT txt l = toksT (txt ++ l.take n) (l.drop n) := by
  intro n
  induction n with
  | zero => intro txt _ _; simp
  | succ n ih =>
    intro txt hn h
    rw [ih txt (by omega) (fun i hi => h i (by omega))]
    have hlt : n < l.length := by omega
    rw [toksT_text (txt ++ l.take n) (List.drop_eq_getElem_cons hlt) (item_text (h n (by omega))), List.append_assoc, ← List.take_append_getElem hlt]
theorem item_notext {l : List UInt8} (h : kindOf l ≠ 3) : item l ≠ .text := by
  rcases kindOf_cases l with h1 | h1 | h1 | h1
  · obtain ⟨c, r, _, _, e⟩ := item_start h1
    rw [e]
    unfold startI
    split <;> simp
  · obtain ⟨c, r, _, _, e⟩ := item_end h1
    rw [e]
    unfold closeI
    split <;> simp
  · exact absurd h1 h
  · rcases item_mark h1 with ⟨_, e⟩ | ⟨_, _, e⟩ | ⟨_, _, e⟩ <;> rw [e] <;> simp [markI]
theorem toks_chars {l : List UInt8} {n : Nat} (h0 : 0 < n) (hn : n ≤ l.length) (h : ∀ i, i < n → kindOf (l.drop i) = 3) (he : n = l.length ∨ kindOf (l.drop n) ≠ 3) :
    toksT [] l = ⟨3, [], [], false, unesc (l.take n)⟩ :: toksT [] (l.drop n) := by
  rw [toksT_run l n [] hn h, List.nil_append, toksT_flush (l.take n)]
  · unfold chars
    rw [if_neg (fun e => by have := congrArg List.length e; rw [List.length_take, List.length_nil] at this; omega)]
    rfl
  · rcases he with rfl | he
    · exact .inl (by simp)
    · exact .inr (item_notext he)

/-- a raw text by its length -/
theorem rawText_at (n : List UInt8) : ∀ (l : List UInt8) (k : Nat), k ≤ l.length → (∀ i, i < k → rawEnd n (l.drop i) = false) → (k = l.length ∨ rawEnd n (l.drop k) = true) → rawText n l = (l.take k, l.drop k)
  | [], k, hk, _, _ => by
    obtain rfl : k = 0 := by simpa using hk
    rfl
  | b :: r, 0, hk, _, he => by
    rw [rawText]
    rcases he with he | he
    · simp at he
    · rw [List.drop_zero] at he
      rw [if_pos he]
      rfl
  | b :: r, k + 1, hk, h, he => by
    rw [rawText]
    have h0 := h 0 (by omega)
    rw [List.drop_zero] at h0
    rw [if_neg (by rw [h0]; decide), rawText_at n r k (by simpa using hk) (fun i hi => by simpa using h (i + 1) (by omega)) (by simpa using he)]
    rfl

theorem placeOf_le {find l : List UInt8} {k : Nat} (hf : find ≠ []) (h : placeOf find l = some k) : k + find.length ≤ l.length := by
  induction l generalizing k with
  | nil => rw [placeOf, if_neg hf] at h; cases h
  | cons b r ih =>
    rw [placeOf] at h
    split at h
    · rename_i h1
      injection h with h
      subst h
      have := congrArg List.length h1
      rw [List.length_take] at this
      omega
    · cases h2 : placeOf find r with
      | none => rw [h2] at h; cases h
      | some j =>
        rw [h2] at h
        injection h with h
        simp only at h
        have := ih h2
        rw [List.length_cons]
        omega

end U
end Go.Proofs.YtmfkefcdddoooaaGreatDoor

namespace Go.Proofs.YtmfkefcdddoooaaGreatDoor
namespace U

/-! ### names -/
def small (b : UInt8) : Bool := decide (97 ≤ b.toNat) && decide (b.toNat ≤ 122)
def nameB2 (b : UInt8) : Bool := small b || b == 45 || (decide (48 ≤ b.toNat) && decide (b.toNat ≤ 57))
def isName : List UInt8 → Bool
  | [] => false
  | c :: r => small c && r.all nameB2 && decide (r.length ≤ 11)

theorem small_facts {b : UInt8} (h : small b = true) : isAl b = true ∧ nameB2 b = true := by
  unfold small at h
  simp only [Bool.and_eq_true, decide_eq_true_eq] at h
  refine ⟨?_, ?_⟩
  · unfold isAl; simp [h.1, h.2]
  · unfold nameB2 small; simp [h.1, h.2]
theorem nameB2_facts {b : UInt8} (h : nameB2 b = true) : isSp b = false ∧ b ≠ 47 ∧ b ≠ 62 ∧ b ≠ 61 ∧ b ≠ 34 ∧ low1 b = b := by
  have hr : (97 ≤ b.toNat ∧ b.toNat ≤ 122) ∨ b.toNat = 45 ∨ (48 ≤ b.toNat ∧ b.toNat ≤ 57) := by
    unfold nameB2 small at h
    simp only [Bool.or_eq_true, Bool.and_eq_true, decide_eq_true_eq, beq_iff_eq] at h
    rcases h with (h | h) | h
    · exact .inl h
    · subst h; exact .inr (.inl rfl)
    · exact .inr (.inr h)
  have hn : ∀ k : UInt8, (k.toNat = 32 ∨ k.toNat = 9 ∨ k.toNat = 10 ∨ k.toNat = 12 ∨ k.toNat = 47 ∨ k.toNat = 62 ∨ k.toNat = 61 ∨ k.toNat = 34) → b ≠ k := fun k hk e => by subst e; omega
  refine ⟨?_, hn 47 (by decide), hn 62 (by decide), hn 61 (by decide), hn 34 (by decide), ?_⟩
  · unfold isSp
    rw [beq_eq_false_iff_ne.2 (hn 32 (by decide)), beq_eq_false_iff_ne.2 (hn 9 (by decide)), beq_eq_false_iff_ne.2 (hn 10 (by decide)), beq_eq_false_iff_ne.2 (hn 12 (by decide))]
    rfl
  · unfold low1
    rw [if_neg (by omega)]
theorem nameB2_ends {b : UInt8} (h : nameB2 b = true) : endsName b = false := by
  obtain ⟨h1, h2, h3, _⟩ := nameB2_facts h
  unfold endsName
  rw [h1, beq_eq_false_iff_ne.2 h2, beq_eq_false_iff_ne.2 h3]
  rfl
theorem isName_all {n : List UInt8} (h : isName n = true) : ∃ c r, n = c :: r ∧ small c = true ∧ r.all nameB2 = true := by
  cases n with
  | nil => cases h
  | cons c r =>
    unfold isName at h
    simp only [Bool.and_eq_true] at h
    exact ⟨c, r, rfl, h.1.1, h.1.2⟩
theorem isName_every {n : List UInt8} (h : isName n = true) : n.all nameB2 = true := by
  obtain ⟨c, r, rfl, h1, h2⟩ := isName_all h
  rw [List.all_cons, (small_facts h1).2, h2]
  rfl
theorem low_name {n : List UInt8} (h : n.all nameB2 = true) : low n = n := by
  induction n with
  | nil => rfl
  | cons b r ih =>
    rw [List.all_cons, Bool.and_eq_true] at h
    show low1 b :: low r = _
    rw [(nameB2_facts h.1).2.2.2.2.2, ih h.2]

/-! ### what tokens are written as -/
def attE (a : Att) : List UInt8 := 32 :: (a.1 ++ 61 :: 34 :: (esc true a.2 ++ [34]))
def tailE (self : Bool) : List UInt8 := if self = true then [47, 62] else [62]
def startE (n : List UInt8) (al : List Att) (self : Bool) : List UInt8 := 60 :: (n ++ (al.flatMap attE ++ tailE self))
def endE (n : List UInt8) : List UInt8 := 60 :: 47 :: (n ++ [62])
def tokE (t : Tok) : List UInt8 := if t.kind = 3 then esc false t.text else if t.kind = 2 then endE t.name else startE t.name t.attrs t.self
def emit (ts : List Tok) : List UInt8 := ts.flatMap tokE
theorem emit_nil : emit [] = [] := rfl
theorem emit_cons (t : Tok) (ts : List Tok) : emit (t :: ts) = tokE t ++ emit ts := by simp [emit]
theorem emit_append (a b : List Tok) : emit (a ++ b) = emit a ++ emit b := by simp [emit]

/-! ### tokens that may be written -/
theorem firsts_all (l acc : List Att) (h : (acc ++ l).Pairwise (fun a b => a.1 ≠ b.1)) : firsts acc l = acc ++ l := by
  induction l generalizing acc with
  | nil => simp [firsts]
  | cons a l ih =>
    rw [firsts]
    have h1 : acc.all (fun c => c.1 != a.1) = true := by
      rw [List.all_eq_true]
      intro c hc
      rw [List.pairwise_append] at h
      exact bne_iff_ne.2 (h.2.2 c hc a (List.mem_cons_self ..))
    rw [if_pos h1, ih (acc ++ [a]) (by simpa using h)]
    simp
def attsOk (l : List Att) : Prop := (∀ a ∈ l, isName a.1 = true) ∧ l.length ≤ 4 ∧ l.Pairwise (fun a b => a.1 ≠ b.1)
def isEnd (n : List UInt8) : List Tok → Prop
  | [] => False
  | t :: _ => t.kind = 2 ∧ t.name = n
/-- a list of tokens that may be written, behind a text or not -/
def okT : Bool → List Tok → Prop
  | _, [] => True
  | prev, t :: r => ((t.kind = 3 ∧ t.text ≠ [] ∧ t.name = [] ∧ t.attrs = [] ∧ t.self = false ∧ prev = false) ∨ (t.kind = 2 ∧ isName t.name = true ∧ t.attrs = [] ∧ t.self = false ∧ t.text = []) ∨
      (t.kind = 1 ∧ isName t.name = true ∧ attsOk t.attrs ∧ t.text = [] ∧ (rawName t.name = true → isEnd t.name r))) ∧ okT (t.kind == 3) r

end U
end Go.Proofs.YtmfkefcdddoooaaGreatDoor

namespace Go.Proofs.YtmfkefcdddoooaaGreatDoor
namespace U

/-- a token as it may come in: its kind is any number -/
structure Tk where
  kind : Int
  name : List UInt8
  attrs : List Att
  self : Bool
  text : List UInt8
def Tok.tk (t : Tok) : Tk := ⟨(t.kind : Int), t.name, t.attrs, t.self, t.text⟩
def Tk.tok (t : Tk) : Tok := ⟨t.kind.toNat, t.name, t.attrs, t.self, t.text⟩
theorem tk_tok (t : Tok) : t.tk.tok = t := rfl

/-- is the name of one of the second list's in the first, or ahead of it -/
def dupF : List Att → List Att → Bool
  | _, [] => false
  | pre, a :: r => pre.any (fun e => e.1 == a.1) || dupF (pre ++ [a]) r
def dup (l : List Att) : Bool := dupF [] l
def attrsFault (al : List Att) : Nat := if al.any (fun a => !isName a.1) = true then 5 else if 4 < al.length then 1 else if dup al = true then 8 else 0
def isEndB (n : List UInt8) : List Tk → Bool
  | [] => false
  | t :: _ => t.kind == 2 && t.name == n
def formOk (prev : Bool) (t : Tk) (r : List Tk) : Bool :=
  if t.kind = 1 then t.text.isEmpty && (!rawName t.name || isEndB t.name r)
  else if t.kind = 2 then t.text.isEmpty && (t.attrs.isEmpty && !t.self)
  else if t.kind = 3 then !t.text.isEmpty && (t.name.isEmpty && (t.attrs.isEmpty && !t.self && !prev))
  else false
def form4 (prev : Bool) (t : Tk) (r : List Tk) : Nat := if formOk prev t r = true then 0 else 4
def namesFault (t : Tk) : Nat := if isName t.name = true then attrsFault t.attrs else 5
def faultAt (prev : Bool) (t : Tk) (r : List Tk) : Nat :=
  if t.kind = 1 ∨ t.kind = 2 then (if namesFault t = 0 then form4 prev t r else namesFault t) else if t.kind = 3 ∨ t.kind = 4 then form4 prev t r else 3
def faults : Bool → List Tk → Nat
  | _, [] => 0
  | prev, t :: r => if faultAt prev t r = 0 then faults (t.kind == 3) r else faultAt prev t r
def fault (l : List Tk) : Nat := if 300 < l.length then 1 else faults false l

theorem faults_cons (prev : Bool) (t : Tk) (r : List Tk) : faults prev (t :: r) = if faultAt prev t r = 0 then faults (t.kind == 3) r else faultAt prev t r := rfl

theorem dupF_iff (l : List Att) : ∀ pre : List Att, pre.Pairwise (fun a b => a.1 ≠ b.1) → (dupF pre l = false ↔ (pre ++ l).Pairwise (fun a b => a.1 ≠ b.1)) := by
  induction l with
  | nil => intro pre hp; simp [dupF, hp]
  | cons a r ih =>
    intro pre hp
    rw [dupF, Bool.or_eq_false_iff]
    have e : pre ++ a :: r = (pre ++ [a]) ++ r := by simp
    rw [e]
    constructor
    · rintro ⟨h1, h2⟩
      refine (ih _ ?_).1 h2
      rw [List.pairwise_append]
      refine ⟨hp, List.pairwise_singleton _ _, ?_⟩
      intro x hx y hy
      obtain rfl := List.mem_singleton.1 hy
      have := List.any_eq_false.1 h1 x hx
      simpa using this
    · intro h
      have h1 := (List.pairwise_append.1 h).1
      refine ⟨?_, (ih _ h1).2 h⟩
      rw [List.any_eq_false]
      intro x hx
      have := (List.pairwise_append.1 h1).2.2 x hx a (List.mem_singleton.2 rfl)
      simpa using this
theorem dup_iff (l : List Att) : dup l = false ↔ l.Pairwise (fun a b => a.1 ≠ b.1) := by
  have := dupF_iff l [] List.Pairwise.nil
  simpa [dup] using this
theorem attrsFault_zero (al : List Att) : attrsFault al = 0 ↔ attsOk al := by
  unfold attrsFault attsOk
  constructor
  · intro h
    split at h
    · cases h
    · rename_i h1
      split at h
      · cases h
      · rename_i h2
        split at h
        · cases h
        · rename_i h3
          refine ⟨?_, by omega, (dup_iff al).1 (by simpa using h3)⟩
          intro a ha
          have : al.any (fun a => !isName a.1) = false := by simpa using h1
          have := List.any_eq_false.1 this a ha
          simpa using this
  · rintro ⟨h1, h2, h3⟩
    have e1 : al.any (fun a => !isName a.1) = false := by
      rw [List.any_eq_false]
      intro a ha
      simp [h1 a ha]
    rw [e1, if_neg (by decide), if_neg (by omega), (dup_iff al).2 h3, if_neg (by decide)]
theorem attrsFault_cases (al : List Att) (hu : al.Pairwise (fun a b => a.1 ≠ b.1)) : attrsFault al = 0 ∨ attrsFault al = 1 ∨ attrsFault al = 5 := by
  unfold attrsFault
  split
  · exact .inr (.inr rfl)
  · split
    · exact .inr (.inl rfl)
    · rw [(dup_iff al).2 hu]; exact .inl rfl
theorem isEndB_iff (n : List UInt8) (l : List Tok) : isEndB n (l.map Tok.tk) = true ↔ isEnd n l := by
  cases l with
  | nil => simp [isEndB, isEnd]
  | cons t r =>
    show (((t.kind : Int) == 2 && t.name == n) = true) ↔ (t.kind = 2 ∧ t.name = n)
    rw [Bool.and_eq_true, beq_iff_eq, beq_iff_eq]
    constructor
    · rintro ⟨h1, h2⟩; exact ⟨by omega, h2⟩
    · rintro ⟨h1, h2⟩; exact ⟨by omega, h2⟩
theorem form4_zero {prev : Bool} {t : Tk} {r : List Tk} : form4 prev t r = 0 ↔ formOk prev t r = true := by
  unfold form4
  split <;> simp_all
theorem namesFault_zero {t : Tk} : namesFault t = 0 ↔ isName t.name = true ∧ attsOk t.attrs := by
  unfold namesFault
  split
  · rename_i h; rw [attrsFault_zero]; simp [h]
  · rename_i h; simp [h]
/-- nothing is refused of tokens exactly where they may be written -/
theorem faults_ok : ∀ (l : List Tok) (prev : Bool), faults prev (l.map Tok.tk) = 0 ↔ okT prev l
  | [], _ => by simp [faults, okT]
  | t :: r, prev => by
    rw [List.map_cons, faults_cons]
    have ih := faults_ok r (t.kind == 3)
    have ek : (t.tk.kind == 3) = (t.kind == 3) := by
      show ((t.kind : Int) == 3) = (t.kind == 3)
      rw [Bool.eq_iff_iff, beq_iff_eq, beq_iff_eq]
      omega
    have hr := isEndB_iff t.name r
    unfold okT
    rw [← ih, ek]
    obtain ⟨kind, name, attrs, self, text⟩ := t
    simp only at *
    have main : faultAt prev (Tok.tk ⟨kind, name, attrs, self, text⟩) (r.map Tok.tk) = 0 ↔ ((kind = 3 ∧ text ≠ [] ∧ name = [] ∧ attrs = [] ∧ self = false ∧ prev = false) ∨ (kind = 2 ∧ isName name = true ∧ attrs = [] ∧ self = false ∧ text = []) ∨
      (kind = 1 ∧ isName name = true ∧ attsOk attrs ∧ text = [] ∧ (rawName name = true → isEnd name r))) := by
      unfold faultAt
      show (if ((kind : Int) = 1 ∨ (kind : Int) = 2) then _ else _) = 0 ↔ _
      by_cases h1 : kind = 1
      · subst h1
        rw [if_pos (.inl rfl)]
        have e : (if namesFault (Tok.tk ⟨1, name, attrs, self, text⟩) = 0 then form4 prev (Tok.tk ⟨1, name, attrs, self, text⟩) (r.map Tok.tk) else namesFault (Tok.tk ⟨1, name, attrs, self, text⟩)) = 0 ↔
            (namesFault (Tok.tk ⟨1, name, attrs, self, text⟩) = 0 ∧ form4 prev (Tok.tk ⟨1, name, attrs, self, text⟩) (r.map Tok.tk) = 0) := by
          by_cases h : namesFault (Tok.tk ⟨1, name, attrs, self, text⟩) = 0
          · rw [if_pos h]; simp [h]
          · rw [if_neg h]; simp [h]
        rw [e, namesFault_zero, form4_zero]
        unfold formOk
        show (isName name = true ∧ attsOk attrs) ∧ (text.isEmpty && (!rawName name || isEndB name (r.map Tok.tk))) = true ↔ _
        rw [Bool.and_eq_true, Bool.or_eq_true, List.isEmpty_iff]
        simp only [Bool.not_eq_true', hr]
        constructor
        · rintro ⟨⟨a, b⟩, c, d⟩
          refine .inr (.inr ⟨by trivial, a, b, c, fun h => ?_⟩)
          rcases d with d | d
          · rw [h] at d; cases d
          · exact d
        · rintro (⟨h, _⟩ | ⟨h, _⟩ | ⟨_, a, b, c, d⟩)
          · cases h
          · cases h
          · refine ⟨⟨a, b⟩, c, ?_⟩
            cases hh : rawName name with
            | false => exact .inl rfl
            | true => exact .inr (d hh)
      · by_cases h2 : kind = 2
        · subst h2
          rw [if_pos (.inr rfl)]
          have e : (if namesFault (Tok.tk ⟨2, name, attrs, self, text⟩) = 0 then form4 prev (Tok.tk ⟨2, name, attrs, self, text⟩) (r.map Tok.tk) else namesFault (Tok.tk ⟨2, name, attrs, self, text⟩)) = 0 ↔
              (namesFault (Tok.tk ⟨2, name, attrs, self, text⟩) = 0 ∧ form4 prev (Tok.tk ⟨2, name, attrs, self, text⟩) (r.map Tok.tk) = 0) := by
            by_cases h : namesFault (Tok.tk ⟨2, name, attrs, self, text⟩) = 0
            · rw [if_pos h]; simp [h]
            · rw [if_neg h]; simp [h]
          rw [e, namesFault_zero, form4_zero]
          unfold formOk
          show (isName name = true ∧ attsOk attrs) ∧ (text.isEmpty && (attrs.isEmpty && !self)) = true ↔ _
          rw [Bool.and_eq_true, Bool.and_eq_true, List.isEmpty_iff, List.isEmpty_iff]
          simp only [Bool.not_eq_true']
          constructor
          · rintro ⟨⟨a, _⟩, c, d, f⟩
            exact .inr (.inl ⟨by trivial, a, d, f, c⟩)
          · rintro (⟨h, _⟩ | ⟨_, a, b, c, d⟩ | ⟨h, _⟩)
            · cases h
            · subst b
              exact ⟨⟨a, by simp [attsOk]⟩, d, rfl, c⟩
            · cases h
        · rw [if_neg (by omega)]
          show (if ((kind : Int) = 3 ∨ (kind : Int) = 4) then _ else _) = 0 ↔ _
          by_cases h3 : kind = 3
          · subst h3
            rw [if_pos (.inl rfl), form4_zero]
            unfold formOk
            show (!text.isEmpty && (name.isEmpty && (attrs.isEmpty && !self && !prev))) = true ↔ _
            simp only [Bool.and_eq_true, List.isEmpty_iff, Bool.not_eq_true']
            constructor
            · rintro ⟨a, b, ⟨c, d⟩, f⟩
              exact .inl ⟨by trivial, by simpa using a, b, c, d, f⟩
            · rintro (⟨_, a, b, c, d, f⟩ | ⟨h, _⟩ | ⟨h, _⟩)
              · exact ⟨by simpa using a, b, ⟨c, d⟩, f⟩
              · cases h
              · cases h
          · have hno : ¬ ((kind = 3 ∧ text ≠ [] ∧ name = [] ∧ attrs = [] ∧ self = false ∧ prev = false) ∨ (kind = 2 ∧ isName name = true ∧ attrs = [] ∧ self = false ∧ text = []) ∨
              (kind = 1 ∧ isName name = true ∧ attsOk attrs ∧ text = [] ∧ (rawName name = true → isEnd name r))) := by
              rintro (⟨h, _⟩ | ⟨h, _⟩ | ⟨h, _⟩)
              · exact h3 h
              · exact h2 h
              · exact h1 h
            simp only [hno, iff_false]
            by_cases h4 : kind = 4
            · subst h4
              rw [if_pos (.inr rfl), form4_zero]
              unfold formOk
              show ¬ (false = true)
              decide
            · rw [if_neg (by omega)]
              decide
    constructor
    · intro h
      split at h
      · rename_i h0; exact ⟨main.1 h0, h⟩
      · rename_i h0; exact absurd h h0
    · rintro ⟨h1, h2⟩
      rw [if_pos (main.2 h1), h2]
theorem fault_ok {l : List Tok} (h : l.length ≤ 300) : fault (l.map Tok.tk) = 0 ↔ okT false l := by
  unfold fault
  rw [List.length_map, if_neg (by omega), faults_ok]
/-- what is refused of parsed tokens -/
theorem faults_parsed : ∀ (l : List Tok) (prev : Bool), (∀ t ∈ l, 1 ≤ t.kind ∧ t.kind ≤ 4) → (∀ t ∈ l, t.attrs.Pairwise (fun a b => a.1 ≠ b.1)) → (faults prev (l.map Tok.tk) = 0 ∨ faults prev (l.map Tok.tk) = 1 ∨ faults prev (l.map Tok.tk) = 4 ∨ faults prev (l.map Tok.tk) = 5)
  | [], _, _, _ => .inl rfl
  | t :: r, prev, hk, hu => by
    rw [List.map_cons, faults_cons]
    split
    · exact faults_parsed r _ (fun x hx => hk x (List.mem_cons_of_mem _ hx)) (fun x hx => hu x (List.mem_cons_of_mem _ hx))
    · rename_i h0
      obtain ⟨k1, k2⟩ := hk t (List.mem_cons_self ..)
      have h4 : form4 prev t.tk (r.map Tok.tk) = 0 ∨ form4 prev t.tk (r.map Tok.tk) = 4 := by
        unfold form4
        split
        · exact .inl rfl
        · exact .inr rfl
      have h5 : namesFault t.tk = 0 ∨ namesFault t.tk = 1 ∨ namesFault t.tk = 5 := by
        unfold namesFault
        split
        · exact attrsFault_cases _ (hu t (List.mem_cons_self ..))
        · exact .inr (.inr rfl)
      have ek : t.tk.kind = (t.kind : Int) := rfl
      revert h0
      unfold faultAt
      rw [ek]
      by_cases h1 : (t.kind : Int) = 1 ∨ (t.kind : Int) = 2
      · rw [if_pos h1]
        split
        · intro _; rcases h4 with h | h <;> rw [h] <;> simp
        · intro _; rcases h5 with h | h | h <;> rw [h] <;> simp
      · rw [if_neg h1, if_pos (by omega)]
        intro _; rcases h4 with h | h <;> rw [h] <;> simp
theorem fault_parsed {l : List Tok} (hk : ∀ t ∈ l, 1 ≤ t.kind ∧ t.kind ≤ 4) (hu : ∀ t ∈ l, t.attrs.Pairwise (fun a b => a.1 ≠ b.1)) : fault (l.map Tok.tk) = 0 ∨ fault (l.map Tok.tk) = 1 ∨ fault (l.map Tok.tk) = 4 ∨ fault (l.map Tok.tk) = 5 := by
  unfold fault
  split
  · exact .inr (.inl rfl)
  · exact faults_parsed l false hk hu

end U
end Go.Proofs.YtmfkefcdddoooaaGreatDoor

namespace Go.Proofs.YtmfkefcdddoooaaGreatDoor
namespace U

/-- a node: a name, attributes, a text, parts -/
inductive Nd where
  | mk (name : List UInt8) (attrs : List Att) (text : List UInt8) (parts : List Nd)
def Nd.name : Nd → List UInt8 | .mk n _ _ _ => n
def Nd.attrs : Nd → List Att | .mk _ a _ _ => a
def Nd.text : Nd → List UInt8 | .mk _ _ t _ => t
def Nd.parts : Nd → List Nd | .mk _ _ _ p => p
/-- one more part -/
def Nd.push : Nd → Nd → Nd | .mk n a t p, x => .mk n a t (p ++ [x])
theorem Nd.eta : ∀ (n : Nd), Nd.mk n.name n.attrs n.text n.parts = n | .mk _ _ _ _ => rfl
theorem Nd.push_name : ∀ (n x : Nd), (n.push x).name = n.name | .mk _ _ _ _, _ => rfl
theorem Nd.push_attrs : ∀ (n x : Nd), (n.push x).attrs = n.attrs | .mk _ _ _ _, _ => rfl
theorem Nd.push_text : ∀ (n x : Nd), (n.push x).text = n.text | .mk _ _ _ _, _ => rfl
theorem Nd.push_parts : ∀ (n x : Nd), (n.push x).parts = n.parts ++ [x] | .mk _ _ _ _, _ => rfl

/-- what is being built: what is outside of all that is open; the open elements, the inmost first; the pieces of a text that may go on; how many nodes; the name whose texts are not told -/
structure Bst where
  out : List Nd
  op : List Nd
  tx : List (List UInt8)
  cnt : Nat
  hid : List UInt8
def Bst.new : Bst := ⟨[], [], [], 0, []⟩
/-- a node at the current place -/
def Bst.add (s : Bst) (n : Nd) : Bst := match s.op with
  | [] => { s with out := s.out ++ [n] }
  | a :: r => { s with op := a.push n :: r }
def Bst.noText (s : Bst) : Bst := ⟨s.out, s.op, [], s.cnt, s.hid⟩
def Bst.withOp (s : Bst) (r : List Nd) : Bst := ⟨s.out, r, s.tx, s.cnt, s.hid⟩
def Bst.more (s : Bst) : Bst := ⟨s.out, s.op, s.tx, s.cnt + 1, s.hid⟩
/-- the text ends -/
def Bst.endText (s : Bst) : Bst := if s.tx = [] then s else Bst.noText (s.add (.mk [] [] s.tx.flatten []))
/-- the inmost one is closed -/
def Bst.pop (s : Bst) : Bst := match s.endText.op with
  | [] => s.endText
  | a :: r => (s.endText.withOp r).add a
def Bst.popN : Nat → Bst → Bst
  | 0, s => s
  | n + 1, s => popN n s.pop
/-- where the last one with this name is, from the outside, counted from 1; 0: there is none -/
def idx (name : List UInt8) : List Nd → Nat
  | [] => 0
  | a :: r => if a.name = name then r.length + 1 else idx name r
def Bst.closeFrom (s : Bst) (k : Nat) : Bst := Bst.popN (s.op.length - k) s
def Bst.closeLast (s : Bst) (name : List UInt8) : Bst := if idx name s.op = 0 then s else s.closeFrom (idx name s.op - 1)
def hides (n : List UInt8) : Bool := n == [115, 99, 114, 105, 112, 116] || n == [115, 116, 121, 108, 101]
def endsPar (n : List UInt8) : Bool := n == [112] || n == [100, 105, 118] || n == [117, 108] || n == [111, 108] || n == [108, 105] || n == [104, 49] || n == [104, 50] || n == [116, 97, 98, 108, 101] || n == [98, 108, 111, 99, 107, 113, 117, 111, 116, 101]
def isVoid (n : List UInt8) : Bool := n == [98, 114] || n == [104, 114] || n == [105, 109, 103] || n == [105, 110, 112, 117, 116]
def Bst.closePar (s : Bst) (name : List UInt8) : Bst := if endsPar name = true then s.closeLast [112] else s
def Bst.closeBefore (s : Bst) (name : List UInt8) : Bst :=
  if name = [108, 105] ∧ max (idx [117, 108] (s.closePar name).op) (idx [111, 108] (s.closePar name).op) < idx [108, 105] (s.closePar name).op then (s.closePar name).closeLast [108, 105] else s.closePar name
def Bst.start2 (s : Bst) (name : List UInt8) (attrs : List Att) (self : Bool) : Bst :=
  if self = true ∨ isVoid name = true then s.endText.more.add (.mk name attrs [] []) else s.endText.more.withOp (.mk name attrs [] [] :: s.endText.op)
def Bst.start1 (s : Bst) (name : List UInt8) (attrs : List Att) (self : Bool) : Bst :=
  if s.op.length = 10 then (if hides name = true ∧ self = false then { s with hid := name } else s) else s.start2 name attrs self
def Bst.start (s : Bst) (name : List UInt8) (attrs : List Att) (self : Bool) : Bst := Bst.start1 (Bst.closeBefore { s with hid := [] } name) name attrs self
def Bst.ends (s : Bst) (name : List UInt8) : Bst := Bst.closeLast (if s.hid = name then { s with hid := [] } else s) name
def Bst.muted (s : Bst) : Bool := match s.op with
  | [] => false
  | a :: _ => hides a.name
def Bst.chars (s : Bst) (text : List UInt8) : Bst :=
  if text = [] ∨ s.hid ≠ [] ∨ s.muted = true then s else { s with cnt := if s.tx = [] then s.cnt + 1 else s.cnt, tx := s.tx ++ [text] }
/-- one token -/
def Bst.step (s : Bst) (t : Tk) : Bst :=
  if t.kind = 1 then s.start t.name t.attrs t.self else if t.kind = 2 then s.ends t.name else if t.kind = 3 then s.chars t.text else s
def Bst.stepE (s : Bst) (t : Tk) : Bst × Nat :=
  if t.kind = 1 ∨ t.kind = 2 ∨ t.kind = 3 ∨ t.kind = 4 then (s.step t, if 150 < (s.step t).cnt then 1 else 0) else (s, 3)
def Bst.done (s : Bst) : List Nd := (s.closeFrom 0).endText.out
def Bst.run : Bst → List Tk → List Nd × Nat
  | s, [] => (s.done, 0)
  | s, t :: r => if (s.stepE t).2 = 0 then Bst.run (s.stepE t).1 r else ([], (s.stepE t).2)
/-- what Build answers -/
def build (l : List Tk) : List Nd × Nat := if 300 < l.length then ([], 1) else Bst.new.run l

/-- how much there is, at most as much as was counted -/
def Bst.bulk (s : Bst) : Nat := s.out.length + (s.op.map fun a => a.parts.length + 1).sum + (if s.tx = [] then 0 else 1)
theorem Bst.add_bulk (s : Bst) (n : Nd) : (s.add n).bulk = s.bulk + 1 := by
  unfold Bst.add Bst.bulk
  cases h : s.op with
  | nil => simp only [List.length_append, List.length_cons, List.length_nil, List.map_nil, List.sum_nil]; omega
  | cons a r => simp only [List.map_cons, List.sum_cons, Nd.push_parts, List.length_append, List.length_cons, List.length_nil]; omega
theorem Bst.add_tx (s : Bst) (n : Nd) : (s.add n).tx = s.tx := by unfold Bst.add; split <;> rfl
theorem Bst.add_cnt (s : Bst) (n : Nd) : (s.add n).cnt = s.cnt := by unfold Bst.add; split <;> rfl
theorem Bst.add_hid (s : Bst) (n : Nd) : (s.add n).hid = s.hid := by unfold Bst.add; split <;> rfl
theorem Bst.add_op (s : Bst) (n : Nd) : (s.add n).op.length = s.op.length := by unfold Bst.add; split <;> rename_i h <;> simp [h]
theorem Bst.endText_bulk (s : Bst) : s.endText.bulk = s.bulk := by
  unfold Bst.endText
  split
  · rfl
  · rename_i h
    have h1 := Bst.add_bulk s (.mk [] [] s.tx.flatten [])
    have h2 := Bst.add_tx s (.mk [] [] s.tx.flatten [])
    have h3 : (s.add (.mk [] [] s.tx.flatten [])).bulk = (s.add (.mk [] [] s.tx.flatten [])).noText.bulk + 1 := by
      unfold Bst.bulk
      rw [h2, if_neg h]
      rfl
    omega
theorem Bst.endText_tx (s : Bst) : s.endText.tx = [] := by
  unfold Bst.endText
  split
  · assumption
  · rfl
theorem Bst.endText_cnt (s : Bst) : s.endText.cnt = s.cnt := by
  unfold Bst.endText
  split
  · rfl
  · exact Bst.add_cnt _ _
theorem Bst.endText_hid (s : Bst) : s.endText.hid = s.hid := by
  unfold Bst.endText
  split
  · rfl
  · exact Bst.add_hid _ _
theorem Bst.endText_op (s : Bst) : s.endText.op.length = s.op.length := by
  unfold Bst.endText
  split
  · rfl
  · exact Bst.add_op _ _
theorem Bst.pop_of {s : Bst} {a : Nd} {r : List Nd} (h : s.endText.op = a :: r) : s.pop = (s.endText.withOp r).add a := by unfold Bst.pop; rw [h]
theorem Bst.pop_bulk (s : Bst) : s.pop.bulk ≤ s.bulk := by
  unfold Bst.pop
  have h0 := Bst.endText_bulk s
  split
  · exact Nat.le_of_eq h0
  · rename_i a r h
    rw [Bst.add_bulk]
    have h1 : s.endText.bulk = s.endText.out.length + (s.endText.op.map fun a => a.parts.length + 1).sum + (if s.endText.tx = [] then 0 else 1) := rfl
    rw [h, List.map_cons, List.sum_cons] at h1
    have h2 : (s.endText.withOp r).bulk = s.endText.out.length + (r.map fun a => a.parts.length + 1).sum + (if s.endText.tx = [] then 0 else 1) := rfl
    omega
theorem Bst.pop_cnt (s : Bst) : s.pop.cnt = s.cnt := by
  unfold Bst.pop
  split
  · exact Bst.endText_cnt s
  · rw [Bst.add_cnt]; exact Bst.endText_cnt s
theorem Bst.pop_hid (s : Bst) : s.pop.hid = s.hid := by
  unfold Bst.pop
  split
  · exact Bst.endText_hid s
  · rw [Bst.add_hid]; exact Bst.endText_hid s
theorem Bst.pop_op (s : Bst) : s.pop.op.length = s.op.length - 1 := by
  have h1 := Bst.endText_op s
  unfold Bst.pop
  split
  · rename_i h; rw [h] at h1 ⊢; rw [← h1]; rfl
  · rename_i a r h
    rw [h] at h1
    rw [Bst.add_op]
    show r.length = _
    rw [← h1]
    simp
theorem Bst.popN_op : ∀ (n : Nat) (s : Bst), (Bst.popN n s).op.length = s.op.length - n
  | 0, s => by simp [Bst.popN]
  | n + 1, s => by rw [Bst.popN, Bst.popN_op n, Bst.pop_op]; omega
theorem Bst.popN_bulk : ∀ (n : Nat) (s : Bst), (Bst.popN n s).bulk ≤ s.bulk
  | 0, s => Nat.le_refl _
  | n + 1, s => by rw [Bst.popN]; exact Nat.le_trans (Bst.popN_bulk n _) (Bst.pop_bulk s)
theorem Bst.popN_cnt : ∀ (n : Nat) (s : Bst), (Bst.popN n s).cnt = s.cnt
  | 0, s => rfl
  | n + 1, s => by rw [Bst.popN, Bst.popN_cnt n, Bst.pop_cnt]
theorem Bst.popN_hid : ∀ (n : Nat) (s : Bst), (Bst.popN n s).hid = s.hid
  | 0, s => rfl
  | n + 1, s => by rw [Bst.popN, Bst.popN_hid n, Bst.pop_hid]
theorem Bst.popN_succ : ∀ (n : Nat) (s : Bst), Bst.popN (n + 1) s = (Bst.popN n s).pop
  | 0, s => rfl
  | n + 1, s => by rw [Bst.popN, Bst.popN_succ n, Bst.popN]
theorem idx_le (name : List UInt8) : ∀ (l : List Nd), idx name l ≤ l.length
  | [] => Nat.le_refl _
  | a :: r => by
    rw [idx]
    have := idx_le name r
    split
    · simp
    · rw [List.length_cons]; omega
theorem Bst.closeFrom_op (s : Bst) (k : Nat) (hk : k ≤ s.op.length) : (s.closeFrom k).op.length = k := by unfold Bst.closeFrom; rw [Bst.popN_op]; omega
theorem Bst.closeLast_le (s : Bst) (name : List UInt8) : (s.closeLast name).bulk ≤ s.bulk ∧ (s.closeLast name).cnt = s.cnt ∧ (s.closeLast name).hid = s.hid ∧ (s.closeLast name).op.length ≤ s.op.length := by
  unfold Bst.closeLast
  split
  · exact ⟨Nat.le_refl _, rfl, rfl, Nat.le_refl _⟩
  · exact ⟨Bst.popN_bulk _ _, Bst.popN_cnt _ _, Bst.popN_hid _ _, by rw [Bst.closeFrom, Bst.popN_op]; omega⟩
theorem Bst.closePar_le (s : Bst) (name : List UInt8) : (s.closePar name).bulk ≤ s.bulk ∧ (s.closePar name).cnt = s.cnt ∧ (s.closePar name).hid = s.hid ∧ (s.closePar name).op.length ≤ s.op.length := by
  unfold Bst.closePar
  split
  · exact Bst.closeLast_le _ _
  · exact ⟨Nat.le_refl _, rfl, rfl, Nat.le_refl _⟩
theorem Bst.closeBefore_le (s : Bst) (name : List UInt8) : (s.closeBefore name).bulk ≤ s.bulk ∧ (s.closeBefore name).cnt = s.cnt ∧ (s.closeBefore name).hid = s.hid ∧ (s.closeBefore name).op.length ≤ s.op.length := by
  unfold Bst.closeBefore
  obtain ⟨a, b, c, d⟩ := Bst.closePar_le s name
  split
  · obtain ⟨a', b', c', d'⟩ := Bst.closeLast_le (s.closePar name) [108, 105]
    exact ⟨Nat.le_trans a' a, b'.trans b, c'.trans c, Nat.le_trans d' d⟩
  · exact ⟨a, b, c, d⟩
/-- what holds between the tokens -/
structure Bst.Ok (s : Bst) : Prop where
  bulk : s.bulk ≤ s.cnt
  deep : s.op.length ≤ 10
theorem Bst.start2_ok {s : Bst} (h : s.Ok) (hl : s.op.length < 10) (name : List UInt8) (attrs : List Att) (self : Bool) : (s.start2 name attrs self).Ok ∧ (s.start2 name attrs self).cnt = s.cnt + 1 := by
  have h1 := Bst.endText_bulk s
  have h2 := Bst.endText_cnt s
  have h3 := Bst.endText_op s
  have h4 := h.bulk
  unfold Bst.start2
  split
  · refine ⟨⟨?_, ?_⟩, ?_⟩
    · rw [Bst.add_bulk, Bst.add_cnt]
      show s.endText.bulk + 1 ≤ s.endText.cnt + 1
      omega
    · rw [Bst.add_op]
      show s.endText.op.length ≤ 10
      omega
    · rw [Bst.add_cnt]
      show s.endText.cnt + 1 = _
      omega
  · refine ⟨⟨?_, ?_⟩, ?_⟩
    · show s.endText.out.length + ((Nd.mk name attrs [] [] :: s.endText.op).map fun a => a.parts.length + 1).sum + (if s.endText.tx = [] then 0 else 1) ≤ s.endText.cnt + 1
      have h5 : s.endText.bulk = s.endText.out.length + (s.endText.op.map fun a => a.parts.length + 1).sum + (if s.endText.tx = [] then 0 else 1) := rfl
      rw [List.map_cons, List.sum_cons]
      show s.endText.out.length + (0 + 1 + (s.endText.op.map fun a => a.parts.length + 1).sum) + (if s.endText.tx = [] then 0 else 1) ≤ s.endText.cnt + 1
      omega
    · show s.endText.op.length + 1 ≤ 10
      omega
    · show s.endText.cnt + 1 = _
      omega
theorem Bst.start1_ok {s : Bst} (h : s.Ok) (name : List UInt8) (attrs : List Att) (self : Bool) : (s.start1 name attrs self).Ok ∧ (s.start1 name attrs self).cnt ≤ s.cnt + 1 := by
  have h2 := h.deep
  unfold Bst.start1
  split
  · split
    · exact ⟨⟨h.bulk, h.deep⟩, Nat.le_succ _⟩
    · exact ⟨h, Nat.le_succ _⟩
  · rename_i hl
    obtain ⟨a, b⟩ := Bst.start2_ok h (by omega) name attrs self
    exact ⟨a, Nat.le_of_eq b⟩
theorem Bst.hid_ok {s : Bst} (h : s.Ok) (x : List UInt8) : Bst.Ok { s with hid := x } := ⟨h.bulk, h.deep⟩
theorem Bst.closeBefore_ok {s : Bst} (h : s.Ok) (name : List UInt8) : (s.closeBefore name).Ok := by
  obtain ⟨a, b, c, d⟩ := Bst.closeBefore_le s name
  have h1 := h.bulk
  have h2 := h.deep
  exact ⟨by omega, by omega⟩
theorem Bst.closeLast_ok {s : Bst} (h : s.Ok) (name : List UInt8) : (s.closeLast name).Ok := by
  obtain ⟨a, b, c, d⟩ := Bst.closeLast_le s name
  have h1 := h.bulk
  have h2 := h.deep
  exact ⟨by omega, by omega⟩
theorem Bst.step_ok {s : Bst} (h : s.Ok) (t : Tk) : (s.step t).Ok ∧ (s.step t).cnt ≤ s.cnt + 1 := by
  unfold Bst.step
  split
  · have h1 := Bst.closeBefore_le { s with hid := [] } t.name
    obtain ⟨a, b⟩ := Bst.start1_ok (Bst.closeBefore_ok (Bst.hid_ok h []) t.name) t.name t.attrs t.self
    have h2 : (Bst.closeBefore { s with hid := [] } t.name).cnt = s.cnt := h1.2.1
    exact ⟨a, by rw [h2] at b; exact b⟩
  split
  · have h0 : (if s.hid = t.name then ({ s with hid := [] } : Bst) else s).Ok ∧ (if s.hid = t.name then ({ s with hid := [] } : Bst) else s).cnt = s.cnt := by
      split
      · exact ⟨Bst.hid_ok h [], rfl⟩
      · exact ⟨h, rfl⟩
    exact ⟨Bst.closeLast_ok h0.1 _, by rw [Bst.ends, (Bst.closeLast_le _ _).2.1, h0.2]; exact Nat.le_succ _⟩
  split
  · unfold Bst.chars
    have h1 := h.bulk
    split
    · exact ⟨h, Nat.le_succ _⟩
    · refine ⟨⟨?_, h.deep⟩, ?_⟩
      · have h5 : s.bulk = s.out.length + (s.op.map fun a => a.parts.length + 1).sum + (if s.tx = [] then 0 else 1) := rfl
        show s.out.length + (s.op.map fun a => a.parts.length + 1).sum + (if s.tx ++ [t.text] = [] then 0 else 1) ≤ if s.tx = [] then s.cnt + 1 else s.cnt
        rw [if_neg (by simp)]
        split
        · rename_i e; rw [if_pos e] at h5; omega
        · rename_i e; rw [if_neg e] at h5; omega
      · show (if s.tx = [] then s.cnt + 1 else s.cnt) ≤ _
        split
        · exact Nat.le_refl _
        · exact Nat.le_succ _
  · exact ⟨h, Nat.le_succ _⟩

end U
end Go.Proofs.YtmfkefcdddoooaaGreatDoor

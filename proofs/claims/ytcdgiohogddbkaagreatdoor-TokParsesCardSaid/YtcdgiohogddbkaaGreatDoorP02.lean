/- Several texts in one: ToksMath, CleanMath, TextMath, Scan. -/
import Derived.Lib.RuneBytes
import Derived.Lib.Strings
import Derived.Test.YtcdgiohogddbkaaGreatDoorP01
import Derived.Test.YtcdgiohogddbkaaGreatDoorP00
namespace Go.Proofs.YtcdgiohogddbkaaGreatDoor
namespace U

/-- the kind of the token that begins here: 1 a start, 2 an end, 4 a comment, 3 a text -/
def kindS : List UInt8 → Nat
  | [] => 3
  | d :: _ => if isAl d = true then 2 else 4
def kindOf : List UInt8 → Nat
  | a :: c :: r => if a ≠ 60 then 3 else if isAl c = true then 1 else if c = 33 ∨ c = 63 then 4 else if c = 47 then kindS r else 3
  | _ => 3
theorem kindOf_cons (a c : UInt8) (r : List UInt8) : kindOf (a :: c :: r) = if a ≠ 60 then 3 else if isAl c = true then 1 else if c = 33 ∨ c = 63 then 4 else if c = 47 then kindS r else 3 := rfl
theorem kindS_cons (d : UInt8) (r : List UInt8) : kindS (d :: r) = if isAl d = true then 2 else 4 := rfl
theorem item_cons (a c : UInt8) (r : List UInt8) : item (a :: c :: r) = if a ≠ 60 then .text else if isAl c = true then startI (c :: r) else if c = 33 then bangI r else if c = 63 then markI [62] (c :: r) else if c = 47 then slashI r else .text := rfl
theorem slashI_cons (d : UInt8) (r : List UInt8) : slashI (d :: r) = if isAl d = true then closeI (d :: r) else markI [62] (d :: r) := rfl
theorem isAl_ne {c : UInt8} (h : isAl c = true) : c ≠ 33 ∧ c ≠ 63 ∧ c ≠ 47 := by
  refine ⟨?_, ?_, ?_⟩ <;> rintro rfl <;> exact absurd h (by decide)
theorem item_text {l : List UInt8} (h : kindOf l = 3) : item l = .text := by
  match l, h with
  | [], _ => rfl
  | [a], _ => rfl
  | a :: c :: r, h =>
    rw [kindOf_cons] at h
    rw [item_cons]
    split at h
    · rename_i h1; rw [if_pos h1]
    rename_i h1
    rw [if_neg h1]
    split at h
    · cases h
    rename_i h2
    rw [if_neg h2]
    split at h
    · cases h
    rename_i h3
    rw [if_neg (fun e => h3 (.inl e)), if_neg (fun e => h3 (.inr e))]
    split at h
    · rename_i h4
      rw [if_pos h4]
      cases r with
      | nil => rfl
      | cons d r' => rw [kindS_cons] at h; split at h <;> cases h
    · rename_i h4; rw [if_neg h4]
theorem item_start {l : List UInt8} (h : kindOf l = 1) : ∃ c r, l = 60 :: c :: r ∧ isAl c = true ∧ item l = startI (c :: r) := by
  match l, h with
  | a :: c :: r, h =>
    rw [kindOf_cons] at h
    split at h
    · cases h
    rename_i h1
    split at h
    · rename_i h2
      exact ⟨c, r, by simpa using h1, h2, by rw [item_cons]; rw [if_neg h1, if_pos h2]⟩
    split at h
    · cases h
    split at h
    · cases r with
      | nil => cases h
      | cons d r' => rw [kindS_cons] at h; split at h <;> cases h
    · cases h
theorem item_end {l : List UInt8} (h : kindOf l = 2) : ∃ c r, l = 60 :: 47 :: c :: r ∧ isAl c = true ∧ item l = closeI (c :: r) := by
  match l, h with
  | a :: c :: r, h =>
    rw [kindOf_cons] at h
    split at h
    · cases h
    rename_i h1
    split at h
    · cases h
    rename_i h2
    split at h
    · cases h
    rename_i h3
    split at h
    · rename_i h4
      subst h4
      cases r with
      | nil => cases h
      | cons d r' =>
        rw [kindS_cons] at h
        split at h
        · rename_i h5
          refine ⟨d, r', by simpa using h1, h5, ?_⟩
          rw [item_cons]
          rw [if_neg h1, if_neg h2, if_neg (by decide), if_neg (by decide), if_pos rfl]
          rw [slashI_cons, if_pos h5]
        · cases h
    · cases h
/-- a comment: what opens it, what closes it, and where it begins -/
theorem item_mark {l : List UInt8} (h : kindOf l = 4) :
    (l.take 4 = [60, 33, 45, 45] ∧ item l = markI [45, 45, 62] (l.drop 4)) ∨
    (l.take 4 ≠ [60, 33, 45, 45] ∧ l.take 2 = [60, 63] ∧ item l = markI [62] (l.drop 1)) ∨
    (l.take 4 ≠ [60, 33, 45, 45] ∧ l.take 2 ≠ [60, 63] ∧ item l = markI [62] (l.drop 2)) := by
  match l, h with
  | a :: c :: r, h =>
    rw [kindOf_cons] at h
    split at h
    · cases h
    rename_i h1
    obtain rfl : a = 60 := by simpa using h1
    split at h
    · cases h
    rename_i h2
    split at h
    · rename_i h3
      rcases h3 with rfl | rfl
      · have e : item (60 :: 33 :: r) = bangI r := by rw [item_cons]; rw [if_neg h1, if_neg h2, if_pos rfl]
        rw [e]
        unfold bangI
        by_cases h5 : r.take 2 = [45, 45]
        · rw [if_pos h5]
          exact .inl ⟨by simp [h5], by simp⟩
        · rw [if_neg h5]
          exact .inr (.inr ⟨fun e => h5 (by simpa using e), by simp, by simp⟩)
      · have e : item (60 :: 63 :: r) = markI [62] (63 :: r) := by rw [item_cons]; rw [if_neg h1, if_neg h2, if_neg (by decide), if_pos rfl]
        exact .inr (.inl ⟨by simp, by simp, by simpa using e⟩)
    rename_i h3
    split at h
    · rename_i h4
      subst h4
      cases r with
      | nil => cases h
      | cons d r' =>
        rw [kindS_cons] at h
        split at h
        · cases h
        · rename_i h5
          have e : item (60 :: 47 :: d :: r') = markI [62] (d :: r') := by
            rw [item_cons]
            rw [if_neg h1, if_neg h2, if_neg (by decide), if_neg (by decide), if_pos rfl]
            rw [slashI_cons, if_neg h5]
          exact .inr (.inr ⟨by simp, by simp, by simpa using e⟩)
    · cases h
theorem kindOf_cases (l : List UInt8) : kindOf l = 1 ∨ kindOf l = 2 ∨ kindOf l = 3 ∨ kindOf l = 4 := by
  match l with
  | [] => exact .inr (.inr (.inl rfl))
  | [a] => exact .inr (.inr (.inl rfl))
  | a :: c :: r =>
    rw [kindOf_cons]
    split
    · simp
    split
    · simp
    split
    · simp
    split
    · cases r with
      | nil => simp [kindS]
      | cons d r' => rw [kindS_cons]; split <;> simp
    · simp

/-! ### fuel -/
theorem remark_le (find l : List UInt8) : (remark find l).2.length ≤ l.length := by
  unfold remark
  split
  · simp
  · simp
theorem mark_le {find l rest : List UInt8} {t : Tok} (h : markI find l = .mark t rest) : rest.length ≤ l.length := by
  unfold markI at h
  injection h with _ h
  rw [← h]
  exact remark_le find l
/-- what is left behind what stands here -/
theorem rawText_le : ∀ (n l : List UInt8), (rawText n l).2.length ≤ l.length
  | n, [] => by simp [rawText]
  | n, b :: r => by
    rw [rawText]
    split
    · simp
    · have := rawText_le n r
      simp only [List.length_cons]
      omega
theorem item_shorter {l : List UInt8} : (∀ t rest, item l = .mark t rest → rest.length < l.length) ∧ (∀ n rest, item l = .close n rest → rest.length < l.length) ∧ (∀ n as s rest, item l = .start n as s rest → rest.length < l.length) := by
  rcases kindOf_cases l with h | h | h | h
  · obtain ⟨c, r, rfl, _, e⟩ := item_start h
    rw [e]
    unfold startI
    cases hr : runM st0 (c :: r) with
    | none => refine ⟨?_, ?_, ?_⟩ <;> intros <;> simp_all
    | some x =>
      obtain ⟨st, t⟩ := x
      have := runM_shorter _ _ hr
      simp only [List.length_cons] at this ⊢
      refine ⟨fun _ _ h => by simp at h, fun _ _ h => by simp at h, fun _ _ _ rest h => ?_⟩
      simp only [Item.start.injEq] at h
      obtain ⟨_, _, _, rfl⟩ := h
      omega
  · obtain ⟨c, r, rfl, _, e⟩ := item_end h
    rw [e]
    unfold closeI
    cases hr : runM st0 (c :: r) with
    | none => refine ⟨?_, ?_, ?_⟩ <;> intros <;> simp_all
    | some x =>
      obtain ⟨st, t⟩ := x
      have := runM_shorter _ _ hr
      simp only [List.length_cons] at this ⊢
      refine ⟨fun _ _ h => by simp at h, fun _ rest h => ?_, fun _ _ _ _ h => by simp at h⟩
      simp only [Item.close.injEq] at h
      obtain ⟨_, rfl⟩ := h
      omega
  · rw [item_text h]
    refine ⟨?_, ?_, ?_⟩ <;> intros <;> simp_all
  · have h2 : ∃ a c r, l = a :: c :: r := by
      match l, h with
      | a :: c :: r, _ => exact ⟨a, c, r, rfl⟩
    obtain ⟨a, c, r, rfl⟩ := h2
    refine ⟨fun t rest e0 => ?_, ?_, ?_⟩
    · rcases item_mark h with ⟨_, e⟩ | ⟨_, _, e⟩ | ⟨_, _, e⟩ <;> rw [e] at e0 <;> have := mark_le e0 <;> simp only [List.length_drop, List.length_cons] at this ⊢ <;> omega
    · rcases item_mark h with ⟨_, e⟩ | ⟨_, _, e⟩ | ⟨_, _, e⟩ <;> rw [e] <;> intro n rest e0 <;> simp [markI] at e0
    · rcases item_mark h with ⟨_, e⟩ | ⟨_, _, e⟩ | ⟨_, _, e⟩ <;> rw [e] <;> intro n as s rest e0 <;> simp [markI] at e0

theorem toksF_fuel : ∀ (f g : Nat) (l txt : List UInt8), l.length ≤ f → l.length ≤ g → toksF f txt l = toksF g txt l
  | 0, g, l, txt, hf, hg => by
    obtain rfl : l = [] := List.eq_nil_of_length_eq_zero (by omega)
    cases g <;> rfl
  | f + 1, g, l, txt, hf, hg => by
    cases l with
    | nil => cases g <;> rfl
    | cons b r =>
      cases g with
      | zero => simp at hg
      | succ g =>
        rw [toksF, toksF]
        simp only [List.length_cons] at hf hg
        obtain ⟨i1, i2, i3⟩ := item_shorter (l := b :: r)
        cases hi : item (b :: r) with
        | text => exact toksF_fuel f g r _ (by omega) (by omega)
        | mark t rest => have := i1 t rest hi; simp only [List.length_cons] at this; simp only; rw [toksF_fuel f g rest [] (by omega) (by omega)]
        | stop => rfl
        | close n rest => have := i2 n rest hi; simp only [List.length_cons] at this; simp only; rw [toksF_fuel f g rest [] (by omega) (by omega)]
        | start n as s rest =>
          have h3 := i3 n as s rest hi
          have h4 := rawText_le n rest
          simp only [List.length_cons] at h3
          simp only
          rw [toksF_fuel f g rest [] (by omega) (by omega), toksF_fuel f g (rawText n rest).2 [] (by omega) (by omega)]

/-- the tokens of a text behind what is gathered -/
def toksT (txt l : List UInt8) : List Tok := toksF l.length txt l
theorem toksT_nil (txt : List UInt8) : toksT txt [] = chars txt := rfl
theorem toksT_text {l : List UInt8} (txt : List UInt8) {b : UInt8} {r : List UInt8} (e : l = b :: r) (h : item l = .text) : toksT txt l = toksT (txt ++ [b]) r := by
  subst e
  unfold toksT
  rw [List.length_cons, toksF, h]
theorem toksT_flush {l : List UInt8} (txt : List UInt8) (h : l = [] ∨ item l ≠ .text) : toksT txt l = chars txt ++ toksT [] l := by
  cases l with
  | nil => simp [toksT_nil, chars]
  | cons b r =>
    have h : item (b :: r) ≠ .text := by rcases h with h | h; cases h; exact h
    have e0 : chars ([] : List UInt8) = [] := rfl
    unfold toksT
    rw [List.length_cons, toksF, toksF]
    cases hi : item (b :: r) with
    | text => exact absurd hi h
    | mark t rest => simp [e0]
    | stop => simp [e0]
    | close n rest => simp [e0]
    | start n as s rest => simp only; split <;> simp [e0]
theorem toksT_mark {l rest : List UInt8} {t : Tok} (h : item l = .mark t rest) : toksT [] l = t :: toksT [] rest := by
  cases l with
  | nil => cases h
  | cons b r =>
    have := item_shorter.1 t rest h
    rw [List.length_cons] at this
    have e := toksF_fuel r.length rest.length rest [] (by omega) (Nat.le_refl _)
    unfold toksT
    rw [List.length_cons, toksF, h]
    simp only
    rw [e]
    rfl
theorem toksT_stop {l : List UInt8} (h : item l = .stop) : toksT [] l = [] := by
  cases l with
  | nil => cases h
  | cons b r =>
    unfold toksT
    rw [List.length_cons, toksF, h]
    rfl
theorem toksT_close {l n rest : List UInt8} (h : item l = .close n rest) : toksT [] l = ⟨2, n, [], false, []⟩ :: toksT [] rest := by
  cases l with
  | nil => cases h
  | cons b r =>
    have := item_shorter.2.1 n rest h
    rw [List.length_cons] at this
    have e := toksF_fuel r.length rest.length rest [] (by omega) (Nat.le_refl _)
    unfold toksT
    rw [List.length_cons, toksF, h]
    simp only
    rw [e]
    rfl
theorem toksT_start {l n rest : List UInt8} {as : List Att} {s : Bool} (h : item l = .start n as s rest) :
    toksT [] l = ⟨1, n, as, s, []⟩ :: (if rawName n = true then rawToks n (rawText n rest).1 ++ toksT [] (rawText n rest).2 else toksT [] rest) := by
  cases l with
  | nil => cases h
  | cons b r =>
    have := item_shorter.2.2 n as s rest h
    have h4 := rawText_le n rest
    rw [List.length_cons] at this
    have e := toksF_fuel r.length rest.length rest [] (by omega) (Nat.le_refl _)
    have e2 := toksF_fuel r.length (rawText n rest).2.length (rawText n rest).2 [] (by omega) (Nat.le_refl _)
    unfold toksT
    rw [List.length_cons, toksF, h]
    simp only
    rw [e, e2]
    split <;> rfl
theorem toks_toksT (l : List UInt8) : toks l = toksT [] l := rfl

/-- a run of text -/
theorem toksT_run (l : List UInt8) : ∀ (n : Nat) (txt : List UInt8), n ≤ l.length → (∀ i, i < n → kindOf (l.drop i) = 3) → toksT txt l = toksT (txt ++ l.take n) (l.drop n) := by
  intro n
  induction n with
  | zero => intro txt _ _; simp
  | succ n ih =>
    intro txt hn h
    rw [ih txt (by omega) (fun i hi => h i (by omega))]
    have hlt : n < l.length := by omega
    rw [toksT_text (txt ++ l.take n) (List.drop_eq_getElem_cons hlt) (item_text (h n (by omega))), List.append_assoc, ← List.take_append_getElem hlt]
theorem item_notext {l : List UInt8} (h : kindOf l ≠ 3) : item l ≠ .text := by
  rcases kindOf_cases l with h1 | h1 | h1 | h1
  · obtain ⟨c, r, _, _, e⟩ := item_start h1
    rw [e]
    unfold startI
    split <;> simp
  · obtain ⟨c, r, _, _, e⟩ := item_end h1
    rw [e]
    unfold closeI
    split <;> simp
  · exact absurd h1 h
  · rcases item_mark h1 with ⟨_, e⟩ | ⟨_, _, e⟩ | ⟨_, _, e⟩ <;> rw [e] <;> simp [markI]
theorem toks_chars {l : List UInt8} {n : Nat} (h0 : 0 < n) (hn : n ≤ l.length) (h : ∀ i, i < n → kindOf (l.drop i) = 3) (he : n = l.length ∨ kindOf (l.drop n) ≠ 3) :
    toksT [] l = ⟨3, [], [], false, unesc (l.take n)⟩ :: toksT [] (l.drop n) := by
  rw [toksT_run l n [] hn h, List.nil_append, toksT_flush (l.take n)]
  · unfold chars
    rw [if_neg (fun e => by have := congrArg List.length e; rw [List.length_take, List.length_nil] at this; omega)]
    rfl
  · rcases he with rfl | he
    · exact .inl (by simp)
    · exact .inr (item_notext he)

/-- a raw text by its length -/
theorem rawText_at (n : List UInt8) : ∀ (l : List UInt8) (k : Nat), k ≤ l.length → (∀ i, i < k → rawEnd n (l.drop i) = false) → (k = l.length ∨ rawEnd n (l.drop k) = true) → rawText n l = (l.take k, l.drop k)
  | [], k, hk, _, _ => by
    obtain rfl : k = 0 := by simpa using hk
    rfl
  | b :: r, 0, hk, _, he => by
    rw [rawText]
    rcases he with he | he
    · simp at he
    · rw [List.drop_zero] at he
      rw [if_pos he]
      rfl
  | b :: r, k + 1, hk, h, he => by
    rw [rawText]
    have h0 := h 0 (by omega)
    rw [List.drop_zero] at h0
    rw [if_neg (by rw [h0]; decide), rawText_at n r k (by simpa using hk) (fun i hi => by simpa using h (i + 1) (by omega)) (by simpa using he)]
    rfl

theorem placeOf_le {find l : List UInt8} {k : Nat} (hf : find ≠ []) (h : placeOf find l = some k) : k + find.length ≤ l.length := by
  induction l generalizing k with
  | nil => rw [placeOf, if_neg hf] at h; cases h
  | cons b r ih =>
    rw [placeOf] at h
    split at h
    · rename_i h1
      injection h with h
      subst h
      have := congrArg List.length h1
      rw [List.length_take] at this
      omega
    · cases h2 : placeOf find r with
      | none => rw [h2] at h; cases h
      | some j =>
        rw [h2] at h
        injection h with h
        simp only at h
        have := ih h2
        rw [List.length_cons]
        omega

end U
end Go.Proofs.YtcdgiohogddbkaaGreatDoor

namespace Go.Proofs.YtcdgiohogddbkaaGreatDoor
namespace U

/-- what is written for one code point, if a line feed comes behind it or not -/
def clean1 (n : Nat) (lf : Bool) : List UInt8 := if n = 0 then enc 65533 else if n = 13 then (if lf then [] else enc 10) else enc n
def cleanR : List Nat → List UInt8
  | [] => []
  | n :: r => clean1 n (r.head? == some 10) ++ cleanR r
/-- the clean form -/
def clean (l : List UInt8) : List UInt8 := cleanR (runes l)

theorem cleanR_cons (n : Nat) (r : List Nat) : cleanR (n :: r) = clean1 n (r.head? == some 10) ++ cleanR r := rfl
theorem clean_nil : clean [] = [] := rfl
theorem clean_cons {l : List UInt8} (hl : l ≠ []) : clean l = clean1 (dec l).1 ((runes (l.drop (dec l).2)).head? == some 10) ++ clean (l.drop (dec l).2) := by
  unfold clean
  rw [runes_cons hl, cleanR_cons]

/-- below 128 a byte stands for itself -/
theorem dec_low (b : UInt8) (r : List UInt8) (h : b.toNat < 128) : dec (b :: r) = (b.toNat, 1) := decN_1 h
theorem dec_val_low {l : List UInt8} (hl : l ≠ []) (h : (dec l).1 < 128) : ∃ b r, l = b :: r ∧ b.toNat = (dec l).1 ∧ (dec l).2 = 1 ∧ l.drop (dec l).2 = r := by
  rcases dec_spec l hl with e | ⟨n, r, hn, e, e2⟩
  · rw [e] at h; exact absurd h (by decide)
  · rw [e2] at h ⊢
    simp only at h
    rw [enc_one h] at e ⊢
    exact ⟨_, r, e, by simp; omega, rfl, by rw [e]; rfl⟩

/-- a code point below 128 is at the head exactly where its byte is -/
theorem runes_head_low (l : List UInt8) (c : UInt8) (hc : c.toNat < 128) : (runes l).head? = some c.toNat ↔ l.head? = some c := by
  cases l with
  | nil => simp [runes_nil]
  | cons b r =>
    have hne : b :: r ≠ [] := by simp
    rw [runes_cons hne, List.head?_cons, List.head?_cons]
    constructor
    · intro h
      have h1 : (dec (b :: r)).1 = c.toNat := Option.some.inj h
      obtain ⟨b', r', e, hb, _⟩ := dec_val_low hne (by omega)
      injection e with e1 e2
      subst e1
      rw [h1] at hb
      rw [UInt8.toNat_inj.1 hb]
    · intro h
      have h1 : b = c := Option.some.inj h
      subst h1
      rw [dec_low b r hc]

theorem runes_head10 (l : List UInt8) : ((runes l).head? == some 10) = (l.head? == some 10) := by
  have := runes_head_low l 10 (by decide)
  rw [Bool.eq_iff_iff]
  simpa using this

theorem encodeRune_eq {n : Nat} (h : isL n = true) : Lib.encodeRune (n : Int) = enc n := by
  have hl := isL_iff.1 h
  unfold Lib.encodeRune
  by_cases h1 : n < 128
  · rw [Lib.encodeRuneZ_one (by omega) (by omega), enc_one h1]; simp
  by_cases h2 : n < 2048
  · rw [Lib.encodeRuneZ_two (by omega) (by omega), enc_two (by omega) h2]
    simp only [List.map_cons, List.map_nil]
    rw [show (192 + (n : Int) / 64).toNat = 192 + n / 64 by omega, show (128 + (n : Int) % 64).toNat = 128 + n % 64 by omega]
  by_cases h3 : n < 65536
  · rw [Lib.encodeRuneZ_three (by omega), enc_three (by omega) h3]
    simp only [List.map_cons, List.map_nil]
    rw [show (224 + (n : Int) / 4096).toNat = 224 + n / 4096 by omega, show (128 + (n : Int) / 64 % 64).toNat = 128 + n / 64 % 64 by omega, show (128 + (n : Int) % 64).toNat = 128 + n % 64 by omega]
  · rw [Lib.encodeRuneZ_four (by omega) (by omega), enc_four (by omega)]
    simp only [List.map_cons, List.map_nil]
    rw [show (240 + (n : Int) / 262144).toNat = 240 + n / 262144 by omega, show (128 + (n : Int) / 4096 % 64).toNat = 128 + n / 4096 % 64 by omega, show (128 + (n : Int) / 64 % 64).toNat = 128 + n / 64 % 64 by omega, show (128 + (n : Int) % 64).toNat = 128 + n % 64 by omega]

theorem clean1_zero (f : Bool) : clean1 0 f = Lib.encodeRune 65533 := by
  rw [clean1, if_pos rfl]
  exact (encodeRune_eq (n := 65533) (by decide)).symm
theorem clean1_skip : clean1 13 true = [] := by decide
theorem clean1_cr : clean1 13 false = [UInt8.ofNat 10] := by decide
theorem clean1_other {n : Nat} (f : Bool) (h0 : n ≠ 0) (h13 : n ≠ 13) (hL : isL n = true) : clean1 n f = Lib.encodeRune (n : Int) := by
  rw [clean1, if_neg h0, if_neg h13, encodeRune_eq hL]
theorem encodeRune_length (r : Int) : (Lib.encodeRune r).length ≤ 4 := by
  have := Lib.encodeRuneZ_length r
  unfold Lib.encodeRune
  rw [List.length_map]
  exact this.2
theorem hasPrefix_lf (l : List UInt8) : Lib.hasPrefix l [10] = (l.head? == some 10) := by
  cases l with
  | nil => rfl
  | cons b r =>
    simp [Lib.hasPrefix, List.isPrefixOf]
    rw [Bool.eq_iff_iff]
    simp
    exact eq_comm

theorem clean1_length (n : Nat) (f : Bool) : (clean1 n f).length ≤ 4 := by
  unfold clean1
  repeat' split
  · exact (enc_length _).2
  · simp
  · exact (enc_length _).2
  · exact (enc_length _).2

end U
end Go.Proofs.YtcdgiohogddbkaaGreatDoor

namespace Go.Proofs.YtcdgiohogddbkaaGreatDoor
namespace U

/-- a number that is a code point -/
def okI (z : Int) : Bool := decide (0 ≤ z ∧ z ≤ 1114111 ∧ (z < 55296 ∨ 57343 < z))
theorem okI_iff {z : Int} : okI z = true ↔ 0 ≤ z ∧ z ≤ 1114111 ∧ (z < 55296 ∨ 57343 < z) := decide_eq_true_iff
theorem okI_isL {z : Int} (h : okI z = true) : isL z.toNat = true := by
  have := okI_iff.1 h
  exact isL_iff.2 (by omega)
theorem okI_nat {n : Nat} : okI (n : Int) = isL n := by
  rw [Bool.eq_iff_iff, okI_iff, isL_iff]
  omega

/-- the bytes of numbers -/
def encZ (zs : List Int) : List UInt8 := encs (zs.map Int.toNat)
theorem encZ_nil : encZ [] = [] := rfl
theorem encZ_append (a b : List Int) : encZ (a ++ b) = encZ a ++ encZ b := by simp [encZ, encs_append]
theorem encZ_one (z : Int) : encZ [z] = enc z.toNat := by simp [encZ, encs]
theorem encZ_nats (l : List Nat) : encZ (l.map Int.ofNat) = encs l := by simp [encZ, List.map_map, Function.comp_def]

/-- the text, and the error -/
def textR (zs : List Int) : List UInt8 × Int :=
  if zs.all okI = true then (if (encZ zs).length ≤ 600 then (encZ zs, 0) else ([], 1)) else ([], 2)

theorem textR_bad {zs : List Int} (h : zs.all okI = false) : textR zs = ([], 2) := by simp [textR, h]
theorem textR_long {zs : List Int} (h : zs.all okI = true) (h2 : 600 < (encZ zs).length) : textR zs = ([], 1) := by
  rw [textR, if_pos h, if_neg (by omega)]
theorem textR_good {zs : List Int} (h : zs.all okI = true) (h2 : (encZ zs).length ≤ 600) : textR zs = (encZ zs, 0) := by
  rw [textR, if_pos h, if_pos h2]

theorem take_snoc {zs : List Int} {k : Nat} {z : Int} (h : zs[k]? = some z) : zs.take (k + 1) = zs.take k ++ [z] := by
  obtain ⟨hk, e⟩ := List.getElem?_eq_some_iff.1 h
  rw [List.take_succ_eq_append_getElem hk, e]

theorem all_take_snoc {zs : List Int} {k : Nat} {z : Int} (h : zs[k]? = some z) : (zs.take (k + 1)).all okI = ((zs.take k).all okI && okI z) := by
  rw [take_snoc h, List.all_append]
  simp

theorem all_of_bad {zs : List Int} {k : Nat} {z : Int} (h : zs[k]? = some z) (hz : okI z = false) : zs.all okI = false := by
  rw [List.all_eq_false]
  exact ⟨z, List.mem_of_getElem? h, by simp [hz]⟩

theorem encZ_take_le (zs : List Int) (k : Nat) : (encZ (zs.take k)).length ≤ (encZ zs).length := by
  conv => rhs; rw [← List.take_append_drop k zs, encZ_append]
  rw [List.length_append]
  omega

end U
end Go.Proofs.YtcdgiohogddbkaaGreatDoor

namespace Go.Proofs.YtcdgiohogddbkaaGreatDoor
namespace U

/-- the names, and their code points -/
def nm : Nat → List UInt8
  | 0 => [38, 97, 109, 112, 59]
  | 1 => [38, 108, 116, 59]
  | 2 => [38, 103, 116, 59]
  | 3 => [38, 113, 117, 111, 116, 59]
  | 4 => [38, 110, 98, 115, 112, 59]
  | _ => [38, 99, 111, 112, 121, 59]
def lt' : Nat → Nat
  | 0 => 38
  | 1 => 60
  | 2 => 62
  | 3 => 34
  | 4 => 160
  | _ => 169
/-- a text begins with the name -/
def hit (j : Nat) (l : List UInt8) : Prop := ∃ t, l = nm j ++ t
theorem hit_refAt {j : Nat} {l : List UInt8} (h : hit j l) : refAt l = some (lt' j, (nm j).length) := by
  obtain ⟨t, rfl⟩ := h
  match j with
  | 0 => exact (refAt_amp _).trans (refTail_of (p := [97, 109, 112]) (t := t) (by decide))
  | 1 => exact (refAt_amp _).trans (refTail_of (p := [108, 116]) (t := t) (by decide))
  | 2 => exact (refAt_amp _).trans (refTail_of (p := [103, 116]) (t := t) (by decide))
  | 3 => exact (refAt_amp _).trans (refTail_of (p := [113, 117, 111, 116]) (t := t) (by decide))
  | 4 => exact (refAt_amp _).trans (refTail_of (p := [110, 98, 115, 112]) (t := t) (by decide))
  | (k + 5) => exact (refAt_amp _).trans (refTail_of (p := [99, 111, 112, 121]) (t := t) (by decide))
theorem hit_iff {j : Nat} {l : List UInt8} : hit j l ↔ l.take (nm j).length = nm j := by
  constructor
  · rintro ⟨t, rfl⟩; simp
  · intro h
    refine ⟨l.drop (nm j).length, ?_⟩
    have := List.take_append_drop (nm j).length l
    rw [h] at this
    exact this.symm

/-- no name: it is a number's, or none -/
theorem refAt_nohit {l : List UInt8} (h : ∀ j, j < 6 → ¬ hit j l) {n k : Nat} (hr : refAt l = some (n, k)) : ∃ d t, l = 38 :: 35 :: (d ++ 59 :: t) ∧ 59 ∉ d ∧ numOf d = some n ∧ k = d.length + 3 := by
  obtain ⟨p, t, e, hn, hb, hk, _⟩ := refAt_some hr
  by_cases hp : ∃ d, p = 35 :: d
  · obtain ⟨d, rfl⟩ := hp
    rw [body_hash] at hb
    exact ⟨d, t, e, fun hm => hn (List.mem_cons_of_mem _ hm), hb, by rw [hk, List.length_cons]⟩
  · rw [body_name fun d e => hp ⟨d, e⟩] at hb
    unfold nameOf at hb
    split at hb
    · rename_i e1; subst e1; exact absurd ⟨t, e⟩ (h 0 (by decide))
    split at hb
    · rename_i e1; subst e1; exact absurd ⟨t, e⟩ (h 1 (by decide))
    split at hb
    · rename_i e1; subst e1; exact absurd ⟨t, e⟩ (h 2 (by decide))
    split at hb
    · rename_i e1; subst e1; exact absurd ⟨t, e⟩ (h 3 (by decide))
    split at hb
    · rename_i e1; subst e1; exact absurd ⟨t, e⟩ (h 4 (by decide))
    split at hb
    · rename_i e1; subst e1; exact absurd ⟨t, e⟩ (h 5 (by decide))
    · cases hb

/-- a number's text, its digits ahead of the semicolon -/
theorem refAt_digits {base most : Nat} {P d t : List UInt8} (h59 : 59 ∉ P) (hd : allDig base d = true) (hb : base ≤ 16) (hP : body (P ++ d) = numIn base most d) :
    refAt (38 :: (P ++ (d ++ 59 :: t))) = (numIn base most d).map fun n => (n, P.length + d.length + 2) := by
  rw [refAt_amp, ← List.append_assoc, refTail_of, hP, List.length_append]
  intro hm
  rcases List.mem_append.1 hm with hm | hm
  · exact h59 hm
  · have := List.all_eq_true.1 hd 59 hm
    have h2 : dig 59 = 99 := by decide
    rw [h2] at this
    simp at this
    omega
/-- all digits, and so they are the run -/
theorem numOf_dig {b : UInt8} {d : List UInt8} {n : Nat} (hx : ¬ (b = 120 ∨ b = 88)) (h : numOf (b :: d) = some n) : allDig 10 (b :: d) = true := by
  rw [numOf_cons, if_neg hx] at h
  exact (numIn_some h).2.2.1
theorem numOf_hex {b : UInt8} {d : List UInt8} {n : Nat} (hx : b = 120 ∨ b = 88) (h : numOf (b :: d) = some n) : allDig 16 d = true := by
  rw [numOf_cons, if_pos hx] at h
  exact (numIn_some h).2.2.1
/-- digits that end in no semicolon: none -/
theorem no_split {base : Nat} {r : List UInt8} {j : Nat} (hall : allDig base (r.take j) = true) (hbase : base ≤ 16) (hend : r[j]? = none ∨ ∃ c, r[j]? = some c ∧ c ≠ 59 ∧ ¬ dig c < base) {d t : List UInt8} (hd : allDig base d = true) (e : r = d ++ 59 :: t) : False := by
  have h59 : ¬ dig 59 < base := by
    have h99 : dig 59 = 99 := by decide
    omega
  rcases Nat.lt_trichotomy d.length j with h | h | h
  · have h1 : (r.take j)[d.length]? = some 59 := by
      rw [List.getElem?_take_of_lt h, e]
      simp
    have := List.all_eq_true.1 hall 59 (List.mem_of_getElem? h1)
    simp at this
    exact h59 this
  · have h1 : r[j]? = some 59 := by rw [← h, e]; simp
    rcases hend with h2 | ⟨c, h2, h3, _⟩
    · rw [h1] at h2; cases h2
    · rw [h1] at h2; injection h2 with h2; exact h3 h2.symm
  · have h1 : r[j]? = d[j]? := by rw [e, List.getElem?_append_left h]
    have h2 : d[j]? = some (d[j]'h) := List.getElem?_eq_getElem h
    rcases hend with h3 | ⟨c, h3, _, h4⟩
    · rw [h1, h2] at h3; cases h3
    · rw [h1, h2] at h3
      injection h3 with h3
      have := List.all_eq_true.1 hd (d[j]'h) (List.getElem_mem h)
      rw [h3] at this
      simp at this
      exact h4 this

/-- decimal, the run of j digits -/
theorem dec_end {l r : List UInt8} (hl : l = 38 :: 35 :: r) (hnm : ∀ j, j < 6 → ¬ hit j l) (hx : r.head? ≠ some 120 ∧ r.head? ≠ some 88) {j : Nat} (hall : allDig 10 (r.take j) = true)
    (hend : r[j]? = none ∨ ∃ c, r[j]? = some c ∧ ¬ dig c < 10) : refAt l = if r[j]? = some 59 ∧ 1 ≤ j ∧ j ≤ 7 then some (point (val 10 0 (r.take j)), j + 3) else none := by
  by_cases h59 : r[j]? = some 59
  · obtain ⟨hjl, e1⟩ := List.getElem?_eq_some_iff.1 h59
    have hsp : r = r.take j ++ 59 :: r.drop (j + 1) := by
      rw [← e1, ← List.drop_eq_getElem_cons hjl, List.take_append_drop]
    have htl : (r.take j).length = j := by rw [List.length_take]; omega
    have hb : body ([35] ++ r.take j) = numIn 10 7 (r.take j) := by
      show body (35 :: r.take j) = _
      rw [body_hash]
      cases hq : r.take j with
      | nil => rfl
      | cons c d =>
        have hc : r.head? = some c := by
          cases r with
          | nil => rw [List.take_nil] at hq; cases hq
          | cons x y =>
            cases j with
            | zero => cases hq
            | succ j => rw [List.take_succ_cons] at hq; injection hq with h1 h2; rw [← h1]; rfl
        rw [numOf_cons, if_neg]
        rintro (e | e)
        · exact hx.1 (by rw [hc, e])
        · exact hx.2 (by rw [hc, e])
    have hr := refAt_digits (t := r.drop (j + 1)) (P := [35]) (by decide) hall (by decide) hb
    rw [← hsp] at hr
    have hl' : l = 38 :: ([35] ++ r) := hl
    rw [hl', hr, htl]
    unfold numIn
    rw [htl, hall, Bool.and_true]
    by_cases hk : 1 ≤ j ∧ j ≤ 7
    · rw [decide_eq_true hk, if_pos rfl, if_pos ⟨h59, hk.1, hk.2⟩]
      simp only [Option.map_some, List.length_cons, List.length_nil]
      congr 2
      omega
    · rw [decide_eq_false hk, if_neg (by decide), if_neg (fun h => hk h.2)]
      rfl
  · rw [if_neg (fun h => h59 h.1)]
    cases hr : refAt l with
    | none => rfl
    | some x =>
      obtain ⟨n, k⟩ := x
      obtain ⟨d, t, e, _, hn, _⟩ := refAt_nohit hnm hr
      have e2 : r = d ++ 59 :: t := by rw [hl] at e; injection e with _ e; injection e
      have hdd : allDig 10 d = true := by
        cases d with
        | nil => cases hn
        | cons b d =>
          refine numOf_dig ?_ hn
          rintro (e3 | e3)
          · exact hx.1 (by rw [e2, e3]; rfl)
          · exact hx.2 (by rw [e2, e3]; rfl)
      exact (no_split hall (by decide) (by
        rcases hend with h | ⟨c, h, h2⟩
        · exact .inl h
        · exact .inr ⟨c, h, fun e => h59 (by rw [h, e]), h2⟩) hdd e2).elim
/-- hexadecimal, the run of j digits -/
theorem hex_end {l r : List UInt8} {x : UInt8} (hl : l = 38 :: 35 :: x :: r) (hnm : ∀ j, j < 6 → ¬ hit j l) (hx : x = 120 ∨ x = 88) {j : Nat} (hall : allDig 16 (r.take j) = true)
    (hend : r[j]? = none ∨ ∃ c, r[j]? = some c ∧ ¬ dig c < 16) : refAt l = if r[j]? = some 59 ∧ 1 ≤ j ∧ j ≤ 6 then some (point (val 16 0 (r.take j)), j + 4) else none := by
  by_cases h59 : r[j]? = some 59
  · obtain ⟨hjl, e1⟩ := List.getElem?_eq_some_iff.1 h59
    have hsp : r = r.take j ++ 59 :: r.drop (j + 1) := by
      rw [← e1, ← List.drop_eq_getElem_cons hjl, List.take_append_drop]
    have htl : (r.take j).length = j := by rw [List.length_take]; omega
    have hb : body ([35, x] ++ r.take j) = numIn 16 6 (r.take j) := by
      show body (35 :: x :: r.take j) = _
      rw [body_hash, numOf_cons, if_pos hx]
    have h5 : 59 ∉ [35, x] := by
      intro hm
      rcases List.mem_cons.1 hm with e | hm
      · exact absurd e (by decide)
      · rw [List.mem_singleton] at hm
        rcases hx with rfl | rfl
        · exact absurd hm (by decide)
        · exact absurd hm (by decide)
    have hr := refAt_digits (t := r.drop (j + 1)) (P := [35, x]) h5 hall (by decide) hb
    rw [← hsp] at hr
    have hl' : l = 38 :: ([35, x] ++ r) := hl
    rw [hl', hr, htl]
    unfold numIn
    rw [htl, hall, Bool.and_true]
    by_cases hk : 1 ≤ j ∧ j ≤ 6
    · rw [decide_eq_true hk, if_pos rfl, if_pos ⟨h59, hk.1, hk.2⟩]
      simp only [Option.map_some, List.length_cons, List.length_nil]
      congr 2
      omega
    · rw [decide_eq_false hk, if_neg (by decide), if_neg (fun h => hk h.2)]
      rfl
  · rw [if_neg (fun h => h59 h.1)]
    cases hr : refAt l with
    | none => rfl
    | some y =>
      obtain ⟨n, k⟩ := y
      obtain ⟨d, t, e, _, hn, _⟩ := refAt_nohit hnm hr
      have e2 : x :: r = d ++ 59 :: t := by rw [hl] at e; injection e with _ e; injection e
      cases d with
      | nil => cases hn
      | cons b d =>
        rw [List.cons_append] at e2
        injection e2 with e3 e4
        subst e3
        exact (no_split hall (by decide) (by
          rcases hend with h | ⟨c, h, h2⟩
          · exact .inl h
          · exact .inr ⟨c, h, fun e => h59 (by rw [h, e]), h2⟩) (numOf_hex hx hn) e4).elim
/-- neither a name nor &# -/
theorem refAt_plain {l : List UInt8} (hnm : ∀ j, j < 6 → ¬ hit j l) (h : ∀ r, l ≠ 38 :: 35 :: r) : refAt l = none := by
  cases hr : refAt l with
  | none => rfl
  | some y =>
    obtain ⟨n, k⟩ := y
    obtain ⟨d, t, e, _⟩ := refAt_nohit hnm hr
    exact absurd e (h _)
theorem refAt_two {l : List UInt8} (hnm : ∀ j, j < 6 → ¬ hit j l) (h : l.length < 3) : refAt l = none := by
  cases hr : refAt l with
  | none => rfl
  | some y =>
    obtain ⟨n, k⟩ := y
    obtain ⟨d, t, e, _, hn, _⟩ := refAt_nohit hnm hr
    rw [e] at h
    simp at h
    omega

end U
end Go.Proofs.YtcdgiohogddbkaaGreatDoor

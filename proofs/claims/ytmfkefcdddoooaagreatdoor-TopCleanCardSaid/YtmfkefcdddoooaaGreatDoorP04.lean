/- Several texts in one: ShowRead, CleanMath, PrefixMath, SmallMath. -/
import Derived.Lib.RuneBytes
import Derived.Lib.Strings
import Derived.Test.YtmfkefcdddoooaaGreatDoorP03
import Derived.Test.YtmfkefcdddoooaaGreatDoorP00
import Derived.Test.YtmfkefcdddoooaaGreatDoorP02
namespace Go.Proofs.YtmfkefcdddoooaaGreatDoor
namespace U

def Tok.nd (t : Tok) (p : List Nd) : Nd := .mk t.name t.attrs t.text p
/-- a token that is a node by itself -/
def flatT (t : Tok) : Bool := t.name.isEmpty || isVoid t.name
def rdL : Nat → List Tok → List Nd × List Tok
  | 0, ts => ([], ts)
  | _ + 1, [] => ([], [])
  | f + 1, t :: r => if t.kind = 2 then ([], t :: r)
      else if flatT t = true then (t.nd [] :: (rdL f r).1, (rdL f r).2)
      else (t.nd (rdL f r).1 :: (rdL f ((rdL f r).2.drop 1)).1, (rdL f ((rdL f r).2.drop 1)).2)
theorem rdL_le : ∀ (f : Nat) (ts : List Tok), cntL (rdL f ts).1 + (rdL f ts).2.length ≤ ts.length
  | 0, ts => by rw [rdL, cntL_nil]; simp
  | f + 1, [] => by rw [rdL, cntL_nil]; simp
  | f + 1, t :: r => by
    rw [rdL]
    split
    · rw [cntL_nil]; simp
    split
    · have := rdL_le f r
      show cntL (t.nd [] :: (rdL f r).1) + (rdL f r).2.length ≤ _
      rw [cntL_cons, cntN_eq, show (t.nd []).parts = [] from rfl, cntL_nil, List.length_cons]
      omega
    · have h1 := rdL_le f r
      have h2 := rdL_le f ((rdL f r).2.drop 1)
      have h3 : ((rdL f r).2.drop 1).length = (rdL f r).2.length - 1 := List.length_drop ..
      show cntL (t.nd (rdL f r).1 :: (rdL f ((rdL f r).2.drop 1)).1) + (rdL f ((rdL f r).2.drop 1)).2.length ≤ _
      rw [cntL_cons, cntN_eq, show (t.nd (rdL f r).1).parts = (rdL f r).1 from rfl, List.length_cons]
      omega
theorem rdL_fuel : ∀ (f g : Nat) (ts : List Tok), ts.length ≤ f → ts.length ≤ g → rdL f ts = rdL g ts
  | f, g, [], _, _ => by cases f <;> cases g <;> rfl
  | 0, _, _ :: _, h, _ => by simp at h
  | _, 0, _ :: _, _, h => by simp at h
  | f + 1, g + 1, t :: r, hf, hg => by
    rw [List.length_cons] at hf hg
    have e1 := rdL_fuel f g r (by omega) (by omega)
    have h1 := rdL_le g r
    have h3 : ((rdL g r).2.drop 1).length = (rdL g r).2.length - 1 := List.length_drop ..
    have e2 := rdL_fuel f g ((rdL g r).2.drop 1) (by omega) (by omega)
    rw [rdL, rdL, e1, e2]
/-- what readList answers -/
def rd (ts : List Tok) : List Nd × List Tok := rdL ts.length ts
theorem rd_nil : rd [] = ([], []) := rfl
theorem rd_end {t : Tok} {r : List Tok} (h : t.kind = 2) : rd (t :: r) = ([], t :: r) := by
  show rdL (r.length + 1) (t :: r) = _
  rw [rdL, if_pos h]
theorem rd_flat {t : Tok} {r : List Tok} (h : t.kind ≠ 2) (hf : flatT t = true) : rd (t :: r) = (t.nd [] :: (rd r).1, (rd r).2) := by
  show rdL (r.length + 1) (t :: r) = _
  rw [rdL, if_neg h, if_pos hf]
  rfl
theorem rd_le (ts : List Tok) : cntL (rd ts).1 + (rd ts).2.length ≤ ts.length := rdL_le _ _
theorem rd_deep {t : Tok} {r : List Tok} (h : t.kind ≠ 2) (hf : flatT t = false) : rd (t :: r) = (t.nd (rd r).1 :: (rd ((rd r).2.drop 1)).1, (rd ((rd r).2.drop 1)).2) := by
  show rdL (r.length + 1) (t :: r) = _
  rw [rdL, if_neg h, if_neg (by rw [hf]; decide)]
  have h1 := rd_le r
  have h3 : ((rd r).2.drop 1).length = (rd r).2.length - 1 := List.length_drop ..
  have e : rdL r.length ((rdL r.length r).2.drop 1) = rd ((rd r).2.drop 1) := rdL_fuel _ _ _ (by show ((rd r).2.drop 1).length ≤ _; omega) (Nat.le_refl _)
  rw [e]
  rfl
mutual
theorem nd_rd : ∀ (n : Nd) (prev : Bool) (deep : Nat) (r : List Tok), ndFault prev deep n = 0 → rd (ndToks n ++ r) = (n :: (rd r).1, (rd r).2)
  | .mk n a t p, prev, deep, r, h => by
    rw [ndFault] at h
    by_cases h0 : nodeFault prev deep (.mk n a t p) = 0
    · rw [if_pos h0] at h
      unfold nodeFault at h0
      split at h0
      · cases h0
      · rw [ndToks]
        by_cases hn : n = []
        · rw [if_pos hn]
          have hn' : (Nd.mk n a t p).name = [] := hn
          rw [if_pos hn'] at h0
          split at h0
          · cases h0
          · rename_i h1
            have e1 : a = [] := Classical.byContradiction fun h => h1 (.inl h)
            have e2 : p = [] := Classical.byContradiction fun h => h1 (.inr (.inl h))
            subst hn
            subst e1
            subst e2
            exact rd_flat (by show (3 : Nat) ≠ 2; decide) rfl
        · rw [if_neg hn]
          have hn' : ¬ (Nd.mk n a t p).name = [] := hn
          rw [if_neg hn', elemFault_zero] at h0
          obtain ⟨e1, e2, e3, e4, e5⟩ := h0
          have e3' : t = [] := e3
          subst e3'
          have hne : n.isEmpty = false := by cases n with
            | nil => exact absurd rfl hn
            | cons b c => rfl
          by_cases hv : isVoid n = true
          · rw [if_pos hv]
            have e5' : p = [] := e5 hv
            subst e5'
            exact rd_flat (t := ⟨1, n, a, false, []⟩) (by show (1 : Nat) ≠ 2; decide) (by unfold flatT; show (n.isEmpty || isVoid n) = true; rw [hv]; simp)
          · rw [if_neg hv, List.cons_append, rd_deep (t := ⟨1, n, a, false, []⟩) (by show (1 : Nat) ≠ 2; decide) (by unfold flatT; show (n.isEmpty || isVoid n) = false; rw [hne]; simpa using hv)]
            rw [List.append_assoc, l_rd p false (deep + 1) _ h, List.singleton_append, rd_end (t := ⟨2, n, [], false, []⟩) rfl]
            show (Nd.mk n a [] (p ++ []) :: _, _) = _
            rw [List.append_nil]
            rfl
    · rw [if_neg h0] at h
      exact absurd h h0
theorem l_rd : ∀ (l : List Nd) (prev : Bool) (deep : Nat) (r : List Tok), lFault prev deep l = 0 → rd (lToks l ++ r) = (l ++ (rd r).1, (rd r).2)
  | [], prev, deep, r, _ => by rw [lToks_nil]; rfl
  | n :: l, prev, deep, r, h => by
    rw [lFault_cons] at h
    by_cases h0 : ndFault prev deep n = 0
    · rw [if_pos h0] at h
      rw [lToks_cons, List.append_assoc, nd_rd n prev deep _ h0, l_rd l _ deep r h]
      rfl
    · rw [if_neg h0] at h
      exact absurd h h0
end
/-- nodes come back out of their tokens -/
theorem rd_toks {l : List Nd} (h : showFault l = 0) : rd (lToks l) = (l, []) := by
  have h1 := l_rd l false 0 [] (show_ok h).2.2.1
  rw [List.append_nil] at h1
  rw [h1, rd_nil, List.append_nil]

end U
end Go.Proofs.YtmfkefcdddoooaaGreatDoor

namespace Go.Proofs.YtmfkefcdddoooaaGreatDoor
namespace U

/-- what is written for one code point, if a line feed comes behind it or not -/
def clean1 (n : Nat) (lf : Bool) : List UInt8 := if n = 0 then enc 65533 else if n = 13 then (if lf then [] else enc 10) else enc n
def cleanR : List Nat → List UInt8
  | [] => []
  | n :: r => clean1 n (r.head? == some 10) ++ cleanR r
/-- the clean form -/
def clean (l : List UInt8) : List UInt8 := cleanR (runes l)

theorem cleanR_cons (n : Nat) (r : List Nat) : cleanR (n :: r) = clean1 n (r.head? == some 10) ++ cleanR r := rfl
theorem clean_nil : clean [] = [] := rfl
theorem clean_cons {l : List UInt8} (hl : l ≠ []) : clean l = clean1 (dec l).1 ((runes (l.drop (dec l).2)).head? == some 10) ++ clean (l.drop (dec l).2) := by
  unfold clean
  rw [runes_cons hl, cleanR_cons]

/-- below 128 a byte stands for itself -/
theorem dec_low (b : UInt8) (r : List UInt8) (h : b.toNat < 128) : dec (b :: r) = (b.toNat, 1) := decN_1 h
theorem dec_val_low {l : List UInt8} (hl : l ≠ []) (h : (dec l).1 < 128) : ∃ b r, l = b :: r ∧ b.toNat = (dec l).1 ∧ (dec l).2 = 1 ∧ l.drop (dec l).2 = r := by
  rcases dec_spec l hl with e | ⟨n, r, hn, e, e2⟩
  · rw [e] at h; exact absurd h (by decide)
  · rw [e2] at h ⊢
    simp only at h
    rw [enc_one h] at e ⊢
    exact ⟨_, r, e, by simp; omega, rfl, by rw [e]; rfl⟩

/-- a code point below 128 is at the head exactly where its byte is -/
theorem runes_head_low (l : List UInt8) (c : UInt8) (hc : c.toNat < 128) : (runes l).head? = some c.toNat ↔ l.head? = some c := by
  cases l with
  | nil => simp [runes_nil]
  | cons b r =>
    have hne : b :: r ≠ [] := by simp
    rw [runes_cons hne, List.head?_cons, List.head?_cons]
    constructor
    · intro h
      have h1 : (dec (b :: r)).1 = c.toNat := Option.some.inj h
      obtain ⟨b', r', e, hb, _⟩ := dec_val_low hne (by omega)
      injection e with e1 e2
      subst e1
      rw [h1] at hb
      rw [UInt8.toNat_inj.1 hb]
    · intro h
      have h1 : b = c := Option.some.inj h
      subst h1
      rw [dec_low b r hc]

theorem runes_head10 (l : List UInt8) : ((runes l).head? == some 10) = (l.head? == some 10) := by
  have := runes_head_low l 10 (by decide)
  rw [Bool.eq_iff_iff]
  simpa using this

theorem encodeRune_eq {n : Nat} (h : isL n = true) : Lib.encodeRune (n : Int) = enc n := by
  have hl := isL_iff.1 h
  unfold Lib.encodeRune
  by_cases h1 : n < 128
  · rw [Lib.encodeRuneZ_one (by omega) (by omega), enc_one h1]; simp
  by_cases h2 : n < 2048
  · rw [Lib.encodeRuneZ_two (by omega) (by omega), enc_two (by omega) h2]
    simp only [List.map_cons, List.map_nil]
    rw [show (192 + (n : Int) / 64).toNat = 192 + n / 64 by omega, show (128 + (n : Int) % 64).toNat = 128 + n % 64 by omega]
  by_cases h3 : n < 65536
  · rw [Lib.encodeRuneZ_three (by omega), enc_three (by omega) h3]
    simp only [List.map_cons, List.map_nil]
    rw [show (224 + (n : Int) / 4096).toNat = 224 + n / 4096 by omega, show (128 + (n : Int) / 64 % 64).toNat = 128 + n / 64 % 64 by omega, show (128 + (n : Int) % 64).toNat = 128 + n % 64 by omega]
  · rw [Lib.encodeRuneZ_four (by omega) (by omega), enc_four (by omega)]
    simp only [List.map_cons, List.map_nil]
    rw [show (240 + (n : Int) / 262144).toNat = 240 + n / 262144 by omega, show (128 + (n : Int) / 4096 % 64).toNat = 128 + n / 4096 % 64 by omega, show (128 + (n : Int) / 64 % 64).toNat = 128 + n / 64 % 64 by omega, show (128 + (n : Int) % 64).toNat = 128 + n % 64 by omega]

theorem clean1_zero (f : Bool) : clean1 0 f = Lib.encodeRune 65533 := by
  rw [clean1, if_pos rfl]
  exact (encodeRune_eq (n := 65533) (by decide)).symm
theorem clean1_skip : clean1 13 true = [] := by decide
theorem clean1_cr : clean1 13 false = [UInt8.ofNat 10] := by decide
theorem clean1_other {n : Nat} (f : Bool) (h0 : n ≠ 0) (h13 : n ≠ 13) (hL : isL n = true) : clean1 n f = Lib.encodeRune (n : Int) := by
  rw [clean1, if_neg h0, if_neg h13, encodeRune_eq hL]
theorem encodeRune_length (r : Int) : (Lib.encodeRune r).length ≤ 4 := by
  have := Lib.encodeRuneZ_length r
  unfold Lib.encodeRune
  rw [List.length_map]
  exact this.2
theorem hasPrefix_lf (l : List UInt8) : Lib.hasPrefix l [10] = (l.head? == some 10) := by
  cases l with
  | nil => rfl
  | cons b r =>
    simp [Lib.hasPrefix, List.isPrefixOf]
    rw [Bool.eq_iff_iff]
    simp
    exact eq_comm

theorem clean1_length (n : Nat) (f : Bool) : (clean1 n f).length ≤ 4 := by
  unfold clean1
  repeat' split
  · exact (enc_length _).2
  · simp
  · exact (enc_length _).2
  · exact (enc_length _).2

end U
end Go.Proofs.YtmfkefcdddoooaaGreatDoor

namespace Go.Proofs.YtmfkefcdddoooaaGreatDoor
namespace U

theorem runM_more : ∀ (l : List UInt8) (st : St) {st' : St} {r : List UInt8}, runM st l = some (st', r) → ∀ e, runM st (l ++ e) = some (st', r ++ e)
  | [], st, _, _, h, e => by cases h
  | b :: l, st, st', r, h, e => by
    rw [List.cons_append, runM]
    rw [runM] at h
    cases hs : step st b with
    | go s =>
      rw [hs] at h
      exact runM_more l s h e
    | fin s =>
      rw [hs] at h
      simp only [Option.some.injEq, Prod.mk.injEq] at h
      obtain ⟨rfl, rfl⟩ := h
      rfl
    | again s =>
      rw [hs] at h
      simp only at h ⊢
      cases hs2 : step s b with
      | go s2 =>
        rw [hs2] at h
        exact runM_more l s2 h e
      | fin s2 =>
        rw [hs2] at h
        simp only [Option.some.injEq, Prod.mk.injEq] at h
        obtain ⟨rfl, rfl⟩ := h
        rfl
      | again s2 => rw [hs2] at h; cases h

theorem placeOf_more {find : List UInt8} (hf : find ≠ []) : ∀ (l e : List UInt8) {k : Nat}, placeOf find l = some k → placeOf find (l ++ e) = some k
  | [], e, k, h => by rw [placeOf, if_neg hf] at h; cases h
  | b :: r, e, k, h => by
    have hle := placeOf_le hf h
    rw [placeOf] at h
    have ht : ((b :: r) ++ e).take find.length = (b :: r).take find.length := by rw [List.take_append_of_le_length (by omega)]
    rw [List.cons_append] at ht
    rw [List.cons_append, placeOf, ht]
    split at h
    · rename_i h1; rw [if_pos h1]; exact h
    · rename_i h1
      rw [if_neg h1]
      cases hp : placeOf find r with
      | none => rw [hp] at h; cases h
      | some j =>
        rw [hp] at h
        rw [placeOf_more hf r e hp]
        exact h

theorem kindOf_more {l : List UInt8} (e : List UInt8) (h : kindOf l ≠ 3) : kindOf (l ++ e) = kindOf l := by
  match l, h with
  | [], h => exact absurd rfl h
  | [a], h => exact absurd rfl h
  | a :: c :: [], h =>
    rw [kindOf_cons] at h
    simp only [List.cons_append, List.nil_append]
    rw [kindOf_cons, kindOf_cons]
    split
    · rfl
    rename_i h1
    rw [if_neg h1] at h
    split
    · rfl
    rename_i h2
    rw [if_neg h2] at h
    split
    · rfl
    rename_i h3
    rw [if_neg h3] at h
    split
    · rename_i h4
      rw [if_pos h4] at h
      exact absurd rfl h
    · rfl
  | a :: c :: d :: r, h => rfl
theorem kindOf_text {l : List UInt8} (e : List UInt8) (h : kindOf l = 3) (h0 : l ≠ []) (h1 : l ≠ [60]) (h2 : l ≠ [60, 47]) : kindOf (l ++ e) = 3 := by
  match l, h, h0, h1, h2 with
  | [a], h, h0, h1, h2 =>
    have ha : a ≠ 60 := fun e => h1 (by rw [e])
    cases e with
    | nil => rfl
    | cons c r => show kindOf (a :: c :: r) = 3; rw [kindOf_cons, if_pos ha]
  | a :: c :: [], h, h0, h1, h2 =>
    simp only [List.cons_append, List.nil_append]
    rw [kindOf_cons] at h ⊢
    split
    · rfl
    rename_i g1
    rw [if_neg g1] at h
    split
    · rename_i g2; rw [if_pos g2] at h; exact h
    rename_i g2
    rw [if_neg g2] at h
    split
    · rename_i g3; rw [if_pos g3] at h; exact h
    rename_i g3
    rw [if_neg g3] at h
    split
    · rename_i g4
      exact absurd (by rw [g4, show a = 60 by simpa using g1]) h2
    · rfl
  | a :: c :: d :: r, h, _, _, _ => exact h

theorem chars_le (txt : List UInt8) : (chars txt).length ≤ 1 := by unfold chars; split <;> simp
theorem dropLast_le {α : Type} {l : List α} (h : l.length ≤ 1) : l.dropLast = [] := by
  match l, h with
  | [], _ => rfl
  | [a], _ => rfl
theorem dropLast_ahead {a x y : List Tok} (ha : a.length ≤ 1) (h : ∃ z, y = x.dropLast ++ z) : ∃ z, a ++ y = (a ++ x).dropLast ++ z := by
  obtain ⟨z, rfl⟩ := h
  by_cases hx : x = []
  · subst hx
    rw [List.append_nil, dropLast_le ha]
    exact ⟨_, rfl⟩
  · rw [List.dropLast_append_of_ne_nil hx]
    exact ⟨z, by simp⟩
theorem rawToks_le (n raw : List UInt8) : (rawToks n raw).length ≤ 1 := by unfold rawToks; split <;> simp
theorem rawEnd_more {n l : List UInt8} (e : List UInt8) (h : rawEnd n l = true) : rawEnd n (l ++ e) = true := by
  unfold rawEnd at h ⊢
  cases hd : l.drop (2 + n.length) with
  | nil => rw [hd] at h; cases h
  | cons c r =>
    have hl : 2 + n.length < l.length := by
      have := congrArg List.length hd
      simp only [List.length_drop, List.length_cons] at this
      omega
    rw [hd] at h
    rw [List.drop_append_of_le_length (by omega), hd, List.take_append_of_le_length (by omega), List.drop_append_of_le_length (by omega), List.take_append_of_le_length (by rw [List.length_drop]; omega)]
    exact h
theorem rawEnd_less {n l : List UInt8} (e : List UInt8) (hl : 2 + n.length < l.length) : rawEnd n (l ++ e) = rawEnd n l := by
  unfold rawEnd
  rw [List.drop_append_of_le_length (by omega)]
  cases hd : l.drop (2 + n.length) with
  | nil => have := congrArg List.length hd; simp only [List.length_drop, List.length_nil] at this; omega
  | cons c r =>
    simp only [List.cons_append]
    rw [List.take_append_of_le_length (by omega), List.drop_append_of_le_length (by omega), List.take_append_of_le_length (by rw [List.length_drop]; omega)]
theorem rawText_rest : ∀ (n l : List UInt8), (rawText n l).2 ≠ [] → rawEnd n (rawText n l).2 = true
  | n, [], h => absurd rfl h
  | n, b :: r, h => by
    rw [rawText] at h ⊢
    split at h
    · rename_i h1; rw [if_pos h1]; exact h1
    · rename_i h1; rw [if_neg h1]; exact rawText_rest n r h
theorem rawEnd_long {n l : List UInt8} (h : rawEnd n l = true) : 2 + n.length < l.length := by
  unfold rawEnd at h
  cases hd : l.drop (2 + n.length) with
  | nil => rw [hd] at h; cases h
  | cons c r =>
    have := congrArg List.length hd
    simp only [List.length_drop, List.length_cons] at this
    omega
theorem rawText_more : ∀ (n l e : List UInt8), (rawText n l).2 ≠ [] → rawText n (l ++ e) = ((rawText n l).1, (rawText n l).2 ++ e)
  | n, [], e, h => absurd rfl h
  | n, b :: r, e, h => by
    rw [List.cons_append]
    by_cases h1 : rawEnd n (b :: r) = true
    · have h2 := rawEnd_more e h1
      rw [List.cons_append] at h2
      rw [rawText, rawText, if_pos h1, if_pos h2]
      rfl
    · have h3 : (rawText n r).2 ≠ [] := by rw [rawText, if_neg h1] at h; exact h
      have hlen : 2 + n.length < (b :: r).length := by
        have h4 := rawEnd_long (rawText_rest n r h3)
        have h5 := rawText_le n r
        rw [List.length_cons]
        omega
      have h2 := rawEnd_less e hlen
      rw [List.cons_append] at h2
      rw [rawText, rawText, if_neg h1, if_neg (by rw [h2]; exact h1), rawText_more n r e h3]

theorem startI_more {l n rest : List UInt8} {as : List Att} {s : Bool} (e : List UInt8) (h : startI l = .start n as s rest) : startI (l ++ e) = .start n as s (rest ++ e) := by
  unfold startI at h ⊢
  cases hr : runM st0 l with
  | none => rw [hr] at h; cases h
  | some x =>
    rw [hr] at h
    rw [runM_more l st0 hr e]
    simp only [Item.start.injEq] at h ⊢
    obtain ⟨h1, h2, h3, h4⟩ := h
    exact ⟨h1, h2, h3, by rw [h4]⟩
theorem closeI_more {l n rest : List UInt8} (e : List UInt8) (h : closeI l = .close n rest) : closeI (l ++ e) = .close n (rest ++ e) := by
  unfold closeI at h ⊢
  cases hr : runM st0 l with
  | none => rw [hr] at h; cases h
  | some x =>
    rw [hr] at h
    rw [runM_more l st0 hr e]
    simp only [Item.close.injEq] at h ⊢
    obtain ⟨h1, h4⟩ := h
    exact ⟨h1, by rw [h4]⟩
/-- a comment: open to the end, or closed for good -/
theorem mark_more {l : List UInt8} (h : kindOf l = 4) : (∃ t, item l = .mark t []) ∨ ∃ t rest, item l = .mark t rest ∧ ∀ e, item (l ++ e) = .mark t (rest ++ e) := by
  have key : ∀ (find : List UInt8) (j : Nat), find ≠ [] → item l = markI find (l.drop j) → j ≤ l.length → (∀ e, placeOf find (l.drop j) ≠ none → item (l ++ e) = markI find ((l ++ e).drop j)) →
      (∃ t, item l = .mark t []) ∨ ∃ t rest, item l = .mark t rest ∧ ∀ e, item (l ++ e) = .mark t (rest ++ e) := by
    intro find j hf he hj hm
    cases hp : placeOf find (l.drop j) with
    | none =>
      refine .inl ⟨⟨4, [], [], false, l.drop j⟩, ?_⟩
      rw [he]
      unfold markI remark
      rw [hp]
    | some k =>
      have hle := placeOf_le hf hp
      refine .inr ⟨⟨4, [], [], false, (l.drop j).take k⟩, (l.drop j).drop (k + find.length), ?_, fun e => ?_⟩
      · rw [he]
        unfold markI remark
        rw [hp]
      · rw [hm e (by rw [hp]; simp), List.drop_append_of_le_length hj]
        unfold markI remark
        rw [placeOf_more hf _ e hp]
        simp only
        rw [List.take_append_of_le_length (by omega), List.drop_append_of_le_length hle]
  have hk : ∀ e, kindOf (l ++ e) = 4 := fun e => by rw [kindOf_more e (by rw [h]; decide), h]
  have hl2 : 2 ≤ l.length := by
    match l, h with
    | a :: c :: r, _ => simp
  rcases item_mark h with ⟨h1, he⟩ | ⟨h1, h2, he⟩ | ⟨h1, h2, he⟩
  · have hl : 4 ≤ l.length := by
      have := congrArg List.length h1
      simp only [List.length_take, List.length_cons, List.length_nil] at this
      omega
    refine key _ 4 (by decide) he hl fun e _ => ?_
    have h4 : (l ++ e).take 4 = [60, 33, 45, 45] := by rw [List.take_append_of_le_length hl, h1]
    rcases item_mark (hk e) with ⟨_, g⟩ | ⟨g1, _, _⟩ | ⟨g1, _, _⟩
    · exact g
    · exact absurd h4 g1
    · exact absurd h4 g1
  · refine key _ 1 (by decide) he (by omega) fun e _ => ?_
    have h4 : (l ++ e).take 2 = [60, 63] := by rw [List.take_append_of_le_length hl2, h2]
    rcases item_mark (hk e) with ⟨g1, _⟩ | ⟨_, _, g⟩ | ⟨_, g2, _⟩
    · have := congrArg (List.take 2) g1
      rw [List.take_take] at this
      rw [show min 2 4 = 2 from rfl, h4] at this
      exact absurd this (by decide)
    · exact g
    · exact absurd h4 g2
  · refine key _ 2 (by decide) he hl2 fun e hp => ?_
    have h4 : (l ++ e).take 2 ≠ [60, 63] := by rw [List.take_append_of_le_length hl2]; exact h2
    rcases item_mark (hk e) with ⟨g1, _⟩ | ⟨_, g2, _⟩ | ⟨_, _, g⟩
    · exfalso
      match l, hl2, h1, hp, g1 with
      | [a, c], _, _, hp, _ => exact hp rfl
      | [a, c, d], _, _, hp, g1 =>
        have hd : d = 45 := by
          simp only [List.cons_append, List.nil_append, List.take_succ_cons, List.cons.injEq] at g1
          exact g1.2.2.1
        subst hd
        exact hp rfl
      | a :: c :: d :: f :: r, _, h1, _, g1 => exact h1 (by simpa using g1)
    · exact absurd g2 h4
    · exact g

theorem toksT_prefix : ∀ (m : Nat) (l txt e : List UInt8), l.length ≤ m → ∃ z, toksT txt (l ++ e) = (toksT txt l).dropLast ++ z
  | 0, l, txt, e, hm => by
    obtain rfl : l = [] := List.eq_nil_of_length_eq_zero (by omega)
    rw [toksT_nil, dropLast_le (chars_le txt)]
    exact ⟨_, rfl⟩
  | m + 1, [], txt, e, hm => by
    rw [toksT_nil, dropLast_le (chars_le txt)]
    exact ⟨_, rfl⟩
  | m + 1, b :: r, txt, e, hm => by
    have hr : r.length ≤ m := by simpa using hm
    by_cases h3 : kindOf (b :: r) = 3
    · by_cases h1 : b :: r = [60]
      · injection h1 with h1 h2
        subst h1; subst h2
        rw [toksT_text txt rfl (item_text h3), toksT_nil, dropLast_le (chars_le _)]
        exact ⟨_, rfl⟩
      by_cases h2 : b :: r = [60, 47]
      · injection h2 with h2 h4
        subst h2; subst h4
        rw [toksT_text txt rfl (item_text h3), toksT_text _ rfl (item_text (l := [47]) rfl), toksT_nil, dropLast_le (chars_le _)]
        exact ⟨_, rfl⟩
      have hk := kindOf_text e h3 (by simp) h1 h2
      rw [toksT_text txt rfl (item_text h3), toksT_text (l := b :: r ++ e) txt (List.cons_append ..) (item_text hk)]
      exact toksT_prefix m r _ e hr
    · have hk := kindOf_more e h3
      rw [toksT_flush txt (.inr (item_notext h3)), toksT_flush (l := b :: r ++ e) txt (.inr (item_notext (by rw [hk]; exact h3)))]
      refine dropLast_ahead (chars_le txt) ?_
      rcases kindOf_cases (b :: r) with h | h | h | h
      · obtain ⟨c, u, e1, ha, he⟩ := item_start h
        cases hs : startI (c :: u) with
        | start n as s rest =>
          have h4 := toksT_start (he.trans hs)
          have hk1 : kindOf (b :: r ++ e) = 1 := hk.trans h
          obtain ⟨c', u', e2, _, he2⟩ := item_start hk1
          have e3 : c' :: u' = (c :: u) ++ e := by
            have := e1 ▸ e2
            simpa using this.symm
          have h5 := toksT_start ((he2.trans (by rw [e3])).trans (startI_more e hs))
          have hsh := item_shorter.2.2 n as s rest (he.trans hs)
          rw [List.length_cons] at hsh
          by_cases hn : rawName n = true
          · rw [if_pos hn] at h4 h5
            by_cases hz : (rawText n rest).2 = []
            · rw [hz, toksT_nil, show chars ([] : List UInt8) = [] from rfl, List.append_nil] at h4
              rw [h4, h5]
              refine dropLast_ahead (a := [⟨1, n, as, s, []⟩]) (x := rawToks n (rawText n rest).1) (y := rawToks n (rawText n (rest ++ e)).1 ++ toksT [] (rawText n (rest ++ e)).2) (by simp) ?_
              rw [dropLast_le (rawToks_le _ _)]
              exact ⟨_, rfl⟩
            · rw [rawText_more n rest e hz] at h5
              rw [h4, h5]
              have := rawText_le n rest
              exact dropLast_ahead (a := [⟨1, n, as, s, []⟩]) (by simp) (dropLast_ahead (rawToks_le _ _) (toksT_prefix m _ [] e (by omega)))
          · rw [if_neg hn] at h4 h5
            rw [h4, h5]
            exact dropLast_ahead (a := [_]) (by simp) (toksT_prefix m rest [] e (by omega))
        | stop => rw [toksT_stop (he.trans hs)]; exact ⟨_, rfl⟩
        | text => unfold startI at hs; split at hs <;> cases hs
        | mark t rest => unfold startI at hs; split at hs <;> cases hs
        | close n rest => unfold startI at hs; split at hs <;> cases hs
      · obtain ⟨c, u, e1, ha, he⟩ := item_end h
        cases hs : closeI (c :: u) with
        | close n rest =>
          have h4 := toksT_close (he.trans hs)
          have hk1 : kindOf (b :: r ++ e) = 2 := hk.trans h
          obtain ⟨c', u', e2, _, he2⟩ := item_end hk1
          have e3 : c' :: u' = (c :: u) ++ e := by
            have := e1 ▸ e2
            simpa using this.symm
          have h5 := toksT_close ((he2.trans (by rw [e3])).trans (closeI_more e hs))
          rw [h4, h5]
          have hsh := item_shorter.2.1 n rest (he.trans hs)
          rw [List.length_cons] at hsh
          exact dropLast_ahead (a := [_]) (by simp) (toksT_prefix m rest [] e (by omega))
        | stop => rw [toksT_stop (he.trans hs)]; exact ⟨_, rfl⟩
        | text => unfold closeI at hs; split at hs <;> cases hs
        | mark t rest => unfold closeI at hs; split at hs <;> cases hs
        | start n as s rest => unfold closeI at hs; split at hs <;> cases hs
      · exact absurd h h3
      · rcases mark_more h with ⟨t, he⟩ | ⟨t, rest, he, hm⟩
        · rw [toksT_mark he, toksT_nil, dropLast_le (by simp [chars])]
          exact ⟨_, rfl⟩
        · rw [toksT_mark he, toksT_mark (hm e)]
          have hsh := item_shorter.1 t rest he
          rw [List.length_cons] at hsh
          exact dropLast_ahead (a := [t]) (by simp) (toksT_prefix m rest [] e (by omega))

/-- WHAT COMES LATER CHANGES NOTHING BUT THE LAST TOKEN -/
theorem toks_prefix (l e : List UInt8) : ∃ z, toks (l ++ e) = (toks l).dropLast ++ z := toksT_prefix l.length l [] e (Nat.le_refl _)

end U
end Go.Proofs.YtmfkefcdddoooaaGreatDoor

namespace Go.Proofs.YtmfkefcdddoooaaGreatDoor
namespace U

/-- no two attributes with one name -/
def uniq : List Att → Prop := List.Pairwise (fun a b => a.1 ≠ b.1)
structure OkTok (t : Tok) : Prop where
  text : t.kind = 3 → t.text ≠ []
  name : t.kind = 1 ∨ t.kind = 2 → t.name ≠ []
  low : ∀ c ∈ t.name, ¬ (65 ≤ c.toNat ∧ c.toNat ≤ 90)
  once : uniq t.attrs
/-- no two texts side by side -/
def apart : List Tok → Prop
  | [] => True
  | [_] => True
  | a :: b :: l => ¬ (a.kind = 3 ∧ b.kind = 3) ∧ apart (b :: l)
def headNo (l : List Tok) : Prop := ∀ t, l.head? = some t → t.kind ≠ 3

theorem low_small (l : List UInt8) : ∀ c ∈ low l, ¬ (65 ≤ c.toNat ∧ c.toNat ≤ 90) := by
  intro c hc
  unfold low at hc
  obtain ⟨b, _, rfl⟩ := List.mem_map.1 hc
  unfold low1
  split
  · rename_i h
    simp only [UInt8.toNat_ofNat']
    omega
  · assumption
theorem firsts_uniq : ∀ (l acc : List Att), uniq acc → uniq (firsts acc l)
  | [], acc, h => h
  | a :: l, acc, h => by
    rw [firsts]
    apply firsts_uniq
    split
    · rename_i h1
      refine List.pairwise_append.2 ⟨h, List.pairwise_singleton _ _, ?_⟩
      intro x hx y hy
      obtain rfl := List.mem_singleton.1 hy
      have := List.all_eq_true.1 h1 x hx
      simpa using this
    · exact h
theorem unesc_ne {l : List UInt8} (h : l ≠ []) : unesc l ≠ [] := by
  cases l with
  | nil => exact absurd rfl h
  | cons b r =>
    cases hr : refAt (b :: r) with
    | none => rw [unesc_none hr]; simp
    | some x =>
      obtain ⟨n, k⟩ := x
      rw [unesc_some hr]
      intro e
      have := congrArg List.length e
      rw [List.length_append, List.length_nil] at this
      have h2 := (enc_length n).1
      omega
theorem ok_chars (txt : List UInt8) : ∀ t ∈ chars txt, OkTok t := by
  intro t ht
  unfold chars at ht
  split at ht
  · cases ht
  · rename_i h
    obtain rfl := List.mem_singleton.1 ht
    exact ⟨fun _ => unesc_ne h, (fun h => by rcases h with h | h <;> cases h), (fun c hc => by cases hc), List.Pairwise.nil⟩
theorem ok_raw (n raw : List UInt8) : ∀ t ∈ rawToks n raw, OkTok t := by
  intro t ht
  unfold rawToks at ht
  split at ht
  · cases ht
  · rename_i h
    obtain rfl := List.mem_singleton.1 ht
    refine ⟨fun _ => ?_, (fun h => by rcases h with h | h <;> cases h), (fun c hc => by cases hc), List.Pairwise.nil⟩
    simp only
    split
    · exact unesc_ne h
    · exact h
theorem ok_mark {find l : List UInt8} : OkTok (remark find l).1 := by
  unfold remark
  split <;> exact ⟨(fun h => by cases h), (fun h => by rcases h with h | h <;> cases h), (fun c hc => by cases hc), List.Pairwise.nil⟩
theorem mark_kind {find l : List UInt8} : (remark find l).1.kind = 4 := by
  unfold remark
  split <;> rfl

/-- the name that the machine reads -/
theorem runM_tname : ∀ (l : List UInt8) (st : St) {st' : St} {r : List UInt8}, st.state ≠ 0 → runM st l = some (st', r) → st'.tname = st.tname := by
  have hstep : ∀ (st : St) (b : UInt8), st.state ≠ 0 → (∀ s, step st b = .go s → s.state ≠ 0 ∧ s.tname = st.tname) ∧ (∀ s, step st b = .fin s → s.tname = st.tname) ∧ (∀ s, step st b = .again s → s.state ≠ 0 ∧ s.tname = st.tname) := by
    intro st b h0
    have e0 : pre0 st = st := by unfold pre0; rw [if_neg h0]
    have e2 : (pre2 st b).state ≠ 0 ∧ (pre2 st b).tname = st.tname := by unfold pre2; split <;> simp [h0]
    have e6 : (pre6 (pre2 st b) b).state ≠ 0 ∧ (pre6 (pre2 st b) b).tname = st.tname := by unfold pre6; split <;> simp [e2]
    have e3 : (pre3 (pre6 (pre2 st b) b) b).state ≠ 0 ∧ (pre3 (pre6 (pre2 st b) b) b).tname = st.tname := by unfold pre3; split <;> simp [e6]
    unfold step
    rw [if_neg (fun h => h0 h.1), e0]
    generalize pre3 (pre6 (pre2 st b) b) b = t at e3
    obtain ⟨g1, g2⟩ := e3
    unfold post
    refine ⟨fun s h => ?_, fun s h => ?_, fun s h => ?_⟩
    all_goals
      repeat' split at h
      all_goals first
        | (cases h; done)
        | (injection h with h; subst h; simp_all; done)
        | skip
  intro l
  induction l with
  | nil => intro st st' r _ h; cases h
  | cons b l ih =>
    intro st st' r h0 h
    obtain ⟨s1, s2, s3⟩ := hstep st b h0
    rw [runM] at h
    cases hs : step st b with
    | go s =>
      rw [hs] at h
      obtain ⟨g1, g2⟩ := s1 s hs
      rw [ih s g1 h, g2]
    | fin s =>
      rw [hs] at h
      simp only [Option.some.injEq, Prod.mk.injEq] at h
      obtain ⟨rfl, _⟩ := h
      exact s2 s hs
    | again s =>
      rw [hs] at h
      simp only at h
      obtain ⟨g1, g2⟩ := s3 s hs
      obtain ⟨t1, t2, _⟩ := hstep s b g1
      cases hs2 : step s b with
      | go s' =>
        rw [hs2] at h
        obtain ⟨g3, g4⟩ := t1 s' hs2
        rw [ih s' g3 h, g4, g2]
      | fin s' =>
        rw [hs2] at h
        simp only [Option.some.injEq, Prod.mk.injEq] at h
        obtain ⟨rfl, _⟩ := h
        rw [t2 s' hs2, g2]
      | again s' => rw [hs2] at h; cases h
theorem tname_ne {c : UInt8} {r t : List UInt8} {s : St} (ha : isAl c = true) (h : runM st0 (c :: r) = some (s, t)) : s.tname ≠ [] := by
  unfold st0 at h
  rw [run_name] at h
  have := runM_tname _ _ (by simp) h
  rw [this]
  have hn : nameB c = true := by
    have h1 : endsName c = false := by
      obtain ⟨h1, h2, h3⟩ := isAl_ne ha
      have h4 : c ≠ 62 := by rintro rfl; exact absurd ha (by decide)
      have h5 : isSp c = false := by
        cases hs : isSp c with
        | false => rfl
        | true =>
          exfalso
          unfold isSp at hs
          simp only [Bool.or_eq_true, beq_iff_eq] at hs
          rcases hs with ((rfl | rfl) | rfl) | rfl <;> exact absurd ha (by decide)
      simp [endsName, h5, h3, h4]
    simp [nameB, h1]
  rw [List.takeWhile_cons_of_pos hn]
  simp
theorem low_ne {l : List UInt8} (h : l ≠ []) : low l ≠ [] := by
  intro e
  have := congrArg List.length e
  rw [low_length] at this
  exact h (List.eq_nil_of_length_eq_zero this)

theorem apart_cons {a : Tok} {l : List Tok} (h : apart l) (ha : a.kind ≠ 3 ∨ headNo l) : apart (a :: l) := by
  cases l with
  | nil => trivial
  | cons b l =>
    refine ⟨fun hh => ?_, h⟩
    rcases ha with ha | ha
    · exact ha hh.1
    · exact ha b rfl hh.2
theorem apart_chars {txt : List UInt8} {l : List Tok} (h : apart l) (h2 : headNo l) : apart (chars txt ++ l) := by
  unfold chars
  split
  · exact h
  · exact apart_cons h (.inr h2)
theorem raw_rest_kind {n l : List UInt8} (hn : ∃ c m, n = c :: m ∧ isAl c = true) (hz : (rawText n l).2 ≠ []) : kindOf (rawText n l).2 = 2 := by
  · have h1 := rawText_rest n l hz
    generalize (rawText n l).2 = r at h1 hz
    obtain ⟨c, m, rfl, hc⟩ := hn
    have hlong := rawEnd_long h1
    unfold rawEnd at h1
    cases hd : r.drop (2 + (c :: m).length) with
    | nil => rw [hd] at h1; cases h1
    | cons d e =>
      rw [hd] at h1
      simp only [Bool.and_eq_true, beq_iff_eq] at h1
      obtain ⟨⟨h2, h3⟩, _⟩ := h1
      match r, hlong, h2, h3 with
      | [], hl, _, _ => simp at hl
      | [_], hl, _, _ => simp at hl
      | [_, _], hl, _, _ => simp only [List.length_cons, List.length_nil] at hl; omega
      | x :: y :: z :: u, _, h2, h3 =>
        simp only [List.take_succ_cons, List.take_zero, List.cons.injEq, and_true] at h2
        obtain ⟨rfl, rfl⟩ := h2
        have hz2 : isAl z = true := by
          have h4 : low1 z = c := by
            have : (z :: u).take ((c :: m).length) = z :: u.take m.length := by simp
            simp only [List.drop_succ_cons, List.drop_zero] at h3
            rw [this] at h3
            unfold low at h3
            rw [List.map_cons] at h3
            injection h3
          rw [← h4] at hc
          unfold low1 at hc
          split at hc
          · rename_i h5
            unfold isAl
            simp [h5.1, h5.2]
          · exact hc
        rw [kindOf_cons, if_neg (by decide), if_neg (by decide), if_neg (by decide), if_pos rfl, kindS_cons, if_pos hz2]
theorem headNo_rest {n l : List UInt8} (hn : ∃ c m, n = c :: m ∧ isAl c = true) : headNo (toksT [] (rawText n l).2) := by
  by_cases hz : (rawText n l).2 = []
  · rw [hz]; intro t ht; cases ht
  · have hk := raw_rest_kind (l := l) hn hz
    obtain ⟨c', r', e1, _, he⟩ := item_end hk
    cases hs : closeI (c' :: r') with
    | close n' rest => rw [toksT_close (he.trans hs)]; intro t ht; injection ht with ht; subst ht; simp
    | stop => rw [toksT_stop (he.trans hs)]; intro t ht; cases ht
    | text => unfold closeI at hs; split at hs <;> cases hs
    | mark t rest => unfold closeI at hs; split at hs <;> cases hs
    | start n as s rest => unfold closeI at hs; split at hs <;> cases hs
theorem rawText_both : ∀ (n l : List UInt8), (rawText n l).1 ++ (rawText n l).2 = l
  | n, [] => rfl
  | n, b :: r => by
    rw [rawText]
    split
    · rfl
    · show b :: ((rawText n r).1 ++ (rawText n r).2) = b :: r
      rw [rawText_both n r]
theorem rawName_al {n : List UInt8} (h : rawName n = true) : ∃ c m, n = c :: m ∧ isAl c = true := by
  unfold rawName at h
  simp only [Bool.or_eq_true, beq_iff_eq] at h
  rcases h with ((rfl | rfl) | rfl) | rfl <;> exact ⟨_, _, rfl, by decide⟩

/-- all of it -/
theorem toksT_ok : ∀ (m : Nat) (l txt : List UInt8), l.length ≤ m → (∀ t ∈ toksT txt l, OkTok t) ∧ apart (toksT txt l) ∧ (toksT txt l).length ≤ l.length + (if txt = [] then 0 else 1)
  | 0, l, txt, hm => by
    obtain rfl : l = [] := List.eq_nil_of_length_eq_zero (by omega)
    rw [toksT_nil]
    refine ⟨ok_chars txt, ?_, ?_⟩
    · unfold chars; split <;> trivial
    · unfold chars; split <;> simp
  | m + 1, [], txt, hm => by
    rw [toksT_nil]
    refine ⟨ok_chars txt, ?_, ?_⟩
    · unfold chars; split <;> trivial
    · unfold chars; split <;> simp
  | m + 1, b :: r, txt, hm => by
    have hr : r.length ≤ m := by simpa using hm
    by_cases h3 : kindOf (b :: r) = 3
    · rw [toksT_text txt rfl (item_text h3)]
      obtain ⟨g1, g2, g3⟩ := toksT_ok m r (txt ++ [b]) hr
      refine ⟨g1, g2, ?_⟩
      rw [if_neg (by simp)] at g3
      rw [List.length_cons]
      split <;> omega
    · rw [toksT_flush txt (.inr (item_notext h3))]
      have hch : (chars txt).length = if txt = [] then 0 else 1 := by unfold chars; split <;> rfl
      have key : (∀ t ∈ toksT [] (b :: r), OkTok t) ∧ apart (toksT [] (b :: r)) ∧ headNo (toksT [] (b :: r)) ∧ (toksT [] (b :: r)).length ≤ (b :: r).length := by
        have step1 : ∀ (t : Tok) (rest : List UInt8), OkTok t → t.kind ≠ 3 → rest.length < (b :: r).length → (∀ u ∈ t :: toksT [] rest, OkTok u) ∧ apart (t :: toksT [] rest) ∧ headNo (t :: toksT [] rest) ∧ (t :: toksT [] rest).length ≤ (b :: r).length := by
          intro t rest ht hk hl
          rw [List.length_cons] at hl
          obtain ⟨g1, g2, g3⟩ := toksT_ok m rest [] (by omega)
          rw [if_pos rfl] at g3
          refine ⟨fun u hu => ?_, apart_cons g2 (.inl hk), fun u hu => ?_, ?_⟩
          · rcases List.mem_cons.1 hu with rfl | hu
            · exact ht
            · exact g1 u hu
          · injection hu with hu; subst hu; exact hk
          · rw [List.length_cons, List.length_cons]; omega
        have none1 : (∀ t ∈ ([] : List Tok), OkTok t) ∧ apart [] ∧ headNo [] ∧ ([] : List Tok).length ≤ (b :: r).length := ⟨(fun _ h => by cases h), trivial, (fun _ h => by cases h), by simp⟩
        rcases kindOf_cases (b :: r) with h | h | h | h
        · obtain ⟨c, u, e1, ha, he⟩ := item_start h
          cases hs : startI (c :: u) with
          | start n as s rest =>
            have hsh := item_shorter.2.2 n as s rest (he.trans hs)
            have hok : OkTok ⟨1, n, as, s, []⟩ := by
              unfold startI at hs
              cases hru : runM st0 (c :: u) with
              | none => rw [hru] at hs; cases hs
              | some x =>
                rw [hru] at hs
                obtain ⟨st, t⟩ := x
                simp only [Item.start.injEq] at hs
                obtain ⟨rfl, rfl, rfl, rfl⟩ := hs
                exact ⟨(fun h => by cases h), fun _ => low_ne (tname_ne ha hru), low_small _, firsts_uniq _ _ List.Pairwise.nil⟩
            rw [toksT_start (he.trans hs)]
            by_cases hn : rawName n = true
            · rw [if_pos hn]
              have hle := rawText_le n rest
              rw [List.length_cons] at hsh
              obtain ⟨g1, g2, g3⟩ := toksT_ok m (rawText n rest).2 [] (by omega)
              rw [if_pos rfl] at g3
              have hh := headNo_rest (l := rest) (rawName_al hn)
              refine ⟨fun x hx => ?_, apart_cons ?_ (.inl (by simp)), fun x hx => by injection hx with hx; subst hx; simp, ?_⟩
              · rcases List.mem_cons.1 hx with rfl | hx
                · exact hok
                rcases List.mem_append.1 hx with hx | hx
                · exact ok_raw _ _ x hx
                · exact g1 x hx
              · unfold rawToks
                split
                · exact g2
                · exact apart_cons g2 (.inr hh)
              · have hraw : (rawToks n (rawText n rest).1).length + (rawText n rest).2.length ≤ rest.length := by
                  have hlen : (rawText n rest).1.length + (rawText n rest).2.length = rest.length := by
                    have := congrArg List.length (rawText_both n rest)
                    rwa [List.length_append] at this
                  unfold rawToks
                  split
                  · simp; omega
                  · rename_i h9
                    have : (rawText n rest).1.length ≠ 0 := fun e => h9 (List.eq_nil_of_length_eq_zero e)
                    simp only [List.length_cons, List.length_nil]
                    omega
                rw [List.length_cons, List.length_append, List.length_cons]
                omega
            · rw [if_neg hn]
              exact step1 _ rest hok (by simp) hsh
          | stop => rw [toksT_stop (he.trans hs)]; exact none1
          | text => unfold startI at hs; split at hs <;> cases hs
          | mark t rest => unfold startI at hs; split at hs <;> cases hs
          | close n rest => unfold startI at hs; split at hs <;> cases hs
        · obtain ⟨c, u, e1, ha, he⟩ := item_end h
          cases hs : closeI (c :: u) with
          | close n rest =>
            have hsh := item_shorter.2.1 n rest (he.trans hs)
            rw [toksT_close (he.trans hs)]
            refine step1 _ rest ?_ (by simp) hsh
            unfold closeI at hs
            cases hru : runM st0 (c :: u) with
            | none => rw [hru] at hs; cases hs
            | some x =>
              rw [hru] at hs
              obtain ⟨st, t⟩ := x
              simp only [Item.close.injEq] at hs
              obtain ⟨rfl, rfl⟩ := hs
              exact ⟨(fun h => by cases h), fun _ => low_ne (tname_ne ha hru), low_small _, List.Pairwise.nil⟩
          | stop => rw [toksT_stop (he.trans hs)]; exact none1
          | text => unfold closeI at hs; split at hs <;> cases hs
          | mark t rest => unfold closeI at hs; split at hs <;> cases hs
          | start n as s rest => unfold closeI at hs; split at hs <;> cases hs
        · exact absurd h h3
        · obtain ⟨find, u, he⟩ : ∃ find u, item (b :: r) = markI find u := by
            rcases item_mark h with ⟨_, e⟩ | ⟨_, _, e⟩ | ⟨_, _, e⟩ <;> exact ⟨_, _, e⟩
          have hsh := item_shorter.1 _ _ he
          rw [toksT_mark he]
          exact step1 _ _ ok_mark (by rw [mark_kind]; decide) hsh
      obtain ⟨k1, k2, k3, k4⟩ := key
      refine ⟨fun t ht => ?_, apart_chars k2 k3, ?_⟩
      · rcases List.mem_append.1 ht with ht | ht
        · exact ok_chars _ t ht
        · exact k1 t ht
      · rw [List.length_append, hch]
        omega
theorem toks_ok (l : List UInt8) : (∀ t ∈ toks l, OkTok t) ∧ apart (toks l) ∧ (toks l).length ≤ l.length := by
  obtain ⟨h1, h2, h3⟩ := toksT_ok l.length l [] (Nat.le_refl _)
  rw [if_pos rfl] at h3
  exact ⟨h1, h2, h3⟩
theorem apart_at : ∀ (l : List Tok) (i : Nat) (a b : Tok), apart l → l[i]? = some a → l[i + 1]? = some b → ¬ (a.kind = 3 ∧ b.kind = 3)
  | [], i, a, b, _, h, _ => by cases h
  | [x], i, a, b, _, h, h2 => by cases i <;> simp at h2
  | x :: y :: l, 0, a, b, h, h1, h2 => by
    simp only [List.getElem?_cons_zero, Option.some.injEq, Nat.zero_add, List.getElem?_cons_succ] at h1 h2
    subst h1; subst h2
    exact h.1
  | x :: y :: l, i + 1, a, b, h, h1, h2 => by
    simp only [List.getElem?_cons_succ] at h1 h2
    exact apart_at (y :: l) i a b h.2 (by simpa using h1) (by simpa using h2)

end U
end Go.Proofs.YtmfkefcdddoooaaGreatDoor

/- Several texts in one: FaultAt, EmitText, KindMath, Runes. -/
import Derived.Test.YtfockedeikdbjaaGreatDoorP02
import Derived.Test.YtfockedeikdbjaaGreatDoorP00
namespace Go.Proofs.YtfockedeikdbjaaGreatDoor
namespace U

/-- does a text end the list -/
def endB (l : List Tk) : Bool := match l.getLast? with
  | some t => t.kind == 3
  | none => false
theorem endB_zero (l : List Tk) : endB (l.take 0) = false := by rw [List.take_zero]; rfl
theorem endB_succ {l : List Tk} {k : Nat} {t : Tk} (h : l[k]? = some t) : endB (l.take (k + 1)) = (t.kind == 3) := by
  obtain ⟨hk, e⟩ := List.getElem?_eq_some_iff.1 h
  unfold endB
  rw [List.take_succ_eq_append_getElem hk, e, List.getLast?_concat]
theorem faults_at {l : List Tk} {k : Nat} {t : Tk} (prev : Bool) (h : l[k]? = some t) : faults prev (l.drop k) = if faultAt prev t (l.drop (k + 1)) = 0 then faults (t.kind == 3) (l.drop (k + 1)) else faultAt prev t (l.drop (k + 1)) := by
  obtain ⟨hk, e⟩ := List.getElem?_eq_some_iff.1 h
  rw [List.drop_eq_getElem_cons hk, e, faults_cons]
theorem faults_go {l : List Tk} {k R : Nat} {t : Tk} (h : l[k]? = some t) (hR : faults (endB (l.take k)) (l.drop k) = R) (h0 : faultAt (endB (l.take k)) t (l.drop (k + 1)) = 0) : faults (endB (l.take (k + 1))) (l.drop (k + 1)) = R := by
  rw [faults_at _ h, if_pos h0] at hR
  rw [endB_succ h]
  exact hR
theorem faults_stop {l : List Tk} {k R m : Nat} {t : Tk} (h : l[k]? = some t) (hR : faults (endB (l.take k)) (l.drop k) = R) (h0 : faultAt (endB (l.take k)) t (l.drop (k + 1)) = m) (hm : m ≠ 0) : R = m := by
  rw [faults_at _ h, h0, if_neg hm] at hR
  exact hR.symm
theorem isEndB_none {l : List Tk} {k : Nat} (n : List UInt8) (h : l.length ≤ k) : isEndB n (l.drop k) = false := by
  rw [List.drop_eq_nil_of_le h]; rfl
theorem isEndB_some {l : List Tk} {k : Nat} {t : Tk} (n : List UInt8) (h : l[k]? = some t) : isEndB n (l.drop k) = (t.kind == 2 && t.name == n) := by
  obtain ⟨hk, e⟩ := List.getElem?_eq_some_iff.1 h
  rw [List.drop_eq_getElem_cons hk, e]; rfl
variable {prev : Bool} {t : Tk} {r : List Tk}
theorem faultAt_kind (h1 : t.kind ≠ 1) (h2 : t.kind ≠ 2) (h3 : t.kind ≠ 3) (h4 : t.kind ≠ 4) : faultAt prev t r = 3 := by
  unfold faultAt
  rw [if_neg (by omega), if_neg (by omega)]
theorem faultAt_name (h : t.kind = 1 ∨ t.kind = 2) (hn : isName t.name = false) : faultAt prev t r = 5 := by
  unfold faultAt namesFault
  rw [if_pos h, hn]
  rfl
theorem faultAt_atts (h : t.kind = 1 ∨ t.kind = 2) (hn : isName t.name = true) (ha : attrsFault t.attrs ≠ 0) : faultAt prev t r = attrsFault t.attrs := by
  unfold faultAt namesFault
  rw [if_pos h, if_pos hn, if_neg ha]
theorem faultAt_tag (h : t.kind = 1 ∨ t.kind = 2) (hn : isName t.name = true) (ha : attrsFault t.attrs = 0) : faultAt prev t r = form4 prev t r := by
  unfold faultAt namesFault
  rw [if_pos h, if_pos hn, if_pos ha]
theorem faultAt_text (h : t.kind = 3 ∨ t.kind = 4) : faultAt prev t r = form4 prev t r := by
  unfold faultAt
  rw [if_neg (by omega), if_pos h]
theorem form4_no (h : formOk prev t r = false) : form4 prev t r = 4 := by unfold form4; rw [h]; rfl
theorem form4_yes (h : formOk prev t r = true) : form4 prev t r = 0 := by unfold form4; rw [h]; rfl
theorem formOk_one (h : t.kind = 1) : formOk prev t r = (t.text.isEmpty && (!rawName t.name || isEndB t.name r)) := by unfold formOk; rw [if_pos h]
theorem formOk_two (h : t.kind = 2) : formOk prev t r = (t.text.isEmpty && (t.attrs.isEmpty && !t.self)) := by unfold formOk; rw [if_neg (by omega), if_pos h]
theorem formOk_three (h : t.kind = 3) : formOk prev t r = (!t.text.isEmpty && (t.name.isEmpty && (t.attrs.isEmpty && !t.self && !prev))) := by unfold formOk; rw [if_neg (by omega), if_neg (by omega), if_pos h]
theorem formOk_four (h : t.kind = 4) : formOk prev t r = false := by unfold formOk; rw [if_neg (by omega), if_neg (by omega), if_neg (by omega)]
theorem rawName_cases {n : List UInt8} (h : rawName n = true) : n = [115, 99, 114, 105, 112, 116] ∨ n = [115, 116, 121, 108, 101] ∨ n = [116, 101, 120, 116, 97, 114, 101, 97] ∨ n = [116, 105, 116, 108, 101] := by
  unfold rawName at h
  simp only [Bool.or_eq_true, beq_iff_eq] at h
  rcases h with ((h | h) | h) | h
  · exact .inl h
  · exact .inr (.inl h)
  · exact .inr (.inr (.inl h))
  · exact .inr (.inr (.inr h))
theorem rawName_no {n : List UInt8} (h : rawName n = false) : (n == [115, 99, 114, 105, 112, 116]) = false ∧ (n == [115, 116, 121, 108, 101]) = false ∧ (n == [116, 101, 120, 116, 97, 114, 101, 97]) = false ∧ (n == [116, 105, 116, 108, 101]) = false := by
  unfold rawName at h
  simp only [Bool.or_eq_false_iff] at h
  exact ⟨h.1.1.1, h.1.1.2, h.1.2, h.2⟩

end U
end Go.Proofs.YtfockedeikdbjaaGreatDoor

namespace Go.Proofs.YtfockedeikdbjaaGreatDoor
namespace U

def textOf (l : List Tk) : List UInt8 × Nat := if fault l = 0 then (if 600 < (emit (l.map Tk.tok)).length then ([], 1) else (emit (l.map Tk.tok), 0)) else ([], fault l)
/-- an attribute, a token as they are written with their texts cut -/
def attC (a : Att) : List UInt8 := 32 :: (a.1 ++ 61 :: 34 :: (esc true (a.2.take 601) ++ [34]))
def startC (n : List UInt8) (al : List Att) (self : Bool) : List UInt8 := 60 :: (n ++ (al.flatMap attC ++ tailE self))
def tokC (t : Tk) : List UInt8 := if t.kind = 3 then esc false (t.text.take 601) else if t.kind = 2 then endE t.name else startC t.name t.attrs t.self

theorem esc_take (q : Bool) (v : List UInt8) : (esc q (v.take 601)).length ≤ (esc q v).length ∧ ((esc q (v.take 601)).length ≤ 600 → esc q (v.take 601) = esc q v) := by
  have h : esc q v = esc q (v.take 601) ++ esc q (v.drop 601) := by rw [← esc_append, List.take_append_drop]
  refine ⟨by rw [h, List.length_append]; omega, fun hl => ?_⟩
  have h1 := (esc_length q (v.take 601)).1
  rw [List.take_of_length_le (by rw [List.length_take] at h1; omega)]
theorem attC_cut (a : Att) : (attC a).length ≤ (attE a).length ∧ ((attC a).length ≤ 600 → attC a = attE a) := by
  obtain ⟨h1, h2⟩ := esc_take true a.2
  have l1 : (attC a).length = a.1.length + (esc true (a.2.take 601)).length + 4 := by simp [attC]; omega
  have l2 : (attE a).length = a.1.length + (esc true a.2).length + 4 := by simp [attE]; omega
  refine ⟨by omega, fun h => ?_⟩
  unfold attC attE
  rw [h2 (by omega)]
theorem atts_cut (al : List Att) : (al.flatMap attC).length ≤ (al.flatMap attE).length ∧ ((al.flatMap attC).length ≤ 600 → al.flatMap attC = al.flatMap attE) := by
  induction al with
  | nil => exact ⟨Nat.le_refl _, fun _ => rfl⟩
  | cons a r ih =>
    obtain ⟨h1, h2⟩ := attC_cut a
    have e1 : (a :: r).flatMap attC = attC a ++ r.flatMap attC := by simp
    have e2 : (a :: r).flatMap attE = attE a ++ r.flatMap attE := by simp
    rw [e1, e2, List.length_append, List.length_append]
    refine ⟨by omega, fun h => ?_⟩
    rw [h2 (by omega), ih.2 (by omega)]
theorem tokC_cut {t : Tk} (hk : t.kind = 1 ∨ t.kind = 2 ∨ t.kind = 3) : (tokC t).length ≤ (tokE t.tok).length ∧ ((tokC t).length ≤ 600 → tokC t = tokE t.tok) := by
  obtain ⟨kind, name, attrs, self, text⟩ := t
  simp only at hk
  rcases hk with rfl | rfl | rfl
  · have e1 : tokC ⟨1, name, attrs, self, text⟩ = startC name attrs self := rfl
    have e2 : tokE (Tk.tok ⟨1, name, attrs, self, text⟩) = startE name attrs self := rfl
    obtain ⟨h1, h2⟩ := atts_cut attrs
    rw [e1, e2]
    have l1 : (startC name attrs self).length = name.length + (attrs.flatMap attC).length + (tailE self).length + 1 := by simp only [startC, List.length_cons, List.length_append]; omega
    have l2 : (startE name attrs self).length = name.length + (attrs.flatMap attE).length + (tailE self).length + 1 := by simp only [startE, List.length_cons, List.length_append]; omega
    refine ⟨by omega, fun h => ?_⟩
    unfold startC startE
    rw [h2 (by omega)]
  · have e1 : tokC ⟨2, name, attrs, self, text⟩ = endE name := rfl
    have e2 : tokE (Tk.tok ⟨2, name, attrs, self, text⟩) = endE name := rfl
    rw [e1, e2]
    exact ⟨Nat.le_refl _, fun _ => rfl⟩
  · have e1 : tokC ⟨3, name, attrs, self, text⟩ = esc false (text.take 601) := rfl
    have e2 : tokE (Tk.tok ⟨3, name, attrs, self, text⟩) = esc false text := rfl
    rw [e1, e2]
    exact esc_take false text
/-- what each token is where nothing is refused -/
theorem faults_tok : ∀ (l : List Tk) (prev : Bool), faults prev l = 0 → ∀ t ∈ l, t.kind = 3 ∨ (t.kind = 2 ∧ isName t.name = true ∧ attsOk t.attrs) ∨ (t.kind = 1 ∧ isName t.name = true ∧ attsOk t.attrs)
  | [], _, _, t, ht => by cases ht
  | a :: r, prev, h, t, ht => by
    rw [faults_cons] at h
    split at h
    · rename_i h0
      rcases List.mem_cons.1 ht with rfl | ht
      · unfold faultAt at h0
        by_cases h12 : t.kind = 1 ∨ t.kind = 2
        · rw [if_pos h12] at h0
          split at h0
          · rename_i hn
            obtain ⟨h1, h2⟩ := namesFault_zero.1 hn
            rcases h12 with k | k
            · exact .inr (.inr ⟨k, h1, h2⟩)
            · exact .inr (.inl ⟨k, h1, h2⟩)
          · rename_i hn; exact absurd h0 hn
        · rw [if_neg h12] at h0
          by_cases h34 : t.kind = 3 ∨ t.kind = 4
          · rcases h34 with k | k
            · exact .inl k
            · rw [if_pos (.inr k), form4_zero, formOk_four k] at h0
              cases h0
          · rw [if_neg h34] at h0
            cases h0
      · exact faults_tok r _ h t ht
    · rename_i h0; exact absurd h h0
theorem isName_le {n : List UInt8} (h : isName n = true) : n.length ≤ 12 := by
  cases n with
  | nil => exact Nat.zero_le _
  | cons c r =>
    unfold isName at h
    rw [Bool.and_eq_true, decide_eq_true_eq] at h
    rw [List.length_cons]
    omega
theorem emit_take {l : List Tk} {k : Nat} {t : Tk} (h : l[k]? = some t) : emit ((l.take (k + 1)).map Tk.tok) = emit ((l.take k).map Tk.tok) ++ tokE t.tok := by
  obtain ⟨hk, e⟩ := List.getElem?_eq_some_iff.1 h
  rw [List.take_succ_eq_append_getElem hk, e, List.map_append, emit_append]
  congr 1
  simp [emit]
theorem emit_le (l : List Tk) (k : Nat) : (emit ((l.take k).map Tk.tok)).length ≤ (emit (l.map Tk.tok)).length := by
  have h : emit (l.map Tk.tok) = emit ((l.take k).map Tk.tok) ++ emit ((l.drop k).map Tk.tok) := by rw [← emit_append, ← List.map_append, List.take_append_drop]
  rw [h, List.length_append]
  omega

end U
end Go.Proofs.YtfockedeikdbjaaGreatDoor

namespace Go.Proofs.YtfockedeikdbjaaGreatDoor
namespace U

def kOk (t : Tok) : Prop := 1 ≤ t.kind ∧ t.kind ≤ 4
theorem kinds_chars (txt : List UInt8) : ∀ t ∈ chars txt, kOk t := by
  intro t ht
  unfold chars at ht
  split at ht
  · cases ht
  · obtain rfl := List.mem_singleton.1 ht; exact ⟨by show 1 ≤ 3; decide, by show 3 ≤ 4; decide⟩
theorem kinds_raw (n raw : List UInt8) : ∀ t ∈ rawToks n raw, kOk t := by
  intro t ht
  unfold rawToks at ht
  split at ht
  · cases ht
  · obtain rfl := List.mem_singleton.1 ht; exact ⟨by show 1 ≤ 3; decide, by show 3 ≤ 4; decide⟩
theorem toksT_kinds : ∀ (m : Nat) (l txt : List UInt8), l.length ≤ m → ∀ t ∈ toksT txt l, kOk t
  | 0, l, txt, hm => by
    obtain rfl : l = [] := List.eq_nil_of_length_eq_zero (by omega)
    intro t ht
    rw [toksT_nil] at ht
    exact kinds_chars _ t ht
  | m + 1, [], txt, hm => by
    intro t ht
    rw [toksT_nil] at ht
    exact kinds_chars _ t ht
  | m + 1, b :: r, txt, hm => by
    have hr : r.length ≤ m := by simpa using hm
    by_cases h3 : kindOf (b :: r) = 3
    · rw [toksT_text txt rfl (item_text h3)]
      exact toksT_kinds m r _ hr
    · rw [toksT_flush txt (.inr (item_notext h3))]
      intro t ht
      rcases List.mem_append.1 ht with ht | ht
      · exact kinds_chars _ t ht
      have one : ∀ rest : List UInt8, rest.length < (b :: r).length → t ∈ toksT [] rest → kOk t := by
        intro rest hl h
        exact toksT_kinds m rest [] (by rw [List.length_cons] at hl; omega) t h
      rcases kindOf_cases (b :: r) with h | h | h | h
      · obtain ⟨c, u, e1, ha, he⟩ := item_start h
        unfold startI at he
        cases hru : runM st0 (c :: u) with
        | none => rw [hru] at he; rw [toksT_stop he] at ht; cases ht
        | some x =>
          obtain ⟨st, rest⟩ := x
          rw [hru] at he
          have hsh := item_shorter.2.2 _ _ _ _ he
          have hle := rawText_le (low st.tname) rest
          rw [toksT_start he] at ht
          rcases List.mem_cons.1 ht with rfl | ht
          · exact ⟨by show 1 ≤ 1; decide, by show 1 ≤ 4; decide⟩
          · split at ht
            · rcases List.mem_append.1 ht with ht | ht
              · exact kinds_raw _ _ t ht
              · exact one _ (by omega) ht
            · exact one _ hsh ht
      · obtain ⟨c, u, e1, ha, he⟩ := item_end h
        unfold closeI at he
        cases hru : runM st0 (c :: u) with
        | none => rw [hru] at he; rw [toksT_stop he] at ht; cases ht
        | some x =>
          obtain ⟨st, rest⟩ := x
          rw [hru] at he
          have hsh := item_shorter.2.1 _ _ he
          rw [toksT_close he] at ht
          rcases List.mem_cons.1 ht with rfl | ht
          · exact ⟨by show 1 ≤ 2; decide, by show 2 ≤ 4; decide⟩
          · exact one _ hsh ht
      · exact absurd h h3
      · obtain ⟨find, u, he⟩ : ∃ find u, item (b :: r) = markI find u := by
          rcases item_mark h with ⟨_, e⟩ | ⟨_, _, e⟩ | ⟨_, _, e⟩ <;> exact ⟨_, _, e⟩
        have hsh := item_shorter.1 _ _ he
        rw [toksT_mark he] at ht
        rcases List.mem_cons.1 ht with rfl | ht
        · rw [kOk, mark_kind]; decide
        · exact one _ hsh ht
theorem toks_kinds (l : List UInt8) : ∀ t ∈ toks l, kOk t := toksT_kinds l.length l [] (Nat.le_refl _)
/-- what is asked of parsed tokens that are written -/
theorem parsed_text (l : List UInt8) : (textOf ((toks l).map Tok.tk)).2 = 0 ∨ ((textOf ((toks l).map Tok.tk)).2 = 1 ∨ (textOf ((toks l).map Tok.tk)).2 = 4 ∨ (textOf ((toks l).map Tok.tk)).2 = 5) := by
  have h := fault_parsed (toks_kinds l) (fun t ht => ((toks_ok l).1 t ht).once)
  unfold textOf
  split
  · split
    · exact .inr (.inl rfl)
    · exact .inl rfl
  · rcases h with h | h
    · exact absurd h (by assumption)
    · exact .inr h
theorem map_tok (ts : List Tok) : (ts.map Tok.tk).map Tk.tok = ts := by
  rw [List.map_map]
  exact List.map_id' ts
/-- a text that was written is read as what was written -/
theorem text_back {ts : List Tok} (h : (textOf (ts.map Tok.tk)).2 = 0) : (textOf (ts.map Tok.tk)).1 = emit ts ∧ (emit ts).length ≤ 600 ∧ toks (emit ts) = ts := by
  unfold textOf at h ⊢
  rw [map_tok] at h ⊢
  split at h
  · rename_i h0
    rw [if_pos h0]
    split at h
    · cases h
    · rename_i h6
      rw [if_neg h6]
      refine ⟨rfl, by omega, toks_emits ?_⟩
      have hl : ts.length ≤ 300 := by
        unfold fault at h0
        split at h0
        · cases h0
        · rename_i h3; rw [List.length_map] at h3; omega
      exact (fault_ok hl).1 h0
  · rename_i h0
    exact absurd h h0

end U
end Go.Proofs.YtfockedeikdbjaaGreatDoor

namespace Go.Proofs.YtfockedeikdbjaaGreatDoor
namespace U

theorem bad_len : bad.2 = 1 := rfl

/-- the width: one to four bytes, and no more than there are -/
theorem dec_width (l : List UInt8) (hl : l ≠ []) : 1 ≤ (dec l).2 ∧ (dec l).2 ≤ 4 ∧ (dec l).2 ≤ l.length := by
  have h1 : 1 ≤ l.length := by cases l with | nil => exact absurd rfl hl | cons a r => simp
  rcases dec_spec l hl with h | ⟨n, r, _, e, h⟩
  · rw [h]; exact ⟨Nat.le_refl _, by decide, h1⟩
  · rw [h]
    have h2 := enc_length n
    have h3 : l.length = (enc n).length + r.length := by rw [e]; simp
    simp only
    omega

theorem dec_isL (l : List UInt8) (hl : l ≠ []) : isL (dec l).1 = true := by
  rcases dec_spec l hl with h | ⟨n, r, hn, e, h⟩
  · rw [h]; decide
  · rw [h]; exact hn

/-- the code points of bytes, by at most so many steps -/
def runesF : Nat → List UInt8 → List Nat
  | 0, _ => []
  | f + 1, l => if l = [] then [] else (dec l).1 :: runesF f (l.drop (dec l).2)
/-- the code points of bytes -/
def runes (l : List UInt8) : List Nat := runesF l.length l

theorem runesF_nil (f : Nat) : runesF f [] = [] := by cases f <;> simp [runesF]
theorem runesF_more : ∀ (f : Nat) (l : List UInt8), l.length ≤ f → runesF f l = runesF l.length l
  | 0, l, h => by
    have : l = [] := List.length_eq_zero_iff.1 (by omega)
    subst this; rfl
  | f + 1, l, h => by
    by_cases hl : l = []
    · subst hl; simp [runesF]
    · have hw := dec_width l hl
      have hd : (l.drop (dec l).2).length = l.length - (dec l).2 := by simp
      obtain ⟨k, hk⟩ : ∃ k, l.length = k + 1 := ⟨l.length - 1, by omega⟩
      rw [hk]
      simp only [runesF, if_neg hl]
      rw [runesF_more f (l.drop (dec l).2) (by omega), runesF_more k (l.drop (dec l).2) (by omega)]
theorem runes_of_fuel {f : Nat} {l : List UInt8} (h : l.length ≤ f) : runesF f l = runes l := runesF_more f l h
theorem runes_nil : runes [] = [] := rfl
theorem runes_cons {l : List UInt8} (hl : l ≠ []) : runes l = (dec l).1 :: runes (l.drop (dec l).2) := by
  have hw := dec_width l hl
  have hd : (l.drop (dec l).2).length = l.length - (dec l).2 := by simp
  have hk : ∃ k, l.length = k + 1 := ⟨l.length - 1, by omega⟩
  obtain ⟨k, hk⟩ := hk
  unfold runes
  rw [hk]
  simp only [runesF, if_neg hl]
  rw [runesF_more k _ (by omega)]

/-- an induction along the code points -/
theorem rec_runes {P : List UInt8 → Prop} (h0 : P []) (h1 : ∀ l, l ≠ [] → P (l.drop (dec l).2) → P l) : ∀ l, P l := by
  have key : ∀ (n : Nat) (l : List UInt8), l.length ≤ n → P l := by
    intro n
    induction n with
    | zero => intro l h; have : l = [] := List.length_eq_zero_iff.1 (by omega); subst this; exact h0
    | succ n ih =>
      intro l h
      by_cases hl : l = []
      · subst hl; exact h0
      · have hw := dec_width l hl
        exact h1 l hl (ih _ (by rw [List.length_drop]; omega))
  exact fun l => key l.length l (Nat.le_refl _)

theorem runes_isL (l : List UInt8) : ∀ n ∈ runes l, isL n = true := by
  induction l using rec_runes with
  | h0 => intro n h; simp [runes_nil] at h
  | h1 l hl ih =>
    intro n h
    rw [runes_cons hl] at h
    rcases List.mem_cons.1 h with h | h
    · rw [h]; exact dec_isL l hl
    · exact ih n h

theorem runes_enc {n : Nat} (h : isL n = true) (r : List UInt8) : runes (enc n ++ r) = n :: runes r := by
  have hne : enc n ++ r ≠ [] := by
    have h1 := (enc_length n).1
    intro e
    have h2 := congrArg List.length e
    rw [List.length_append, List.length_nil] at h2
    omega
  rw [runes_cons hne, dec_enc n h r]
  simp

/-- the encoding of code points -/
def encs (l : List Nat) : List UInt8 := l.flatMap enc
theorem encs_nil : encs [] = [] := rfl
theorem encs_cons (n : Nat) (l : List Nat) : encs (n :: l) = enc n ++ encs l := by simp [encs]
theorem encs_append (a b : List Nat) : encs (a ++ b) = encs a ++ encs b := by simp [encs]
theorem encs_length_ge (l : List Nat) : l.length ≤ (encs l).length := by
  induction l with
  | nil => simp
  | cons n l ih => have := (enc_length n).1; rw [encs_cons, List.length_append, List.length_cons]; omega
theorem encs_length_le (l : List Nat) : (encs l).length ≤ 4 * l.length := by
  induction l with
  | nil => simp [encs]
  | cons n l ih => have := (enc_length n).2; rw [encs_cons, List.length_append, List.length_cons]; omega

theorem runes_encs (a : List Nat) (h : ∀ n ∈ a, isL n = true) (r : List UInt8) : runes (encs a ++ r) = a ++ runes r := by
  induction a with
  | nil => simp [encs_nil]
  | cons n a ih =>
    rw [encs_cons, List.append_assoc, runes_enc (h n (List.mem_cons_self ..)), ih (fun m hm => h m (List.mem_cons_of_mem _ hm))]
    rfl

theorem runes_encs' (a : List Nat) (h : ∀ n ∈ a, isL n = true) : runes (encs a) = a := by
  have := runes_encs a h []
  simpa [runes_nil] using this

/-- one encoding for one list of code points -/
theorem encs_inj {a b : List Nat} (ha : ∀ n ∈ a, isL n = true) (hb : ∀ n ∈ b, isL n = true) : encs a = encs b ↔ a = b :=
  ⟨fun h => by rw [← runes_encs' a ha, h, runes_encs' b hb], fun h => by rw [h]⟩

/-- how many: no more than bytes, and a fourth of the bytes at the least -/
theorem runes_length (l : List UInt8) : (runes l).length ≤ l.length ∧ l.length ≤ 4 * (runes l).length := by
  induction l using rec_runes with
  | h0 => simp [runes_nil]
  | h1 l hl ih =>
    have hw := dec_width l hl
    rw [runes_cons hl, List.length_cons]
    rw [List.length_drop] at ih
    omega

/-- two texts, one behind the other: what is read of the first, as long as it lies in the first -/
theorem dec_append (s t : List UInt8) (hs : s ≠ []) (h : (dec (s ++ t)).2 ≤ s.length) : dec s = dec (s ++ t) := by
  have hst : s ++ t ≠ [] := by simp [hs]
  rcases dec_spec (s ++ t) hst with e | ⟨n, r, hn, e, e2⟩
  · rcases dec_spec s hs with e' | ⟨m, q, hm, f, f2⟩
    · rw [e, e']
    · -- what the first alone begins with, both begin with
      have g := dec_enc m hm (q ++ t)
      rw [← List.append_assoc, ← f] at g
      rw [f2, g]
  · rw [e2] at h ⊢
    simp only at h
    have f : s = enc n ++ s.drop (enc n).length := by
      have h1 : (s ++ t).take (enc n).length = enc n := by rw [e]; simp
      rw [List.take_append_of_le_length h] at h1
      conv => lhs; rw [← List.take_append_drop (enc n).length s, h1]
    rw [f]
    exact dec_enc n hn _

/-- a byte that carries six bits begins nothing -/
theorem dec_six (b : UInt8) (r : List UInt8) (h : b.toNat / 64 = 2) : dec (b :: r) = bad :=
  decN_no (by rw [at_zero]; omega) (by rw [at_zero, Bool.and_eq_false_iff]; left; simp; omega) (by rw [at_zero, Bool.and_eq_false_iff, Bool.and_eq_false_iff]; left; left; simp; omega) (by rw [at_zero, Bool.and_eq_false_iff, Bool.and_eq_false_iff, Bool.and_eq_false_iff]; left; left; left; simp; omega)

theorem runes_six (c r : List UInt8) (h : ∀ b ∈ c, b.toNat / 64 = 2) : (runes (c ++ r)).length = c.length + (runes r).length := by
  induction c with
  | nil => simp
  | cons b c ih =>
    rw [List.cons_append, runes_cons (by simp), dec_six b _ (h b (List.mem_cons_self ..))]
    show ((65533 : Nat) :: runes (List.drop 1 (b :: (c ++ r)))).length = _
    rw [List.drop_one, List.tail_cons, List.length_cons, List.length_cons, ih (fun x hx => h x (List.mem_cons_of_mem _ hx))]
    omega

/-- behind its first byte an encoding carries six bits a byte -/
theorem enc_tail (n : Nat) : ∀ b ∈ (enc n).drop 1, b.toNat / 64 = 2 := by
  intro b hb
  by_cases h1 : n < 128
  · rw [enc_one h1] at hb; simp at hb
  by_cases h2 : n < 2048
  · rw [enc_two (by omega) h2] at hb; simp at hb; subst hb; simp; omega
  by_cases h3 : n < 65536
  · rw [enc_three (by omega) h3] at hb; simp at hb; rcases hb with rfl | rfl <;> (simp; omega)
  · rw [enc_four (by omega)] at hb; simp at hb; rcases hb with rfl | rfl | rfl <;> (simp; omega)

/-- an encoding that is cut off is passed over byte by byte -/
theorem runes_cut {n : Nat} (hn : isL n = true) {s t : List UInt8} (h : s ++ t = enc n) (ht : t ≠ []) : (runes s).length = s.length := by
  cases s with
  | nil => rfl
  | cons b s =>
    have hs6 : ∀ x ∈ s, x.toNat / 64 = 2 := fun x hx => enc_tail n x (by rw [← h]; simp; exact Or.inl hx |> fun h => by simpa using h)
    have hb : dec (b :: s) = bad := by
      rcases dec_spec (b :: s) (by simp) with e | ⟨m, q, hm, f, _⟩
      · exact e
      · exfalso
        have g := dec_enc m hm (q ++ t)
        rw [← List.append_assoc, ← f, h] at g
        have g2 := dec_enc n hn []
        rw [List.append_nil, g] at g2
        have h3 : (enc m).length = (enc n).length := congrArg Prod.snd g2
        have h4 : (enc n).length = (b :: s).length + t.length := by rw [← h, List.length_append]
        have h5 : (b :: s).length = (enc m).length + q.length := by rw [f, List.length_append]
        have h6 : 0 < t.length := List.length_pos_iff.2 ht
        omega
    rw [runes_cons (by simp), hb]
    show ((65533 : Nat) :: runes (List.drop 1 (b :: s))).length = _
    have := runes_six s [] hs6
    rw [List.append_nil] at this
    rw [List.drop_one, List.tail_cons, List.length_cons, List.length_cons, this, runes_nil]
    simp

/-- of two texts, one behind the other, there are no more than of both by themselves, and at most three fewer -/
theorem runes_append_length (s t : List UInt8) : (runes (s ++ t)).length ≤ (runes s).length + (runes t).length ∧ (runes s).length + (runes t).length ≤ (runes (s ++ t)).length + 3 := by
  induction s using rec_runes with
  | h0 => simp [runes_nil]
  | h1 s hs ih =>
    have hst : s ++ t ≠ [] := by simp [hs]
    by_cases h : (dec (s ++ t)).2 ≤ s.length
    · have e := dec_append s t hs h
      rw [runes_cons hst, runes_cons hs, ← e, List.drop_append_of_le_length (by rw [e]; exact h), List.length_cons, List.length_cons]
      omega
    · rcases dec_spec (s ++ t) hst with e | ⟨n, r, hn, e, e2⟩
      · rw [e] at h
        have : 0 < s.length := List.length_pos_iff.2 hs
        simp only [bad] at h
        omega
      · rw [e2] at h
        simp only at h
        -- the encoding begins in the first and ends in the second
        have f1 : enc n = s ++ t.take ((enc n).length - s.length) := by
          have h1 : (s ++ t).take (enc n).length = enc n := by rw [e]; simp
          rw [List.take_append, List.take_of_length_le (by omega)] at h1
          exact h1.symm
        have f2 : t = t.take ((enc n).length - s.length) ++ r := by
          have h1 : (s ++ t).drop (enc n).length = r := by rw [e]; simp
          rw [List.drop_append, List.drop_of_length_le (by omega), List.nil_append] at h1
          conv => lhs; rw [← List.take_append_drop ((enc n).length - s.length) t, h1]
        generalize t.take ((enc n).length - s.length) = c at f1 f2
        have hc0 : c ≠ [] := by
          rintro rfl
          rw [f1] at h
          simp at h
        have hs1 : 0 < s.length := List.length_pos_iff.2 hs
        have hc6 : ∀ x ∈ c, x.toNat / 64 = 2 := fun x hx => enc_tail n x (by
          rw [f1]
          obtain ⟨b, q, rfl⟩ := List.exists_cons_of_ne_nil hs
          simp
          exact Or.inr hx)
        have c1 := runes_cut hn f1.symm hc0
        have c2 := runes_six c r hc6
        have c3 := (enc_length n).2
        have c4 : (enc n).length = s.length + c.length := by rw [f1, List.length_append]
        have c5 : 0 < c.length := List.length_pos_iff.2 hc0
        rw [e, runes_enc hn, List.length_cons, c1, f2, c2]
        omega

end U
end Go.Proofs.YtfockedeikdbjaaGreatDoor

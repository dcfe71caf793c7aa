/- Plain mathematics: what comes later changes nothing but the last token. -/
import Derived.Test.YtkmjngpgngkalaaDoorToksMath
namespace Go.Proofs.YtkmjngpgngkalaaDoor
namespace U

theorem runM_more : ∀ (l : List UInt8) (st : St) {st' : St} {r : List UInt8}, runM st l = some (st', r) → ∀ e, runM st (l ++ e) = some (st', r ++ e)
  | [], st, _, _, h, e => by cases h
  | b :: l, st, st', r, h, e => by
    rw [List.cons_append, runM]
    rw [runM] at h
    cases hs : step st b with
    | go s =>
      rw [hs] at h
      exact runM_more l s h e
    | fin s =>
      rw [hs] at h
      simp only [Option.some.injEq, Prod.mk.injEq] at h
      obtain ⟨rfl, rfl⟩ := h
      rfl
    | again s =>
      rw [hs] at h
      simp only at h ⊢
      cases hs2 : step s b with
      | go s2 =>
        rw [hs2] at h
        exact runM_more l s2 h e
      | fin s2 =>
        rw [hs2] at h
        simp only [Option.some.injEq, Prod.mk.injEq] at h
        obtain ⟨rfl, rfl⟩ := h
        rfl
      | again s2 => rw [hs2] at h; cases h

theorem placeOf_more {find : List UInt8} (hf : find ≠ []) : ∀ (l e : List UInt8) {k : Nat}, placeOf find l = some k → placeOf find (l ++ e) = some k
  | [], e, k, h => by rw [placeOf, if_neg hf] at h; cases h
  | b :: r, e, k, h => by
    have hle := placeOf_le hf h
    rw [placeOf] at h
    have ht : ((b :: r) ++ e).take find.length = (b :: r).take find.length := by rw [List.take_append_of_le_length (by omega)]
    rw [List.cons_append] at ht
    rw [List.cons_append, placeOf, ht]
    split at h
    · rename_i h1; rw [if_pos h1]; exact h
    · rename_i h1
      rw [if_neg h1]
      cases hp : placeOf find r with
      | none => rw [hp] at h; cases h
      | some j =>
        rw [hp] at h
        rw [placeOf_more hf r e hp]
        exact h

theorem kindOf_more {l : List UInt8} (e : List UInt8) (h : kindOf l ≠ 3) : kindOf (l ++ e) = kindOf l := by
  match l, h with
  | [], h => exact absurd rfl h
  | [a], h => exact absurd rfl h
  | a :: c :: [], h =>
    rw [kindOf_cons] at h
    simp only [List.cons_append, List.nil_append]
    rw [kindOf_cons, kindOf_cons]
    split
    · rfl
    rename_i h1
    rw [if_neg h1] at h
    split
    · rfl
    rename_i h2
    rw [if_neg h2] at h
    split
    · rfl
    rename_i h3
    rw [if_neg h3] at h
    split
    · rename_i h4
      rw [if_pos h4] at h
      exact absurd rfl h
    · rfl
  | a :: c :: d :: r, h => rfl
theorem kindOf_text {l : List UInt8} (e : List UInt8) (h : kindOf l = 3) (h0 : l ≠ []) (h1 : l ≠ [60]) (h2 : l ≠ [60, 47]) : kindOf (l ++ e) = 3 := by
  match l, h, h0, h1, h2 with
  | [a], h, h0, h1, h2 =>
    have ha : a ≠ 60 := fun e => h1 (by rw [e])
    cases e with
    | nil => rfl
    | cons c r => show kindOf (a :: c :: r) = 3; rw [kindOf_cons, if_pos ha]
  | a :: c :: [], h, h0, h1, h2 =>
    simp only [List.cons_append, List.nil_append]
    rw [kindOf_cons] at h ⊢
    split
    · rfl
    rename_i g1
    rw [if_neg g1] at h
    split
    · rename_i g2; rw [if_pos g2] at h; exact h
    rename_i g2
    rw [if_neg g2] at h
    split
    · rename_i g3; rw [if_pos g3] at h; exact h
    rename_i g3
    rw [if_neg g3] at h
    split
    · rename_i g4
      exact absurd (by rw [g4, show a = 60 by simpa using g1]) h2
    · rfl
  | a :: c :: d :: r, h, _, _, _ => exact h

theorem chars_le (txt : List UInt8) : (chars txt).length ≤ 1 := by unfold chars; split <;> simp
theorem dropLast_le {α : Type} {l : List α} (h : l.length ≤ 1) : l.dropLast = [] := by
  match l, h with
  | [], _ => rfl
  | [a], _ => rfl
theorem dropLast_ahead {a x y : List Tok} (ha : a.length ≤ 1) (h : ∃ z, y = x.dropLast ++ z) : ∃ z, a ++ y = (a ++ x).dropLast ++ z := by
  obtain ⟨z, rfl⟩ := h
  by_cases hx : x = []
  · subst hx
    rw [List.append_nil, dropLast_le ha]
    exact ⟨_, rfl⟩
  · rw [List.dropLast_append_of_ne_nil hx]
    exact ⟨z, by simp⟩
theorem rawToks_le (n raw : List UInt8) : (rawToks n raw).length ≤ 1 := by unfold rawToks; split <;> simp
theorem rawEnd_more {n l : List UInt8} (e : List UInt8) (h : rawEnd n l = true) : rawEnd n (l ++ e) = true := by
  unfold rawEnd at h ⊢
  cases hd : l.drop (2 + n.length) with
  | nil => rw [hd] at h; cases h
  | cons c r =>
    have hl : 2 + n.length < l.length := by
      have := congrArg List.length hd
      simp only [List.length_drop, List.length_cons] at this
      omega
    rw [hd] at h
    rw [List.drop_append_of_le_length (by omega), hd, List.take_append_of_le_length (by omega), List.drop_append_of_le_length (by omega), List.take_append_of_le_length (by rw [List.length_drop]; omega)]
    exact h
theorem rawEnd_less {n l : List UInt8} (e : List UInt8) (hl : 2 + n.length < l.length) : rawEnd n (l ++ e) = rawEnd n l := by
  unfold rawEnd
  rw [List.drop_append_of_le_length (by omega)]
  cases hd : l.drop (2 + n.length) with
  | nil => have := congrArg List.length hd; simp only [List.length_drop, List.length_nil] at this; omega
  | cons c r =>
    simp only [List.cons_append]
    rw [List.take_append_of_le_length (by omega), List.drop_append_of_le_length (by omega), List.take_append_of_le_length (by rw [List.length_drop]; omega)]
theorem rawText_rest : ∀ (n l : List UInt8), (rawText n l).2 ≠ [] → rawEnd n (rawText n l).2 = true
  | n, [], h => absurd rfl h
  | n, b :: r, h => by
    rw [rawText] at h ⊢
    split at h
    · rename_i h1; rw [if_pos h1]; exact h1
    · rename_i h1; rw [if_neg h1]; exact rawText_rest n r h
theorem rawEnd_long {n l : List UInt8} (h : rawEnd n l = true) : 2 + n.length < l.length := by
  unfold rawEnd at h
  cases hd : l.drop (2 + n.length) with
  | nil => rw [hd] at h; cases h
  | cons c r =>
    have := congrArg List.length hd
    simp only [List.length_drop, List.length_cons] at this
    omega
theorem rawText_more : ∀ (n l e : List UInt8), (rawText n l).2 ≠ [] → rawText n (l ++ e) = ((rawText n l).1, (rawText n l).2 ++ e)
  | n, [], e, h => absurd rfl h
  | n, b :: r, e, h => by
    rw [List.cons_append]
    by_cases h1 : rawEnd n (b :: r) = true
    · have h2 := rawEnd_more e h1
      rw [List.cons_append] at h2
      rw [rawText, rawText, if_pos h1, if_pos h2]
      rfl
    · have h3 : (rawText n r).2 ≠ [] := by rw [rawText, if_neg h1] at h; exact h
      have hlen : 2 + n.length < (b :: r).length := by
        have h4 := rawEnd_long (rawText_rest n r h3)
        have h5 := rawText_le n r
        rw [List.length_cons]
        omega
      have h2 := rawEnd_less e hlen
      rw [List.cons_append] at h2
      rw [rawText, rawText, if_neg h1, if_neg (by rw [h2]; exact h1), rawText_more n r e h3]

theorem startI_more {l n rest : List UInt8} {as : List Att} {s : Bool} (e : List UInt8) (h : startI l = .start n as s rest) : startI (l ++ e) = .start n as s (rest ++ e) := by
  unfold startI at h ⊢
  cases hr : runM st0 l with
  | none => rw [hr] at h; cases h
  | some x =>
    rw [hr] at h
    rw [runM_more l st0 hr e]
    simp only [Item.start.injEq] at h ⊢
    obtain ⟨h1, h2, h3, h4⟩ := h
    exact ⟨h1, h2, h3, by rw [h4]⟩
theorem closeI_more {l n rest : List UInt8} (e : List UInt8) (h : closeI l = .close n rest) : closeI (l ++ e) = .close n (rest ++ e) := by
  unfold closeI at h ⊢
  cases hr : runM st0 l with
  | none => rw [hr] at h; cases h
  | some x =>
    rw [hr] at h
    rw [runM_more l st0 hr e]
    simp only [Item.close.injEq] at h ⊢
    obtain ⟨h1, h4⟩ := h
    exact ⟨h1, by rw [h4]⟩
/-- a comment: open to the end, or closed for good -/
theorem mark_more {l : List UInt8} (h : kindOf l = 4) : (∃ t, item l = .mark t []) ∨ ∃ t rest, item l = .mark t rest ∧ ∀ e, item (l ++ e) = .mark t (rest ++ e) := by
  have key : ∀ (find : List UInt8) (j : Nat), find ≠ [] → item l = markI find (l.drop j) → j ≤ l.length → (∀ e, placeOf find (l.drop j) ≠ none → item (l ++ e) = markI find ((l ++ e).drop j)) →
      (∃ t, item l = .mark t []) ∨ ∃ t rest, item l = .mark t rest ∧ ∀ e, item (l ++ e) = .mark t (rest ++ e) := by
    intro find j hf he hj hm
    cases hp : placeOf find (l.drop j) with
    | none =>
      refine .inl ⟨⟨4, [], [], false, l.drop j⟩, ?_⟩
      rw [he]
      unfold markI remark
      rw [hp]
    | some k =>
      have hle := placeOf_le hf hp
      refine .inr ⟨⟨4, [], [], false, (l.drop j).take k⟩, (l.drop j).drop (k + find.length), ?_, fun e => ?_⟩
      · rw [he]
        unfold markI remark
        rw [hp]
      · rw [hm e (by rw [hp]; simp), List.drop_append_of_le_length hj]
        unfold markI remark
        rw [placeOf_more hf _ e hp]
        simp only
        rw [List.take_append_of_le_length (by omega), List.drop_append_of_le_length hle]
  have hk : ∀ e, kindOf (l ++ e) = 4 := fun e => by rw [kindOf_more e (by rw [h]; decide), h]
  have hl2 : 2 ≤ l.length := by
    match l, h with
    | a :: c :: r, _ => simp
  rcases item_mark h with ⟨h1, he⟩ | ⟨h1, h2, he⟩ | ⟨h1, h2, he⟩
  · have hl : 4 ≤ l.length := by
      have := congrArg List.length h1
      simp only [List.length_take, List.length_cons, List.length_nil] at this
      omega
    refine key _ 4 (by decide) he hl fun e _ => ?_
    have h4 : (l ++ e).take 4 = [60, 33, 45, 45] := by rw [List.take_append_of_le_length hl, h1]
    rcases item_mark (hk e) with ⟨_, g⟩ | ⟨g1, _, _⟩ | ⟨g1, _, _⟩
    · exact g
    · exact absurd h4 g1
    · exact absurd h4 g1
  · refine key _ 1 (by decide) he (by omega) fun e _ => ?_
    have h4 : (l ++ e).take 2 = [60, 63] := by rw [List.take_append_of_le_length hl2, h2]
    rcases item_mark (hk e) with ⟨g1, _⟩ | ⟨_, _, g⟩ | ⟨_, g2, _⟩
    · have := congrArg (List.take 2) g1
      rw [List.take_take] at this
      rw [show min 2 4 = 2 from rfl, h4] at this
      exact absurd this (by decide)
    · exact g
    · exact absurd h4 g2
  · refine key _ 2 (by decide) he hl2 fun e hp => ?_
    have h4 : (l ++ e).take 2 ≠ [60, 63] := by rw [List.take_append_of_le_length hl2]; exact h2
    rcases item_mark (hk e) with ⟨g1, _⟩ | ⟨_, g2, _⟩ | ⟨_, _, g⟩
    · exfalso
      match l, hl2, h1, hp, g1 with
      | [a, c], _, _, hp, _ => exact hp rfl
      | [a, c, d], _, _, hp, g1 =>
        have hd : d = 45 := by
          simp only [List.cons_append, List.nil_append, List.take_succ_cons, List.cons.injEq] at g1
          exact g1.2.2.1
        subst hd
        exact hp rfl
      | a :: c :: d :: f :: r, _, h1, _, g1 => exact h1 (by simpa using g1)
    · exact absurd g2 h4
    · exact g

theorem toksT_prefix : ∀ (m : Nat) (l txt e : List UInt8), l.length ≤ m → ∃ z, toksT txt (l ++ e) = (toksT txt l).dropLast ++ z
  | 0, l, txt, e, hm => by
    obtain rfl : l = [] := List.eq_nil_of_length_eq_zero (by omega)
    rw [toksT_nil, dropLast_le (chars_le txt)]
    exact ⟨_, rfl⟩
  | m + 1, [], txt, e, hm => by
    rw [toksT_nil, dropLast_le (chars_le txt)]
    exact ⟨_, rfl⟩
  | m + 1, b :: r, txt, e, hm => by
    have hr : r.length ≤ m := by simpa using hm
    by_cases h3 : kindOf (b :: r) = 3
    · by_cases h1 : b :: r = [60]
      · injection h1 with h1 h2
        subst h1; subst h2
        rw [toksT_text txt rfl (item_text h3), toksT_nil, dropLast_le (chars_le _)]
        exact ⟨_, rfl⟩
      by_cases h2 : b :: r = [60, 47]
      · injection h2 with h2 h4
        subst h2; subst h4
        rw [toksT_text txt rfl (item_text h3), toksT_text _ rfl (item_text (l := [47]) rfl), toksT_nil, dropLast_le (chars_le _)]
        exact ⟨_, rfl⟩
      have hk := kindOf_text e h3 (by simp) h1 h2
      rw [toksT_text txt rfl (item_text h3), toksT_text (l := b :: r ++ e) txt (List.cons_append ..) (item_text hk)]
      exact toksT_prefix m r _ e hr
    · have hk := kindOf_more e h3
      rw [toksT_flush txt (.inr (item_notext h3)), toksT_flush (l := b :: r ++ e) txt (.inr (item_notext (by rw [hk]; exact h3)))]
      refine dropLast_ahead (chars_le txt) ?_
      rcases kindOf_cases (b :: r) with h | h | h | h
      · obtain ⟨c, u, e1, ha, he⟩ := item_start h
        cases hs : startI (c :: u) with
        | start n as s rest =>
          have h4 := toksT_start (he.trans hs)
          have hk1 : kindOf (b :: r ++ e) = 1 := hk.trans h
          obtain ⟨c', u', e2, _, he2⟩ := item_start hk1
          have e3 : c' :: u' = (c :: u) ++ e := by
            have := e1 ▸ e2
            simpa using this.symm
          have h5 := toksT_start ((he2.trans (by rw [e3])).trans (startI_more e hs))
          have hsh := item_shorter.2.2 n as s rest (he.trans hs)
          rw [List.length_cons] at hsh
          by_cases hn : rawName n = true
          · rw [if_pos hn] at h4 h5
            by_cases hz : (rawText n rest).2 = []
            · rw [hz, toksT_nil, show chars ([] : List UInt8) = [] from rfl, List.append_nil] at h4
              rw [h4, h5]
              refine dropLast_ahead (a := [⟨1, n, as, s, []⟩]) (x := rawToks n (rawText n rest).1) (y := rawToks n (rawText n (rest ++ e)).1 ++ toksT [] (rawText n (rest ++ e)).2) (by simp) ?_
              rw [dropLast_le (rawToks_le _ _)]
              exact ⟨_, rfl⟩
            · rw [rawText_more n rest e hz] at h5
              rw [h4, h5]
              have := rawText_le n rest
              exact dropLast_ahead (a := [⟨1, n, as, s, []⟩]) (by simp) (dropLast_ahead (rawToks_le _ _) (toksT_prefix m _ [] e (by omega)))
          · rw [if_neg hn] at h4 h5
            rw [h4, h5]
            exact dropLast_ahead (a := [_]) (by simp) (toksT_prefix m rest [] e (by omega))
        | stop => rw [toksT_stop (he.trans hs)]; exact ⟨_, rfl⟩
        | text => unfold startI at hs; split at hs <;> cases hs
        | mark t rest => unfold startI at hs; split at hs <;> cases hs
        | close n rest => unfold startI at hs; split at hs <;> cases hs
      · obtain ⟨c, u, e1, ha, he⟩ := item_end h
        cases hs : closeI (c :: u) with
        | close n rest =>
          have h4 := toksT_close (he.trans hs)
          have hk1 : kindOf (b :: r ++ e) = 2 := hk.trans h
          obtain ⟨c', u', e2, _, he2⟩ := item_end hk1
          have e3 : c' :: u' = (c :: u) ++ e := by
            have := e1 ▸ e2
            simpa using this.symm
          have h5 := toksT_close ((he2.trans (by rw [e3])).trans (closeI_more e hs))
          rw [h4, h5]
          have hsh := item_shorter.2.1 n rest (he.trans hs)
          rw [List.length_cons] at hsh
          exact dropLast_ahead (a := [_]) (by simp) (toksT_prefix m rest [] e (by omega))
        | stop => rw [toksT_stop (he.trans hs)]; exact ⟨_, rfl⟩
        | text => unfold closeI at hs; split at hs <;> cases hs
        | mark t rest => unfold closeI at hs; split at hs <;> cases hs
        | start n as s rest => unfold closeI at hs; split at hs <;> cases hs
      · exact absurd h h3
      · rcases mark_more h with ⟨t, he⟩ | ⟨t, rest, he, hm⟩
        · rw [toksT_mark he, toksT_nil, dropLast_le (by simp [chars])]
          exact ⟨_, rfl⟩
        · rw [toksT_mark he, toksT_mark (hm e)]
          have hsh := item_shorter.1 t rest he
          rw [List.length_cons] at hsh
          exact dropLast_ahead (a := [t]) (by simp) (toksT_prefix m rest [] e (by omega))

/-- WHAT COMES LATER CHANGES NOTHING BUT THE LAST TOKEN -/
theorem toks_prefix (l e : List UInt8) : ∃ z, toks (l ++ e) = (toks l).dropLast ++ z := toksT_prefix l.length l [] e (Nat.le_refl _)

end U
end Go.Proofs.YtkmjngpgngkalaaDoor

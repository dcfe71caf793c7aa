/- Plain mathematics: how many tokens a text has. -/
import Derived.Test.YtkmjngpgngkalaaDoorSmallMath
namespace Go.Proofs.YtkmjngpgngkalaaDoor
namespace U

theorem al_name {c : UInt8} (ha : isAl c = true) : nameB c = true := by
  obtain ⟨h1, h2, h3⟩ := isAl_ne ha
  have h4 : c ≠ 62 := by rintro rfl; exact absurd ha (by decide)
  have h5 : isSp c = false := by
    cases hs : isSp c with
    | false => rfl
    | true =>
      exfalso
      unfold isSp at hs
      simp only [Bool.or_eq_true, beq_iff_eq] at hs
      rcases hs with ((rfl | rfl) | rfl) | rfl <;> exact absurd ha (by decide)
  simp [nameB, endsName, h5, h3, h4]
theorem tag_short {c : UInt8} {r t : List UInt8} {s : St} (ha : isAl c = true) (h : runM st0 (c :: r) = some (s, t)) : t.length + 1 ≤ r.length := by
  have hn := al_name ha
  simp only [nameB, endsName, Bool.not_eq_true', Bool.or_eq_false_iff, beq_eq_false_iff_ne] at hn
  unfold st0 at h
  rw [runM_go r (step_N4 hn.1.1 hn.1.2 hn.2)] at h
  have := runM_shorter _ _ h
  omega
theorem remark_short {find l : List UInt8} (hf : find ≠ []) : (remark find l).2 = [] ∨ (remark find l).2.length + find.length ≤ l.length := by
  unfold remark
  cases hp : placeOf find l with
  | none => exact .inl rfl
  | some k =>
    have := placeOf_le hf hp
    right
    simp only [List.length_drop]
    omega
theorem mark_short {l rest : List UInt8} {t : Tok} (hk : kindOf l = 4) (hi : item l = .mark t rest) : 2 ≤ l.length ∧ (rest = [] ∨ rest.length + 3 ≤ l.length) := by
  have hl2 : 2 ≤ l.length := by
    match l, hk with
    | a :: c :: r, _ => simp
  refine ⟨hl2, ?_⟩
  rcases item_mark hk with ⟨h4, e⟩ | ⟨h4, h5, e⟩ | ⟨h4, h5, e⟩
  · rw [e] at hi
    unfold markI at hi
    injection hi with _ hr
    rcases remark_short (find := [45, 45, 62]) (l := l.drop 4) (by decide) with h | h
    · exact .inl (hr ▸ h)
    · rw [hr, List.length_drop] at h
      simp only [List.length_cons, List.length_nil] at h
      exact .inr (by omega)
  · rw [e] at hi
    unfold markI at hi
    injection hi with _ hr
    match l, h5 with
    | a :: c :: r, h5 =>
      have hc : c = 63 := by
        simp only [List.take_succ_cons, List.take_zero, List.cons.injEq] at h5
        exact h5.2.1
      subst hc
      simp only [List.drop_succ_cons, List.drop_zero] at hr
      unfold remark at hr
      cases hp : placeOf [62] (63 :: r) with
      | none => rw [hp] at hr; exact .inl hr.symm
      | some k =>
        rw [hp] at hr
        have hle := placeOf_le (by decide) hp
        have hk0 : k ≠ 0 := by
          rintro rfl
          rw [placeOf] at hp
          split at hp
          · rename_i h9
            exact absurd (show ([63] : List UInt8) = [62] from h9) (by decide)
          · cases h9 : placeOf [62] r with
            | none => rw [h9] at hp; cases hp
            | some j => rw [h9] at hp; simp at hp
        right
        rw [← hr]
        simp only [List.length_drop, List.length_cons, List.length_nil] at hle ⊢
        omega
  · rw [e] at hi
    unfold markI at hi
    injection hi with _ hr
    rcases remark_short (find := [62]) (l := l.drop 2) (by decide) with h | h
    · exact .inl (hr ▸ h)
    · rw [hr, List.length_drop] at h
      simp only [List.length_cons, List.length_nil] at h
      exact .inr (by omega)

theorem toksT_count : ∀ (m : Nat) (l txt : List UInt8), l.length ≤ m → 2 * (toksT txt l).length ≤ l.length + (if txt = [] then 1 else 2) ∧ (txt = [] → kindOf l ≠ 3 → 2 * (toksT txt l).length ≤ l.length)
  | 0, l, txt, hm => by
    obtain rfl : l = [] := List.eq_nil_of_length_eq_zero (by omega)
    rw [toksT_nil]
    refine ⟨?_, fun _ h => absurd rfl h⟩
    unfold chars; split <;> simp
  | m + 1, [], txt, hm => by
    rw [toksT_nil]
    refine ⟨?_, fun _ h => absurd rfl h⟩
    unfold chars; split <;> simp
  | m + 1, b :: r, txt, hm => by
    have hr : r.length ≤ m := by simpa using hm
    by_cases h3 : kindOf (b :: r) = 3
    · rw [toksT_text txt rfl (item_text h3)]
      have g := (toksT_count m r (txt ++ [b]) hr).1
      rw [if_neg (by simp)] at g
      refine ⟨?_, fun _ h => absurd h3 h⟩
      rw [List.length_cons]
      split <;> omega
    · have hch : (chars txt).length = if txt = [] then 0 else 1 := by unfold chars; split <;> rfl
      have key : 2 * (toksT [] (b :: r)).length ≤ (b :: r).length := by
        have one : ∀ (t : Tok) (rest : List UInt8), (rest = [] ∨ rest.length + 3 ≤ (b :: r).length) → 2 ≤ (b :: r).length → 2 * (t :: toksT [] rest).length ≤ (b :: r).length := by
          intro t rest h h2
          rw [List.length_cons]
          rcases h with h | h
          · subst h
            rw [toksT_nil]
            show 2 * (0 + 1) ≤ _
            omega
          · have g := (toksT_count m rest [] (by rw [List.length_cons] at h; omega)).1
            rw [if_pos rfl] at g
            omega
        rcases kindOf_cases (b :: r) with h | h | h | h
        · obtain ⟨c, u, e1, ha, he⟩ := item_start h
          rw [e1] at he ⊢
          unfold startI at he
          cases hru : runM st0 (c :: u) with
          | none => rw [hru] at he; rw [toksT_stop he]; simp
          | some x =>
            obtain ⟨st, t⟩ := x
            rw [hru] at he
            have hts := tag_short ha hru
            have hul : u.length + 1 = r.length := by
              injection e1 with _ e1
              rw [e1]; simp
            rw [toksT_start he]
            by_cases hn : rawName (low st.tname) = true
            · rw [if_pos hn]
              have hb := congrArg List.length (rawText_both (low st.tname) t)
              rw [List.length_append] at hb
              have hraw : (rawToks (low st.tname) (rawText (low st.tname) t).1).length ≤ (rawText (low st.tname) t).1.length ∧ (rawToks (low st.tname) (rawText (low st.tname) t).1).length ≤ 1 := by
                unfold rawToks
                split
                · simp
                · rename_i h9
                  have : (rawText (low st.tname) t).1.length ≠ 0 := fun e => h9 (List.eq_nil_of_length_eq_zero e)
                  simp only [List.length_cons, List.length_nil]
                  omega
              rw [List.length_cons, List.length_append, List.length_cons, List.length_cons]
              by_cases hz : (rawText (low st.tname) t).2 = []
              · rw [hz, toksT_nil]
                rw [hz, List.length_nil] at hb
                show 2 * (_ + 0 + 1) ≤ _
                omega
              · have g := (toksT_count m (rawText (low st.tname) t).2 [] (by omega)).2 rfl (by rw [raw_rest_kind (rawName_al hn) hz]; decide)
                omega
            · rw [if_neg hn]
              rw [← e1]
              exact one _ t (.inr (by rw [List.length_cons]; omega)) (by rw [List.length_cons]; omega)
        · obtain ⟨c, u, e1, ha, he⟩ := item_end h
          rw [e1] at he ⊢
          unfold closeI at he
          cases hru : runM st0 (c :: u) with
          | none => rw [hru] at he; rw [toksT_stop he]; simp
          | some x =>
            obtain ⟨st, t⟩ := x
            rw [hru] at he
            have hts := tag_short ha hru
            have hul : u.length + 2 = r.length := by
              injection e1 with _ e1
              rw [e1]; simp
            rw [toksT_close he, ← e1]
            exact one _ t (.inr (by rw [List.length_cons]; omega)) (by rw [List.length_cons]; omega)
        · exact absurd h h3
        · obtain ⟨find, u, he⟩ : ∃ find u, item (b :: r) = markI find u := by
            rcases item_mark h with ⟨_, e⟩ | ⟨_, _, e⟩ | ⟨_, _, e⟩ <;> exact ⟨_, _, e⟩
          obtain ⟨h2, h4⟩ := mark_short h he
          rw [toksT_mark he]
          exact one _ _ h4 h2
      refine ⟨?_, fun hx _ => by subst hx; exact key⟩
      rw [toksT_flush txt (.inr (item_notext h3)), List.length_append, hch]
      split <;> omega
theorem toks_count (l : List UInt8) : 2 * (toks l).length ≤ l.length + 1 := by
  have := (toksT_count l.length l [] (Nat.le_refl _)).1
  rwa [if_pos rfl] at this

theorem tname_le {L t : List UInt8} {s : St} (h : runM st0 L = some (s, t)) : s.tname.length ≤ L.length := by
  unfold st0 at h
  rw [run_name] at h
  rw [runM_tname _ _ (by simp) h]
  simp only [List.nil_append]
  exact (List.takeWhile_sublist _).length_le
theorem chars_names (txt : List UInt8) : ∀ t ∈ chars txt, t.name = [] := by
  intro t ht
  unfold chars at ht
  split at ht
  · cases ht
  · obtain rfl := List.mem_singleton.1 ht; rfl
theorem raw_names (n raw : List UInt8) : ∀ t ∈ rawToks n raw, t.name = [] := by
  intro t ht
  unfold rawToks at ht
  split at ht
  · cases ht
  · obtain rfl := List.mem_singleton.1 ht; rfl
theorem toksT_names : ∀ (m : Nat) (l txt : List UInt8), l.length ≤ m → ∀ t ∈ toksT txt l, t.name.length ≤ l.length
  | 0, l, txt, hm => by
    obtain rfl : l = [] := List.eq_nil_of_length_eq_zero (by omega)
    intro t ht
    rw [toksT_nil] at ht
    rw [chars_names _ t ht]; simp
  | m + 1, [], txt, hm => by
    intro t ht
    rw [toksT_nil] at ht
    rw [chars_names _ t ht]; simp
  | m + 1, b :: r, txt, hm => by
    have hr : r.length ≤ m := by simpa using hm
    by_cases h3 : kindOf (b :: r) = 3
    · rw [toksT_text txt rfl (item_text h3)]
      intro t ht
      have := toksT_names m r _ hr t ht
      rw [List.length_cons]
      omega
    · rw [toksT_flush txt (.inr (item_notext h3))]
      intro t ht
      rcases List.mem_append.1 ht with ht | ht
      · rw [chars_names _ t ht]; simp
      have one : ∀ rest : List UInt8, rest.length < (b :: r).length → t ∈ toksT [] rest → t.name.length ≤ (b :: r).length := by
        intro rest hl h
        have := toksT_names m rest [] (by rw [List.length_cons] at hl; omega) t h
        omega
      rcases kindOf_cases (b :: r) with h | h | h | h
      · obtain ⟨c, u, e1, ha, he⟩ := item_start h
        unfold startI at he
        cases hru : runM st0 (c :: u) with
        | none => rw [hru] at he; rw [toksT_stop he] at ht; cases ht
        | some x =>
          obtain ⟨st, rest⟩ := x
          rw [hru] at he
          have hsh := item_shorter.2.2 _ _ _ _ he
          have hle := rawText_le (low st.tname) rest
          have hnm := tname_le hru
          rw [toksT_start he] at ht
          rcases List.mem_cons.1 ht with rfl | ht
          · show (low st.tname).length ≤ _
            rw [low_length, e1, List.length_cons]
            omega
          · split at ht
            · rcases List.mem_append.1 ht with ht | ht
              · rw [raw_names _ _ t ht]; simp
              · exact one _ (by omega) ht
            · exact one _ hsh ht
      · obtain ⟨c, u, e1, ha, he⟩ := item_end h
        unfold closeI at he
        cases hru : runM st0 (c :: u) with
        | none => rw [hru] at he; rw [toksT_stop he] at ht; cases ht
        | some x =>
          obtain ⟨st, rest⟩ := x
          rw [hru] at he
          have hsh := item_shorter.2.1 _ _ he
          have hnm := tname_le hru
          rw [toksT_close he] at ht
          rcases List.mem_cons.1 ht with rfl | ht
          · show (low st.tname).length ≤ _
            rw [low_length, e1, List.length_cons, List.length_cons]
            omega
          · exact one _ hsh ht
      · exact absurd h h3
      · obtain ⟨find, u, he⟩ : ∃ find u, item (b :: r) = markI find u := by
          rcases item_mark h with ⟨_, e⟩ | ⟨_, _, e⟩ | ⟨_, _, e⟩ <;> exact ⟨_, _, e⟩
        have hsh := item_shorter.1 _ _ he
        rw [toksT_mark he] at ht
        rcases List.mem_cons.1 ht with rfl | ht
        · unfold remark; split <;> simp
        · exact one _ hsh ht
theorem toks_names (l : List UInt8) : ∀ t ∈ toks l, t.name.length ≤ l.length := toksT_names l.length l [] (Nat.le_refl _)

end U
end Go.Proofs.YtkmjngpgngkalaaDoor

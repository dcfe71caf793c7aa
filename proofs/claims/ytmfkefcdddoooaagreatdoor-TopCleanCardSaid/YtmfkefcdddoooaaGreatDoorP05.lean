/- Several texts in one: CountMath, EmitMath, KindMath, ShowBuild. -/
import Derived.Test.YtmfkefcdddoooaaGreatDoorP04
import Derived.Test.YtmfkefcdddoooaaGreatDoorP02
import Derived.Test.YtmfkefcdddoooaaGreatDoorP03
namespace Go.Proofs.YtmfkefcdddoooaaGreatDoor
namespace U

theorem al_name {c : UInt8} (ha : isAl c = true) : nameB c = true := by
  obtain ⟨h1, h2, h3⟩ := isAl_ne ha
  have h4 : c ≠ 62 := by rintro rfl; exact absurd ha (by decide)
  have h5 : isSp c = false := by
    cases hs : isSp c with
    | false => rfl
    | true =>
      exfalso
      unfold isSp at hs
      simp only [Bool.or_eq_true, beq_iff_eq] at hs
      rcases hs with ((rfl | rfl) | rfl) | rfl <;> exact absurd ha (by decide)
  simp [nameB, endsName, h5, h3, h4]
theorem tag_short {c : UInt8} {r t : List UInt8} {s : St} (ha : isAl c = true) (h : runM st0 (c :: r) = some (s, t)) : t.length + 1 ≤ r.length := by
  have hn := al_name ha
  simp only [nameB, endsName, Bool.not_eq_true', Bool.or_eq_false_iff, beq_eq_false_iff_ne] at hn
  unfold st0 at h
  rw [runM_go r (step_N4 hn.1.1 hn.1.2 hn.2)] at h
  have := runM_shorter _ _ h
  omega
theorem remark_short {find l : List UInt8} (hf : find ≠ []) : (remark find l).2 = [] ∨ (remark find l).2.length + find.length ≤ l.length := by
  unfold remark
  cases hp : placeOf find l with
  | none => exact .inl rfl
  | some k =>
    have := placeOf_le hf hp
    right
    simp only [List.length_drop]
    omega
theorem mark_short {l rest : List UInt8} {t : Tok} (hk : kindOf l = 4) (hi : item l = .mark t rest) : 2 ≤ l.length ∧ (rest = [] ∨ rest.length + 3 ≤ l.length) := by
  have hl2 : 2 ≤ l.length := by
    match l, hk with
    | a :: c :: r, _ => simp
  refine ⟨hl2, ?_⟩
  rcases item_mark hk with ⟨h4, e⟩ | ⟨h4, h5, e⟩ | ⟨h4, h5, e⟩
  · rw [e] at hi
    unfold markI at hi
    injection hi with _ hr
    rcases remark_short (find := [45, 45, 62]) (l := l.drop 4) (by decide) with h | h
    · exact .inl (hr ▸ h)
    · rw [hr, List.length_drop] at h
      simp only [List.length_cons, List.length_nil] at h
      exact .inr (by omega)
  · rw [e] at hi
    unfold markI at hi
    injection hi with _ hr
    match l, h5 with
    | a :: c :: r, h5 =>
      have hc : c = 63 := by
        simp only [List.take_succ_cons, List.take_zero, List.cons.injEq] at h5
        exact h5.2.1
      subst hc
      simp only [List.drop_succ_cons, List.drop_zero] at hr
      unfold remark at hr
      cases hp : placeOf [62] (63 :: r) with
      | none => rw [hp] at hr; exact .inl hr.symm
      | some k =>
        rw [hp] at hr
        have hle := placeOf_le (by decide) hp
        have hk0 : k ≠ 0 := by
          rintro rfl
          rw [placeOf] at hp
          split at hp
          · rename_i h9
            exact absurd (show ([63] : List UInt8) = [62] from h9) (by decide)
          · cases h9 : placeOf [62] r with
            | none => rw [h9] at hp; cases hp
            | some j => rw [h9] at hp; simp at hp
        right
        rw [← hr]
        simp only [List.length_drop, List.length_cons, List.length_nil] at hle ⊢
        omega
  · rw [e] at hi
    unfold markI at hi
    injection hi with _ hr
    rcases remark_short (find := [62]) (l := l.drop 2) (by decide) with h | h
    · exact .inl (hr ▸ h)
    · rw [hr, List.length_drop] at h
      simp only [List.length_cons, List.length_nil] at h
      exact .inr (by omega)

theorem toksT_count : ∀ (m : Nat) (l txt : List UInt8), l.length ≤ m → 2 * (toksT txt l).length ≤ l.length + (if txt = [] then 1 else 2) ∧ (txt = [] → kindOf l ≠ 3 → 2 * (toksT txt l).length ≤ l.length)
  | 0, l, txt, hm => by
    obtain rfl : l = [] := List.eq_nil_of_length_eq_zero (by omega)
    rw [toksT_nil]
    refine ⟨?_, fun _ h => absurd rfl h⟩
    unfold chars; split <;> simp
  | m + 1, [], txt, hm => by
    rw [toksT_nil]
    refine ⟨?_, fun _ h => absurd rfl h⟩
    unfold chars; split <;> simp
  | m + 1, b :: r, txt, hm => by
    have hr : r.length ≤ m := by simpa using hm
    by_cases h3 : kindOf (b :: r) = 3
    · rw [toksT_text txt rfl (item_text h3)]
      have g := (toksT_count m r (txt ++ [b]) hr).1
      rw [if_neg (by simp)] at g
      refine ⟨?_, fun _ h => absurd h3 h⟩
      rw [List.length_cons]
      split <;> omega
    · have hch : (chars txt).length = if txt = [] then 0 else 1 := by unfold chars; split <;> rfl
      have key : 2 * (toksT [] (b :: r)).length ≤ (b :: r).length := by
        have one : ∀ (t : Tok) (rest : List UInt8), (rest = [] ∨ rest.length + 3 ≤ (b :: r).length) → 2 ≤ (b :: r).length → 2 * (t :: toksT [] rest).length ≤ (b :: r).length := by
          intro t rest h h2
          rw [List.length_cons]
          rcases h with h | h
          · subst h
            rw [toksT_nil]
            show 2 * (0 + 1) ≤ _
            omega
          · have g := (toksT_count m rest [] (by rw [List.length_cons] at h; omega)).1
            rw [if_pos rfl] at g
            omega
        rcases kindOf_cases (b :: r) with h | h | h | h
        · obtain ⟨c, u, e1, ha, he⟩ := item_start h
          rw [e1] at he ⊢
          unfold startI at he
          cases hru : runM st0 (c :: u) with
          | none => rw [hru] at he; rw [toksT_stop he]; simp
          | some x =>
            obtain ⟨st, t⟩ := x
            rw [hru] at he
            have hts := tag_short ha hru
            have hul : u.length + 1 = r.length := by
              injection e1 with _ e1
              rw [e1]; simp
            rw [toksT_start he]
            by_cases hn : rawName (low st.tname) = true
            · rw [if_pos hn]
              have hb := congrArg List.length (rawText_both (low st.tname) t)
              rw [List.length_append] at hb
              have hraw : (rawToks (low st.tname) (rawText (low st.tname) t).1).length ≤ (rawText (low st.tname) t).1.length ∧ (rawToks (low st.tname) (rawText (low st.tname) t).1).length ≤ 1 := by
                unfold rawToks
                split
                · simp
                · rename_i h9
                  have : (rawText (low st.tname) t).1.length ≠ 0 := fun e => h9 (List.eq_nil_of_length_eq_zero e)
                  simp only [List.length_cons, List.length_nil]
                  omega
              rw [List.length_cons, List.length_append, List.length_cons, List.length_cons]
              by_cases hz : (rawText (low st.tname) t).2 = []
              · rw [hz, toksT_nil]
                rw [hz, List.length_nil] at hb
                show 2 * (_ + 0 + 1) ≤ _
                omega
              · have g := (toksT_count m (rawText (low st.tname) t).2 [] (by omega)).2 rfl (by rw [raw_rest_kind (rawName_al hn) hz]; decide)
                omega
            · rw [if_neg hn]
              rw [← e1]
              exact one _ t (.inr (by rw [List.length_cons]; omega)) (by rw [List.length_cons]; omega)
        · obtain ⟨c, u, e1, ha, he⟩ := item_end h
          rw [e1] at he ⊢
          unfold closeI at he
          cases hru : runM st0 (c :: u) with
          | none => rw [hru] at he; rw [toksT_stop he]; simp
          | some x =>
            obtain ⟨st, t⟩ := x
            rw [hru] at he
            have hts := tag_short ha hru
            have hul : u.length + 2 = r.length := by
              injection e1 with _ e1
              rw [e1]; simp
            rw [toksT_close he, ← e1]
            exact one _ t (.inr (by rw [List.length_cons]; omega)) (by rw [List.length_cons]; omega)
        · exact absurd h h3
        · obtain ⟨find, u, he⟩ : ∃ find u, item (b :: r) = markI find u := by
            rcases item_mark h with ⟨_, e⟩ | ⟨_, _, e⟩ | ⟨_, _, e⟩ <;> exact ⟨_, _, e⟩
          obtain ⟨h2, h4⟩ := mark_short h he
          rw [toksT_mark he]
          exact one _ _ h4 h2
      refine ⟨?_, fun hx _ => by subst hx; exact key⟩
      rw [toksT_flush txt (.inr (item_notext h3)), List.length_append, hch]
      split <;> omega
theorem toks_count (l : List UInt8) : 2 * (toks l).length ≤ l.length + 1 := by
  have := (toksT_count l.length l [] (Nat.le_refl _)).1
  rwa [if_pos rfl] at this

theorem tname_le {L t : List UInt8} {s : St} (h : runM st0 L = some (s, t)) : s.tname.length ≤ L.length := by
  unfold st0 at h
  rw [run_name] at h
  rw [runM_tname _ _ (by simp) h]
  simp only [List.nil_append]
  exact (List.takeWhile_sublist _).length_le
theorem chars_names (txt : List UInt8) : ∀ t ∈ chars txt, t.name = [] := by
  intro t ht
  unfold chars at ht
  split at ht
  · cases ht
  · obtain rfl := List.mem_singleton.1 ht; rfl
theorem raw_names (n raw : List UInt8) : ∀ t ∈ rawToks n raw, t.name = [] := by
  intro t ht
  unfold rawToks at ht
  split at ht
  · cases ht
  · obtain rfl := List.mem_singleton.1 ht; rfl
theorem toksT_names : ∀ (m : Nat) (l txt : List UInt8), l.length ≤ m → ∀ t ∈ toksT txt l, t.name.length ≤ l.length
  | 0, l, txt, hm => by
    obtain rfl : l = [] := List.eq_nil_of_length_eq_zero (by omega)
    intro t ht
    rw [toksT_nil] at ht
    rw [chars_names _ t ht]; simp
  | m + 1, [], txt, hm => by
    intro t ht
    rw [toksT_nil] at ht
    rw [chars_names _ t ht]; simp
  | m + 1, b :: r, txt, hm => by
    have hr : r.length ≤ m := by simpa using hm
    by_cases h3 : kindOf (b :: r) = 3
    · rw [toksT_text txt rfl (item_text h3)]
      intro t ht
      have := toksT_names m r _ hr t ht
      rw [List.length_cons]
      omega
    · rw [toksT_flush txt (.inr (item_notext h3))]
      intro t ht
      rcases List.mem_append.1 ht with ht | ht
      · rw [chars_names _ t ht]; simp
      have one : ∀ rest : List UInt8, rest.length < (b :: r).length → t ∈ toksT [] rest → t.name.length ≤ (b :: r).length := by
        intro rest hl h
        have := toksT_names m rest [] (by rw [List.length_cons] at hl; omega) t h
        omega
      rcases kindOf_cases (b :: r) with h | h | h | h
      · obtain ⟨c, u, e1, ha, he⟩ := item_start h
        unfold startI at he
        cases hru : runM st0 (c :: u) with
        | none => rw [hru] at he; rw [toksT_stop he] at ht; cases ht
        | some x =>
          obtain ⟨st, rest⟩ := x
          rw [hru] at he
          have hsh := item_shorter.2.2 _ _ _ _ he
          have hle := rawText_le (low st.tname) rest
          have hnm := tname_le hru
          rw [toksT_start he] at ht
          rcases List.mem_cons.1 ht with rfl | ht
          · show (low st.tname).length ≤ _
            rw [low_length, e1, List.length_cons]
            omega
          · split at ht
            · rcases List.mem_append.1 ht with ht | ht
              · rw [raw_names _ _ t ht]; simp
              · exact one _ (by omega) ht
            · exact one _ hsh ht
      · obtain ⟨c, u, e1, ha, he⟩ := item_end h
        unfold closeI at he
        cases hru : runM st0 (c :: u) with
        | none => rw [hru] at he; rw [toksT_stop he] at ht; cases ht
        | some x =>
          obtain ⟨st, rest⟩ := x
          rw [hru] at he
          have hsh := item_shorter.2.1 _ _ he
          have hnm := tname_le hru
          rw [toksT_close he] at ht
          rcases List.mem_cons.1 ht with rfl | ht
          · show (low st.tname).length ≤ _
            rw [low_length, e1, List.length_cons, List.length_cons]
            omega
          · exact one _ hsh ht
      · exact absurd h h3
      · obtain ⟨find, u, he⟩ : ∃ find u, item (b :: r) = markI find u := by
          rcases item_mark h with ⟨_, e⟩ | ⟨_, _, e⟩ | ⟨_, _, e⟩ <;> exact ⟨_, _, e⟩
        have hsh := item_shorter.1 _ _ he
        rw [toksT_mark he] at ht
        rcases List.mem_cons.1 ht with rfl | ht
        · unfold remark; split <;> simp
        · exact one _ hsh ht
theorem toks_names (l : List UInt8) : ∀ t ∈ toks l, t.name.length ≤ l.length := toksT_names l.length l [] (Nat.le_refl _)

end U
end Go.Proofs.YtmfkefcdddoooaaGreatDoor

namespace Go.Proofs.YtmfkefcdddoooaaGreatDoor
namespace U

/-! ### reading a tag -/
theorem wr_name (n : List UInt8) (h : n.all nameB2 = true) (tn nm v : List UInt8) (q : UInt8) (sl : Bool) (al : List Att) (r : List UInt8) : runM ⟨0, tn, nm, v, q, sl, al⟩ (n ++ r) = runM ⟨0, tn ++ n, nm, v, q, sl, al⟩ r := by
  induction n generalizing tn with
  | nil => simp
  | cons b n ih =>
    rw [List.all_cons, Bool.and_eq_true] at h
    rw [List.cons_append, runM_go (st' := ⟨0, tn ++ [b], nm, v, q, sl, al⟩) _ (by unfold step; rw [if_pos ⟨rfl, nameB2_ends h.1⟩]), ih h.2, List.append_assoc]
    rfl
theorem run_gap0 (tn nm v : List UInt8) (q : UInt8) (sl : Bool) (al : List Att) (r : List UInt8) : runM ⟨0, tn, nm, v, q, sl, al⟩ (32 :: r) = runM ⟨1, tn, nm, v, q, false, al⟩ r := runM_go _ rfl
theorem run_gap1 (tn nm v : List UInt8) (q : UInt8) (sl : Bool) (al : List Att) (r : List UInt8) : runM ⟨1, tn, nm, v, q, sl, al⟩ (32 :: r) = runM ⟨1, tn, nm, v, q, false, al⟩ r := runM_go _ rfl
theorem run_tail0 (tn nm v : List UInt8) (q : UInt8) (sl : Bool) (al : List Att) (self : Bool) (r : List UInt8) : runM ⟨0, tn, nm, v, q, sl, al⟩ (tailE self ++ r) = some (⟨1, tn, nm, v, q, self, al⟩, r) := by
  cases self
  · exact runM_fin _ rfl
  · show runM _ (47 :: 62 :: r) = _
    rw [runM_go (st' := ⟨1, tn, nm, v, q, true, al⟩) _ rfl]
    exact runM_fin _ rfl
theorem run_tail1 (tn nm v : List UInt8) (q : UInt8) (al : List Att) (self : Bool) (r : List UInt8) : runM ⟨1, tn, nm, v, q, false, al⟩ (tailE self ++ r) = some (⟨1, tn, nm, v, q, self, al⟩, r) := by
  cases self
  · exact runM_fin _ rfl
  · show runM _ (47 :: 62 :: r) = _
    rw [runM_go (st' := ⟨1, tn, nm, v, q, true, al⟩) _ rfl]
    exact runM_fin _ rfl
theorem wr_attn (n : List UInt8) (h : n.all nameB2 = true) (tn nm v : List UInt8) (q : UInt8) (sl : Bool) (al : List Att) (r : List UInt8) : runM ⟨2, tn, nm, v, q, sl, al⟩ (n ++ r) = runM ⟨2, tn, nm ++ n, v, q, sl, al⟩ r := by
  induction n generalizing nm with
  | nil => simp
  | cons b n ih =>
    rw [List.all_cons, Bool.and_eq_true] at h
    obtain ⟨_, _, _, h61, _⟩ := nameB2_facts h.1
    have he := nameB2_ends h.1
    have hs : step ⟨2, tn, nm, v, q, sl, al⟩ b = .go ⟨2, tn, nm ++ [b], v, q, sl, al⟩ := by
      unfold step
      rw [if_neg (fun hh => by simp at hh)]
      have e0 : pre0 ⟨2, tn, nm, v, q, sl, al⟩ = ⟨2, tn, nm, v, q, sl, al⟩ := rfl
      have e2 : pre2 ⟨2, tn, nm, v, q, sl, al⟩ b = ⟨2, tn, nm, v, q, sl, al⟩ := by unfold pre2; rw [if_neg (fun hh => by have := hh.2; rw [he, beq_eq_false_iff_ne.2 h61] at this; cases this)]
      have e6 : pre6 ⟨2, tn, nm, v, q, sl, al⟩ b = ⟨2, tn, nm, v, q, sl, al⟩ := by unfold pre6; rw [if_neg (fun hh => by simp at hh)]
      have e3 : pre3 ⟨2, tn, nm, v, q, sl, al⟩ b = ⟨2, tn, nm, v, q, sl, al⟩ := by unfold pre3; rw [if_neg (fun hh => by simp at hh)]
      rw [e0, e2, e6, e3]
      unfold post
      rw [if_pos rfl]
    rw [List.cons_append, runM_go _ hs, ih h.2, List.append_assoc]
    rfl
theorem wr_value (x : List UInt8) (h : ∀ b ∈ x, b ≠ 34) (tn nm v : List UInt8) (sl : Bool) (al : List Att) (r : List UInt8) : runM ⟨5, tn, nm, v, 34, sl, al⟩ (x ++ 34 :: r) = runM ⟨1, tn, nm, v ++ x, 34, false, al ++ [(low nm, unesc (v ++ x))]⟩ r := by
  induction x generalizing v with
  | nil =>
    rw [List.append_nil]
    exact runM_go _ rfl
  | cons b x ih =>
    have hb := h b (List.mem_cons_self ..)
    have hs : step ⟨5, tn, nm, v, 34, sl, al⟩ b = .go ⟨5, tn, nm, v ++ [b], 34, sl, al⟩ := by
      unfold step
      rw [if_neg (fun hh => by simp at hh)]
      have e0 : pre0 ⟨5, tn, nm, v, 34, sl, al⟩ = ⟨5, tn, nm, v, 34, sl, al⟩ := rfl
      have e2 : pre2 ⟨5, tn, nm, v, 34, sl, al⟩ b = ⟨5, tn, nm, v, 34, sl, al⟩ := by unfold pre2; rw [if_neg (fun hh => by simp at hh)]
      have e6 : pre6 ⟨5, tn, nm, v, 34, sl, al⟩ b = ⟨5, tn, nm, v, 34, sl, al⟩ := by unfold pre6; rw [if_neg (fun hh => by simp at hh)]
      have e3 : pre3 ⟨5, tn, nm, v, 34, sl, al⟩ b = ⟨5, tn, nm, v, 34, sl, al⟩ := by unfold pre3; rw [if_neg (fun hh => by simp at hh)]
      rw [e0, e2, e6, e3]
      unfold post
      rw [if_neg (by simp), if_neg (by simp), if_neg (by simp), if_pos rfl, if_neg hb]
    rw [List.cons_append, runM_go _ hs, ih (fun c hc => h c (List.mem_cons_of_mem _ hc)), List.append_assoc]
    rfl
/-- one attribute, behind the space ahead of it -/
theorem wr_att (a : Att) (ha : isName a.1 = true) (tn nm v : List UInt8) (q : UInt8) (sl : Bool) (al : List Att) (r : List UInt8) :
    runM ⟨1, tn, nm, v, q, sl, al⟩ (a.1 ++ 61 :: 34 :: (esc true a.2 ++ [34]) ++ r) = runM ⟨1, tn, a.1, esc true a.2, 34, false, al ++ [a]⟩ r := by
  have hev := isName_every ha
  obtain ⟨c, cs, hn, hc, hcs⟩ := isName_all ha
  obtain ⟨hsp, h47, h62, _⟩ := nameB2_facts (small_facts hc).2
  have hs : step ⟨1, tn, nm, v, q, sl, al⟩ c = .go ⟨2, tn, [c], v, q, sl, al⟩ := by
    unfold step
    rw [if_neg (fun hh => by simp at hh)]
    have e0 : pre0 ⟨1, tn, nm, v, q, sl, al⟩ = ⟨1, tn, nm, v, q, sl, al⟩ := rfl
    have e2 : pre2 ⟨1, tn, nm, v, q, sl, al⟩ c = ⟨1, tn, nm, v, q, sl, al⟩ := by unfold pre2; rw [if_neg (fun hh => by simp at hh)]
    have e6 : pre6 ⟨1, tn, nm, v, q, sl, al⟩ c = ⟨1, tn, nm, v, q, sl, al⟩ := by unfold pre6; rw [if_neg (fun hh => by simp at hh)]
    have e3 : pre3 ⟨1, tn, nm, v, q, sl, al⟩ c = ⟨1, tn, nm, v, q, sl, al⟩ := by unfold pre3; rw [if_neg (fun hh => by simp at hh)]
    rw [e0, e2, e6, e3]
    unfold post
    rw [if_neg (by simp), if_neg (by simp), if_neg (by simp), if_neg (by simp), if_neg (by simp), if_neg h62, if_neg h47, if_neg (by rw [hsp]; decide)]
  have h1 : a.1 ++ 61 :: 34 :: (esc true a.2 ++ [34]) ++ r = c :: (cs ++ (61 :: 34 :: (esc true a.2 ++ 34 :: r))) := by rw [hn]; simp
  rw [h1, runM_go _ hs, wr_attn cs hcs]
  have h2 : runM ⟨2, tn, [c] ++ cs, v, q, sl, al⟩ (61 :: 34 :: (esc true a.2 ++ 34 :: r)) = runM ⟨5, tn, [c] ++ cs, [], 34, sl, al⟩ (esc true a.2 ++ 34 :: r) := by
    rw [runM_go (st' := ⟨4, tn, [c] ++ cs, v, q, sl, al⟩) _ rfl, runM_go (st' := ⟨5, tn, [c] ++ cs, [], 34, sl, al⟩) _ rfl]
  have hcn : [c] ++ cs = a.1 := hn.symm
  rw [h2, hcn, wr_value _ (fun b hb => (esc_clean true a.2 b hb).2.2 rfl), List.nil_append, unesc_esc_nil, low_name hev]
theorem wr_atts (l : List Att) (h : ∀ a ∈ l, isName a.1 = true) (tn nm v : List UInt8) (q : UInt8) (al : List Att) (self : Bool) (r : List UInt8) :
    ∃ nm' v' q', runM ⟨1, tn, nm, v, q, false, al⟩ (l.flatMap attE ++ (tailE self ++ r)) = some (⟨1, tn, nm', v', q', self, al ++ l⟩, r) := by
  induction l generalizing nm v q al with
  | nil => exact ⟨nm, v, q, by rw [List.append_nil]; exact run_tail1 _ _ _ _ _ _ _⟩
  | cons a l ih =>
    obtain ⟨nm', v', q', e⟩ := ih (fun b hb => h b (List.mem_cons_of_mem _ hb)) a.1 (esc true a.2) 34 (al ++ [a])
    refine ⟨nm', v', q', ?_⟩
    have h1 : (a :: l).flatMap attE ++ (tailE self ++ r) = 32 :: (a.1 ++ 61 :: 34 :: (esc true a.2 ++ [34]) ++ (l.flatMap attE ++ (tailE self ++ r))) := by simp [attE]
    rw [h1, run_gap1, wr_att a (h a (List.mem_cons_self ..)), e, List.append_assoc]
    rfl
/-- a start's tag -/
theorem wr_start (n : List UInt8) (hn : isName n = true) (l : List Att) (h : ∀ a ∈ l, isName a.1 = true) (self : Bool) (r : List UInt8) :
    ∃ nm v q, runM st0 (n ++ (l.flatMap attE ++ tailE self) ++ r) = some (⟨1, n, nm, v, q, self, l⟩, r) := by
  have h0 : n ++ (l.flatMap attE ++ tailE self) ++ r = n ++ (l.flatMap attE ++ (tailE self ++ r)) := by simp
  rw [h0]
  show ∃ nm v q, runM ⟨0, [], [], [], 0, false, []⟩ _ = _
  rw [wr_name n (isName_every hn), List.nil_append]
  cases l with
  | nil => exact ⟨[], [], 0, run_tail0 _ _ _ _ _ _ _ _⟩
  | cons a l =>
    obtain ⟨nm', v', q', e⟩ := wr_atts l (fun b hb => h b (List.mem_cons_of_mem _ hb)) n a.1 (esc true a.2) 34 ([] ++ [a]) self r
    refine ⟨nm', v', q', ?_⟩
    have h1 : (a :: l).flatMap attE ++ (tailE self ++ r) = 32 :: (a.1 ++ 61 :: 34 :: (esc true a.2 ++ [34]) ++ (l.flatMap attE ++ (tailE self ++ r))) := by simp [attE]
    rw [h1, run_gap0, wr_att a (h a (List.mem_cons_self ..)), e]
    rfl
theorem wr_end (n : List UInt8) (hn : isName n = true) (r : List UInt8) : runM st0 (n ++ [62] ++ r) = some (⟨1, n, [], [], 0, false, []⟩, r) := by
  show runM ⟨0, [], [], [], 0, false, []⟩ _ = _
  rw [List.append_assoc, wr_name n (isName_every hn), List.nil_append]
  exact run_tail0 _ _ _ _ _ _ false _

theorem kind_end {n : List UInt8} (h : isName n = true) (r : List UInt8) : kindOf (endE n ++ r) = 2 := by
  obtain ⟨c, cs, rfl, hc, _⟩ := isName_all h
  have := (small_facts hc).1
  show kindOf (60 :: 47 :: c :: _) = 2
  rw [kindOf_cons]
  rw [if_neg (by decide), if_neg (by decide), if_neg (by decide), if_pos rfl]
  rw [kindS_cons, if_pos this]
theorem kind_start {n : List UInt8} (h : isName n = true) (al : List Att) (self : Bool) (r : List UInt8) : kindOf (startE n al self ++ r) = 1 := by
  obtain ⟨c, cs, rfl, hc, _⟩ := isName_all h
  have := (small_facts hc).1
  show kindOf (60 :: c :: _) = 1
  rw [kindOf_cons]
  rw [if_neg (by decide), if_pos this]
theorem kind_text {b : UInt8} (h : b ≠ 60) (l : List UInt8) : kindOf (b :: l) = 3 := by
  cases l with
  | nil => rfl
  | cons c r => rw [kindOf_cons, if_pos h]
theorem item_startE {n : List UInt8} (hn : isName n = true) {al : List Att} (ha : attsOk al) (self : Bool) (r : List UInt8) : item (startE n al self ++ r) = .start n al self r := by
  obtain ⟨c, cs, e, hc, _⟩ := isName_all hn
  have hal := (small_facts hc).1
  obtain ⟨nm, v, q, er⟩ := wr_start n hn al ha.1 self r
  have e1 : startE n al self ++ r = 60 :: c :: (cs ++ (al.flatMap attE ++ tailE self) ++ r) := by unfold startE; rw [e]; simp
  have e2 : n ++ (al.flatMap attE ++ tailE self) ++ r = c :: (cs ++ (al.flatMap attE ++ tailE self) ++ r) := by rw [e]; simp
  rw [e1, item_cons, if_neg (by decide), if_pos hal]
  unfold startI
  rw [← e2, er]
  simp only
  rw [low_name (isName_every hn), firsts_all al [] (by simpa using ha.2.2), List.nil_append]
theorem item_endE {n : List UInt8} (hn : isName n = true) (r : List UInt8) : item (endE n ++ r) = .close n r := by
  obtain ⟨c, cs, e, hc, _⟩ := isName_all hn
  have hal := (small_facts hc).1
  have er := wr_end n hn r
  have e1 : endE n ++ r = 60 :: 47 :: c :: (cs ++ [62] ++ r) := by unfold endE; rw [e]; simp
  have e2 : n ++ [62] ++ r = c :: (cs ++ [62] ++ r) := by rw [e]; simp
  rw [e1, item_cons, if_neg (by decide), if_neg (by decide), if_neg (by decide), if_neg (by decide), if_pos rfl]
  rw [slashI_cons, if_pos hal]
  unfold closeI
  rw [← e2, er]
  simp only
  rw [low_name (isName_every hn)]
theorem raw_endE {n : List UInt8} (hn : isName n = true) (r : List UInt8) : rawText n (endE n ++ r) = ([], endE n ++ r) := by
  have h : rawEnd n (endE n ++ r) = true := by
    unfold rawEnd
    have e : (endE n ++ r).drop (2 + n.length) = 62 :: r := by
      have : endE n ++ r = ([60, 47] ++ n) ++ 62 :: r := by simp [endE]
      rw [this, List.drop_left' (by simp; omega)]
    rw [e]
    simp only
    have e1 : (endE n ++ r).take 2 = [60, 47] := rfl
    have e2 : ((endE n ++ r).drop 2).take n.length = n := by
      show ((n ++ [62]) ++ r).take n.length = n
      rw [List.append_assoc, List.take_left' rfl]
    rw [e1, e2, low_name (isName_every hn)]
    simp
  have := rawText_at n (endE n ++ r) 0 (Nat.zero_le _) (fun i hi => absurd hi (Nat.not_lt_zero _)) (.inr (by rw [List.drop_zero]; exact h))
  simpa using this
theorem ok_start {r : List Tok} (h : okT true r) (h0 : r ≠ []) : kindOf (emit r) ≠ 3 := by
  cases r with
  | nil => exact absurd rfl h0
  | cons t r =>
    obtain ⟨h1, _⟩ := h
    rw [emit_cons]
    unfold tokE
    rcases h1 with ⟨_, _, _, _, _, h⟩ | ⟨hk, hn, _⟩ | ⟨hk, hn, _⟩
    · cases h
    · rw [hk, if_neg (by decide), if_pos rfl, kind_end hn]; decide
    · rw [hk, if_neg (by decide), if_neg (by decide), kind_start hn]; decide
/-- WHAT IS WRITTEN IS READ BACK -/
theorem toks_emit : ∀ (ts : List Tok) (prev : Bool), okT prev ts → toksT [] (emit ts) = ts
  | [], _, _ => rfl
  | t :: r, prev, h => by
    obtain ⟨h1, h2⟩ := h
    have ih := toks_emit r _ h2
    rw [emit_cons]
    obtain ⟨kind, name, attrs, self, text⟩ := t
    simp only at h1 h2
    rcases h1 with ⟨rfl, ht, rfl, rfl, rfl, _⟩ | ⟨rfl, hn, rfl, rfl, rfl⟩ | ⟨rfl, hn, ha, rfl, hraw⟩
    · unfold tokE
      rw [if_pos rfl]
      simp only
      have hl := (esc_length false text).1
      have hp : 0 < text.length := List.length_pos_iff.2 ht
      have hk : ∀ i, i < (esc false text).length → kindOf ((esc false text ++ emit r).drop i) = 3 := by
        intro i hi
        rw [List.drop_append_of_le_length (by omega), List.drop_eq_getElem_cons hi, List.cons_append]
        exact kind_text (esc_clean false text _ (List.getElem_mem hi)).1 _
      have := toks_chars (l := esc false text ++ emit r) (n := (esc false text).length) (by omega) (by rw [List.length_append]; omega) hk (by
        by_cases hr : r = []
        · subst hr; left; simp [emit_nil]
        · right; rw [List.drop_left' rfl]; exact ok_start h2 hr)
      rw [this, List.take_left' rfl, List.drop_left' rfl, ih, unesc_esc_nil]
    · unfold tokE
      rw [if_neg (by simp), if_pos rfl]
      simp only
      rw [toksT_close (item_endE hn _), ih]
    · unfold tokE
      rw [if_neg (by simp), if_neg (by simp)]
      simp only
      rw [toksT_start (item_startE hn ha _ _)]
      by_cases hrn : rawName name = true
      · rw [if_pos hrn]
        have he := hraw hrn
        cases r with
        | nil => exact absurd he (by simp [isEnd])
        | cons t2 r2 =>
          obtain ⟨k2, n2⟩ := he
          have e2 : emit (t2 :: r2) = endE name ++ emit r2 := by rw [emit_cons]; unfold tokE; rw [k2, if_neg (by decide), if_pos rfl, n2]
          rw [e2, raw_endE hn]
          simp only
          rw [← e2, ih]
          rfl
      · rw [if_neg hrn, ih]
theorem toks_emits {ts : List Tok} (h : okT false ts) : toks (emit ts) = ts := by rw [toks_toksT]; exact toks_emit ts false h

end U
end Go.Proofs.YtmfkefcdddoooaaGreatDoor

namespace Go.Proofs.YtmfkefcdddoooaaGreatDoor
namespace U

def kOk (t : Tok) : Prop := 1 ≤ t.kind ∧ t.kind ≤ 4
theorem kinds_chars (txt : List UInt8) : ∀ t ∈ chars txt, kOk t := by
  intro t ht
  unfold chars at ht
  split at ht
  · cases ht
  · obtain rfl := List.mem_singleton.1 ht; exact ⟨by show 1 ≤ 3; decide, by show 3 ≤ 4; decide⟩
theorem kinds_raw (n raw : List UInt8) : ∀ t ∈ rawToks n raw, kOk t := by
  intro t ht
  unfold rawToks at ht
  split at ht
  · cases ht
  · obtain rfl := List.mem_singleton.1 ht; exact ⟨by show 1 ≤ 3; decide, by show 3 ≤ 4; decide⟩
theorem toksT_kinds : ∀ (m : Nat) (l txt : List UInt8), l.length ≤ m → ∀ t ∈ toksT txt l, kOk t
  | 0, l, txt, hm => by
    obtain rfl : l = [] := List.eq_nil_of_length_eq_zero (by omega)
    intro t ht
    rw [toksT_nil] at ht
    exact kinds_chars _ t ht
  | m + 1, [], txt, hm => by
    intro t ht
    rw [toksT_nil] at ht
    exact kinds_chars _ t ht
  | m + 1, b :: r, txt, hm => by
    have hr : r.length ≤ m := by simpa using hm
    by_cases h3 : kindOf (b :: r) = 3
    · rw [toksT_text txt rfl (item_text h3)]
      exact toksT_kinds m r _ hr
    · rw [toksT_flush txt (.inr (item_notext h3))]
      intro t ht
      rcases List.mem_append.1 ht with ht | ht
      · exact kinds_chars _ t ht
      have one : ∀ rest : List UInt8, rest.length < (b :: r).length → t ∈ toksT [] rest → kOk t := by
        intro rest hl h
        exact toksT_kinds m rest [] (by rw [List.length_cons] at hl; omega) t h
      rcases kindOf_cases (b :: r) with h | h | h | h
      · obtain ⟨c, u, e1, ha, he⟩ := item_start h
        unfold startI at he
        cases hru : runM st0 (c :: u) with
        | none => rw [hru] at he; rw [toksT_stop he] at ht; cases ht
        | some x =>
          obtain ⟨st, rest⟩ := x
          rw [hru] at he
          have hsh := item_shorter.2.2 _ _ _ _ he
          have hle := rawText_le (low st.tname) rest
          rw [toksT_start he] at ht
          rcases List.mem_cons.1 ht with rfl | ht
          · exact ⟨by show 1 ≤ 1; decide, by show 1 ≤ 4; decide⟩
          · split at ht
            · rcases List.mem_append.1 ht with ht | ht
              · exact kinds_raw _ _ t ht
              · exact one _ (by omega) ht
            · exact one _ hsh ht
      · obtain ⟨c, u, e1, ha, he⟩ := item_end h
        unfold closeI at he
        cases hru : runM st0 (c :: u) with
        | none => rw [hru] at he; rw [toksT_stop he] at ht; cases ht
        | some x =>
          obtain ⟨st, rest⟩ := x
          rw [hru] at he
          have hsh := item_shorter.2.1 _ _ he
          rw [toksT_close he] at ht
          rcases List.mem_cons.1 ht with rfl | ht
          · exact ⟨by show 1 ≤ 2; decide, by show 2 ≤ 4; decide⟩
          · exact one _ hsh ht
      · exact absurd h h3
      · obtain ⟨find, u, he⟩ : ∃ find u, item (b :: r) = markI find u := by
          rcases item_mark h with ⟨_, e⟩ | ⟨_, _, e⟩ | ⟨_, _, e⟩ <;> exact ⟨_, _, e⟩
        have hsh := item_shorter.1 _ _ he
        rw [toksT_mark he] at ht
        rcases List.mem_cons.1 ht with rfl | ht
        · rw [kOk, mark_kind]; decide
        · exact one _ hsh ht
theorem toks_kinds (l : List UInt8) : ∀ t ∈ toks l, kOk t := toksT_kinds l.length l [] (Nat.le_refl _)
/-- what is asked of parsed tokens that are written -/
theorem parsed_text (l : List UInt8) : (textOf ((toks l).map Tok.tk)).2 = 0 ∨ ((textOf ((toks l).map Tok.tk)).2 = 1 ∨ (textOf ((toks l).map Tok.tk)).2 = 4 ∨ (textOf ((toks l).map Tok.tk)).2 = 5) := by
  have h := fault_parsed (toks_kinds l) (fun t ht => ((toks_ok l).1 t ht).once)
  unfold textOf
  split
  · split
    · exact .inr (.inl rfl)
    · exact .inl rfl
  · rcases h with h | h
    · exact absurd h (by assumption)
    · exact .inr h
theorem map_tok (ts : List Tok) : (ts.map Tok.tk).map Tk.tok = ts := by
  rw [List.map_map]
  exact List.map_id' ts
/-- a text that was written is read as what was written -/
theorem text_back {ts : List Tok} (h : (textOf (ts.map Tok.tk)).2 = 0) : (textOf (ts.map Tok.tk)).1 = emit ts ∧ (emit ts).length ≤ 600 ∧ toks (emit ts) = ts := by
  unfold textOf at h ⊢
  rw [map_tok] at h ⊢
  split at h
  · rename_i h0
    rw [if_pos h0]
    split at h
    · cases h
    · rename_i h6
      rw [if_neg h6]
      refine ⟨rfl, by omega, toks_emits ?_⟩
      have hl : ts.length ≤ 300 := by
        unfold fault at h0
        split at h0
        · cases h0
        · rename_i h3; rw [List.length_map] at h3; omega
      exact (fault_ok hl).1 h0
  · rename_i h0
    exact absurd h h0

end U
end Go.Proofs.YtmfkefcdddoooaaGreatDoor

namespace Go.Proofs.YtmfkefcdddoooaaGreatDoor
namespace U

mutual
/-- no name that closes, or is closed, by itself -/
def freeN : Nd → Prop | .mk n _ _ p => n ≠ [112] ∧ n ≠ [108, 105] ∧ freeL p
def freeL : List Nd → Prop | [] => True | n :: r => freeN n ∧ freeL r
end
def addC (c : List Nd × List Nd) (n : Nd) : List Nd × List Nd := match c.2 with
  | [] => (c.1 ++ [n], [])
  | a :: r => (c.1, a.push n :: r)
def addsC (c : List Nd × List Nd) (l : List Nd) : List Nd × List Nd := l.foldl addC c
theorem addsC_cons (c : List Nd × List Nd) (n : Nd) (l : List Nd) : addsC c (n :: l) = addsC (addC c n) l := rfl
theorem addsC_out : ∀ (l o : List Nd), addsC (o, []) l = (o ++ l, [])
  | [], o => by show (o, []) = _; rw [List.append_nil]
  | n :: l, o => by rw [addsC_cons, show addC (o, []) n = (o ++ [n], []) from rfl, addsC_out l]; simp
theorem addsC_in (n t : List UInt8) (a : List Att) (r : List Nd) (o : List Nd) : ∀ (l q : List Nd), addsC (o, .mk n a t q :: r) l = (o, .mk n a t (q ++ l) :: r)
  | [], q => by show (o, _) = _; rw [List.append_nil]
  | x :: l, q => by rw [addsC_cons, show addC (o, .mk n a t q :: r) x = (o, .mk n a t (q ++ [x]) :: r) from rfl, addsC_in n t a r o l]; simp
def Bst.core (s : Bst) : List Nd × List Nd := (s.endText.out, s.endText.op)
theorem Bst.add_core (s : Bst) (n : Nd) : ((s.add n).out, (s.add n).op) = addC (s.out, s.op) n := by
  unfold Bst.add addC
  cases h : s.op <;> simp
theorem Bst.core_settled {s : Bst} (h : s.tx = []) : s.core = (s.out, s.op) := by
  unfold Bst.core Bst.endText
  rw [if_pos h]
theorem Bst.endText_settled (s : Bst) : s.endText.endText = s.endText := by
  have h := Bst.endText_tx s
  rw [Bst.endText, if_pos h]
theorem addC_names (c : List Nd × List Nd) (n : Nd) : (addC c n).2.map Nd.name = c.2.map Nd.name := by
  unfold addC
  cases h : c.2 with
  | nil => rfl
  | cons a r => simp [Nd.push_name]
theorem addsC_names : ∀ (l : List Nd) (c : List Nd × List Nd), (addsC c l).2.map Nd.name = c.2.map Nd.name
  | [], c => rfl
  | n :: l, c => by rw [addsC_cons, addsC_names l, addC_names]
theorem Bst.core_names (s : Bst) : s.core.2.map Nd.name = s.op.map Nd.name := by
  unfold Bst.core Bst.endText
  split
  · rfl
  · show ((s.add (.mk [] [] s.tx.flatten [])).op).map Nd.name = _
    have h := congrArg Prod.snd (Bst.add_core s (.mk [] [] s.tx.flatten []))
    have h' : (s.add (.mk [] [] s.tx.flatten [])).op = (addC (s.out, s.op) (.mk [] [] s.tx.flatten [])).2 := h
    rw [h', addC_names]
theorem idx_none {name : List UInt8} : ∀ {l : List Nd}, (∀ x ∈ l.map Nd.name, x ≠ name) → idx name l = 0
  | [], _ => rfl
  | a :: r, h => by
    rw [idx, if_neg (h a.name (by simp)), idx_none (fun x hx => h x (by simp at hx ⊢; exact .inr hx))]
theorem run_go {s : Bst} {t : Tk} {r : List Tk} (hk : t.kind = 1 ∨ t.kind = 2 ∨ t.kind = 3 ∨ t.kind = 4) (hc : (s.step t).cnt ≤ 150) : s.run (t :: r) = (s.step t).run r := by
  have h : s.stepE t = (s.step t, 0) := by unfold Bst.stepE; rw [if_pos hk, if_neg (by omega)]
  rw [Bst.run, h, if_pos rfl]
/-- nothing that is open closes by itself, or is mute -/
def Bst.calm (s : Bst) : Prop := s.hid = [] ∧ ∀ x ∈ s.op.map Nd.name, x ≠ [112] ∧ hides x = false
theorem Bst.calm_of {s s' : Bst} (h : s.calm) (h1 : s'.hid = []) (h2 : s'.op.map Nd.name = s.op.map Nd.name) : s'.calm := ⟨h1, by rw [h2]; exact h.2⟩
theorem Bst.calm_muted {s : Bst} (h : s.calm) : s.muted = false := by
  unfold Bst.muted
  have h2 := h.2
  cases hs : s.op with
  | nil => rfl
  | cons a r => exact (h2 a.name (by rw [hs]; simp)).2
theorem step_chars {s : Bst} (h : s.calm) (hx : s.tx = []) {t : List UInt8} (ht : t ≠ []) : s.step (Tok.tk ⟨3, [], [], false, t⟩) = ⟨s.out, s.op, [t], s.cnt + 1, []⟩ := by
  obtain ⟨out, op, tx, cnt, hid⟩ := s
  have h1 : hid = [] := h.1
  have h2 : tx = [] := hx
  subst h1
  subst h2
  have hm := Bst.calm_muted h
  show Bst.chars _ t = _
  unfold Bst.chars
  rw [if_neg]
  · rw [if_pos rfl]
    rfl
  · rintro (e | e | e)
    · exact ht e
    · exact e rfl
    · rw [hm] at e; cases e
theorem raw_hides {n : List UInt8} (h : rawName n = false) : hides n = false := by
  cases hh : hides n with
  | false => rfl
  | true =>
    unfold hides at hh
    rw [Bool.or_eq_true, beq_iff_eq, beq_iff_eq] at hh
    rcases hh with rfl | rfl <;> exact absurd h (by decide)
theorem step_start {s : Bst} (h : s.calm) (hl : s.op.length < 10) {n : List UInt8} (hn : n ≠ [108, 105]) (a : List Att) : s.step (Tok.tk ⟨1, n, a, false, []⟩) = s.start2 n a false := by
  obtain ⟨out, op, tx, cnt, hid⟩ := s
  have h1 : hid = [] := h.1
  subst h1
  have hi : idx [112] op = 0 := idx_none fun x hx => (h.2 x hx).1
  show Bst.start1 (Bst.closeBefore ⟨out, op, tx, cnt, []⟩ n) n a false = _
  have hp : Bst.closePar ⟨out, op, tx, cnt, []⟩ n = ⟨out, op, tx, cnt, []⟩ := by
    unfold Bst.closePar
    split
    · unfold Bst.closeLast
      rw [if_pos hi]
    · rfl
  have hb : Bst.closeBefore ⟨out, op, tx, cnt, []⟩ n = ⟨out, op, tx, cnt, []⟩ := by
    unfold Bst.closeBefore
    rw [hp, if_neg (fun e => hn e.1)]
  rw [hb]
  unfold Bst.start1
  rw [if_neg (by show ¬ op.length = 10; have : op.length < 10 := hl; omega)]
theorem Bst.endText_calm {s : Bst} (h : s.calm) : s.endText.calm := Bst.calm_of h (by rw [Bst.endText_hid]; exact h.1) (by have := Bst.core_names s; exact this)
theorem step_end {s : Bst} (h : s.hid = []) {n : List UInt8} {a : List Att} {p r : List Nd} (hc : s.core = (s.endText.out, .mk n a [] p :: r)) : ∃ s' : Bst, s.step (Tok.tk ⟨2, n, [], false, []⟩) = s' ∧ s'.core = addC (s.endText.out, r) (.mk n a [] p) ∧ s'.cnt = s.cnt ∧ s'.hid = [] ∧ s'.tx = [] := by
  have hop : s.endText.op = .mk n a [] p :: r := congrArg Prod.snd hc
  have hnm := Bst.core_names s
  rw [hc] at hnm
  have hlen := congrArg List.length hnm
  simp only [List.map_cons, List.length_cons, List.length_map] at hlen
  obtain ⟨b, q, hb⟩ : ∃ b q, s.op = b :: q := by
    cases hs : s.op with
    | nil => rw [hs] at hlen; simp at hlen
    | cons b q => exact ⟨b, q, rfl⟩
  have hbn : b.name = n := by
    rw [hb, List.map_cons, List.map_cons] at hnm
    injection hnm with h1 _
    exact h1.symm
  have hi : idx n s.op = s.op.length := by rw [hb, idx, if_pos hbn]; rfl
  refine ⟨s.pop, ?_, ?_, Bst.pop_cnt s, by rw [Bst.pop_hid]; exact h, ?_⟩
  · show Bst.ends s n = s.pop
    unfold Bst.ends
    have hh : (if s.hid = n then ({ s with hid := [] } : Bst) else s) = s := by
      split
      · obtain ⟨out, op, tx, cnt, hid⟩ := s
        have : hid = [] := h
        subst this
        rfl
      · rfl
    rw [hh]
    unfold Bst.closeLast
    rw [hi, if_neg (by rw [hb]; simp)]
    unfold Bst.closeFrom
    rw [show s.op.length - (s.op.length - 1) = 1 by rw [hb]; simp]
    rfl
  · rw [Bst.pop_of hop, Bst.core_settled (by rw [Bst.add_tx]; exact Bst.endText_tx s), Bst.add_core]
    rfl
  · rw [Bst.pop_of hop, Bst.add_tx]
    exact Bst.endText_tx s
mutual
theorem nd_run : ∀ (n : Nd) (s : Bst), ndFault (!s.tx.isEmpty) s.op.length n = 0 → freeN n → s.calm → s.cnt + cntN n ≤ 150 →
    ∃ s' : Bst, (∀ r, s.run ((ndToks n).map Tok.tk ++ r) = s'.run r) ∧ s'.core = addC s.core n ∧ s'.cnt = s.cnt + cntN n ∧ s'.hid = [] ∧ (!s'.tx.isEmpty) = n.name.isEmpty
  | .mk n a t p, s, h, hf, hc, hn => by
    rw [ndFault] at h
    rw [freeN] at hf
    rw [cntN] at hn
    obtain ⟨f1, f2, f3⟩ := hf
    by_cases h0 : nodeFault (!s.tx.isEmpty) s.op.length (.mk n a t p) = 0
    · rw [if_pos h0] at h
      unfold nodeFault at h0
      split at h0
      · cases h0
      rename_i hd
      rw [ndToks, cntN]
      by_cases he : n = []
      · rw [if_pos he]
        have he' : (Nd.mk n a t p).name = [] := he
        rw [if_pos he'] at h0
        split at h0
        · cases h0
        rename_i h1
        have e1 : a = [] := Classical.byContradiction fun h => h1 (.inl h)
        have e2 : p = [] := Classical.byContradiction fun h => h1 (.inr (.inl h))
        have e3 : t ≠ [] := fun h => h1 (.inr (.inr (.inl h)))
        have e4 : s.tx = [] := Classical.byContradiction fun h => h1 (.inr (.inr (.inr (by cases hx : s.tx with
          | nil => exact absurd hx h
          | cons x y => rfl))))
        subst he
        subst e1
        subst e2
        rw [cntL_nil]
        have hst := step_chars hc e4 e3
        refine ⟨⟨s.out, s.op, [t], s.cnt + 1, []⟩, fun r => ?_, ?_, rfl, rfl, rfl⟩
        · rw [List.map_singleton, List.singleton_append, run_go (.inr (.inr (.inl rfl))) (by rw [hst]; show s.cnt + 1 ≤ 150; omega), hst]
        · rw [Bst.core_settled e4]
          unfold Bst.core Bst.endText
          rw [if_neg (by simp)]
          have := Bst.add_core ⟨s.out, s.op, [t], s.cnt + 1, []⟩ (.mk [] [] t [])
          simp only [List.flatten_cons, List.flatten_nil, List.append_nil]
          exact this
      · rw [if_neg he]
        have he' : ¬ (Nd.mk n a t p).name = [] := he
        rw [if_neg he', elemFault_zero] at h0
        obtain ⟨e1, e2, e3, e4, e5⟩ := h0
        have e3' : t = [] := e3
        have e4' : rawName n = false := e4
        subst e3'
        have hne : (Nd.mk n a [] p).name.isEmpty = false := by
          show n.isEmpty = false
          cases n with
          | nil => exact absurd rfl he
          | cons b c => rfl
        have hst := step_start hc (by omega) f2 a
        have hec := Bst.endText_calm hc
        have hel : s.endText.op.length = s.op.length := Bst.endText_op s
        by_cases hv : isVoid n = true
        · rw [if_pos hv]
          have e5' : p = [] := e5 hv
          subst e5'
          rw [cntL_nil]
          have h2 : s.start2 n a false = s.endText.more.add (.mk n a [] []) := by unfold Bst.start2; rw [if_pos (.inr hv)]
          rw [h2] at hst
          have hcn : (s.endText.more.add (.mk n a [] [])).cnt = s.cnt + 1 := by rw [Bst.add_cnt]; show s.endText.cnt + 1 = _; rw [Bst.endText_cnt]
          have htx : (s.endText.more.add (.mk n a [] [])).tx = [] := by rw [Bst.add_tx]; exact Bst.endText_tx s
          refine ⟨s.endText.more.add (.mk n a [] []), fun r => ?_, ?_, by rw [hcn], ?_, by rw [htx, hne]; rfl⟩
          · rw [List.map_singleton, List.singleton_append, run_go (.inl rfl) (by rw [hst, hcn]; omega), hst]
          · rw [Bst.core_settled htx, Bst.add_core]
            rfl
          · rw [Bst.add_hid]
            show s.endText.hid = []
            rw [Bst.endText_hid]
            exact hc.1
        · rw [if_neg hv]
          have h2 : s.start2 n a false = s.endText.more.withOp (.mk n a [] [] :: s.endText.op) := by unfold Bst.start2; rw [if_neg (fun e => e.elim (fun e => by cases e) hv)]
          rw [h2] at hst
          have hs1 : ∃ s1, s1 = s.endText.more.withOp (.mk n a [] [] :: s.endText.op) := ⟨_, rfl⟩
          obtain ⟨s1, hs1⟩ := hs1
          rw [← hs1] at hst
          have k1 : s1.tx = [] := by rw [hs1]; exact Bst.endText_tx s
          have k2 : s1.op = .mk n a [] [] :: s.endText.op := by rw [hs1]; rfl
          have k3 : s1.cnt = s.cnt + 1 := by rw [hs1]; show s.endText.cnt + 1 = _; rw [Bst.endText_cnt]
          have k4 : s1.hid = [] := by rw [hs1]; show s.endText.hid = []; rw [Bst.endText_hid]; exact hc.1
          have k5 : s1.out = s.endText.out := by rw [hs1]; rfl
          have k6 : s1.calm := ⟨k4, fun x hx => by
            rw [k2, List.map_cons] at hx
            rcases List.mem_cons.1 hx with rfl | hx
            · exact ⟨f1, raw_hides e4'⟩
            · exact hec.2 x hx⟩
          obtain ⟨s2, r1, r2, r3, r4, r5⟩ := l_run p s1 (by rw [k1, k2, List.length_cons, hel]; exact h) f3 k6 (by omega)
          have hc1 : s1.core = (s.endText.out, .mk n a [] [] :: s.endText.op) := by rw [Bst.core_settled k1, k2, k5]
          rw [hc1, addsC_in, List.nil_append] at r2
          have ho2 : s2.endText.out = s.endText.out := congrArg Prod.fst r2
          obtain ⟨s3, q1, q2, q3, q4, q5⟩ := step_end r4 (a := a) (p := p) (r := s.endText.op) (n := n) (by rw [r2, ho2])
          refine ⟨s3, fun r => ?_, ?_, by omega, q4, by rw [q5, hne]; rfl⟩
          · rw [List.map_cons, List.cons_append, run_go (.inl rfl) (by rw [hst]; omega), hst, List.map_append, List.append_assoc, r1, List.map_singleton, List.singleton_append, run_go (.inr (.inl rfl)) (by rw [q1]; omega), q1]
          · rw [q2, ho2]
            rfl
    · rw [if_neg h0] at h
      exact absurd h h0
theorem l_run : ∀ (l : List Nd) (s : Bst), lFault (!s.tx.isEmpty) s.op.length l = 0 → freeL l → s.calm → s.cnt + cntL l ≤ 150 →
    ∃ s' : Bst, (∀ r, s.run ((lToks l).map Tok.tk ++ r) = s'.run r) ∧ s'.core = addsC s.core l ∧ s'.cnt = s.cnt + cntL l ∧ s'.hid = [] ∧ s'.calm
  | [], s, _, _, hc, _ => ⟨s, fun r => by rw [lToks_nil]; rfl, rfl, by rw [cntL_nil]; rfl, hc.1, hc⟩
  | n :: l, s, h, hf, hc, hn => by
    rw [freeL] at hf
    rw [cntL_cons] at hn
    rw [lFault_cons] at h
    by_cases h0 : ndFault (!s.tx.isEmpty) s.op.length n = 0
    · rw [if_pos h0] at h
      obtain ⟨s1, a1, a2, a3, a4, a5⟩ := nd_run n s h0 hf.1 hc (by omega)
      have hnm : s1.op.map Nd.name = s.op.map Nd.name := by rw [← Bst.core_names s1, a2, addC_names, Bst.core_names]
      have hlen : s1.op.length = s.op.length := by have := congrArg List.length hnm; simpa using this
      obtain ⟨s2, b1, b2, b3, b4, b5⟩ := l_run l s1 (by rw [a5, hlen]; exact h) hf.2 (Bst.calm_of hc a4 hnm) (by omega)
      refine ⟨s2, fun r => ?_, by rw [b2, a2, addsC_cons], by rw [cntL_cons]; omega, b4, b5⟩
      rw [lToks_cons, List.map_append, List.append_assoc, a1, b1]
    · rw [if_neg h0] at h
      exact absurd h h0
end
/-- tokens of nodes are built as these -/
theorem build_toks {l : List Nd} (h : showFault l = 0) (hf : freeL l) : build ((lToks l).map Tok.tk) = (l, 0) := by
  obtain ⟨h1, h2, h3, h4⟩ := show_ok h
  unfold build
  rw [List.length_map, if_neg (by omega)]
  obtain ⟨s, a1, a2, a3, a4, a5⟩ := l_run l Bst.new h3 hf ⟨rfl, fun x hx => by cases hx⟩ (by show 0 + cntL l ≤ 150; omega)
  have h5 := a1 []
  rw [List.append_nil] at h5
  rw [h5]
  have hc : s.core = (l, []) := by
    rw [a2]
    show addsC ([], []) l = _
    rw [addsC_out]
    rfl
  show (s.done, 0) = _
  have hop : s.op.length = 0 := by
    have := Bst.endText_op s
    rw [← this]
    have h6 : s.endText.op = [] := congrArg Prod.snd hc
    rw [h6]
    rfl
  have hd : s.done = l := by
    unfold Bst.done Bst.closeFrom
    rw [hop]
    show s.endText.out = l
    exact congrArg Prod.fst hc
  rw [hd]

end U
end Go.Proofs.YtmfkefcdddoooaaGreatDoor

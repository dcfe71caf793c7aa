/- Plain mathematics: names are small and not empty, no attribute twice, no text empty, no two texts side by side; how many tokens there are. -/
import Derived.Test.YtkmjngpgngkalaaDoorPrefixMath
namespace Go.Proofs.YtkmjngpgngkalaaDoor
namespace U

/-- no two attributes with one name -/
def uniq : List Att → Prop := List.Pairwise (fun a b => a.1 ≠ b.1)
structure OkTok (t : Tok) : Prop where
  text : t.kind = 3 → t.text ≠ []
  name : t.kind = 1 ∨ t.kind = 2 → t.name ≠ []
  low : ∀ c ∈ t.name, ¬ (65 ≤ c.toNat ∧ c.toNat ≤ 90)
  once : uniq t.attrs
/-- no two texts side by side -/
def apart : List Tok → Prop
  | [] => True
  | [_] => True
  | a :: b :: l => ¬ (a.kind = 3 ∧ b.kind = 3) ∧ apart (b :: l)
def headNo (l : List Tok) : Prop := ∀ t, l.head? = some t → t.kind ≠ 3

theorem low_small (l : List UInt8) : ∀ c ∈ low l, ¬ (65 ≤ c.toNat ∧ c.toNat ≤ 90) := by
  intro c hc
  unfold low at hc
  obtain ⟨b, _, rfl⟩ := List.mem_map.1 hc
  unfold low1
  split
  · rename_i h
    simp only [UInt8.toNat_ofNat']
    omega
  · assumption
theorem firsts_uniq : ∀ (l acc : List Att), uniq acc → uniq (firsts acc l)
  | [], acc, h => h
  | a :: l, acc, h => by
    rw [firsts]
    apply firsts_uniq
    split
    · rename_i h1
      refine List.pairwise_append.2 ⟨h, List.pairwise_singleton _ _, ?_⟩
      intro x hx y hy
      obtain rfl := List.mem_singleton.1 hy
      have := List.all_eq_true.1 h1 x hx
      simpa using this
    · exact h
theorem unesc_ne {l : List UInt8} (h : l ≠ []) : unesc l ≠ [] := by
  cases l with
  | nil => exact absurd rfl h
  | cons b r =>
    cases hr : refAt (b :: r) with
    | none => rw [unesc_none hr]; simp
    | some x =>
      obtain ⟨n, k⟩ := x
      rw [unesc_some hr]
      intro e
      have := congrArg List.length e
      rw [List.length_append, List.length_nil] at this
      have h2 := (enc_length n).1
      omega
theorem ok_chars (txt : List UInt8) : ∀ t ∈ chars txt, OkTok t := by
  intro t ht
  unfold chars at ht
  split at ht
  · cases ht
  · rename_i h
    obtain rfl := List.mem_singleton.1 ht
    exact ⟨fun _ => unesc_ne h, (fun h => by rcases h with h | h <;> cases h), (fun c hc => by cases hc), List.Pairwise.nil⟩
theorem ok_raw (n raw : List UInt8) : ∀ t ∈ rawToks n raw, OkTok t := by
  intro t ht
  unfold rawToks at ht
  split at ht
  · cases ht
  · rename_i h
    obtain rfl := List.mem_singleton.1 ht
    refine ⟨fun _ => ?_, (fun h => by rcases h with h | h <;> cases h), (fun c hc => by cases hc), List.Pairwise.nil⟩
    simp only
    split
    · exact unesc_ne h
    · exact h
theorem ok_mark {find l : List UInt8} : OkTok (remark find l).1 := by
  unfold remark
  split <;> exact ⟨(fun h => by cases h), (fun h => by rcases h with h | h <;> cases h), (fun c hc => by cases hc), List.Pairwise.nil⟩
theorem mark_kind {find l : List UInt8} : (remark find l).1.kind = 4 := by
  unfold remark
  split <;> rfl

/-- the name that the machine reads -/
theorem runM_tname : ∀ (l : List UInt8) (st : St) {st' : St} {r : List UInt8}, st.state ≠ 0 → runM st l = some (st', r) → st'.tname = st.tname := by
  have hstep : ∀ (st : St) (b : UInt8), st.state ≠ 0 → (∀ s, step st b = .go s → s.state ≠ 0 ∧ s.tname = st.tname) ∧ (∀ s, step st b = .fin s → s.tname = st.tname) ∧ (∀ s, step st b = .again s → s.state ≠ 0 ∧ s.tname = st.tname) := by
    intro st b h0
    have e0 : pre0 st = st := by unfold pre0; rw [if_neg h0]
    have e2 : (pre2 st b).state ≠ 0 ∧ (pre2 st b).tname = st.tname := by unfold pre2; split <;> simp [h0]
    have e6 : (pre6 (pre2 st b) b).state ≠ 0 ∧ (pre6 (pre2 st b) b).tname = st.tname := by unfold pre6; split <;> simp [e2]
    have e3 : (pre3 (pre6 (pre2 st b) b) b).state ≠ 0 ∧ (pre3 (pre6 (pre2 st b) b) b).tname = st.tname := by unfold pre3; split <;> simp [e6]
    unfold step
    rw [if_neg (fun h => h0 h.1), e0]
    generalize pre3 (pre6 (pre2 st b) b) b = t at e3
    obtain ⟨g1, g2⟩ := e3
    unfold post
    refine ⟨fun s h => ?_, fun s h => ?_, fun s h => ?_⟩
    all_goals
      repeat' split at h
      all_goals first
        | (cases h; done)
        | (injection h with h; subst h; simp_all; done)
        | skip
  intro l
  induction l with
  | nil => intro st st' r _ h; cases h
  | cons b l ih =>
    intro st st' r h0 h
    obtain ⟨s1, s2, s3⟩ := hstep st b h0
    rw [runM] at h
    cases hs : step st b with
    | go s =>
      rw [hs] at h
      obtain ⟨g1, g2⟩ := s1 s hs
      rw [ih s g1 h, g2]
    | fin s =>
      rw [hs] at h
      simp only [Option.some.injEq, Prod.mk.injEq] at h
      obtain ⟨rfl, _⟩ := h
      exact s2 s hs
    | again s =>
      rw [hs] at h
      simp only at h
      obtain ⟨g1, g2⟩ := s3 s hs
      obtain ⟨t1, t2, _⟩ := hstep s b g1
      cases hs2 : step s b with
      | go s' =>
        rw [hs2] at h
        obtain ⟨g3, g4⟩ := t1 s' hs2
        rw [ih s' g3 h, g4, g2]
      | fin s' =>
        rw [hs2] at h
        simp only [Option.some.injEq, Prod.mk.injEq] at h
        obtain ⟨rfl, _⟩ := h
        rw [t2 s' hs2, g2]
      | again s' => rw [hs2] at h; cases h
theorem tname_ne {c : UInt8} {r t : List UInt8} {s : St} (ha : isAl c = true) (h : runM st0 (c :: r) = some (s, t)) : s.tname ≠ [] := by
  unfold st0 at h
  rw [run_name] at h
  have := runM_tname _ _ (by simp) h
  rw [this]
  have hn : nameB c = true := by
    have h1 : endsName c = false := by
      obtain ⟨h1, h2, h3⟩ := isAl_ne ha
      have h4 : c ≠ 62 := by rintro rfl; exact absurd ha (by decide)
      have h5 : isSp c = false := by
        cases hs : isSp c with
        | false => rfl
        | true =>
          exfalso
          unfold isSp at hs
          simp only [Bool.or_eq_true, beq_iff_eq] at hs
          rcases hs with ((rfl | rfl) | rfl) | rfl <;> exact absurd ha (by decide)
      simp [endsName, h5, h3, h4]
    simp [nameB, h1]
  rw [List.takeWhile_cons_of_pos hn]
  simp
theorem low_ne {l : List UInt8} (h : l ≠ []) : low l ≠ [] := by
  intro e
  have := congrArg List.length e
  rw [low_length] at this
  exact h (List.eq_nil_of_length_eq_zero this)

theorem apart_cons {a : Tok} {l : List Tok} (h : apart l) (ha : a.kind ≠ 3 ∨ headNo l) : apart (a :: l) := by
  cases l with
  | nil => trivial
  | cons b l =>
    refine ⟨fun hh => ?_, h⟩
    rcases ha with ha | ha
    · exact ha hh.1
    · exact ha b rfl hh.2
theorem apart_chars {txt : List UInt8} {l : List Tok} (h : apart l) (h2 : headNo l) : apart (chars txt ++ l) := by
  unfold chars
  split
  · exact h
  · exact apart_cons h (.inr h2)
theorem raw_rest_kind {n l : List UInt8} (hn : ∃ c m, n = c :: m ∧ isAl c = true) (hz : (rawText n l).2 ≠ []) : kindOf (rawText n l).2 = 2 := by
  · have h1 := rawText_rest n l hz
    generalize (rawText n l).2 = r at h1 hz
    obtain ⟨c, m, rfl, hc⟩ := hn
    have hlong := rawEnd_long h1
    unfold rawEnd at h1
    cases hd : r.drop (2 + (c :: m).length) with
    | nil => rw [hd] at h1; cases h1
    | cons d e =>
      rw [hd] at h1
      simp only [Bool.and_eq_true, beq_iff_eq] at h1
      obtain ⟨⟨h2, h3⟩, _⟩ := h1
      match r, hlong, h2, h3 with
      | [], hl, _, _ => simp at hl
      | [_], hl, _, _ => simp at hl
      | [_, _], hl, _, _ => simp only [List.length_cons, List.length_nil] at hl; omega
      | x :: y :: z :: u, _, h2, h3 =>
        simp only [List.take_succ_cons, List.take_zero, List.cons.injEq, and_true] at h2
        obtain ⟨rfl, rfl⟩ := h2
        have hz2 : isAl z = true := by
          have h4 : low1 z = c := by
            have : (z :: u).take ((c :: m).length) = z :: u.take m.length := by simp
            simp only [List.drop_succ_cons, List.drop_zero] at h3
            rw [this] at h3
            unfold low at h3
            rw [List.map_cons] at h3
            injection h3
          rw [← h4] at hc
          unfold low1 at hc
          split at hc
          · rename_i h5
            unfold isAl
            simp [h5.1, h5.2]
          · exact hc
        rw [kindOf_cons, if_neg (by decide), if_neg (by decide), if_neg (by decide), if_pos rfl, kindS_cons, if_pos hz2]
theorem headNo_rest {n l : List UInt8} (hn : ∃ c m, n = c :: m ∧ isAl c = true) : headNo (toksT [] (rawText n l).2) := by
  by_cases hz : (rawText n l).2 = []
  · rw [hz]; intro t ht; cases ht
  · have hk := raw_rest_kind (l := l) hn hz
    obtain ⟨c', r', e1, _, he⟩ := item_end hk
    cases hs : closeI (c' :: r') with
    | close n' rest => rw [toksT_close (he.trans hs)]; intro t ht; injection ht with ht; subst ht; simp
    | stop => rw [toksT_stop (he.trans hs)]; intro t ht; cases ht
    | text => unfold closeI at hs; split at hs <;> cases hs
    | mark t rest => unfold closeI at hs; split at hs <;> cases hs
    | start n as s rest => unfold closeI at hs; split at hs <;> cases hs
theorem rawText_both : ∀ (n l : List UInt8), (rawText n l).1 ++ (rawText n l).2 = l
  | n, [] => rfl
  | n, b :: r => by
    rw [rawText]
    split
    · rfl
    · show b :: ((rawText n r).1 ++ (rawText n r).2) = b :: r
      rw [rawText_both n r]
theorem rawName_al {n : List UInt8} (h : rawName n = true) : ∃ c m, n = c :: m ∧ isAl c = true := by
  unfold rawName at h
  simp only [Bool.or_eq_true, beq_iff_eq] at h
  rcases h with ((rfl | rfl) | rfl) | rfl <;> exact ⟨_, _, rfl, by decide⟩

/-- all of it -/
theorem toksT_ok : ∀ (m : Nat) (l txt : List UInt8), l.length ≤ m → (∀ t ∈ toksT txt l, OkTok t) ∧ apart (toksT txt l) ∧ (toksT txt l).length ≤ l.length + (if txt = [] then 0 else 1)
  | 0, l, txt, hm => by
    obtain rfl : l = [] := List.eq_nil_of_length_eq_zero (by omega)
    rw [toksT_nil]
    refine ⟨ok_chars txt, ?_, ?_⟩
    · unfold chars; split <;> trivial
    · unfold chars; split <;> simp
  | m + 1, [], txt, hm => by
    rw [toksT_nil]
    refine ⟨ok_chars txt, ?_, ?_⟩
    · unfold chars; split <;> trivial
    · unfold chars; split <;> simp
  | m + 1, b :: r, txt, hm => by
    have hr : r.length ≤ m := by simpa using hm
    by_cases h3 : kindOf (b :: r) = 3
    · rw [toksT_text txt rfl (item_text h3)]
      obtain ⟨g1, g2, g3⟩ := toksT_ok m r (txt ++ [b]) hr
      refine ⟨g1, g2, ?_⟩
      rw [if_neg (by simp)] at g3
      rw [List.length_cons]
      split <;> omega
    · rw [toksT_flush txt (.inr (item_notext h3))]
      have hch : (chars txt).length = if txt = [] then 0 else 1 := by unfold chars; split <;> rfl
      have key : (∀ t ∈ toksT [] (b :: r), OkTok t) ∧ apart (toksT [] (b :: r)) ∧ headNo (toksT [] (b :: r)) ∧ (toksT [] (b :: r)).length ≤ (b :: r).length := by
        have step1 : ∀ (t : Tok) (rest : List UInt8), OkTok t → t.kind ≠ 3 → rest.length < (b :: r).length → (∀ u ∈ t :: toksT [] rest, OkTok u) ∧ apart (t :: toksT [] rest) ∧ headNo (t :: toksT [] rest) ∧ (t :: toksT [] rest).length ≤ (b :: r).length := by
          intro t rest ht hk hl
          rw [List.length_cons] at hl
          obtain ⟨g1, g2, g3⟩ := toksT_ok m rest [] (by omega)
          rw [if_pos rfl] at g3
          refine ⟨fun u hu => ?_, apart_cons g2 (.inl hk), fun u hu => ?_, ?_⟩
          · rcases List.mem_cons.1 hu with rfl | hu
            · exact ht
            · exact g1 u hu
          · injection hu with hu; subst hu; exact hk
          · rw [List.length_cons, List.length_cons]; omega
        have none1 : (∀ t ∈ ([] : List Tok), OkTok t) ∧ apart [] ∧ headNo [] ∧ ([] : List Tok).length ≤ (b :: r).length := ⟨(fun _ h => by cases h), trivial, (fun _ h => by cases h), by simp⟩
        rcases kindOf_cases (b :: r) with h | h | h | h
        · obtain ⟨c, u, e1, ha, he⟩ := item_start h
          cases hs : startI (c :: u) with
          | start n as s rest =>
            have hsh := item_shorter.2.2 n as s rest (he.trans hs)
            have hok : OkTok ⟨1, n, as, s, []⟩ := by
              unfold startI at hs
              cases hru : runM st0 (c :: u) with
              | none => rw [hru] at hs; cases hs
              | some x =>
                rw [hru] at hs
                obtain ⟨st, t⟩ := x
                simp only [Item.start.injEq] at hs
                obtain ⟨rfl, rfl, rfl, rfl⟩ := hs
                exact ⟨(fun h => by cases h), fun _ => low_ne (tname_ne ha hru), low_small _, firsts_uniq _ _ List.Pairwise.nil⟩
            rw [toksT_start (he.trans hs)]
            by_cases hn : rawName n = true
            · rw [if_pos hn]
              have hle := rawText_le n rest
              rw [List.length_cons] at hsh
              obtain ⟨g1, g2, g3⟩ := toksT_ok m (rawText n rest).2 [] (by omega)
              rw [if_pos rfl] at g3
              have hh := headNo_rest (l := rest) (rawName_al hn)
              refine ⟨fun x hx => ?_, apart_cons ?_ (.inl (by simp)), fun x hx => by injection hx with hx; subst hx; simp, ?_⟩
              · rcases List.mem_cons.1 hx with rfl | hx
                · exact hok
                rcases List.mem_append.1 hx with hx | hx
                · exact ok_raw _ _ x hx
                · exact g1 x hx
              · unfold rawToks
                split
                · exact g2
                · exact apart_cons g2 (.inr hh)
              · have hraw : (rawToks n (rawText n rest).1).length + (rawText n rest).2.length ≤ rest.length := by
                  have hlen : (rawText n rest).1.length + (rawText n rest).2.length = rest.length := by
                    have := congrArg List.length (rawText_both n rest)
                    rwa [List.length_append] at this
                  unfold rawToks
                  split
                  · simp; omega
                  · rename_i h9
                    have : (rawText n rest).1.length ≠ 0 := fun e => h9 (List.eq_nil_of_length_eq_zero e)
                    simp only [List.length_cons, List.length_nil]
                    omega
                rw [List.length_cons, List.length_append, List.length_cons]
                omega
            · rw [if_neg hn]
              exact step1 _ rest hok (by simp) hsh
          | stop => rw [toksT_stop (he.trans hs)]; exact none1
          | text => unfold startI at hs; split at hs <;> cases hs
          | mark t rest => unfold startI at hs; split at hs <;> cases hs
          | close n rest => unfold startI at hs; split at hs <;> cases hs
        · obtain ⟨c, u, e1, ha, he⟩ := item_end h
          cases hs : closeI (c :: u) with
          | close n rest =>
            have hsh := item_shorter.2.1 n rest (he.trans hs)
            rw [toksT_close (he.trans hs)]
            refine step1 _ rest ?_ (by simp) hsh
            unfold closeI at hs
            cases hru : runM st0 (c :: u) with
            | none => rw [hru] at hs; cases hs
            | some x =>
              rw [hru] at hs
              obtain ⟨st, t⟩ := x
              simp only [Item.close.injEq] at hs
              obtain ⟨rfl, rfl⟩ := hs
              exact ⟨(fun h => by cases h), fun _ => low_ne (tname_ne ha hru), low_small _, List.Pairwise.nil⟩
          | stop => rw [toksT_stop (he.trans hs)]; exact none1
          | text => unfold closeI at hs; split at hs <;> cases hs
          | mark t rest => unfold closeI at hs; split at hs <;> cases hs
          | start n as s rest => unfold closeI at hs; split at hs <;> cases hs
        · exact absurd h h3
        · obtain ⟨find, u, he⟩ : ∃ find u, item (b :: r) = markI find u := by
            rcases item_mark h with ⟨_, e⟩ | ⟨_, _, e⟩ | ⟨_, _, e⟩ <;> exact ⟨_, _, e⟩
          have hsh := item_shorter.1 _ _ he
          rw [toksT_mark he]
          exact step1 _ _ ok_mark (by rw [mark_kind]; decide) hsh
      obtain ⟨k1, k2, k3, k4⟩ := key
      refine ⟨fun t ht => ?_, apart_chars k2 k3, ?_⟩
      · rcases List.mem_append.1 ht with ht | ht
        · exact ok_chars _ t ht
        · exact k1 t ht
      · rw [List.length_append, hch]
        omega
theorem toks_ok (l : List UInt8) : (∀ t ∈ toks l, OkTok t) ∧ apart (toks l) ∧ (toks l).length ≤ l.length := by
  obtain ⟨h1, h2, h3⟩ := toksT_ok l.length l [] (Nat.le_refl _)
  rw [if_pos rfl] at h3
  exact ⟨h1, h2, h3⟩
theorem apart_at : ∀ (l : List Tok) (i : Nat) (a b : Tok), apart l → l[i]? = some a → l[i + 1]? = some b → ¬ (a.kind = 3 ∧ b.kind = 3)
  | [], i, a, b, _, h, _ => by cases h
  | [x], i, a, b, _, h, h2 => by cases i <;> simp at h2
  | x :: y :: l, 0, a, b, h, h1, h2 => by
    simp only [List.getElem?_cons_zero, Option.some.injEq, Nat.zero_add, List.getElem?_cons_succ] at h1 h2
    subst h1; subst h2
    exact h.1
  | x :: y :: l, i + 1, a, b, h, h1, h2 => by
    simp only [List.getElem?_cons_succ] at h1 h2
    exact apart_at (y :: l) i a b h.2 (by simpa using h1) (by simpa using h2)

end U
end Go.Proofs.YtkmjngpgngkalaaDoor

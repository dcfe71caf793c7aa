/- Several texts in one: CountMath, EmitDef, EmitMath, FaultMath. -/
import Derived.Test.YtfockedeikdbjaaGreatDoorP01
import Derived.Test.YtfockedeikdbjaaGreatDoorP00
namespace Go.Proofs.YtfockedeikdbjaaGreatDoor
namespace U

theorem al_name {c : UInt8} (ha : isAl c = true) : nameB c = true := by
  obtain ⟨h1, h2, h3⟩ := isAl_ne ha
  have h4 : c ≠ 62 := by rintro rfl; exact absurd ha (by decide)
  have h5 : isSp c = false := by
    cases hs : isSp c with
    | false => rfl
    | true =>
      exfalso
      unfold isSp at hs
      simp only [Bool.or_eq_true, beq_iff_eq] at hs
      rcases hs with ((rfl | rfl) | rfl) | rfl <;> exact absurd ha (by decide)
  simp [nameB, endsName, h5, h3, h4]
theorem tag_short {c : UInt8} {r t : List UInt8} {s : St} (ha : isAl c = true) (h : runM st0 (c :: r) = some (s, t)) : t.length + 1 ≤ r.length := by
  have hn := al_name ha
  simp only [nameB, endsName, Bool.not_eq_true', Bool.or_eq_false_iff, beq_eq_false_iff_ne] at hn
  unfold st0 at h
  rw [runM_go r (step_N4 hn.1.1 hn.1.2 hn.2)] at h
  have := runM_shorter _ _ h
  omega
theorem remark_short {find l : List UInt8} (hf : find ≠ []) : (remark find l).2 = [] ∨ (remark find l).2.length + find.length ≤ l.length := by
  unfold remark
  cases hp : placeOf find l with
  | none => exact .inl rfl
  | some k =>
    have := placeOf_le hf hp
    right
    simp only [List.length_drop]
    omega
theorem mark_short {l rest : List UInt8} {t : Tok} (hk : kindOf l = 4) (hi : item l = .mark t rest) : 2 ≤ l.length ∧ (rest = [] ∨ rest.length + 3 ≤ l.length) := by
  have hl2 : 2 ≤ l.length := by
    match l, hk with
    | a :: c :: r, _ => simp
  refine ⟨hl2, ?_⟩
  rcases item_mark hk with ⟨h4, e⟩ | ⟨h4, h5, e⟩ | ⟨h4, h5, e⟩
  · rw [e] at hi
    unfold markI at hi
    injection hi with _ hr
    rcases remark_short (find := [45, 45, 62]) (l := l.drop 4) (by decide) with h | h
    · exact .inl (hr ▸ h)
    · rw [hr, List.length_drop] at h
      simp only [List.length_cons, List.length_nil] at h
      exact .inr (by omega)
  · rw [e] at hi
    unfold markI at hi
    injection hi with _ hr
    match l, h5 with
    | a :: c :: r, h5 =>
      have hc : c = 63 := by
        simp only [List.take_succ_cons, List.take_zero, List.cons.injEq] at h5
        exact h5.2.1
      subst hc
      simp only [List.drop_succ_cons, List.drop_zero] at hr
      unfold remark at hr
      cases hp : placeOf [62] (63 :: r) with
      | none => rw [hp] at hr; exact .inl hr.symm
      | some k =>
        rw [hp] at hr
        have hle := placeOf_le (by decide) hp
        have hk0 : k ≠ 0 := by
          rintro rfl
          rw [placeOf] at hp
          split at hp
          · rename_i h9
            exact absurd (show ([63] : List UInt8) = [62] from h9) (by decide)
          · cases h9 : placeOf [62] r with
            | none => rw [h9] at hp; cases hp
            | some j => rw [h9] at hp; simp at hp
        right
        rw [← hr]
        simp only [List.length_drop, List.length_cons, List.length_nil] at hle ⊢
        omega
  · rw [e] at hi
    unfold markI at hi
    injection hi with _ hr
    rcases remark_short (find := [62]) (l := l.drop 2) (by decide) with h | h
    · exact .inl (hr ▸ h)
    · rw [hr, List.length_drop] at h
      simp only [List.length_cons, List.length_nil] at h
      exact .inr (by omega)

theorem toksT_count : ∀ (m : Nat) (l txt : List UInt8), l.length ≤ m → 2 * (toksT txt l).length ≤ l.length + (if txt = [] then 1 else 2) ∧ (txt = [] → kindOf l ≠ 3 → 2 * (toksT txt l).length ≤ l.length)
  | 0, l, txt, hm => by
    obtain rfl : l = [] := List.eq_nil_of_length_eq_zero (by omega)
    rw [toksT_nil]
    refine ⟨?_, fun _ h => absurd rfl h⟩
    unfold chars; split <;> simp
  | m + 1, [], txt, hm => by
    rw [toksT_nil]
    refine ⟨?_, fun _ h => absurd rfl h⟩
    unfold chars; split <;> simp
  | m + 1, b :: r, txt, hm => by
    have hr : r.length ≤ m := by simpa using hm
    by_cases h3 : kindOf (b :: r) = 3
    · rw [toksT_text txt rfl (item_text h3)]
      have g := (toksT_count m r (txt ++ [b]) hr).1
      rw [if_neg (by simp)] at g
      refine ⟨?_, fun _ h => absurd h3 h⟩
      rw [List.length_cons]
      split <;> omega
    · have hch : (chars txt).length = if txt = [] then 0 else 1 := by unfold chars; split <;> rfl
      have key : 2 * (toksT [] (b :: r)).length ≤ (b :: r).length := by
        have one : ∀ (t : Tok) (rest : List UInt8), (rest = [] ∨ rest.length + 3 ≤ (b :: r).length) → 2 ≤ (b :: r).length → 2 * (t :: toksT [] rest).length ≤ (b :: r).length := by
          intro t rest h h2
          rw [List.length_cons]
          rcases h with h | h
          · subst h
            rw [toksT_nil]
            show 2 * (0 + 1) ≤ _
            omega
          · have g := (toksT_count m rest [] (by rw [List.length_cons] at h; omega)).1
            rw [if_pos rfl] at g
            omega
        rcases kindOf_cases (b :: r) with h | h | h | h
        · obtain ⟨c, u, e1, ha, he⟩ := item_start h
          rw [e1] at he ⊢
          unfold startI at he
          cases hru : runM st0 (c :: u) with
          | none => rw [hru] at he; rw [toksT_stop he]; simp
          | some x =>
            obtain ⟨st, t⟩ := x
            rw [hru] at he
            have hts := tag_short ha hru
            have hul : u.length + 1 = r.length := by
              injection e1 with _ e1
              rw [e1]; simp
            rw [toksT_start he]
            by_cases hn : rawName (low st.tname) = true
            · rw [if_pos hn]
              have hb := congrArg List.length (rawText_both (low st.tname) t)
              rw [List.length_append] at hb
              have hraw : (rawToks (low st.tname) (rawText (low st.tname) t).1).length ≤ (rawText (low st.tname) t).1.length ∧ (rawToks (low st.tname) (rawText (low st.tname) t).1).length ≤ 1 := by
                unfold rawToks
                split
                · simp
                · rename_i h9
                  have : (rawText (low st.tname) t).1.length ≠ 0 := fun e => h9 (List.eq_nil_of_length_eq_zero e)
                  simp only [List.length_cons, List.length_nil]
                  omega
              rw [List.length_cons, List.length_append, List.length_cons, List.length_cons]
              by_cases hz : (rawText (low st.tname) t).2 = []
              · rw [hz, toksT_nil]
                rw [hz, List.length_nil] at hb
                show 2 * (_ + 0 + 1) ≤ _
                omega
              · have g := (toksT_count m (rawText (low st.tname) t).2 [] (by omega)).2 rfl (by rw [raw_rest_kind (rawName_al hn) hz]; decide)
                omega
            · rw [if_neg hn]
              rw [← e1]
              exact one _ t (.inr (by rw [List.length_cons]; omega)) (by rw [List.length_cons]; omega)
        · obtain ⟨c, u, e1, ha, he⟩ := item_end h
          rw [e1] at he ⊢
          unfold closeI at he
          cases hru : runM st0 (c :: u) with
          | none => rw [hru] at he; rw [toksT_stop he]; simp
          | some x =>
            obtain ⟨st, t⟩ := x
            rw [hru] at he
            have hts := tag_short ha hru
            have hul : u.length + 2 = r.length := by
              injection e1 with _ e1
              rw [e1]; simp
            rw [toksT_close he, ← e1]
            exact one _ t (.inr (by rw [List.length_cons]; omega)) (by rw [List.length_cons]; omega)
        · exact absurd h h3
        · obtain ⟨find, u, he⟩ : ∃ find u, item (b :: r) = markI find u := by
            rcases item_mark h with ⟨_, e⟩ | ⟨_, _, e⟩ | ⟨_, _, e⟩ <;> exact ⟨_, _, e⟩
          obtain ⟨h2, h4⟩ := mark_short h he
          rw [toksT_mark he]
          exact one _ _ h4 h2
      refine ⟨?_, fun hx _ => by subst hx; exact key⟩
      rw [toksT_flush txt (.inr (item_notext h3)), List.length_append, hch]
      split <;> omega
theorem toks_count (l : List UInt8) : 2 * (toks l).length ≤ l.length + 1 := by
  have := (toksT_count l.length l [] (Nat.le_refl _)).1
  rwa [if_pos rfl] at this

theorem tname_le {L t : List UInt8} {s : St} (h : runM st0 L = some (s, t)) : s.tname.length ≤ L.length := by
  unfold st0 at h
  rw [run_name] at h
  rw [runM_tname _ _ (by simp) h]
  simp only [List.nil_append]
  exact (List.takeWhile_sublist _).length_le
theorem chars_names (txt : List UInt8) : ∀ t ∈ chars txt, t.name = [] := by
  intro t ht
  unfold chars at ht
  split at ht
  · cases ht
  · obtain rfl := List.mem_singleton.1 ht; rfl
theorem raw_names (n raw : List UInt8) : ∀ t ∈ rawToks n raw, t.name = [] := by
  intro t ht
  unfold rawToks at ht
  split at ht
  · cases ht
  · obtain rfl := List.mem_singleton.1 ht; rfl
theorem toksT_names : ∀ (m : Nat) (l txt : List UInt8), l.length ≤ m → ∀ t ∈ toksT txt l, t.name.length ≤ l.length
  | 0, l, txt, hm => by
    obtain rfl : l = [] := List.eq_nil_of_length_eq_zero (by omega)
    intro t ht
    rw [toksT_nil] at ht
    rw [chars_names _ t ht]; simp
  | m + 1, [], txt, hm => by
    intro t ht
    rw [toksT_nil] at ht
    rw [chars_names _ t ht]; simp
  | m + 1, b :: r, txt, hm => by
    have hr : r.length ≤ m := by simpa using hm
    by_cases h3 : kindOf (b :: r) = 3
    · rw [toksT_text txt rfl (item_text h3)]
      intro t ht
      have := toksT_names m r _ hr t ht
      rw [List.length_cons]
      omega
    · rw [toksT_flush txt (.inr (item_notext h3))]
      intro t ht
      rcases List.mem_append.1 ht with ht | ht
      · rw [chars_names _ t ht]; simp
      have one : ∀ rest : List UInt8, rest.length < (b :: r).length → t ∈ toksT [] rest → t.name.length ≤ (b :: r).length := by
        intro rest hl h
        have := toksT_names m rest [] (by rw [List.length_cons] at hl; omega) t h
        omega
      rcases kindOf_cases (b :: r) with h | h | h | h
      · obtain ⟨c, u, e1, ha, he⟩ := item_start h
        unfold startI at he
        cases hru : runM st0 (c :: u) with
        | none => rw [hru] at he; rw [toksT_stop he] at ht; cases ht
        | some x =>
          obtain ⟨st, rest⟩ := x
          rw [hru] at he
          have hsh := item_shorter.2.2 _ _ _ _ he
          have hle := rawText_le (low st.tname) rest
          have hnm := tname_le hru
          rw [toksT_start he] at ht
          rcases List.mem_cons.1 ht with rfl | ht
          · show (low st.tname).length ≤ _
            rw [low_length, e1, List.length_cons]
            omega
          · split at ht
            · rcases List.mem_append.1 ht with ht | ht
              · rw [raw_names _ _ t ht]; simp
              · exact one _ (by omega) ht
            · exact one _ hsh ht
      · obtain ⟨c, u, e1, ha, he⟩ := item_end h
        unfold closeI at he
        cases hru : runM st0 (c :: u) with
        | none => rw [hru] at he; rw [toksT_stop he] at ht; cases ht
        | some x =>
          obtain ⟨st, rest⟩ := x
          rw [hru] at he
          have hsh := item_shorter.2.1 _ _ he
          have hnm := tname_le hru
          rw [toksT_close he] at ht
          rcases List.mem_cons.1 ht with rfl | ht
          · show (low st.tname).length ≤ _
            rw [low_length, e1, List.length_cons, List.length_cons]
            omega
          · exact one _ hsh ht
      · exact absurd h h3
      · obtain ⟨find, u, he⟩ : ∃ find u, item (b :: r) = markI find u := by
          rcases item_mark h with ⟨_, e⟩ | ⟨_, _, e⟩ | ⟨_, _, e⟩ <;> exact ⟨_, _, e⟩
        have hsh := item_shorter.1 _ _ he
        rw [toksT_mark he] at ht
        rcases List.mem_cons.1 ht with rfl | ht
        · unfold remark; split <;> simp
        · exact one _ hsh ht
theorem toks_names (l : List UInt8) : ∀ t ∈ toks l, t.name.length ≤ l.length := toksT_names l.length l [] (Nat.le_refl _)

end U
end Go.Proofs.YtfockedeikdbjaaGreatDoor

namespace Go.Proofs.YtfockedeikdbjaaGreatDoor
namespace U

/-! ### names -/
def small (b : UInt8) : Bool := decide (97 ≤ b.toNat) && decide (b.toNat ≤ 122)
def nameB2 (b : UInt8) : Bool := small b || b == 45 || (decide (48 ≤ b.toNat) && decide (b.toNat ≤ 57))
def isName : List UInt8 → Bool
  | [] => false
  | c :: r => small c && r.all nameB2 && decide (r.length ≤ 11)

theorem small_facts {b : UInt8} (h : small b = true) : isAl b = true ∧ nameB2 b = true := by
  unfold small at h
  simp only [Bool.and_eq_true, decide_eq_true_eq] at h
  refine ⟨?_, ?_⟩
  · unfold isAl; simp [h.1, h.2]
  · unfold nameB2 small; simp [h.1, h.2]
theorem nameB2_facts {b : UInt8} (h : nameB2 b = true) : isSp b = false ∧ b ≠ 47 ∧ b ≠ 62 ∧ b ≠ 61 ∧ b ≠ 34 ∧ low1 b = b := by
  have hr : (97 ≤ b.toNat ∧ b.toNat ≤ 122) ∨ b.toNat = 45 ∨ (48 ≤ b.toNat ∧ b.toNat ≤ 57) := by
    unfold nameB2 small at h
    simp only [Bool.or_eq_true, Bool.and_eq_true, decide_eq_true_eq, beq_iff_eq] at h
    rcases h with (h | h) | h
    · exact .inl h
    · subst h; exact .inr (.inl rfl)
    · exact .inr (.inr h)
  have hn : ∀ k : UInt8, (k.toNat = 32 ∨ k.toNat = 9 ∨ k.toNat = 10 ∨ k.toNat = 12 ∨ k.toNat = 47 ∨ k.toNat = 62 ∨ k.toNat = 61 ∨ k.toNat = 34) → b ≠ k := fun k hk e => by subst e; omega
  refine ⟨?_, hn 47 (by decide), hn 62 (by decide), hn 61 (by decide), hn 34 (by decide), ?_⟩
  · unfold isSp
    rw [beq_eq_false_iff_ne.2 (hn 32 (by decide)), beq_eq_false_iff_ne.2 (hn 9 (by decide)), beq_eq_false_iff_ne.2 (hn 10 (by decide)), beq_eq_false_iff_ne.2 (hn 12 (by decide))]
    rfl
  · unfold low1
    rw [if_neg (by omega)]
theorem nameB2_ends {b : UInt8} (h : nameB2 b = true) : endsName b = false := by
  obtain ⟨h1, h2, h3, _⟩ := nameB2_facts h
  unfold endsName
  rw [h1, beq_eq_false_iff_ne.2 h2, beq_eq_false_iff_ne.2 h3]
  rfl
theorem isName_all {n : List UInt8} (h : isName n = true) : ∃ c r, n = c :: r ∧ small c = true ∧ r.all nameB2 = true := by
  cases n with
  | nil => cases h
  | cons c r =>
    unfold isName at h
    simp only [Bool.and_eq_true] at h
    exact ⟨c, r, rfl, h.1.1, h.1.2⟩
theorem isName_every {n : List UInt8} (h : isName n = true) : n.all nameB2 = true := by
  obtain ⟨c, r, rfl, h1, h2⟩ := isName_all h
  rw [List.all_cons, (small_facts h1).2, h2]
  rfl
theorem low_name {n : List UInt8} (h : n.all nameB2 = true) : low n = n := by
  induction n with
  | nil => rfl
  | cons b r ih =>
    rw [List.all_cons, Bool.and_eq_true] at h
    show low1 b :: low r = _
    rw [(nameB2_facts h.1).2.2.2.2.2, ih h.2]

/-! ### what tokens are written as -/
def attE (a : Att) : List UInt8 := 32 :: (a.1 ++ 61 :: 34 :: (esc true a.2 ++ [34]))
def tailE (self : Bool) : List UInt8 := if self = true then [47, 62] else [62]
def startE (n : List UInt8) (al : List Att) (self : Bool) : List UInt8 := 60 :: (n ++ (al.flatMap attE ++ tailE self))
def endE (n : List UInt8) : List UInt8 := 60 :: 47 :: (n ++ [62])
def tokE (t : Tok) : List UInt8 := if t.kind = 3 then esc false t.text else if t.kind = 2 then endE t.name else startE t.name t.attrs t.self
def emit (ts : List Tok) : List UInt8 := ts.flatMap tokE
theorem emit_nil : emit [] = [] := rfl
theorem emit_cons (t : Tok) (ts : List Tok) : emit (t :: ts) = tokE t ++ emit ts := by simp [emit]
theorem emit_append (a b : List Tok) : emit (a ++ b) = emit a ++ emit b := by simp [emit]

/-! ### tokens that may be written -/
theorem firsts_all (l acc : List Att) (h : (acc ++ l).Pairwise (fun a b => a.1 ≠ b.1)) : firsts acc l = acc ++ l := by
  induction l generalizing acc with
  | nil => simp [firsts]
  | cons a l ih =>
    rw [firsts]
    have h1 : acc.all (fun c => c.1 != a.1) = true := by
      rw [List.all_eq_true]
      intro c hc
      rw [List.pairwise_append] at h
      exact bne_iff_ne.2 (h.2.2 c hc a (List.mem_cons_self ..))
    rw [if_pos h1, ih (acc ++ [a]) (by simpa using h)]
    simp
def attsOk (l : List Att) : Prop := (∀ a ∈ l, isName a.1 = true) ∧ l.length ≤ 4 ∧ l.Pairwise (fun a b => a.1 ≠ b.1)
def isEnd (n : List UInt8) : List Tok → Prop
  | [] => False
  | t :: _ => t.kind = 2 ∧ t.name = n
/-- a list of tokens that may be written, behind a text or not -/
def okT : Bool → List Tok → Prop
  | _, [] => True
  | prev, t :: r => ((t.kind = 3 ∧ t.text ≠ [] ∧ t.name = [] ∧ t.attrs = [] ∧ t.self = false ∧ prev = false) ∨ (t.kind = 2 ∧ isName t.name = true ∧ t.attrs = [] ∧ t.self = false ∧ t.text = []) ∨
      (t.kind = 1 ∧ isName t.name = true ∧ attsOk t.attrs ∧ t.text = [] ∧ (rawName t.name = true → isEnd t.name r))) ∧ okT (t.kind == 3) r

end U
end Go.Proofs.YtfockedeikdbjaaGreatDoor

namespace Go.Proofs.YtfockedeikdbjaaGreatDoor
namespace U

/-! ### reading a tag -/
theorem wr_name (n : List UInt8) (h : n.all nameB2 = true) (tn nm v : List UInt8) (q : UInt8) (sl : Bool) (al : List Att) (r : List UInt8) : runM ⟨0, tn, nm, v, q, sl, al⟩ (n ++ r) = runM ⟨0, tn ++ n, nm, v, q, sl, al⟩ r := by
  induction n generalizing tn with
  | nil => simp
  | cons b n ih =>
    rw [List.all_cons, Bool.and_eq_true] at h
    rw [List.cons_append, runM_go (st' := ⟨0, tn ++ [b], nm, v, q, sl, al⟩) _ (by unfold step; rw [if_pos ⟨rfl, nameB2_ends h.1⟩]), ih h.2, List.append_assoc]
    rfl
theorem run_gap0 (tn nm v : List UInt8) (q : UInt8) (sl : Bool) (al : List Att) (r : List UInt8) : runM ⟨0, tn, nm, v, q, sl, al⟩ (32 :: r) = runM ⟨1, tn, nm, v, q, false, al⟩ r := runM_go _ rfl
theorem run_gap1 (tn nm v : List UInt8) (q : UInt8) (sl : Bool) (al : List Att) (r : List UInt8) : runM ⟨1, tn, nm, v, q, sl, al⟩ (32 :: r) = runM ⟨1, tn, nm, v, q, false, al⟩ r := runM_go _ rfl
theorem run_tail0 (tn nm v : List UInt8) (q : UInt8) (sl : Bool) (al : List Att) (self : Bool) (r : List UInt8) : runM ⟨0, tn, nm, v, q, sl, al⟩ (tailE self ++ r) = some (⟨1, tn, nm, v, q, self, al⟩, r) := by
  cases self
  · exact runM_fin _ rfl
  · show runM _ (47 :: 62 :: r) = _
    rw [runM_go (st' := ⟨1, tn, nm, v, q, true, al⟩) _ rfl]
    exact runM_fin _ rfl
theorem run_tail1 (tn nm v : List UInt8) (q : UInt8) (al : List Att) (self : Bool) (r : List UInt8) : runM ⟨1, tn, nm, v, q, false, al⟩ (tailE self ++ r) = some (⟨1, tn, nm, v, q, self, al⟩, r) := by
  cases self
  · exact runM_fin _ rfl
  · show runM _ (47 :: 62 :: r) = _
    rw [runM_go (st' := ⟨1, tn, nm, v, q, true, al⟩) _ rfl]
    exact runM_fin _ rfl
theorem wr_attn (n : List UInt8) (h : n.all nameB2 = true) (tn nm v : List UInt8) (q : UInt8) (sl : Bool) (al : List Att) (r : List UInt8) : runM ⟨2, tn, nm, v, q, sl, al⟩ (n ++ r) = runM ⟨2, tn, nm ++ n, v, q, sl, al⟩ r := by
  induction n generalizing nm with
  | nil => simp
  | cons b n ih =>
    rw [List.all_cons, Bool.and_eq_true] at h
    obtain ⟨_, _, _, h61, _⟩ := nameB2_facts h.1
    have he := nameB2_ends h.1
    have hs : step ⟨2, tn, nm, v, q, sl, al⟩ b = .go ⟨2, tn, nm ++ [b], v, q, sl, al⟩ := by
      unfold step
      rw [if_neg (fun hh => by simp at hh)]
      have e0 : pre0 ⟨2, tn, nm, v, q, sl, al⟩ = ⟨2, tn, nm, v, q, sl, al⟩ := rfl
      have e2 : pre2 ⟨2, tn, nm, v, q, sl, al⟩ b = ⟨2, tn, nm, v, q, sl, al⟩ := by unfold pre2; rw [if_neg (fun hh => by have := hh.2; rw [he, beq_eq_false_iff_ne.2 h61] at this; cases this)]
      have e6 : pre6 ⟨2, tn, nm, v, q, sl, al⟩ b = ⟨2, tn, nm, v, q, sl, al⟩ := by unfold pre6; rw [if_neg (fun hh => by simp at hh)]
      have e3 : pre3 ⟨2, tn, nm, v, q, sl, al⟩ b = ⟨2, tn, nm, v, q, sl, al⟩ := by unfold pre3; rw [if_neg (fun hh => by simp at hh)]
      rw [e0, e2, e6, e3]
      unfold post
      rw [if_pos rfl]
    rw [List.cons_append, runM_go _ hs, ih h.2, List.append_assoc]
    rfl
theorem wr_value (x : List UInt8) (h : ∀ b ∈ x, b ≠ 34) (tn nm v : List UInt8) (sl : Bool) (al : List Att) (r : List UInt8) : runM ⟨5, tn, nm, v, 34, sl, al⟩ (x ++ 34 :: r) = runM ⟨1, tn, nm, v ++ x, 34, false, al ++ [(low nm, unesc (v ++ x))]⟩ r := by
  induction x generalizing v with
  | nil =>
    rw [List.append_nil]
    exact runM_go _ rfl
  | cons b x ih =>
    have hb := h b (List.mem_cons_self ..)
    have hs : step ⟨5, tn, nm, v, 34, sl, al⟩ b = .go ⟨5, tn, nm, v ++ [b], 34, sl, al⟩ := by
      unfold step
      rw [if_neg (fun hh => by simp at hh)]
      have e0 : pre0 ⟨5, tn, nm, v, 34, sl, al⟩ = ⟨5, tn, nm, v, 34, sl, al⟩ := rfl
      have e2 : pre2 ⟨5, tn, nm, v, 34, sl, al⟩ b = ⟨5, tn, nm, v, 34, sl, al⟩ := by unfold pre2; rw [if_neg (fun hh => by simp at hh)]
      have e6 : pre6 ⟨5, tn, nm, v, 34, sl, al⟩ b = ⟨5, tn, nm, v, 34, sl, al⟩ := by unfold pre6; rw [if_neg (fun hh => by simp at hh)]
      have e3 : pre3 ⟨5, tn, nm, v, 34, sl, al⟩ b = ⟨5, tn, nm, v, 34, sl, al⟩ := by unfold pre3; rw [if_neg (fun hh => by simp at hh)]
      rw [e0, e2, e6, e3]
      unfold post
      rw [if_neg (by simp), if_neg (by simp), if_neg (by simp), if_pos rfl, if_neg hb]
    rw [List.cons_append, runM_go _ hs, ih (fun c hc => h c (List.mem_cons_of_mem _ hc)), List.append_assoc]
    rfl
/-- one attribute, behind the space ahead of it -/
theorem wr_att (a : Att) (ha : isName a.1 = true) (tn nm v : List UInt8) (q : UInt8) (sl : Bool) (al : List Att) (r : List UInt8) :
    runM ⟨1, tn, nm, v, q, sl, al⟩ (a.1 ++ 61 :: 34 :: (esc true a.2 ++ [34]) ++ r) = runM ⟨1, tn, a.1, esc true a.2, 34, false, al ++ [a]⟩ r := by
  have hev := isName_every ha
  obtain ⟨c, cs, hn, hc, hcs⟩ := isName_all ha
  obtain ⟨hsp, h47, h62, _⟩ := nameB2_facts (small_facts hc).2
  have hs : step ⟨1, tn, nm, v, q, sl, al⟩ c = .go ⟨2, tn, [c], v, q, sl, al⟩ := by
    unfold step
    rw [if_neg (fun hh => by simp at hh)]
    have e0 : pre0 ⟨1, tn, nm, v, q, sl, al⟩ = ⟨1, tn, nm, v, q, sl, al⟩ := rfl
    have e2 : pre2 ⟨1, tn, nm, v, q, sl, al⟩ c = ⟨1, tn, nm, v, q, sl, al⟩ := by unfold pre2; rw [if_neg (fun hh => by simp at hh)]
    have e6 : pre6 ⟨1, tn, nm, v, q, sl, al⟩ c = ⟨1, tn, nm, v, q, sl, al⟩ := by unfold pre6; rw [if_neg (fun hh => by simp at hh)]
    have e3 : pre3 ⟨1, tn, nm, v, q, sl, al⟩ c = ⟨1, tn, nm, v, q, sl, al⟩ := by unfold pre3; rw [if_neg (fun hh => by simp at hh)]
    rw [e0, e2, e6, e3]
    unfold post
    rw [if_neg (by simp), if_neg (by simp), if_neg (by simp), if_neg (by simp), if_neg (by simp), if_neg h62, if_neg h47, if_neg (by rw [hsp]; decide)]
  have h1 : a.1 ++ 61 :: 34 :: (esc true a.2 ++ [34]) ++ r = c :: (cs ++ (61 :: 34 :: (esc true a.2 ++ 34 :: r))) := by rw [hn]; simp
  rw [h1, runM_go _ hs, wr_attn cs hcs]
  have h2 : runM ⟨2, tn, [c] ++ cs, v, q, sl, al⟩ (61 :: 34 :: (esc true a.2 ++ 34 :: r)) = runM ⟨5, tn, [c] ++ cs, [], 34, sl, al⟩ (esc true a.2 ++ 34 :: r) := by
    rw [runM_go (st' := ⟨4, tn, [c] ++ cs, v, q, sl, al⟩) _ rfl, runM_go (st' := ⟨5, tn, [c] ++ cs, [], 34, sl, al⟩) _ rfl]
  have hcn : [c] ++ cs = a.1 := hn.symm
  rw [h2, hcn, wr_value _ (fun b hb => (esc_clean true a.2 b hb).2.2 rfl), List.nil_append, unesc_esc_nil, low_name hev]
theorem wr_atts (l : List Att) (h : ∀ a ∈ l, isName a.1 = true) (tn nm v : List UInt8) (q : UInt8) (al : List Att) (self : Bool) (r : List UInt8) :
    ∃ nm' v' q', runM ⟨1, tn, nm, v, q, false, al⟩ (l.flatMap attE ++ (tailE self ++ r)) = some (⟨1, tn, nm', v', q', self, al ++ l⟩, r) := by
  induction l generalizing nm v q al with
  | nil => exact ⟨nm, v, q, by rw [List.append_nil]; exact run_tail1 _ _ _ _ _ _ _⟩
  | cons a l ih =>
    obtain ⟨nm', v', q', e⟩ := ih (fun b hb => h b (List.mem_cons_of_mem _ hb)) a.1 (esc true a.2) 34 (al ++ [a])
    refine ⟨nm', v', q', ?_⟩
    have h1 : (a :: l).flatMap attE ++ (tailE self ++ r) = 32 :: (a.1 ++ 61 :: 34 :: (esc true a.2 ++ [34]) ++ (l.flatMap attE ++ (tailE self ++ r))) := by simp [attE]
    rw [h1, run_gap1, wr_att a (h a (List.mem_cons_self ..)), e, List.append_assoc]
    rfl
/-- a start's tag -/
theorem wr_start (n : List UInt8) (hn : isName n = true) (l : List Att) (h : ∀ a ∈ l, isName a.1 = true) (self : Bool) (r : List UInt8) :
    ∃ nm v q, runM st0 (n ++ (l.flatMap attE ++ tailE self) ++ r) = some (⟨1, n, nm, v, q, self, l⟩, r) := by
  have h0 : n ++ (l.flatMap attE ++ tailE self) ++ r = n ++ (l.flatMap attE ++ (tailE self ++ r)) := by simp
  rw [h0]
  show ∃ nm v q, runM ⟨0, [], [], [], 0, false, []⟩ _ = _
  rw [wr_name n (isName_every hn), List.nil_append]
  cases l with
  | nil => exact ⟨[], [], 0, run_tail0 _ _ _ _ _ _ _ _⟩
  | cons a l =>
    obtain ⟨nm', v', q', e⟩ := wr_atts l (fun b hb => h b (List.mem_cons_of_mem _ hb)) n a.1 (esc true a.2) 34 ([] ++ [a]) self r
    refine ⟨nm', v', q', ?_⟩
    have h1 : (a :: l).flatMap attE ++ (tailE self ++ r) = 32 :: (a.1 ++ 61 :: 34 :: (esc true a.2 ++ [34]) ++ (l.flatMap attE ++ (tailE self ++ r))) := by simp [attE]
    rw [h1, run_gap0, wr_att a (h a (List.mem_cons_self ..)), e]
    rfl
theorem wr_end (n : List UInt8) (hn : isName n = true) (r : List UInt8) : runM st0 (n ++ [62] ++ r) = some (⟨1, n, [], [], 0, false, []⟩, r) := by
  show runM ⟨0, [], [], [], 0, false, []⟩ _ = _
  rw [List.append_assoc, wr_name n (isName_every hn), List.nil_append]
  exact run_tail0 _ _ _ _ _ _ false _

theorem kind_end {n : List UInt8} (h : isName n = true) (r : List UInt8) : kindOf (endE n ++ r) = 2 := by
  obtain ⟨c, cs, rfl, hc, _⟩ := isName_all h
  have := (small_facts hc).1
  show kindOf (60 :: 47 :: c :: _) = 2
  rw [kindOf_cons]
  rw [if_neg (by decide), if_neg (by decide), if_neg (by decide), if_pos rfl]
  rw [kindS_cons, if_pos this]
theorem kind_start {n : List UInt8} (h : isName n = true) (al : List Att) (self : Bool) (r : List UInt8) : kindOf (startE n al self ++ r) = 1 := by
  obtain ⟨c, cs, rfl, hc, _⟩ := isName_all h
  have := (small_facts hc).1
  show kindOf (60 :: c :: _) = 1
  rw [kindOf_cons]
  rw [if_neg (by decide), if_pos this]
theorem kind_text {b : UInt8} (h : b ≠ 60) (l : List UInt8) : kindOf (b :: l) = 3 := by
  cases l with
  | nil => rfl
  | cons c r => rw [kindOf_cons, if_pos h]
theorem item_startE {n : List UInt8} (hn : isName n = true) {al : List Att} (ha : attsOk al) (self : Bool) (r : List UInt8) : item (startE n al self ++ r) = .start n al self r := by
  obtain ⟨c, cs, e, hc, _⟩ := isName_all hn
  have hal := (small_facts hc).1
  obtain ⟨nm, v, q, er⟩ := wr_start n hn al ha.1 self r
  have e1 : startE n al self ++ r = 60 :: c :: (cs ++ (al.flatMap attE ++ tailE self) ++ r) := by unfold startE; rw [e]; simp
  have e2 : n ++ (al.flatMap attE ++ tailE self) ++ r = c :: (cs ++ (al.flatMap attE ++ tailE self) ++ r) := by rw [e]; simp
  rw [e1, item_cons, if_neg (by decide), if_pos hal]
  unfold startI
  rw [← e2, er]
  simp only
  rw [low_name (isName_every hn), firsts_all al [] (by simpa using ha.2.2), List.nil_append]
theorem item_endE {n : List UInt8} (hn : isName n = true) (r : List UInt8) : item (endE n ++ r) = .close n r := by
  obtain ⟨c, cs, e, hc, _⟩ := isName_all hn
  have hal := (small_facts hc).1
  have er := wr_end n hn r
  have e1 : endE n ++ r = 60 :: 47 :: c :: (cs ++ [62] ++ r) := by unfold endE; rw [e]; simp
  have e2 : n ++ [62] ++ r = c :: (cs ++ [62] ++ r) := by rw [e]; simp
  rw [e1, item_cons, if_neg (by decide), if_neg (by decide), if_neg (by decide), if_neg (by decide), if_pos rfl]
  rw [slashI_cons, if_pos hal]
  unfold closeI
  rw [← e2, er]
  simp only
  rw [low_name (isName_every hn)]
theorem raw_endE {n : List UInt8} (hn : isName n = true) (r : List UInt8) : rawText n (endE n ++ r) = ([], endE n ++ r) := by
  have h : rawEnd n (endE n ++ r) = true := by
    unfold rawEnd
    have e : (endE n ++ r).drop (2 + n.length) = 62 :: r := by
      have : endE n ++ r = ([60, 47] ++ n) ++ 62 :: r := by simp [endE]
      rw [this, List.drop_left' (by simp; omega)]
    rw [e]
    simp only
    have e1 : (endE n ++ r).take 2 = [60, 47] := rfl
    have e2 : ((endE n ++ r).drop 2).take n.length = n := by
      show ((n ++ [62]) ++ r).take n.length = n
      rw [List.append_assoc, List.take_left' rfl]
    rw [e1, e2, low_name (isName_every hn)]
    simp
  have := rawText_at n (endE n ++ r) 0 (Nat.zero_le _) (fun i hi => absurd hi (Nat.not_lt_zero _)) (.inr (by rw [List.drop_zero]; exact h))
  simpa using this
theorem ok_start {r : List Tok} (h : okT true r) (h0 : r ≠ []) : kindOf (emit r) ≠ 3 := by
  cases r with
  | nil => exact absurd rfl h0
  | cons t r =>
    obtain ⟨h1, _⟩ := h
    rw [emit_cons]
    unfold tokE
    rcases h1 with ⟨_, _, _, _, _, h⟩ | ⟨hk, hn, _⟩ | ⟨hk, hn, _⟩
    · cases h
    · rw [hk, if_neg (by decide), if_pos rfl, kind_end hn]; decide
    · rw [hk, if_neg (by decide), if_neg (by decide), kind_start hn]; decide
/-- WHAT IS WRITTEN IS READ BACK -/
theorem toks_emit : ∀ (ts : List Tok) (prev : Bool), okT prev ts → toksT [] (emit ts) = ts
  | [], _, _ => rfl
  | t :: r, prev, h => by
    obtain ⟨h1, h2⟩ := h
    have ih := toks_emit r _ h2
    rw [emit_cons]
    obtain ⟨kind, name, attrs, self, text⟩ := t
    simp only at h1 h2
    rcases h1 with ⟨rfl, ht, rfl, rfl, rfl, _⟩ | ⟨rfl, hn, rfl, rfl, rfl⟩ | ⟨rfl, hn, ha, rfl, hraw⟩
    · unfold tokE
      rw [if_pos rfl]
      simp only
      have hl := (esc_length false text).1
      have hp : 0 < text.length := List.length_pos_iff.2 ht
      have hk : ∀ i, i < (esc false text).length → kindOf ((esc false text ++ emit r).drop i) = 3 := by
        intro i hi
        rw [List.drop_append_of_le_length (by omega), List.drop_eq_getElem_cons hi, List.cons_append]
        exact kind_text (esc_clean false text _ (List.getElem_mem hi)).1 _
      have := toks_chars (l := esc false text ++ emit r) (n := (esc false text).length) (by omega) (by rw [List.length_append]; omega) hk (by
        by_cases hr : r = []
        · subst hr; left; simp [emit_nil]
        · right; rw [List.drop_left' rfl]; exact ok_start h2 hr)
      rw [this, List.take_left' rfl, List.drop_left' rfl, ih, unesc_esc_nil]
    · unfold tokE
      rw [if_neg (by simp), if_pos rfl]
      simp only
      rw [toksT_close (item_endE hn _), ih]
    · unfold tokE
      rw [if_neg (by simp), if_neg (by simp)]
      simp only
      rw [toksT_start (item_startE hn ha _ _)]
      by_cases hrn : rawName name = true
      · rw [if_pos hrn]
        have he := hraw hrn
        cases r with
        | nil => exact absurd he (by simp [isEnd])
        | cons t2 r2 =>
          obtain ⟨k2, n2⟩ := he
          have e2 : emit (t2 :: r2) = endE name ++ emit r2 := by rw [emit_cons]; unfold tokE; rw [k2, if_neg (by decide), if_pos rfl, n2]
          rw [e2, raw_endE hn]
          simp only
          rw [← e2, ih]
          rfl
      · rw [if_neg hrn, ih]
theorem toks_emits {ts : List Tok} (h : okT false ts) : toks (emit ts) = ts := by rw [toks_toksT]; exact toks_emit ts false h

end U
end Go.Proofs.YtfockedeikdbjaaGreatDoor

namespace Go.Proofs.YtfockedeikdbjaaGreatDoor
namespace U

/-- a token as it may come in: its kind is any number -/
structure Tk where
  kind : Int
  name : List UInt8
  attrs : List Att
  self : Bool
  text : List UInt8
def Tok.tk (t : Tok) : Tk := ⟨(t.kind : Int), t.name, t.attrs, t.self, t.text⟩
def Tk.tok (t : Tk) : Tok := ⟨t.kind.toNat, t.name, t.attrs, t.self, t.text⟩
theorem tk_tok (t : Tok) : t.tk.tok = t := rfl

/-- is the name of one of the second list's in the first, or ahead of it -/
def dupF : List Att → List Att → Bool
  | _, [] => false
  | pre, a :: r => pre.any (fun e => e.1 == a.1) || dupF (pre ++ [a]) r
def dup (l : List Att) : Bool := dupF [] l
def attrsFault (al : List Att) : Nat := if al.any (fun a => !isName a.1) = true then 5 else if 4 < al.length then 1 else if dup al = true then 8 else 0
def isEndB (n : List UInt8) : List Tk → Bool
  | [] => false
  | t :: _ => t.kind == 2 && t.name == n
def formOk (prev : Bool) (t : Tk) (r : List Tk) : Bool :=
  if t.kind = 1 then t.text.isEmpty && (!rawName t.name || isEndB t.name r)
  else if t.kind = 2 then t.text.isEmpty && (t.attrs.isEmpty && !t.self)
  else if t.kind = 3 then !t.text.isEmpty && (t.name.isEmpty && (t.attrs.isEmpty && !t.self && !prev))
  else false
def form4 (prev : Bool) (t : Tk) (r : List Tk) : Nat := if formOk prev t r = true then 0 else 4
def namesFault (t : Tk) : Nat := if isName t.name = true then attrsFault t.attrs else 5
def faultAt (prev : Bool) (t : Tk) (r : List Tk) : Nat :=
  if t.kind = 1 ∨ t.kind = 2 then (if namesFault t = 0 then form4 prev t r else namesFault t) else if t.kind = 3 ∨ t.kind = 4 then form4 prev t r else 3
def faults : Bool → List Tk → Nat
  | _, [] => 0
  | prev, t :: r => if faultAt prev t r = 0 then faults (t.kind == 3) r else faultAt prev t r
def fault (l : List Tk) : Nat := if 300 < l.length then 1 else faults false l

theorem faults_cons (prev : Bool) (t : Tk) (r : List Tk) : faults prev (t :: r) = if faultAt prev t r = 0 then faults (t.kind == 3) r else faultAt prev t r := rfl

theorem dupF_iff (l : List Att) : ∀ pre : List Att, pre.Pairwise (fun a b => a.1 ≠ b.1) → (dupF pre l = false ↔ (pre ++ l).Pairwise (fun a b => a.1 ≠ b.1)) := by
  induction l with
  | nil => intro pre hp; simp [dupF, hp]
  | cons a r ih =>
    intro pre hp
    rw [dupF, Bool.or_eq_false_iff]
    have e : pre ++ a :: r = (pre ++ [a]) ++ r := by simp
    rw [e]
    constructor
    · rintro ⟨h1, h2⟩
      refine (ih _ ?_).1 h2
      rw [List.pairwise_append]
      refine ⟨hp, List.pairwise_singleton _ _, ?_⟩
      intro x hx y hy
      obtain rfl := List.mem_singleton.1 hy
      have := List.any_eq_false.1 h1 x hx
      simpa using this
    · intro h
      have h1 := (List.pairwise_append.1 h).1
      refine ⟨?_, (ih _ h1).2 h⟩
      rw [List.any_eq_false]
      intro x hx
      have := (List.pairwise_append.1 h1).2.2 x hx a (List.mem_singleton.2 rfl)
      simpa using this
theorem dup_iff (l : List Att) : dup l = false ↔ l.Pairwise (fun a b => a.1 ≠ b.1) := by
  have := dupF_iff l [] List.Pairwise.nil
  simpa [dup] using this
theorem attrsFault_zero (al : List Att) : attrsFault al = 0 ↔ attsOk al := by
  unfold attrsFault attsOk
  constructor
  · intro h
    split at h
    · cases h
    · rename_i h1
      split at h
      · cases h
      · rename_i h2
        split at h
        · cases h
        · rename_i h3
          refine ⟨?_, by omega, (dup_iff al).1 (by simpa using h3)⟩
          intro a ha
          have : al.any (fun a => !isName a.1) = false := by simpa using h1
          have := List.any_eq_false.1 this a ha
          simpa using this
  · rintro ⟨h1, h2, h3⟩
    have e1 : al.any (fun a => !isName a.1) = false := by
      rw [List.any_eq_false]
      intro a ha
      simp [h1 a ha]
    rw [e1, if_neg (by decide), if_neg (by omega), (dup_iff al).2 h3, if_neg (by decide)]
theorem attrsFault_cases (al : List Att) (hu : al.Pairwise (fun a b => a.1 ≠ b.1)) : attrsFault al = 0 ∨ attrsFault al = 1 ∨ attrsFault al = 5 := by
  unfold attrsFault
  split
  · exact .inr (.inr rfl)
  · split
    · exact .inr (.inl rfl)
    · rw [(dup_iff al).2 hu]; exact .inl rfl
theorem isEndB_iff (n : List UInt8) (l : List Tok) : isEndB n (l.map Tok.tk) = true ↔ isEnd n l := by
  cases l with
  | nil => simp [isEndB, isEnd]
  | cons t r =>
    show (((t.kind : Int) == 2 && t.name == n) = true) ↔ (t.kind = 2 ∧ t.name = n)
    rw [Bool.and_eq_true, beq_iff_eq, beq_iff_eq]
    constructor
    · rintro ⟨h1, h2⟩; exact ⟨by omega, h2⟩
    · rintro ⟨h1, h2⟩; exact ⟨by omega, h2⟩
theorem form4_zero {prev : Bool} {t : Tk} {r : List Tk} : form4 prev t r = 0 ↔ formOk prev t r = true := by
  unfold form4
  split <;> simp_all
theorem namesFault_zero {t : Tk} : namesFault t = 0 ↔ isName t.name = true ∧ attsOk t.attrs := by
  unfold namesFault
  split
  · rename_i h; rw [attrsFault_zero]; simp [h]
  · rename_i h; simp [h]
/-- nothing is refused of tokens exactly where they may be written -/
theorem faults_ok : ∀ (l : List Tok) (prev : Bool), faults prev (l.map Tok.tk) = 0 ↔ okT prev l
  | [], _ => by simp [faults, okT]
  | t :: r, prev => by
    rw [List.map_cons, faults_cons]
    have ih := faults_ok r (t.kind == 3)
    have ek : (t.tk.kind == 3) = (t.kind == 3) := by
      show ((t.kind : Int) == 3) = (t.kind == 3)
      rw [Bool.eq_iff_iff, beq_iff_eq, beq_iff_eq]
      omega
    have hr := isEndB_iff t.name r
    unfold okT
    rw [← ih, ek]
    obtain ⟨kind, name, attrs, self, text⟩ := t
    simp only at *
    have main : faultAt prev (Tok.tk ⟨kind, name, attrs, self, text⟩) (r.map Tok.tk) = 0 ↔ ((kind = 3 ∧ text ≠ [] ∧ name = [] ∧ attrs = [] ∧ self = false ∧ prev = false) ∨ (kind = 2 ∧ isName name = true ∧ attrs = [] ∧ self = false ∧ text = []) ∨
      (kind = 1 ∧ isName name = true ∧ attsOk attrs ∧ text = [] ∧ (rawName name = true → isEnd name r))) := by
      unfold faultAt
      show (if ((kind : Int) = 1 ∨ (kind : Int) = 2) then _ else _) = 0 ↔ _
      by_cases h1 : kind = 1
      · subst h1
        rw [if_pos (.inl rfl)]
        have e : (if namesFault (Tok.tk ⟨1, name, attrs, self, text⟩) = 0 then form4 prev (Tok.tk ⟨1, name, attrs, self, text⟩) (r.map Tok.tk) else namesFault (Tok.tk ⟨1, name, attrs, self, text⟩)) = 0 ↔
            (namesFault (Tok.tk ⟨1, name, attrs, self, text⟩) = 0 ∧ form4 prev (Tok.tk ⟨1, name, attrs, self, text⟩) (r.map Tok.tk) = 0) := by
          by_cases h : namesFault (Tok.tk ⟨1, name, attrs, self, text⟩) = 0
          · rw [if_pos h]; simp [h]
          · rw [if_neg h]; simp [h]
        rw [e, namesFault_zero, form4_zero]
        unfold formOk
        show (isName name = true ∧ attsOk attrs) ∧ (text.isEmpty && (!rawName name || isEndB name (r.map Tok.tk))) = true ↔ _
        rw [Bool.and_eq_true, Bool.or_eq_true, List.isEmpty_iff]
        simp only [Bool.not_eq_true', hr]
        constructor
        · rintro ⟨⟨a, b⟩, c, d⟩
          refine .inr (.inr ⟨by trivial, a, b, c, fun h => ?_⟩)
          rcases d with d | d
          · rw [h] at d; cases d
          · exact d
        · rintro (⟨h, _⟩ | ⟨h, _⟩ | ⟨_, a, b, c, d⟩)
          · cases h
          · cases h
          · refine ⟨⟨a, b⟩, c, ?_⟩
            cases hh : rawName name with
            | false => exact .inl rfl
            | true => exact .inr (d hh)
      · by_cases h2 : kind = 2
        · subst h2
          rw [if_pos (.inr rfl)]
          have e : (if namesFault (Tok.tk ⟨2, name, attrs, self, text⟩) = 0 then form4 prev (Tok.tk ⟨2, name, attrs, self, text⟩) (r.map Tok.tk) else namesFault (Tok.tk ⟨2, name, attrs, self, text⟩)) = 0 ↔
              (namesFault (Tok.tk ⟨2, name, attrs, self, text⟩) = 0 ∧ form4 prev (Tok.tk ⟨2, name, attrs, self, text⟩) (r.map Tok.tk) = 0) := by
            by_cases h : namesFault (Tok.tk ⟨2, name, attrs, self, text⟩) = 0
            · rw [if_pos h]; simp [h]
            · rw [if_neg h]; simp [h]
          rw [e, namesFault_zero, form4_zero]
          unfold formOk
          show (isName name = true ∧ attsOk attrs) ∧ (text.isEmpty && (attrs.isEmpty && !self)) = true ↔ _
          rw [Bool.and_eq_true, Bool.and_eq_true, List.isEmpty_iff, List.isEmpty_iff]
          simp only [Bool.not_eq_true']
          constructor
          · rintro ⟨⟨a, _⟩, c, d, f⟩
            exact .inr (.inl ⟨by trivial, a, d, f, c⟩)
          · rintro (⟨h, _⟩ | ⟨_, a, b, c, d⟩ | ⟨h, _⟩)
            · cases h
            · subst b
              exact ⟨⟨a, by simp [attsOk]⟩, d, rfl, c⟩
            · cases h
        · rw [if_neg (by omega)]
          show (if ((kind : Int) = 3 ∨ (kind : Int) = 4) then _ else _) = 0 ↔ _
          by_cases h3 : kind = 3
          · subst h3
            rw [if_pos (.inl rfl), form4_zero]
            unfold formOk
            show (!text.isEmpty && (name.isEmpty && (attrs.isEmpty && !self && !prev))) = true ↔ _
            simp only [Bool.and_eq_true, List.isEmpty_iff, Bool.not_eq_true']
            constructor
            · rintro ⟨a, b, ⟨c, d⟩, f⟩
              exact .inl ⟨by trivial, by simpa using a, b, c, d, f⟩
            · rintro (⟨_, a, b, c, d, f⟩ | ⟨h, _⟩ | ⟨h, _⟩)
              · exact ⟨by simpa using a, b, ⟨c, d⟩, f⟩
              · cases h
              · cases h
          · have hno : ¬ ((kind = 3 ∧ text ≠ [] ∧ name = [] ∧ attrs = [] ∧ self = false ∧ prev = false) ∨ (kind = 2 ∧ isName name = true ∧ attrs = [] ∧ self = false ∧ text = []) ∨
              (kind = 1 ∧ isName name = true ∧ attsOk attrs ∧ text = [] ∧ (rawName name = true → isEnd name r))) := by
              rintro (⟨h, _⟩ | ⟨h, _⟩ | ⟨h, _⟩)
              · exact h3 h
              · exact h2 h
              · exact h1 h
            simp only [hno, iff_false]
            by_cases h4 : kind = 4
            · subst h4
              rw [if_pos (.inr rfl), form4_zero]
              unfold formOk
              show ¬ (false = true)
              decide
            · rw [if_neg (by omega)]
              decide
    constructor
    · intro h
      split at h
      · rename_i h0; exact ⟨main.1 h0, h⟩
      · rename_i h0; exact absurd h h0
    · rintro ⟨h1, h2⟩
      rw [if_pos (main.2 h1), h2]
theorem fault_ok {l : List Tok} (h : l.length ≤ 300) : fault (l.map Tok.tk) = 0 ↔ okT false l := by
  unfold fault
  rw [List.length_map, if_neg (by omega), faults_ok]
/-- what is refused of parsed tokens -/
theorem faults_parsed : ∀ (l : List Tok) (prev : Bool), (∀ t ∈ l, 1 ≤ t.kind ∧ t.kind ≤ 4) → (∀ t ∈ l, t.attrs.Pairwise (fun a b => a.1 ≠ b.1)) → (faults prev (l.map Tok.tk) = 0 ∨ faults prev (l.map Tok.tk) = 1 ∨ faults prev (l.map Tok.tk) = 4 ∨ faults prev (l.map Tok.tk) = 5)
  | [], _, _, _ => .inl rfl
  | t :: r, prev, hk, hu => by
    rw [List.map_cons, faults_cons]
    split
    · exact faults_parsed r _ (fun x hx => hk x (List.mem_cons_of_mem _ hx)) (fun x hx => hu x (List.mem_cons_of_mem _ hx))
    · rename_i h0
      obtain ⟨k1, k2⟩ := hk t (List.mem_cons_self ..)
      have h4 : form4 prev t.tk (r.map Tok.tk) = 0 ∨ form4 prev t.tk (r.map Tok.tk) = 4 := by
        unfold form4
        split
        · exact .inl rfl
        · exact .inr rfl
      have h5 : namesFault t.tk = 0 ∨ namesFault t.tk = 1 ∨ namesFault t.tk = 5 := by
        unfold namesFault
        split
        · exact attrsFault_cases _ (hu t (List.mem_cons_self ..))
        · exact .inr (.inr rfl)
      have ek : t.tk.kind = (t.kind : Int) := rfl
      revert h0
      unfold faultAt
      rw [ek]
      by_cases h1 : (t.kind : Int) = 1 ∨ (t.kind : Int) = 2
      · rw [if_pos h1]
        split
        · intro _; rcases h4 with h | h <;> rw [h] <;> simp
        · intro _; rcases h5 with h | h | h <;> rw [h] <;> simp
      · rw [if_neg h1, if_pos (by omega)]
        intro _; rcases h4 with h | h <;> rw [h] <;> simp
theorem fault_parsed {l : List Tok} (hk : ∀ t ∈ l, 1 ≤ t.kind ∧ t.kind ≤ 4) (hu : ∀ t ∈ l, t.attrs.Pairwise (fun a b => a.1 ≠ b.1)) : fault (l.map Tok.tk) = 0 ∨ fault (l.map Tok.tk) = 1 ∨ fault (l.map Tok.tk) = 4 ∨ fault (l.map Tok.tk) = 5 := by
  unfold fault
  split
  · exact .inr (.inl rfl)
  · exact faults_parsed l false hk hu

end U
end Go.Proofs.YtfockedeikdbjaaGreatDoor

/- Plain mathematics: names; what tokens are written as; tokens that may be written. -/
import Derived.Test.YtmfkefcdddoooaaTokMath
namespace Go.Proofs.Ytmfkefcdddoooaa
namespace U

/-! ### names -/
def small (b : UInt8) : Bool := decide (97 ≤ b.toNat) && decide (b.toNat ≤ 122)
def nameB2 (b : UInt8) : Bool := small b || b == 45 || (decide (48 ≤ b.toNat) && decide (b.toNat ≤ 57))
def isName : List UInt8 → Bool
  | [] => false
  | c :: r => small c && r.all nameB2 && decide (r.length ≤ 11)

theorem small_facts {b : UInt8} (h : small b = true) : isAl b = true ∧ nameB2 b = true := by
  unfold small at h
  simp only [Bool.and_eq_true, decide_eq_true_eq] at h
  refine ⟨?_, ?_⟩
  · unfold isAl; simp [h.1, h.2]
  · unfold nameB2 small; simp [h.1, h.2]
theorem nameB2_facts {b : UInt8} (h : nameB2 b = true) : isSp b = false ∧ b ≠ 47 ∧ b ≠ 62 ∧ b ≠ 61 ∧ b ≠ 34 ∧ low1 b = b := by
  have hr : (97 ≤ b.toNat ∧ b.toNat ≤ 122) ∨ b.toNat = 45 ∨ (48 ≤ b.toNat ∧ b.toNat ≤ 57) := by
    unfold nameB2 small at h
    simp only [Bool.or_eq_true, Bool.and_eq_true, decide_eq_true_eq, beq_iff_eq] at h
    rcases h with (h | h) | h
    · exact .inl h
    · subst h; exact .inr (.inl rfl)
    · exact .inr (.inr h)
  have hn : ∀ k : UInt8, (k.toNat = 32 ∨ k.toNat = 9 ∨ k.toNat = 10 ∨ k.toNat = 12 ∨ k.toNat = 47 ∨ k.toNat = 62 ∨ k.toNat = 61 ∨ k.toNat = 34) → b ≠ k := fun k hk e => by subst e; omega
  refine ⟨?_, hn 47 (by decide), hn 62 (by decide), hn 61 (by decide), hn 34 (by decide), ?_⟩
  · unfold isSp
    rw [beq_eq_false_iff_ne.2 (hn 32 (by decide)), beq_eq_false_iff_ne.2 (hn 9 (by decide)), beq_eq_false_iff_ne.2 (hn 10 (by decide)), beq_eq_false_iff_ne.2 (hn 12 (by decide))]
    rfl
  · unfold low1
    rw [if_neg (by omega)]
theorem nameB2_ends {b : UInt8} (h : nameB2 b = true) : endsName b = false := by
  obtain ⟨h1, h2, h3, _⟩ := nameB2_facts h
  unfold endsName
  rw [h1, beq_eq_false_iff_ne.2 h2, beq_eq_false_iff_ne.2 h3]
  rfl
theorem isName_all {n : List UInt8} (h : isName n = true) : ∃ c r, n = c :: r ∧ small c = true ∧ r.all nameB2 = true := by
  cases n with
  | nil => cases h
  | cons c r =>
    unfold isName at h
    simp only [Bool.and_eq_true] at h
    exact ⟨c, r, rfl, h.1.1, h.1.2⟩
theorem isName_every {n : List UInt8} (h : isName n = true) : n.all nameB2 = true := by
  obtain ⟨c, r, rfl, h1, h2⟩ := isName_all h
  rw [List.all_cons, (small_facts h1).2, h2]
  rfl
theorem low_name {n : List UInt8} (h : n.all nameB2 = true) : low n = n := by
  induction n with
  | nil => rfl
  | cons b r ih =>
    rw [List.all_cons, Bool.and_eq_true] at h
    show low1 b :: low r = _
    rw [(nameB2_facts h.1).2.2.2.2.2, ih h.2]

/-! ### what tokens are written as -/
def attE (a : Att) : List UInt8 := 32 :: (a.1 ++ 61 :: 34 :: (esc true a.2 ++ [34]))
def tailE (self : Bool) : List UInt8 := if self = true then [47, 62] else [62]
def startE (n : List UInt8) (al : List Att) (self : Bool) : List UInt8 := 60 :: (n ++ (al.flatMap attE ++ tailE self))
def endE (n : List UInt8) : List UInt8 := 60 :: 47 :: (n ++ [62])
def tokE (t : Tok) : List UInt8 := if t.kind = 3 then esc false t.text else if t.kind = 2 then endE t.name else startE t.name t.attrs t.self
def emit (ts : List Tok) : List UInt8 := ts.flatMap tokE
theorem emit_nil : emit [] = [] := rfl
theorem emit_cons (t : Tok) (ts : List Tok) : emit (t :: ts) = tokE t ++ emit ts := by simp [emit]
theorem emit_append (a b : List Tok) : emit (a ++ b) = emit a ++ emit b := by simp [emit]

/-! ### tokens that may be written -/
theorem firsts_all (l acc : List Att) (h : (acc ++ l).Pairwise (fun a b => a.1 ≠ b.1)) : firsts acc l = acc ++ l := by
  induction l generalizing acc with
  | nil => simp [firsts]
  | cons a l ih =>
    rw [firsts]
    have h1 : acc.all (fun c => c.1 != a.1) = true := by
      rw [List.all_eq_true]
      intro c hc
      rw [List.pairwise_append] at h
      exact bne_iff_ne.2 (h.2.2 c hc a (List.mem_cons_self ..))
    rw [if_pos h1, ih (acc ++ [a]) (by simpa using h)]
    simp
def attsOk (l : List Att) : Prop := (∀ a ∈ l, isName a.1 = true) ∧ l.length ≤ 4 ∧ l.Pairwise (fun a b => a.1 ≠ b.1)
def isEnd (n : List UInt8) : List Tok → Prop
  | [] => False
  | t :: _ => t.kind = 2 ∧ t.name = n
/-- a list of tokens that may be written, behind a text or not -/
def okT : Bool → List Tok → Prop
  | _, [] => True
  | prev, t :: r => ((t.kind = 3 ∧ t.text ≠ [] ∧ t.name = [] ∧ t.attrs = [] ∧ t.self = false ∧ prev = false) ∨ (t.kind = 2 ∧ isName t.name = true ∧ t.attrs = [] ∧ t.self = false ∧ t.text = []) ∨
      (t.kind = 1 ∧ isName t.name = true ∧ attsOk t.attrs ∧ t.text = [] ∧ (rawName t.name = true → isEnd t.name r))) ∧ okT (t.kind == 3) r

end U
end Go.Proofs.Ytmfkefcdddoooaa

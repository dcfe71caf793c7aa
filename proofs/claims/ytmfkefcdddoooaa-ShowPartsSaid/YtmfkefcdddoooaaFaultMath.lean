/- Plain mathematics: what is refused of tokens, in the order of the reference; tokens whose kind is any number. -/
import Derived.Test.YtmfkefcdddoooaaEmitDef
namespace Go.Proofs.Ytmfkefcdddoooaa
namespace U

/-- a token as it may come in: its kind is any number -/
structure Tk where
  kind : Int
  name : List UInt8
  attrs : List Att
  self : Bool
  text : List UInt8
def Tok.tk (t : Tok) : Tk := ⟨(t.kind : Int), t.name, t.attrs, t.self, t.text⟩
def Tk.tok (t : Tk) : Tok := ⟨t.kind.toNat, t.name, t.attrs, t.self, t.text⟩
theorem tk_tok (t : Tok) : t.tk.tok = t := rfl

/-- is the name of one of the second list's in the first, or ahead of it -/
def dupF : List Att → List Att → Bool
  | _, [] => false
  | pre, a :: r => pre.any (fun e => e.1 == a.1) || dupF (pre ++ [a]) r
def dup (l : List Att) : Bool := dupF [] l
def attrsFault (al : List Att) : Nat := if al.any (fun a => !isName a.1) = true then 5 else if 4 < al.length then 1 else if dup al = true then 8 else 0
def isEndB (n : List UInt8) : List Tk → Bool
  | [] => false
  | t :: _ => t.kind == 2 && t.name == n
def formOk (prev : Bool) (t : Tk) (r : List Tk) : Bool :=
  if t.kind = 1 then t.text.isEmpty && (!rawName t.name || isEndB t.name r)
  else if t.kind = 2 then t.text.isEmpty && (t.attrs.isEmpty && !t.self)
  else if t.kind = 3 then !t.text.isEmpty && (t.name.isEmpty && (t.attrs.isEmpty && !t.self && !prev))
  else false
def form4 (prev : Bool) (t : Tk) (r : List Tk) : Nat := if formOk prev t r = true then 0 else 4
def namesFault (t : Tk) : Nat := if isName t.name = true then attrsFault t.attrs else 5
def faultAt (prev : Bool) (t : Tk) (r : List Tk) : Nat :=
  if t.kind = 1 ∨ t.kind = 2 then (if namesFault t = 0 then form4 prev t r else namesFault t) else if t.kind = 3 ∨ t.kind = 4 then form4 prev t r else 3
def faults : Bool → List Tk → Nat
  | _, [] => 0
  | prev, t :: r => if faultAt prev t r = 0 then faults (t.kind == 3) r else faultAt prev t r
def fault (l : List Tk) : Nat := if 300 < l.length then 1 else faults false l

theorem faults_cons (prev : Bool) (t : Tk) (r : List Tk) : faults prev (t :: r) = if faultAt prev t r = 0 then faults (t.kind == 3) r else faultAt prev t r := rfl

theorem dupF_iff (l : List Att) : ∀ pre : List Att, pre.Pairwise (fun a b => a.1 ≠ b.1) → (dupF pre l = false ↔ (pre ++ l).Pairwise (fun a b => a.1 ≠ b.1)) := by
  induction l with
  | nil => intro pre hp; simp [dupF, hp]
  | cons a r ih =>
    intro pre hp
    rw [dupF, Bool.or_eq_false_iff]
    have e : pre ++ a :: r = (pre ++ [a]) ++ r := by simp
    rw [e]
    constructor
    · rintro ⟨h1, h2⟩
      refine (ih _ ?_).1 h2
      rw [List.pairwise_append]
      refine ⟨hp, List.pairwise_singleton _ _, ?_⟩
      intro x hx y hy
      obtain rfl := List.mem_singleton.1 hy
      have := List.any_eq_false.1 h1 x hx
      simpa using this
    · intro h
      have h1 := (List.pairwise_append.1 h).1
      refine ⟨?_, (ih _ h1).2 h⟩
      rw [List.any_eq_false]
      intro x hx
      have := (List.pairwise_append.1 h1).2.2 x hx a (List.mem_singleton.2 rfl)
      simpa using this
theorem dup_iff (l : List Att) : dup l = false ↔ l.Pairwise (fun a b => a.1 ≠ b.1) := by
  have := dupF_iff l [] List.Pairwise.nil
  simpa [dup] using this
theorem attrsFault_zero (al : List Att) : attrsFault al = 0 ↔ attsOk al := by
  unfold attrsFault attsOk
  constructor
  · intro h
    split at h
    · cases h
    · rename_i h1
      split at h
      · cases h
      · rename_i h2
        split at h
        · cases h
        · rename_i h3
          refine ⟨?_, by omega, (dup_iff al).1 (by simpa using h3)⟩
          intro a ha
          have : al.any (fun a => !isName a.1) = false := by simpa using h1
          have := List.any_eq_false.1 this a ha
          simpa using this
  · rintro ⟨h1, h2, h3⟩
    have e1 : al.any (fun a => !isName a.1) = false := by
      rw [List.any_eq_false]
      intro a ha
      simp [h1 a ha]
    rw [e1, if_neg (by decide), if_neg (by omega), (dup_iff al).2 h3, if_neg (by decide)]
theorem attrsFault_cases (al : List Att) (hu : al.Pairwise (fun a b => a.1 ≠ b.1)) : attrsFault al = 0 ∨ attrsFault al = 1 ∨ attrsFault al = 5 := by
  unfold attrsFault
  split
  · exact .inr (.inr rfl)
  · split
    · exact .inr (.inl rfl)
    · rw [(dup_iff al).2 hu]; exact .inl rfl
theorem isEndB_iff (n : List UInt8) (l : List Tok) : isEndB n (l.map Tok.tk) = true ↔ isEnd n l := by
  cases l with
  | nil => simp [isEndB, isEnd]
  | cons t r =>
    show (((t.kind : Int) == 2 && t.name == n) = true) ↔ (t.kind = 2 ∧ t.name = n)
    rw [Bool.and_eq_true, beq_iff_eq, beq_iff_eq]
    constructor
    · rintro ⟨h1, h2⟩; exact ⟨by omega, h2⟩
    · rintro ⟨h1, h2⟩; exact ⟨by omega, h2⟩
theorem form4_zero {prev : Bool} {t : Tk} {r : List Tk} : form4 prev t r = 0 ↔ formOk prev t r = true := by
  unfold form4
  split <;> simp_all
theorem namesFault_zero {t : Tk} : namesFault t = 0 ↔ isName t.name = true ∧ attsOk t.attrs := by
  unfold namesFault
  split
  · rename_i h; rw [attrsFault_zero]; simp [h]
  · rename_i h; simp [h]
/-- nothing is refused of tokens exactly where they may be written -/
theorem faults_ok : ∀ (l : List Tok) (prev : Bool), faults prev (l.map Tok.tk) = 0 ↔ okT prev l
  | [], _ => by simp [faults, okT]
  | t :: r, prev => by
    rw [List.map_cons, faults_cons]
    have ih := faults_ok r (t.kind == 3)
    have ek : (t.tk.kind == 3) = (t.kind == 3) := by
      show ((t.kind : Int) == 3) = (t.kind == 3)
      rw [Bool.eq_iff_iff, beq_iff_eq, beq_iff_eq]
      omega
    have hr := isEndB_iff t.name r
    unfold okT
    rw [← ih, ek]
    obtain ⟨kind, name, attrs, self, text⟩ := t
    simp only at *
    have main : faultAt prev (Tok.tk ⟨kind, name, attrs, self, text⟩) (r.map Tok.tk) = 0 ↔ ((kind = 3 ∧ text ≠ [] ∧ name = [] ∧ attrs = [] ∧ self = false ∧ prev = false) ∨ (kind = 2 ∧ isName name = true ∧ attrs = [] ∧ self = false ∧ text = []) ∨
      (kind = 1 ∧ isName name = true ∧ attsOk attrs ∧ text = [] ∧ (rawName name = true → isEnd name r))) := by
      unfold faultAt
      show (if ((kind : Int) = 1 ∨ (kind : Int) = 2) then _ else _) = 0 ↔ _
      by_cases h1 : kind = 1
      · subst h1
        rw [if_pos (.inl rfl)]
        have e : (if namesFault (Tok.tk ⟨1, name, attrs, self, text⟩) = 0 then form4 prev (Tok.tk ⟨1, name, attrs, self, text⟩) (r.map Tok.tk) else namesFault (Tok.tk ⟨1, name, attrs, self, text⟩)) = 0 ↔
            (namesFault (Tok.tk ⟨1, name, attrs, self, text⟩) = 0 ∧ form4 prev (Tok.tk ⟨1, name, attrs, self, text⟩) (r.map Tok.tk) = 0) := by
          by_cases h : namesFault (Tok.tk ⟨1, name, attrs, self, text⟩) = 0
          · rw [if_pos h]; simp [h]
          · rw [if_neg h]; simp [h]
        rw [e, namesFault_zero, form4_zero]
        unfold formOk
        show (isName name = true ∧ attsOk attrs) ∧ (text.isEmpty && (!rawName name || isEndB name (r.map Tok.tk))) = true ↔ _
        rw [Bool.and_eq_true, Bool.or_eq_true, List.isEmpty_iff]
        simp only [Bool.not_eq_true', hr]
        constructor
        · rintro ⟨⟨a, b⟩, c, d⟩
          refine .inr (.inr ⟨by trivial, a, b, c, fun h => ?_⟩)
          rcases d with d | d
          · rw [h] at d; cases d
          · exact d
        · rintro (⟨h, _⟩ | ⟨h, _⟩ | ⟨_, a, b, c, d⟩)
          · cases h
          · cases h
          · refine ⟨⟨a, b⟩, c, ?_⟩
            cases hh : rawName name with
            | false => exact .inl rfl
            | true => exact .inr (d hh)
      · by_cases h2 : kind = 2
        · subst h2
          rw [if_pos (.inr rfl)]
          have e : (if namesFault (Tok.tk ⟨2, name, attrs, self, text⟩) = 0 then form4 prev (Tok.tk ⟨2, name, attrs, self, text⟩) (r.map Tok.tk) else namesFault (Tok.tk ⟨2, name, attrs, self, text⟩)) = 0 ↔
              (namesFault (Tok.tk ⟨2, name, attrs, self, text⟩) = 0 ∧ form4 prev (Tok.tk ⟨2, name, attrs, self, text⟩) (r.map Tok.tk) = 0) := by
            by_cases h : namesFault (Tok.tk ⟨2, name, attrs, self, text⟩) = 0
            · rw [if_pos h]; simp [h]
            · rw [if_neg h]; simp [h]
          rw [e, namesFault_zero, form4_zero]
          unfold formOk
          show (isName name = true ∧ attsOk attrs) ∧ (text.isEmpty && (attrs.isEmpty && !self)) = true ↔ _
          rw [Bool.and_eq_true, Bool.and_eq_true, List.isEmpty_iff, List.isEmpty_iff]
          simp only [Bool.not_eq_true']
          constructor
          · rintro ⟨⟨a, _⟩, c, d, f⟩
            exact .inr (.inl ⟨by trivial, a, d, f, c⟩)
          · rintro (⟨h, _⟩ | ⟨_, a, b, c, d⟩ | ⟨h, _⟩)
            · cases h
            · subst b
              exact ⟨⟨a, by simp [attsOk]⟩, d, rfl, c⟩
            · cases h
        · rw [if_neg (by omega)]
          show (if ((kind : Int) = 3 ∨ (kind : Int) = 4) then _ else _) = 0 ↔ _
          by_cases h3 : kind = 3
          · subst h3
            rw [if_pos (.inl rfl), form4_zero]
            unfold formOk
            show (!text.isEmpty && (name.isEmpty && (attrs.isEmpty && !self && !prev))) = true ↔ _
            simp only [Bool.and_eq_true, List.isEmpty_iff, Bool.not_eq_true']
            constructor
            · rintro ⟨a, b, ⟨c, d⟩, f⟩
              exact .inl ⟨by trivial, by simpa using a, b, c, d, f⟩
            · rintro (⟨_, a, b, c, d, f⟩ | ⟨h, _⟩ | ⟨h, _⟩)
              · exact ⟨by simpa using a, b, ⟨c, d⟩, f⟩
              · cases h
              · cases h
          · have hno : ¬ ((kind = 3 ∧ text ≠ [] ∧ name = [] ∧ attrs = [] ∧ self = false ∧ prev = false) ∨ (kind = 2 ∧ isName name = true ∧ attrs = [] ∧ self = false ∧ text = []) ∨
              (kind = 1 ∧ isName name = true ∧ attsOk attrs ∧ text = [] ∧ (rawName name = true → isEnd name r))) := by
              rintro (⟨h, _⟩ | ⟨h, _⟩ | ⟨h, _⟩)
              · exact h3 h
              · exact h2 h
              · exact h1 h
            simp only [hno, iff_false]
            by_cases h4 : kind = 4
            · subst h4
              rw [if_pos (.inr rfl), form4_zero]
              unfold formOk
              show ¬ (false = true)
              decide
            · rw [if_neg (by omega)]
              decide
    constructor
    · intro h
      split at h
      · rename_i h0; exact ⟨main.1 h0, h⟩
      · rename_i h0; exact absurd h h0
    · rintro ⟨h1, h2⟩
      rw [if_pos (main.2 h1), h2]
theorem fault_ok {l : List Tok} (h : l.length ≤ 300) : fault (l.map Tok.tk) = 0 ↔ okT false l := by
  unfold fault
  rw [List.length_map, if_neg (by omega), faults_ok]
/-- what is refused of parsed tokens -/
theorem faults_parsed : ∀ (l : List Tok) (prev : Bool), (∀ t ∈ l, 1 ≤ t.kind ∧ t.kind ≤ 4) → (∀ t ∈ l, t.attrs.Pairwise (fun a b => a.1 ≠ b.1)) → (faults prev (l.map Tok.tk) = 0 ∨ faults prev (l.map Tok.tk) = 1 ∨ faults prev (l.map Tok.tk) = 4 ∨ faults prev (l.map Tok.tk) = 5)
  | [], _, _, _ => .inl rfl
  | t :: r, prev, hk, hu => by
    rw [List.map_cons, faults_cons]
    split
    · exact faults_parsed r _ (fun x hx => hk x (List.mem_cons_of_mem _ hx)) (fun x hx => hu x (List.mem_cons_of_mem _ hx))
    · rename_i h0
      obtain ⟨k1, k2⟩ := hk t (List.mem_cons_self ..)
      have h4 : form4 prev t.tk (r.map Tok.tk) = 0 ∨ form4 prev t.tk (r.map Tok.tk) = 4 := by
        unfold form4
        split
        · exact .inl rfl
        · exact .inr rfl
      have h5 : namesFault t.tk = 0 ∨ namesFault t.tk = 1 ∨ namesFault t.tk = 5 := by
        unfold namesFault
        split
        · exact attrsFault_cases _ (hu t (List.mem_cons_self ..))
        · exact .inr (.inr rfl)
      have ek : t.tk.kind = (t.kind : Int) := rfl
      revert h0
      unfold faultAt
      rw [ek]
      by_cases h1 : (t.kind : Int) = 1 ∨ (t.kind : Int) = 2
      · rw [if_pos h1]
        split
        · intro _; rcases h4 with h | h <;> rw [h] <;> simp
        · intro _; rcases h5 with h | h | h <;> rw [h] <;> simp
      · rw [if_neg h1, if_pos (by omega)]
        intro _; rcases h4 with h | h <;> rw [h] <;> simp
theorem fault_parsed {l : List Tok} (hk : ∀ t ∈ l, 1 ≤ t.kind ∧ t.kind ≤ 4) (hu : ∀ t ∈ l, t.attrs.Pairwise (fun a b => a.1 ≠ b.1)) : fault (l.map Tok.tk) = 0 ∨ fault (l.map Tok.tk) = 1 ∨ fault (l.map Tok.tk) = 4 ∨ fault (l.map Tok.tk) = 5 := by
  unfold fault
  split
  · exact .inr (.inl rfl)
  · exact faults_parsed l false hk hu

end U
end Go.Proofs.Ytmfkefcdddoooaa

/- Automata as plain data: what May tells of them. -/
namespace Go.Proofs.Ytonchdhchaiikaa

/-- an automaton: where each state leads to, which are final -/
structure U.Au where
  next : List (List Int)
  final : List Bool
deriving Inhabited
def U.noState (n : Nat) (s : Int) : Bool := decide (s < -1) || decide ((n : Int) ≤ s)
def U.noRow (n : Nat) (l : List Int) : Bool := l.length != 8 || l.any (U.noState n)
def U.Au.may (a : U.Au) : Bool := decide (1 ≤ a.next.length) && (decide (a.next.length ≤ 40) && (a.final.length == a.next.length && !a.next.any (U.noRow a.next.length)))
theorem U.noState_false {n : Nat} {s : Int} : U.noState n s = false ↔ -1 ≤ s ∧ s < n := by
  unfold U.noState
  simp
theorem U.noRow_false {n : Nat} {l : List Int} : U.noRow n l = false ↔ l.length = 8 ∧ ∀ s ∈ l, -1 ≤ s ∧ s < (n : Int) := by
  unfold U.noRow
  rw [Bool.or_eq_false_iff, List.any_eq_false]
  constructor
  · rintro ⟨h1, h2⟩
    exact ⟨by simpa using h1, fun s hs => U.noState_false.1 (by simpa using h2 s hs)⟩
  · rintro ⟨h1, h2⟩
    exact ⟨by simpa using h1, fun s hs => by simpa using U.noState_false.2 (h2 s hs)⟩
/-- a valid automaton -/
structure U.Au.Ok (a : U.Au) : Prop where
  one : 1 ≤ a.next.length
  most : a.next.length ≤ 40
  fin : a.final.length = a.next.length
  row : ∀ l ∈ a.next, l.length = 8 ∧ ∀ s ∈ l, -1 ≤ s ∧ s < (a.next.length : Int)
theorem U.Au.may_iff {a : U.Au} : a.may = true ↔ a.Ok := by
  unfold U.Au.may
  simp only [Bool.and_eq_true, decide_eq_true_eq, beq_iff_eq, Bool.not_eq_true', List.any_eq_false]
  constructor
  · rintro ⟨h1, h2, h3, h4⟩
    exact ⟨h1, h2, h3, fun l hl => U.noRow_false.1 (by simpa using h4 l hl)⟩
  · rintro ⟨h1, h2, h3, h4⟩
    exact ⟨h1, h2, h3, fun l hl => by simpa using U.noRow_false.2 (h4 l hl)⟩
/-- a row, its letter -/
theorem U.Au.Ok.at {a : U.Au} (h : a.Ok) {i : Nat} {l : List Int} (hl : a.next[i]? = some l) : l.length = 8 ∧ ∀ s ∈ l, -1 ≤ s ∧ s < (a.next.length : Int) := h.row l (List.mem_of_getElem? hl)

end Go.Proofs.Ytonchdhchaiikaa

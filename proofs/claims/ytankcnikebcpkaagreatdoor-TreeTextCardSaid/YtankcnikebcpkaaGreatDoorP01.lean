/- Several texts in one: FaultMath, NodeMath, Runes, TokStep. -/
import Derived.Test.YtankcnikebcpkaaGreatDoorP00
namespace Go.Proofs.YtankcnikebcpkaaGreatDoor
namespace U

/-- a token as it may come in: its kind is any number -/
structure Tk where
  kind : Int
  name : List UInt8
  attrs : List Att
  self : Bool
  text : List UInt8
def Tok.tk (t : Tok) : Tk := ⟨(t.kind : Int), t.name, t.attrs, t.self, t.text⟩
def Tk.tok (t : Tk) : Tok := ⟨t.kind.toNat, t.name, t.attrs, t.self, t.text⟩
theorem tk_tok (t : Tok) : t.tk.tok = t := rfl

/-- is the name of one of the second list's in the first, or ahead of it -/
def dupF : List Att → List Att → Bool
  | _, [] => false
  | pre, a :: r => pre.any (fun e => e.1 == a.1) || dupF (pre ++ [a]) r
def dup (l : List Att) : Bool := dupF [] l
def attrsFault (al : List Att) : Nat := if al.any (fun a => !isName a.1) = true then 5 else if 4 < al.length then 1 else if dup al = true then 8 else 0
def isEndB (n : List UInt8) : List Tk → Bool
  | [] => false
  | t :: _ => t.kind == 2 && t.name == n
def formOk (prev : Bool) (t : Tk) (r : List Tk) : Bool :=
  if t.kind = 1 then t.text.isEmpty && (!rawName t.name || isEndB t.name r)
  else if t.kind = 2 then t.text.isEmpty && (t.attrs.isEmpty && !t.self)
  else if t.kind = 3 then !t.text.isEmpty && (t.name.isEmpty && (t.attrs.isEmpty && !t.self && !prev))
  else false
def form4 (prev : Bool) (t : Tk) (r : List Tk) : Nat := if formOk prev t r = true then 0 else 4
def namesFault (t : Tk) : Nat := if isName t.name = true then attrsFault t.attrs else 5
def faultAt (prev : Bool) (t : Tk) (r : List Tk) : Nat :=
  if t.kind = 1 ∨ t.kind = 2 then (if namesFault t = 0 then form4 prev t r else namesFault t) else if t.kind = 3 ∨ t.kind = 4 then form4 prev t r else 3
def faults : Bool → List Tk → Nat
  | _, [] => 0
  | prev, t :: r => if faultAt prev t r = 0 then faults (t.kind == 3) r else faultAt prev t r
def fault (l : List Tk) : Nat := if 300 < l.length then 1 else faults false l

theorem faults_cons (prev : Bool) (t : Tk) (r : List Tk) : faults prev (t :: r) = if faultAt prev t r = 0 then faults (t.kind == 3) r else faultAt prev t r := rfl

theorem dupF_iff (l : List Att) : ∀ pre : List Att, pre.Pairwise (fun a b => a.1 ≠ b.1) → (dupF pre l = false ↔ (pre ++ l).Pairwise (fun a b => a.1 ≠ b.1)) := by
  induction l with
  | nil => intro pre hp; simp [dupF, hp]
  | cons a r ih =>
    intro pre hp
    rw [dupF, Bool.or_eq_false_iff]
    have e : pre ++ a :: r = (pre ++ [a]) ++ r := by simp
    rw [e]
    constructor
    · rintro ⟨h1, h2⟩
      refine (ih _ ?_).1 h2
      rw [List.pairwise_append]
      refine ⟨hp, List.pairwise_singleton _ _, ?_⟩
      intro x hx y hy
      obtain rfl := List.mem_singleton.1 hy
      have := List.any_eq_false.1 h1 x hx
      simpa using this
    · intro h
      have h1 := (List.pairwise_append.1 h).1
      refine ⟨?_, (ih _ h1).2 h⟩
      rw [List.any_eq_false]
      intro x hx
      have := (List.pairwise_append.1 h1).2.2 x hx a (List.mem_singleton.2 rfl)
      simpa using this
theorem dup_iff (l : List Att) : dup l = false ↔ l.Pairwise (fun a b => a.1 ≠ b.1) := by
  have := dupF_iff l [] List.Pairwise.nil
  simpa [dup] using this
theorem attrsFault_zero (al : List Att) : attrsFault al = 0 ↔ attsOk al := by
  unfold attrsFault attsOk
  constructor
  · intro h
    split at h
    · cases h
    · rename_i h1
      split at h
      · cases h
      · rename_i h2
        split at h
        · cases h
        · rename_i h3
          refine ⟨?_, by omega, (dup_iff al).1 (by simpa using h3)⟩
          intro a ha
          have : al.any (fun a => !isName a.1) = false := by simpa using h1
          have := List.any_eq_false.1 this a ha
          simpa using this
  · rintro ⟨h1, h2, h3⟩
    have e1 : al.any (fun a => !isName a.1) = false := by
      rw [List.any_eq_false]
      intro a ha
      simp [h1 a ha]
    rw [e1, if_neg (by decide), if_neg (by omega), (dup_iff al).2 h3, if_neg (by decide)]
theorem attrsFault_cases (al : List Att) (hu : al.Pairwise (fun a b => a.1 ≠ b.1)) : attrsFault al = 0 ∨ attrsFault al = 1 ∨ attrsFault al = 5 := by
  unfold attrsFault
  split
  · exact .inr (.inr rfl)
  · split
    · exact .inr (.inl rfl)
    · rw [(dup_iff al).2 hu]; exact .inl rfl
theorem isEndB_iff (n : List UInt8) (l : List Tok) : isEndB n (l.map Tok.tk) = true ↔ isEnd n l := by
  cases l with
  | nil => simp [isEndB, isEnd]
  | cons t r =>
    show (((t.kind : Int) == 2 && t.name == n) = true) ↔ (t.kind = 2 ∧ t.name = n)
    rw [Bool.and_eq_true, beq_iff_eq, beq_iff_eq]
    constructor
    · rintro ⟨h1, h2⟩; exact ⟨by omega, h2⟩
    · rintro ⟨h1, h2⟩; exact ⟨by omega, h2⟩
theorem form4_zero {prev : Bool} {t : Tk} {r : List Tk} : form4 prev t r = 0 ↔ formOk prev t r = true := by
  unfold form4
  split <;> simp_all
theorem namesFault_zero {t : Tk} : namesFault t = 0 ↔ isName t.name = true ∧ attsOk t.attrs := by
  unfold namesFault
  split
  · rename_i h; rw [attrsFault_zero]; simp [h]
  · rename_i h; simp [h]
/-- nothing is refused of tokens exactly where they may be written -/
theorem faults_ok : ∀ (l : List Tok) (prev : Bool), faults prev (l.map Tok.tk) = 0 ↔ okT prev l
  | [], _ => by simp [faults, okT]
  | t :: r, prev => by
    rw [List.map_cons, faults_cons]
    have ih := faults_ok r (t.kind == 3)
    have ek : (t.tk.kind == 3) = (t.kind == 3) := by
      show ((t.kind : Int) == 3) = (t.kind == 3)
      rw [Bool.eq_iff_iff, beq_iff_eq, beq_iff_eq]
      omega
    have hr := isEndB_iff t.name r
    unfold okT
    rw [← ih, ek]
    obtain ⟨kind, name, attrs, self, text⟩ := t
    simp only at *
    have main : faultAt prev (Tok.tk ⟨kind, name, attrs, self, text⟩) (r.map Tok.tk) = 0 ↔ ((kind = 3 ∧ text ≠ [] ∧ name = [] ∧ attrs = [] ∧ self = false ∧ prev = false) ∨ (kind = 2 ∧ isName name = true ∧ attrs = [] ∧ self = false ∧ text = []) ∨
      (kind = 1 ∧ isName name = true ∧ attsOk attrs ∧ text = [] ∧ (rawName name = true → isEnd name r))) := by
      unfold faultAt
      show (if ((kind : Int) = 1 ∨ (kind : Int) = 2) then _ else _) = 0 ↔ _
      by_cases h1 : kind = 1
      · subst h1
        rw [if_pos (.inl rfl)]
        have e : (if namesFault (Tok.tk ⟨1, name, attrs, self, text⟩) = 0 then form4 prev (Tok.tk ⟨1, name, attrs, self, text⟩) (r.map Tok.tk) else namesFault (Tok.tk ⟨1, name, attrs, self, text⟩)) = 0 ↔
            (namesFault (Tok.tk ⟨1, name, attrs, self, text⟩) = 0 ∧ form4 prev (Tok.tk ⟨1, name, attrs, self, text⟩) (r.map Tok.tk) = 0) := by
          by_cases h : namesFault (Tok.tk ⟨1, name, attrs, self, text⟩) = 0
          · rw [if_pos h]; simp [h]
          · rw [if_neg h]; simp [h]
        rw [e, namesFault_zero, form4_zero]
        unfold formOk
        show (isName name = true ∧ attsOk attrs) ∧ (text.isEmpty && (!rawName name || isEndB name (r.map Tok.tk))) = true ↔ _
        rw [Bool.and_eq_true, Bool.or_eq_true, List.isEmpty_iff]
        simp only [Bool.not_eq_true', hr]
        constructor
        · rintro ⟨⟨a, b⟩, c, d⟩
          refine .inr (.inr ⟨by trivial, a, b, c, fun h => ?_⟩)
          rcases d with d | d
          · rw [h] at d; cases d
          · exact d
        · rintro (⟨h, _⟩ | ⟨h, _⟩ | ⟨_, a, b, c, d⟩)
          · cases h
          · cases h
          · refine ⟨⟨a, b⟩, c, ?_⟩
            cases hh : rawName name with
            | false => exact .inl rfl
            | true => exact .inr (d hh)
      · by_cases h2 : kind = 2
        · subst h2
          rw [if_pos (.inr rfl)]
          have e : (if namesFault (Tok.tk ⟨2, name, attrs, self, text⟩) = 0 then form4 prev (Tok.tk ⟨2, name, attrs, self, text⟩) (r.map Tok.tk) else namesFault (Tok.tk ⟨2, name, attrs, self, text⟩)) = 0 ↔
              (namesFault (Tok.tk ⟨2, name, attrs, self, text⟩) = 0 ∧ form4 prev (Tok.tk ⟨2, name, attrs, self, text⟩) (r.map Tok.tk) = 0) := by
            by_cases h : namesFault (Tok.tk ⟨2, name, attrs, self, text⟩) = 0
            · rw [if_pos h]; simp [h]
            · rw [if_neg h]; simp [h]
          rw [e, namesFault_zero, form4_zero]
          unfold formOk
          show (isName name = true ∧ attsOk attrs) ∧ (text.isEmpty && (attrs.isEmpty && !self)) = true ↔ _
          rw [Bool.and_eq_true, Bool.and_eq_true, List.isEmpty_iff, List.isEmpty_iff]
          simp only [Bool.not_eq_true']
          constructor
          · rintro ⟨⟨a, _⟩, c, d, f⟩
            exact .inr (.inl ⟨by trivial, a, d, f, c⟩)
          · rintro (⟨h, _⟩ | ⟨_, a, b, c, d⟩ | ⟨h, _⟩)
            · cases h
            · subst b
              exact ⟨⟨a, by simp [attsOk]⟩, d, rfl, c⟩
            · cases h
        · rw [if_neg (by omega)]
          show (if ((kind : Int) = 3 ∨ (kind : Int) = 4) then _ else _) = 0 ↔ _
          by_cases h3 : kind = 3
          · subst h3
            rw [if_pos (.inl rfl), form4_zero]
            unfold formOk
            show (!text.isEmpty && (name.isEmpty && (attrs.isEmpty && !self && !prev))) = true ↔ _
            simp only [Bool.and_eq_true, List.isEmpty_iff, Bool.not_eq_true']
            constructor
            · rintro ⟨a, b, ⟨c, d⟩, f⟩
              exact .inl ⟨by trivial, by simpa using a, b, c, d, f⟩
            · rintro (⟨_, a, b, c, d, f⟩ | ⟨h, _⟩ | ⟨h, _⟩)
              · exact ⟨by simpa using a, b, ⟨c, d⟩, f⟩
              · cases h
              · cases h
          · have hno : ¬ ((kind = 3 ∧ text ≠ [] ∧ name = [] ∧ attrs = [] ∧ self = false ∧ prev = false) ∨ (kind = 2 ∧ isName name = true ∧ attrs = [] ∧ self = false ∧ text = []) ∨
              (kind = 1 ∧ isName name = true ∧ attsOk attrs ∧ text = [] ∧ (rawName name = true → isEnd name r))) := by
              rintro (⟨h, _⟩ | ⟨h, _⟩ | ⟨h, _⟩)
              · exact h3 h
              · exact h2 h
              · exact h1 h
            simp only [hno, iff_false]
            by_cases h4 : kind = 4
            · subst h4
              rw [if_pos (.inr rfl), form4_zero]
              unfold formOk
              show ¬ (false = true)
              decide
            · rw [if_neg (by omega)]
              decide
    constructor
    · intro h
      split at h
      · rename_i h0; exact ⟨main.1 h0, h⟩
      · rename_i h0; exact absurd h h0
    · rintro ⟨h1, h2⟩
      rw [if_pos (main.2 h1), h2]
theorem fault_ok {l : List Tok} (h : l.length ≤ 300) : fault (l.map Tok.tk) = 0 ↔ okT false l := by
  unfold fault
  rw [List.length_map, if_neg (by omega), faults_ok]
/-- what is refused of parsed tokens -/
theorem faults_parsed : ∀ (l : List Tok) (prev : Bool), (∀ t ∈ l, 1 ≤ t.kind ∧ t.kind ≤ 4) → (∀ t ∈ l, t.attrs.Pairwise (fun a b => a.1 ≠ b.1)) → (faults prev (l.map Tok.tk) = 0 ∨ faults prev (l.map Tok.tk) = 1 ∨ faults prev (l.map Tok.tk) = 4 ∨ faults prev (l.map Tok.tk) = 5)
  | [], _, _, _ => .inl rfl
  | t :: r, prev, hk, hu => by
    rw [List.map_cons, faults_cons]
    split
    · exact faults_parsed r _ (fun x hx => hk x (List.mem_cons_of_mem _ hx)) (fun x hx => hu x (List.mem_cons_of_mem _ hx))
    · rename_i h0
      obtain ⟨k1, k2⟩ := hk t (List.mem_cons_self ..)
      have h4 : form4 prev t.tk (r.map Tok.tk) = 0 ∨ form4 prev t.tk (r.map Tok.tk) = 4 := by
        unfold form4
        split
        · exact .inl rfl
        · exact .inr rfl
      have h5 : namesFault t.tk = 0 ∨ namesFault t.tk = 1 ∨ namesFault t.tk = 5 := by
        unfold namesFault
        split
        · exact attrsFault_cases _ (hu t (List.mem_cons_self ..))
        · exact .inr (.inr rfl)
      have ek : t.tk.kind = (t.kind : Int) := rfl
      revert h0
      unfold faultAt
      rw [ek]
      by_cases h1 : (t.kind : Int) = 1 ∨ (t.kind : Int) = 2
      · rw [if_pos h1]
        split
        · intro _; rcases h4 with h | h <;> rw [h] <;> simp
        · intro _; rcases h5 with h | h | h <;> rw [h] <;> simp
      · rw [if_neg h1, if_pos (by omega)]
        intro _; rcases h4 with h | h <;> rw [h] <;> simp
theorem fault_parsed {l : List Tok} (hk : ∀ t ∈ l, 1 ≤ t.kind ∧ t.kind ≤ 4) (hu : ∀ t ∈ l, t.attrs.Pairwise (fun a b => a.1 ≠ b.1)) : fault (l.map Tok.tk) = 0 ∨ fault (l.map Tok.tk) = 1 ∨ fault (l.map Tok.tk) = 4 ∨ fault (l.map Tok.tk) = 5 := by
  unfold fault
  split
  · exact .inr (.inl rfl)
  · exact faults_parsed l false hk hu

end U
end Go.Proofs.YtankcnikebcpkaaGreatDoor

namespace Go.Proofs.YtankcnikebcpkaaGreatDoor
namespace U

/-- a node: a name, attributes, a text, parts -/
inductive Nd where
  | mk (name : List UInt8) (attrs : List Att) (text : List UInt8) (parts : List Nd)
def Nd.name : Nd → List UInt8 | .mk n _ _ _ => n
def Nd.attrs : Nd → List Att | .mk _ a _ _ => a
def Nd.text : Nd → List UInt8 | .mk _ _ t _ => t
def Nd.parts : Nd → List Nd | .mk _ _ _ p => p
/-- one more part -/
def Nd.push : Nd → Nd → Nd | .mk n a t p, x => .mk n a t (p ++ [x])
theorem Nd.eta : ∀ (n : Nd), Nd.mk n.name n.attrs n.text n.parts = n | .mk _ _ _ _ => rfl
theorem Nd.push_name : ∀ (n x : Nd), (n.push x).name = n.name | .mk _ _ _ _, _ => rfl
theorem Nd.push_attrs : ∀ (n x : Nd), (n.push x).attrs = n.attrs | .mk _ _ _ _, _ => rfl
theorem Nd.push_text : ∀ (n x : Nd), (n.push x).text = n.text | .mk _ _ _ _, _ => rfl
theorem Nd.push_parts : ∀ (n x : Nd), (n.push x).parts = n.parts ++ [x] | .mk _ _ _ _, _ => rfl

/-- what is being built: what is outside of all that is open; the open elements, the inmost first; the pieces of a text that may go on; how many nodes; the name whose texts are not told -/
structure Bst where
  out : List Nd
  op : List Nd
  tx : List (List UInt8)
  cnt : Nat
  hid : List UInt8
def Bst.new : Bst := ⟨[], [], [], 0, []⟩
/-- a node at the current place -/
def Bst.add (s : Bst) (n : Nd) : Bst := match s.op with
  | [] => { s with out := s.out ++ [n] }
  | a :: r => { s with op := a.push n :: r }
def Bst.noText (s : Bst) : Bst := ⟨s.out, s.op, [], s.cnt, s.hid⟩
def Bst.withOp (s : Bst) (r : List Nd) : Bst := ⟨s.out, r, s.tx, s.cnt, s.hid⟩
def Bst.more (s : Bst) : Bst := ⟨s.out, s.op, s.tx, s.cnt + 1, s.hid⟩
/-- the text ends -/
def Bst.endText (s : Bst) : Bst := if s.tx = [] then s else Bst.noText (s.add (.mk [] [] s.tx.flatten []))
/-- the inmost one is closed -/
def Bst.pop (s : Bst) : Bst := match s.endText.op with
  | [] => s.endText
  | a :: r => (s.endText.withOp r).add a
def Bst.popN : Nat → Bst → Bst
  | 0, s => s
  | n + 1, s => popN n s.pop
/-- where the last one with this name is, from the outside, counted from 1; 0: there is none -/
def idx (name : List UInt8) : List Nd → Nat
  | [] => 0
  | a :: r => if a.name = name then r.length + 1 else idx name r
def Bst.closeFrom (s : Bst) (k : Nat) : Bst := Bst.popN (s.op.length - k) s
def Bst.closeLast (s : Bst) (name : List UInt8) : Bst := if idx name s.op = 0 then s else s.closeFrom (idx name s.op - 1)
def hides (n : List UInt8) : Bool := n == [115, 99, 114, 105, 112, 116] || n == [115, 116, 121, 108, 101]
def endsPar (n : List UInt8) : Bool := n == [112] || n == [100, 105, 118] || n == [117, 108] || n == [111, 108] || n == [108, 105] || n == [104, 49] || n == [104, 50] || n == [116, 97, 98, 108, 101] || n == [98, 108, 111, 99, 107, 113, 117, 111, 116, 101]
def isVoid (n : List UInt8) : Bool := n == [98, 114] || n == [104, 114] || n == [105, 109, 103] || n == [105, 110, 112, 117, 116]
def Bst.closePar (s : Bst) (name : List UInt8) : Bst := if endsPar name = true then s.closeLast [112] else s
def Bst.closeBefore (s : Bst) (name : List UInt8) : Bst :=
  if name = [108, 105] ∧ max (idx [117, 108] (s.closePar name).op) (idx [111, 108] (s.closePar name).op) < idx [108, 105] (s.closePar name).op then (s.closePar name).closeLast [108, 105] else s.closePar name
def Bst.start2 (s : Bst) (name : List UInt8) (attrs : List Att) (self : Bool) : Bst :=
  if self = true ∨ isVoid name = true then s.endText.more.add (.mk name attrs [] []) else s.endText.more.withOp (.mk name attrs [] [] :: s.endText.op)
def Bst.start1 (s : Bst) (name : List UInt8) (attrs : List Att) (self : Bool) : Bst :=
  if s.op.length = 10 then (if hides name = true ∧ self = false then { s with hid := name } else s) else s.start2 name attrs self
def Bst.start (s : Bst) (name : List UInt8) (attrs : List Att) (self : Bool) : Bst := Bst.start1 (Bst.closeBefore { s with hid := [] } name) name attrs self
def Bst.ends (s : Bst) (name : List UInt8) : Bst := Bst.closeLast (if s.hid = name then { s with hid := [] } else s) name
def Bst.muted (s : Bst) : Bool := match s.op with
  | [] => false
  | a :: _ => hides a.name
def Bst.chars (s : Bst) (text : List UInt8) : Bst :=
  if text = [] ∨ s.hid ≠ [] ∨ s.muted = true then s else { s with cnt := if s.tx = [] then s.cnt + 1 else s.cnt, tx := s.tx ++ [text] }
/-- one token -/
def Bst.step (s : Bst) (t : Tk) : Bst :=
  if t.kind = 1 then s.start t.name t.attrs t.self else if t.kind = 2 then s.ends t.name else if t.kind = 3 then s.chars t.text else s
def Bst.stepE (s : Bst) (t : Tk) : Bst × Nat :=
  if t.kind = 1 ∨ t.kind = 2 ∨ t.kind = 3 ∨ t.kind = 4 then (s.step t, if 150 < (s.step t).cnt then 1 else 0) else (s, 3)
def Bst.done (s : Bst) : List Nd := (s.closeFrom 0).endText.out
def Bst.run : Bst → List Tk → List Nd × Nat
  | s, [] => (s.done, 0)
  | s, t :: r => if (s.stepE t).2 = 0 then Bst.run (s.stepE t).1 r else ([], (s.stepE t).2)
/-- what Build answers -/
def build (l : List Tk) : List Nd × Nat := if 300 < l.length then ([], 1) else Bst.new.run l

/-- how much there is, at most as much as was counted -/
def Bst.bulk (s : Bst) : Nat := s.out.length + (s.op.map fun a => a.parts.length + 1).sum + (if s.tx = [] then 0 else 1)
theorem Bst.add_bulk (s : Bst) (n : Nd) : (s.add n).bulk = s.bulk + 1 := by
  unfold Bst.add Bst.bulk
  cases h : s.op with
  | nil => simp only [List.length_append, List.length_cons, List.length_nil, List.map_nil, List.sum_nil]; omega
  | cons a r => simp only [List.map_cons, List.sum_cons, Nd.push_parts, List.length_append, List.length_cons, List.length_nil]; omega
theorem Bst.add_tx (s : Bst) (n : Nd) : (s.add n).tx = s.tx := by unfold Bst.add; split <;> rfl
theorem Bst.add_cnt (s : Bst) (n : Nd) : (s.add n).cnt = s.cnt := by unfold Bst.add; split <;> rfl
theorem Bst.add_hid (s : Bst) (n : Nd) : (s.add n).hid = s.hid := by unfold Bst.add; split <;> rfl
theorem Bst.add_op (s : Bst) (n : Nd) : (s.add n).op.length = s.op.length := by unfold Bst.add; split <;> rename_i h <;> simp [h]
theorem Bst.endText_bulk (s : Bst) : s.endText.bulk = s.bulk := by
  unfold Bst.endText
  split
  · rfl
  · rename_i h
    have h1 := Bst.add_bulk s (.mk [] [] s.tx.flatten [])
    have h2 := Bst.add_tx s (.mk [] [] s.tx.flatten [])
    have h3 : (s.add (.mk [] [] s.tx.flatten [])).bulk = (s.add (.mk [] [] s.tx.flatten [])).noText.bulk + 1 := by
      unfold Bst.bulk
      rw [h2, if_neg h]
      rfl
    omega
theorem Bst.endText_tx (s : Bst) : s.endText.tx = [] := by
  unfold Bst.endText
  split
  · assumption
  · rfl
theorem Bst.endText_cnt (s : Bst) : s.endText.cnt = s.cnt := by
  unfold Bst.endText
  split
  · rfl
  · exact Bst.add_cnt _ _
theorem Bst.endText_hid (s : Bst) : s.endText.hid = s.hid := by
  unfold Bst.endText
  split
  · rfl
  · exact Bst.add_hid _ _
theorem Bst.endText_op (s : Bst) : s.endText.op.length = s.op.length := by
  unfold Bst.endText
  split
  · rfl
  · exact Bst.add_op _ _
theorem Bst.pop_of {s : Bst} {a : Nd} {r : List Nd} (h : s.endText.op = a :: r) : s.pop = (s.endText.withOp r).add a := by unfold Bst.pop; rw [h]
theorem Bst.pop_bulk (s : Bst) : s.pop.bulk ≤ s.bulk := by
  unfold Bst.pop
  have h0 := Bst.endText_bulk s
  split
  · exact Nat.le_of_eq h0
  · rename_i a r h
    rw [Bst.add_bulk]
    have h1 : s.endText.bulk = s.endText.out.length + (s.endText.op.map fun a => a.parts.length + 1).sum + (if s.endText.tx = [] then 0 else 1) := rfl
    rw [h, List.map_cons, List.sum_cons] at h1
    have h2 : (s.endText.withOp r).bulk = s.endText.out.length + (r.map fun a => a.parts.length + 1).sum + (if s.endText.tx = [] then 0 else 1) := rfl
    omega
theorem Bst.pop_cnt (s : Bst) : s.pop.cnt = s.cnt := by
  unfold Bst.pop
  split
  · exact Bst.endText_cnt s
  · rw [Bst.add_cnt]; exact Bst.endText_cnt s
theorem Bst.pop_hid (s : Bst) : s.pop.hid = s.hid := by
  unfold Bst.pop
  split
  · exact Bst.endText_hid s
  · rw [Bst.add_hid]; exact Bst.endText_hid s
theorem Bst.pop_op (s : Bst) : s.pop.op.length = s.op.length - 1 := by
  have h1 := Bst.endText_op s
  unfold Bst.pop
  split
  · rename_i h; rw [h] at h1 ⊢; rw [← h1]; rfl
  · rename_i a r h
    rw [h] at h1
    rw [Bst.add_op]
    show r.length = _
    rw [← h1]
    simp
theorem Bst.popN_op : ∀ (n : Nat) (s : Bst), (Bst.popN n s).op.length = s.op.length - n
  | 0, s => by simp [Bst.popN]
  | n + 1, s => by rw [Bst.popN, Bst.popN_op n, Bst.pop_op]; omega
theorem Bst.popN_bulk : ∀ (n : Nat) (s : Bst), (Bst.popN n s).bulk ≤ s.bulk
  | 0, s => Nat.le_refl _
  | n + 1, s => by rw [Bst.popN]; exact Nat.le_trans (Bst.popN_bulk n _) (Bst.pop_bulk s)
theorem Bst.popN_cnt : ∀ (n : Nat) (s : Bst), (Bst.popN n s).cnt = s.cnt
  | 0, s => rfl
  | n + 1, s => by rw [Bst.popN, Bst.popN_cnt n, Bst.pop_cnt]
theorem Bst.popN_hid : ∀ (n : Nat) (s : Bst), (Bst.popN n s).hid = s.hid
  | 0, s => rfl
  | n + 1, s => by rw [Bst.popN, Bst.popN_hid n, Bst.pop_hid]
theorem Bst.popN_succ : ∀ (n : Nat) (s : Bst), Bst.popN (n + 1) s = (Bst.popN n s).pop
  | 0, s => rfl
  | n + 1, s => by rw [Bst.popN, Bst.popN_succ n, Bst.popN]
theorem idx_le (name : List UInt8) : ∀ (l : List Nd), idx name l ≤ l.length
  | [] => Nat.le_refl _
  | a :: r => by
    rw [idx]
    have := idx_le name r
    split
    · simp
    · rw [List.length_cons]; omega
theorem Bst.closeFrom_op (s : Bst) (k : Nat) (hk : k ≤ s.op.length) : (s.closeFrom k).op.length = k := by unfold Bst.closeFrom; rw [Bst.popN_op]; omega
theorem Bst.closeLast_le (s : Bst) (name : List UInt8) : (s.closeLast name).bulk ≤ s.bulk ∧ (s.closeLast name).cnt = s.cnt ∧ (s.closeLast name).hid = s.hid ∧ (s.closeLast name).op.length ≤ s.op.length := by
  unfold Bst.closeLast
  split
  · exact ⟨Nat.le_refl _, rfl, rfl, Nat.le_refl _⟩
  · exact ⟨Bst.popN_bulk _ _, Bst.popN_cnt _ _, Bst.popN_hid _ _, by rw [Bst.closeFrom, Bst.popN_op]; omega⟩
theorem Bst.closePar_le (s : Bst) (name : List UInt8) : (s.closePar name).bulk ≤ s.bulk ∧ (s.closePar name).cnt = s.cnt ∧ (s.closePar name).hid = s.hid ∧ (s.closePar name).op.length ≤ s.op.length := by
  unfold Bst.closePar
  split
  · exact Bst.closeLast_le _ _
  · exact ⟨Nat.le_refl _, rfl, rfl, Nat.le_refl _⟩
theorem Bst.closeBefore_le (s : Bst) (name : List UInt8) : (s.closeBefore name).bulk ≤ s.bulk ∧ (s.closeBefore name).cnt = s.cnt ∧ (s.closeBefore name).hid = s.hid ∧ (s.closeBefore name).op.length ≤ s.op.length := by
  unfold Bst.closeBefore
  obtain ⟨a, b, c, d⟩ := Bst.closePar_le s name
  split
  · obtain ⟨a', b', c', d'⟩ := Bst.closeLast_le (s.closePar name) [108, 105]
    exact ⟨Nat.le_trans a' a, b'.trans b, c'.trans c, Nat.le_trans d' d⟩
  · exact ⟨a, b, c, d⟩
/-- what holds between the tokens -/
structure Bst.Ok (s : Bst) : Prop where
  bulk : s.bulk ≤ s.cnt
  deep : s.op.length ≤ 10
theorem Bst.start2_ok {s : Bst} (h : s.Ok) (hl : s.op.length < 10) (name : List UInt8) (attrs : List Att) (self : Bool) : (s.start2 name attrs self).Ok ∧ (s.start2 name attrs self).cnt = s.cnt + 1 := by
  have h1 := Bst.endText_bulk s
  have h2 := Bst.endText_cnt s
  have h3 := Bst.endText_op s
  have h4 := h.bulk
  unfold Bst.start2
  split
  · refine ⟨⟨?_, ?_⟩, ?_⟩
    · rw [Bst.add_bulk, Bst.add_cnt]
      show s.endText.bulk + 1 ≤ s.endText.cnt + 1
      omega
    · rw [Bst.add_op]
      show s.endText.op.length ≤ 10
      omega
    · rw [Bst.add_cnt]
      show s.endText.cnt + 1 = _
      omega
  · refine ⟨⟨?_, ?_⟩, ?_⟩
    · show s.endText.out.length + ((Nd.mk name attrs [] [] :: s.endText.op).map fun a => a.parts.length + 1).sum + (if s.endText.tx = [] then 0 else 1) ≤ s.endText.cnt + 1
      have h5 : s.endText.bulk = s.endText.out.length + (s.endText.op.map fun a => a.parts.length + 1).sum + (if s.endText.tx = [] then 0 else 1) := rfl
      rw [List.map_cons, List.sum_cons]
      show s.endText.out.length + (0 + 1 + (s.endText.op.map fun a => a.parts.length + 1).sum) + (if s.endText.tx = [] then 0 else 1) ≤ s.endText.cnt + 1
      omega
    · show s.endText.op.length + 1 ≤ 10
      omega
    · show s.endText.cnt + 1 = _
      omega
theorem Bst.start1_ok {s : Bst} (h : s.Ok) (name : List UInt8) (attrs : List Att) (self : Bool) : (s.start1 name attrs self).Ok ∧ (s.start1 name attrs self).cnt ≤ s.cnt + 1 := by
  have h2 := h.deep
  unfold Bst.start1
  split
  · split
    · exact ⟨⟨h.bulk, h.deep⟩, Nat.le_succ _⟩
    · exact ⟨h, Nat.le_succ _⟩
  · rename_i hl
    obtain ⟨a, b⟩ := Bst.start2_ok h (by omega) name attrs self
    exact ⟨a, Nat.le_of_eq b⟩
theorem Bst.hid_ok {s : Bst} (h : s.Ok) (x : List UInt8) : Bst.Ok { s with hid := x } := ⟨h.bulk, h.deep⟩
theorem Bst.closeBefore_ok {s : Bst} (h : s.Ok) (name : List UInt8) : (s.closeBefore name).Ok := by
  obtain ⟨a, b, c, d⟩ := Bst.closeBefore_le s name
  have h1 := h.bulk
  have h2 := h.deep
  exact ⟨by omega, by omega⟩
theorem Bst.closeLast_ok {s : Bst} (h : s.Ok) (name : List UInt8) : (s.closeLast name).Ok := by
  obtain ⟨a, b, c, d⟩ := Bst.closeLast_le s name
  have h1 := h.bulk
  have h2 := h.deep
  exact ⟨by omega, by omega⟩
theorem Bst.step_ok {s : Bst} (h : s.Ok) (t : Tk) : (s.step t).Ok ∧ (s.step t).cnt ≤ s.cnt + 1 := by
  unfold Bst.step
  split
  · have h1 := Bst.closeBefore_le { s with hid := [] } t.name
    obtain ⟨a, b⟩ := Bst.start1_ok (Bst.closeBefore_ok (Bst.hid_ok h []) t.name) t.name t.attrs t.self
    have h2 : (Bst.closeBefore { s with hid := [] } t.name).cnt = s.cnt := h1.2.1
    exact ⟨a, by rw [h2] at b; exact b⟩
  split
  · have h0 : (if s.hid = t.name then ({ s with hid := [] } : Bst) else s).Ok ∧ (if s.hid = t.name then ({ s with hid := [] } : Bst) else s).cnt = s.cnt := by
      split
      · exact ⟨Bst.hid_ok h [], rfl⟩
      · exact ⟨h, rfl⟩
    exact ⟨Bst.closeLast_ok h0.1 _, by rw [Bst.ends, (Bst.closeLast_le _ _).2.1, h0.2]; exact Nat.le_succ _⟩
  split
  · unfold Bst.chars
    have h1 := h.bulk
    split
    · exact ⟨h, Nat.le_succ _⟩
    · refine ⟨⟨?_, h.deep⟩, ?_⟩
      · have h5 : s.bulk = s.out.length + (s.op.map fun a => a.parts.length + 1).sum + (if s.tx = [] then 0 else 1) := rfl
        show s.out.length + (s.op.map fun a => a.parts.length + 1).sum + (if s.tx ++ [t.text] = [] then 0 else 1) ≤ if s.tx = [] then s.cnt + 1 else s.cnt
        rw [if_neg (by simp)]
        split
        · rename_i e; rw [if_pos e] at h5; omega
        · rename_i e; rw [if_neg e] at h5; omega
      · show (if s.tx = [] then s.cnt + 1 else s.cnt) ≤ _
        split
        · exact Nat.le_refl _
        · exact Nat.le_succ _
  · exact ⟨h, Nat.le_succ _⟩

end U
end Go.Proofs.YtankcnikebcpkaaGreatDoor

namespace Go.Proofs.YtankcnikebcpkaaGreatDoor
namespace U

theorem bad_len : bad.2 = 1 := rfl

/-- the width: one to four bytes, and no more than there are -/
theorem dec_width (l : List UInt8) (hl : l ≠ []) : 1 ≤ (dec l).2 ∧ (dec l).2 ≤ 4 ∧ (dec l).2 ≤ l.length := by
  have h1 : 1 ≤ l.length := by cases l with | nil => exact absurd rfl hl | cons a r => simp
  rcases dec_spec l hl with h | ⟨n, r, _, e, h⟩
  · rw [h]; exact ⟨Nat.le_refl _, by decide, h1⟩
  · rw [h]
    have h2 := enc_length n
    have h3 : l.length = (enc n).length + r.length := by rw [e]; simp
    simp only
    omega

theorem dec_isL (l : List UInt8) (hl : l ≠ []) : isL (dec l).1 = true := by
  rcases dec_spec l hl with h | ⟨n, r, hn, e, h⟩
  · rw [h]; decide
  · rw [h]; exact hn

/-- the code points of bytes, by at most so many steps -/
def runesF : Nat → List UInt8 → List Nat
  | 0, _ => []
  | f + 1, l => if l = [] then [] else (dec l).1 :: runesF f (l.drop (dec l).2)
/-- the code points of bytes -/
def runes (l : List UInt8) : List Nat := runesF l.length l

theorem runesF_nil (f : Nat) : runesF f [] = [] := by cases f <;> simp [runesF]
theorem runesF_more : ∀ (f : Nat) (l : List UInt8), l.length ≤ f → runesF f l = runesF l.length l
  | 0, l, h => by
    have : l = [] := List.length_eq_zero_iff.1 (by omega)
    subst this; rfl
  | f + 1, l, h => by
    by_cases hl : l = []
    · subst hl; simp [runesF]
    · have hw := dec_width l hl
      have hd : (l.drop (dec l).2).length = l.length - (dec l).2 := by simp
      obtain ⟨k, hk⟩ : ∃ k, l.length = k + 1 := ⟨l.length - 1, by omega⟩
      rw [hk]
      simp only [runesF, if_neg hl]
      rw [runesF_more f (l.drop (dec l).2) (by omega), runesF_more k (l.drop (dec l).2) (by omega)]
theorem runes_of_fuel {f : Nat} {l : List UInt8} (h : l.length ≤ f) : runesF f l = runes l := runesF_more f l h
theorem runes_nil : runes [] = [] := rfl
theorem runes_cons {l : List UInt8} (hl : l ≠ []) : runes l = (dec l).1 :: runes (l.drop (dec l).2) := by
  have hw := dec_width l hl
  have hd : (l.drop (dec l).2).length = l.length - (dec l).2 := by simp
  have hk : ∃ k, l.length = k + 1 := ⟨l.length - 1, by omega⟩
  obtain ⟨k, hk⟩ := hk
  unfold runes
  rw [hk]
  simp only [runesF, if_neg hl]
  rw [runesF_more k _ (by omega)]

/-- an induction along the code points -/
theorem rec_runes {P : List UInt8 → Prop} (h0 : P []) (h1 : ∀ l, l ≠ [] → P (l.drop (dec l).2) → P l) : ∀ l, P l := by
  have key : ∀ (n : Nat) (l : List UInt8), l.length ≤ n → P l := by
    intro n
    induction n with
    | zero => intro l h; have : l = [] := List.length_eq_zero_iff.1 (by omega); subst this; exact h0
    | succ n ih =>
      intro l h
      by_cases hl : l = []
      · subst hl; exact h0
      · have hw := dec_width l hl
        exact h1 l hl (ih _ (by rw [List.length_drop]; omega))
  exact fun l => key l.length l (Nat.le_refl _)

theorem runes_isL (l : List UInt8) : ∀ n ∈ runes l, isL n = true := by
  induction l using rec_runes with
  | h0 => intro n h; simp [runes_nil] at h
  | h1 l hl ih =>
    intro n h
    rw [runes_cons hl] at h
    rcases List.mem_cons.1 h with h | h
    · rw [h]; exact dec_isL l hl
    · exact ih n h

theorem runes_enc {n : Nat} (h : isL n = true) (r : List UInt8) : runes (enc n ++ r) = n :: runes r := by
  have hne : enc n ++ r ≠ [] := by
    have h1 := (enc_length n).1
    intro e
    have h2 := congrArg List.length e
    rw [List.length_append, List.length_nil] at h2
    omega
  rw [runes_cons hne, dec_enc n h r]
  simp

/-- the encoding of code points -/
def encs (l : List Nat) : List UInt8 := l.flatMap enc
theorem encs_nil : encs [] = [] := rfl
theorem encs_cons (n : Nat) (l : List Nat) : encs (n :: l) = enc n ++ encs l := by simp [encs]
theorem encs_append (a b : List Nat) : encs (a ++ b) = encs a ++ encs b := by simp [encs]
theorem encs_length_ge (l : List Nat) : l.length ≤ (encs l).length := by
  induction l with
  | nil => simp
  | cons n l ih => have := (enc_length n).1; rw [encs_cons, List.length_append, List.length_cons]; omega
theorem encs_length_le (l : List Nat) : (encs l).length ≤ 4 * l.length := by
  induction l with
  | nil => simp [encs]
  | cons n l ih => have := (enc_length n).2; rw [encs_cons, List.length_append, List.length_cons]; omega

theorem runes_encs (a : List Nat) (h : ∀ n ∈ a, isL n = true) (r : List UInt8) : runes (encs a ++ r) = a ++ runes r := by
  induction a with
  | nil => simp [encs_nil]
  | cons n a ih =>
    rw [encs_cons, List.append_assoc, runes_enc (h n (List.mem_cons_self ..)), ih (fun m hm => h m (List.mem_cons_of_mem _ hm))]
    rfl

theorem runes_encs' (a : List Nat) (h : ∀ n ∈ a, isL n = true) : runes (encs a) = a := by
  have := runes_encs a h []
  simpa [runes_nil] using this

/-- one encoding for one list of code points -/
theorem encs_inj {a b : List Nat} (ha : ∀ n ∈ a, isL n = true) (hb : ∀ n ∈ b, isL n = true) : encs a = encs b ↔ a = b :=
  ⟨fun h => by rw [← runes_encs' a ha, h, runes_encs' b hb], fun h => by rw [h]⟩

/-- how many: no more than bytes, and a fourth of the bytes at the least -/
theorem runes_length (l : List UInt8) : (runes l).length ≤ l.length ∧ l.length ≤ 4 * (runes l).length := by
  induction l using rec_runes with
  | h0 => simp [runes_nil]
  | h1 l hl ih =>
    have hw := dec_width l hl
    rw [runes_cons hl, List.length_cons]
    rw [List.length_drop] at ih
    omega

/-- two texts, one behind the other: what is read of the first, as long as it lies in the first -/
theorem dec_append (s t : List UInt8) (hs : s ≠ []) (h : (dec (s ++ t)).2 ≤ s.length) : dec s = dec (s ++ t) := by
  have hst : s ++ t ≠ [] := by simp [hs]
  rcases dec_spec (s ++ t) hst with e | ⟨n, r, hn, e, e2⟩
  · rcases dec_spec s hs with e' | ⟨m, q, hm, f, f2⟩
    · rw [e, e']
    · -- what the first alone begins with, both begin with
      have g := dec_enc m hm (q ++ t)
      rw [← List.append_assoc, ← f] at g
      rw [f2, g]
  · rw [e2] at h ⊢
    simp only at h
    have f : s = enc n ++ s.drop (enc n).length := by
      have h1 : (s ++ t).take (enc n).length = enc n := by rw [e]; simp
      rw [List.take_append_of_le_length h] at h1
      conv => lhs; rw [← List.take_append_drop (enc n).length s, h1]
    rw [f]
    exact dec_enc n hn _

/-- a byte that carries six bits begins nothing -/
theorem dec_six (b : UInt8) (r : List UInt8) (h : b.toNat / 64 = 2) : dec (b :: r) = bad :=
  decN_no (by rw [at_zero]; omega) (by rw [at_zero, Bool.and_eq_false_iff]; left; simp; omega) (by rw [at_zero, Bool.and_eq_false_iff, Bool.and_eq_false_iff]; left; left; simp; omega) (by rw [at_zero, Bool.and_eq_false_iff, Bool.and_eq_false_iff, Bool.and_eq_false_iff]; left; left; left; simp; omega)

theorem runes_six (c r : List UInt8) (h : ∀ b ∈ c, b.toNat / 64 = 2) : (runes (c ++ r)).length = c.length + (runes r).length := by
  induction c with
  | nil => simp
  | cons b c ih =>
    rw [List.cons_append, runes_cons (by simp), dec_six b _ (h b (List.mem_cons_self ..))]
    show ((65533 : Nat) :: runes (List.drop 1 (b :: (c ++ r)))).length = _
    rw [List.drop_one, List.tail_cons, List.length_cons, List.length_cons, ih (fun x hx => h x (List.mem_cons_of_mem _ hx))]
    omega

/-- behind its first byte an encoding carries six bits a byte -/
theorem enc_tail (n : Nat) : ∀ b ∈ (enc n).drop 1, b.toNat / 64 = 2 := by
  intro b hb
  by_cases h1 : n < 128
  · rw [enc_one h1] at hb; simp at hb
  by_cases h2 : n < 2048
  · rw [enc_two (by omega) h2] at hb; simp at hb; subst hb; simp; omega
  by_cases h3 : n < 65536
  · rw [enc_three (by omega) h3] at hb; simp at hb; rcases hb with rfl | rfl <;> (simp; omega)
  · rw [enc_four (by omega)] at hb; simp at hb; rcases hb with rfl | rfl | rfl <;> (simp; omega)

/-- an encoding that is cut off is passed over byte by byte -/
theorem runes_cut {n : Nat} (hn : isL n = true) {s t : List UInt8} (h : s ++ t = enc n) (ht : t ≠ []) : (runes s).length = s.length := by
  cases s with
  | nil => rfl
  | cons b s =>
    have hs6 : ∀ x ∈ s, x.toNat / 64 = 2 := fun x hx => enc_tail n x (by rw [← h]; simp; exact Or.inl hx |> fun h => by simpa using h)
    have hb : dec (b :: s) = bad := by
      rcases dec_spec (b :: s) (by simp) with e | ⟨m, q, hm, f, _⟩
      · exact e
      · exfalso
        have g := dec_enc m hm (q ++ t)
        rw [← List.append_assoc, ← f, h] at g
        have g2 := dec_enc n hn []
        rw [List.append_nil, g] at g2
        have h3 : (enc m).length = (enc n).length := congrArg Prod.snd g2
        have h4 : (enc n).length = (b :: s).length + t.length := by rw [← h, List.length_append]
        have h5 : (b :: s).length = (enc m).length + q.length := by rw [f, List.length_append]
        have h6 : 0 < t.length := List.length_pos_iff.2 ht
        omega
    rw [runes_cons (by simp), hb]
    show ((65533 : Nat) :: runes (List.drop 1 (b :: s))).length = _
    have := runes_six s [] hs6
    rw [List.append_nil] at this
    rw [List.drop_one, List.tail_cons, List.length_cons, List.length_cons, this, runes_nil]
    simp

/-- of two texts, one behind the other, there are no more than of both by themselves, and at most three fewer -/
theorem runes_append_length (s t : List UInt8) : (runes (s ++ t)).length ≤ (runes s).length + (runes t).length ∧ (runes s).length + (runes t).length ≤ (runes (s ++ t)).length + 3 := by
  induction s using rec_runes with
  | h0 => simp [runes_nil]
  | h1 s hs ih =>
    have hst : s ++ t ≠ [] := by simp [hs]
    by_cases h : (dec (s ++ t)).2 ≤ s.length
    · have e := dec_append s t hs h
      rw [runes_cons hst, runes_cons hs, ← e, List.drop_append_of_le_length (by rw [e]; exact h), List.length_cons, List.length_cons]
      omega
    · rcases dec_spec (s ++ t) hst with e | ⟨n, r, hn, e, e2⟩
      · rw [e] at h
        have : 0 < s.length := List.length_pos_iff.2 hs
        simp only [bad] at h
        omega
      · rw [e2] at h
        simp only at h
        -- the encoding begins in the first and ends in the second
        have f1 : enc n = s ++ t.take ((enc n).length - s.length) := by
          have h1 : (s ++ t).take (enc n).length = enc n := by rw [e]; simp
          rw [List.take_append, List.take_of_length_le (by omega)] at h1
          exact h1.symm
        have f2 : t = t.take ((enc n).length - s.length) ++ r := by
          have h1 : (s ++ t).drop (enc n).length = r := by rw [e]; simp
          rw [List.drop_append, List.drop_of_length_le (by omega), List.nil_append] at h1
          conv => lhs; rw [← List.take_append_drop ((enc n).length - s.length) t, h1]
        generalize t.take ((enc n).length - s.length) = c at f1 f2
        have hc0 : c ≠ [] := by
          rintro rfl
          rw [f1] at h
          simp at h
        have hs1 : 0 < s.length := List.length_pos_iff.2 hs
        have hc6 : ∀ x ∈ c, x.toNat / 64 = 2 := fun x hx => enc_tail n x (by
          rw [f1]
          obtain ⟨b, q, rfl⟩ := List.exists_cons_of_ne_nil hs
          simp
          exact Or.inr hx)
        have c1 := runes_cut hn f1.symm hc0
        have c2 := runes_six c r hc6
        have c3 := (enc_length n).2
        have c4 : (enc n).length = s.length + c.length := by rw [f1, List.length_append]
        have c5 : 0 < c.length := List.length_pos_iff.2 hc0
        rw [e, runes_enc hn, List.length_cons, c1, f2, c2]
        omega

end U
end Go.Proofs.YtankcnikebcpkaaGreatDoor

namespace Go.Proofs.YtankcnikebcpkaaGreatDoor
namespace U

theorem isSp_ne {b : UInt8} (h : isSp b = true) : b ≠ 47 ∧ b ≠ 62 ∧ b ≠ 61 ∧ b ≠ 34 ∧ b ≠ 39 := by
  refine ⟨?_, ?_, ?_, ?_, ?_⟩ <;> rintro rfl <;> exact absurd h (by decide)
variable {t n v : List UInt8} {q b : UInt8} {sl : Bool} {al : List Att}
theorem step_N1 (hs : isSp b = true) : step ⟨0, t, n, v, q, sl, al⟩ b = .go ⟨1, t, n, v, q, false, al⟩ := by
  obtain ⟨h47, h62, h61, h34, h39⟩ := isSp_ne hs
  simp [step, pre0, pre2, pre6, pre3, post, endsName, hs, h47, h62]
theorem step_N2 (h47 : b = 47) : step ⟨0, t, n, v, q, sl, al⟩ b = .go ⟨1, t, n, v, q, true, al⟩ := by
  subst h47
  have hs : isSp 47 = false := by decide
  simp [step, pre0, pre2, pre6, pre3, post, endsName, hs]
theorem step_N3 (h62 : b = 62) : step ⟨0, t, n, v, q, sl, al⟩ b = .fin ⟨1, t, n, v, q, false, al⟩ := by
  subst h62
  have hs : isSp 62 = false := by decide
  simp [step, pre0, pre2, pre6, pre3, post, endsName, hs]
theorem step_N4 (hs : isSp b = false) (h47 : b ≠ 47) (h62 : b ≠ 62) : step ⟨0, t, n, v, q, sl, al⟩ b = .go ⟨0, (t ++ [b]), n, v, q, sl, al⟩ := by
  simp [step, endsName, hs, h47, h62]
theorem step_A1 (h62 : b = 62) : step ⟨1, t, n, v, q, sl, al⟩ b = .fin ⟨1, t, n, v, q, sl, al⟩ := by
  subst h62
  have hs : isSp 62 = false := by decide
  simp [step, pre0, pre2, pre6, pre3, post, endsName, hs]
theorem step_A2 (h47 : b = 47) : step ⟨1, t, n, v, q, sl, al⟩ b = .go ⟨1, t, n, v, q, true, al⟩ := by
  subst h47
  have hs : isSp 47 = false := by decide
  simp [step, pre0, pre2, pre6, pre3, post, endsName, hs]
theorem step_A3 (hs : isSp b = true) : step ⟨1, t, n, v, q, sl, al⟩ b = .go ⟨1, t, n, v, q, false, al⟩ := by
  obtain ⟨h47, h62, h61, h34, h39⟩ := isSp_ne hs
  simp [step, pre0, pre2, pre6, pre3, post, endsName, hs, h47, h62]
theorem step_A4 (hs : isSp b = false) (h47 : b ≠ 47) (h62 : b ≠ 62) : step ⟨1, t, n, v, q, sl, al⟩ b = .go ⟨2, t, [b], v, q, sl, al⟩ := by
  simp [step, pre0, pre2, pre6, pre3, post, endsName, hs, h47, h62]
theorem step_B1 (hs : isSp b = true) : step ⟨2, t, n, v, q, sl, al⟩ b = .go ⟨3, t, n, v, q, sl, al⟩ := by
  obtain ⟨h47, h62, h61, h34, h39⟩ := isSp_ne hs
  simp [step, pre0, pre2, pre6, pre3, post, endsName, hs, h61]
theorem step_B2 (h47 : b = 47) : step ⟨2, t, n, v, q, sl, al⟩ b = .go ⟨1, t, n, v, q, true, (al ++ [(low n, [])])⟩ := by
  subst h47
  have hs : isSp 47 = false := by decide
  simp [step, pre0, pre2, pre6, pre3, post, endsName, hs]
theorem step_B3 (h62 : b = 62) : step ⟨2, t, n, v, q, sl, al⟩ b = .fin ⟨1, t, n, v, q, false, (al ++ [(low n, [])])⟩ := by
  subst h62
  have hs : isSp 62 = false := by decide
  simp [step, pre0, pre2, pre6, pre3, post, endsName, hs]
theorem step_B4 (h61 : b = 61) : step ⟨2, t, n, v, q, sl, al⟩ b = .go ⟨4, t, n, v, q, sl, al⟩ := by
  subst h61
  have hs : isSp 61 = false := by decide
  simp [step, pre0, pre2, pre6, pre3, post, endsName, hs]
theorem step_B5 (hs : isSp b = false) (h47 : b ≠ 47) (h62 : b ≠ 62) (h61 : b ≠ 61) : step ⟨2, t, n, v, q, sl, al⟩ b = .go ⟨2, t, (n ++ [b]), v, q, sl, al⟩ := by
  simp [step, pre0, pre2, pre6, pre3, post, endsName, hs, h47, h62, h61]
theorem step_C1 (hs : isSp b = true) : step ⟨3, t, n, v, q, sl, al⟩ b = .go ⟨3, t, n, v, q, sl, al⟩ := by
  obtain ⟨h47, h62, h61, h34, h39⟩ := isSp_ne hs
  simp [step, pre0, pre2, pre6, pre3, post, endsName, hs, h61]
theorem step_C2 (h61 : b = 61) : step ⟨3, t, n, v, q, sl, al⟩ b = .go ⟨4, t, n, v, q, sl, al⟩ := by
  subst h61
  have hs : isSp 61 = false := by decide
  simp [step, pre0, pre2, pre6, pre3, post, endsName, hs]
theorem step_C3 (h47 : b = 47) : step ⟨3, t, n, v, q, sl, al⟩ b = .go ⟨1, t, n, v, q, true, (al ++ [(low n, [])])⟩ := by
  subst h47
  have hs : isSp 47 = false := by decide
  simp [step, pre0, pre2, pre6, pre3, post, endsName, hs]
theorem step_C4 (h62 : b = 62) : step ⟨3, t, n, v, q, sl, al⟩ b = .fin ⟨1, t, n, v, q, false, (al ++ [(low n, [])])⟩ := by
  subst h62
  have hs : isSp 62 = false := by decide
  simp [step, pre0, pre2, pre6, pre3, post, endsName, hs]
theorem step_C5 (hs : isSp b = false) (h47 : b ≠ 47) (h62 : b ≠ 62) (h61 : b ≠ 61) : step ⟨3, t, n, v, q, sl, al⟩ b = .go ⟨2, t, [b], v, q, false, (al ++ [(low n, [])])⟩ := by
  simp [step, pre0, pre2, pre6, pre3, post, endsName, hs, h47, h62, h61]
theorem step_D1 (hs : isSp b = true) : step ⟨4, t, n, v, q, sl, al⟩ b = .go ⟨4, t, n, v, q, sl, al⟩ := by
  obtain ⟨h47, h62, h61, h34, h39⟩ := isSp_ne hs
  simp [step, pre0, pre2, pre6, pre3, post, endsName, hs]
theorem step_D2 (hs : isSp b = false) (hq : b = 34 ∨ b = 39) : step ⟨4, t, n, v, q, sl, al⟩ b = .go ⟨5, t, n, [], b, sl, al⟩ := by
  simp [step, pre0, pre2, pre6, pre3, post, endsName, hs, hq]
theorem step_D3 (hs : isSp b = false) (hq : ¬ (b = 34 ∨ b = 39)) : step ⟨4, t, n, v, q, sl, al⟩ b = .again ⟨6, t, n, [], q, sl, al⟩ := by
  simp [step, pre0, pre2, pre6, pre3, post, endsName, hs, hq]
theorem step_E1 (hq : b = q) : step ⟨5, t, n, v, q, sl, al⟩ b = .go ⟨1, t, n, v, q, false, (al ++ [(low n, unesc v)])⟩ := by
  subst hq
  simp [step, pre0, pre2, pre6, pre3, post, endsName]
theorem step_E2 (hq : b ≠ q) : step ⟨5, t, n, v, q, sl, al⟩ b = .go ⟨5, t, n, (v ++ [b]), q, sl, al⟩ := by
  simp [step, pre0, pre2, pre6, pre3, post, endsName, hq]
theorem step_F1 (hs : isSp b = true) : step ⟨6, t, n, v, q, sl, al⟩ b = .go ⟨1, t, n, v, q, false, (al ++ [(low n, unesc v)])⟩ := by
  obtain ⟨h47, h62, h61, h34, h39⟩ := isSp_ne hs
  simp [step, pre0, pre2, pre6, pre3, post, endsName, hs, h47, h62]
theorem step_F2 (h62 : b = 62) : step ⟨6, t, n, v, q, sl, al⟩ b = .fin ⟨1, t, n, v, q, false, (al ++ [(low n, unesc v)])⟩ := by
  subst h62
  have hs : isSp 62 = false := by decide
  simp [step, pre0, pre2, pre6, pre3, post, endsName, hs]
theorem step_F3 (hs : isSp b = false) (h62 : b ≠ 62) : step ⟨6, t, n, v, q, sl, al⟩ b = .go ⟨6, t, n, (v ++ [b]), q, sl, al⟩ := by
  simp [step, pre0, pre2, pre6, pre3, post, endsName, hs, h62]

end U
end Go.Proofs.YtankcnikebcpkaaGreatDoor

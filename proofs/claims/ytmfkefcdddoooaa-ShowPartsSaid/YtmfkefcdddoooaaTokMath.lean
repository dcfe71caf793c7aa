/- Plain mathematics: tags and tokens; lists of bytes; nothing of the program. -/
import Derived.Test.YtmfkefcdddoooaaChar
namespace Go.Proofs.Ytmfkefcdddoooaa
namespace U

def isSp (b : UInt8) : Bool := b == 32 || b == 9 || b == 10 || b == 12
def isAl (b : UInt8) : Bool := (decide (97 ≤ b.toNat) && decide (b.toNat ≤ 122)) || (decide (65 ≤ b.toNat) && decide (b.toNat ≤ 90))
def low1 (b : UInt8) : UInt8 := if 65 ≤ b.toNat ∧ b.toNat ≤ 90 then UInt8.ofNat (b.toNat + 32) else b
def low (l : List UInt8) : List UInt8 := l.map low1
theorem low_nil : low [] = [] := rfl
theorem low_append (a b : List UInt8) : low (a ++ b) = low a ++ low b := by simp [low]
theorem low_length (l : List UInt8) : (low l).length = l.length := by simp [low]

/-- an attribute: its name, its value -/
abbrev Att := List UInt8 × List UInt8
/-- a token: kind (1 start, 2 end, 3 chars, 4 comment), name, attributes, whether it closes itself, text -/
structure Tok where
  kind : Nat
  name : List UInt8
  attrs : List Att
  self : Bool
  text : List UInt8

/-! ### the machine that reads a tag -/
structure St where
  state : Nat
  tname : List UInt8
  name : List UInt8
  value : List UInt8
  quote : UInt8
  slash : Bool
  all : List Att
inductive Res where
  | go (s : St)
  | again (s : St)
  | fin (s : St)

def endsName (b : UInt8) : Bool := isSp b || b == 47 || b == 62
/-- ahead of the switch: a name, a value or a name without a value ends -/
def pre0 (st : St) : St := if st.state = 0 then { st with state := 1, slash := false } else st
def pre2 (st : St) (b : UInt8) : St := if st.state = 2 ∧ (endsName b || b == 61) = true then { st with state := 3 } else st
def pre6 (st : St) (b : UInt8) : St := if st.state = 6 ∧ (isSp b || b == 62) = true then { st with all := st.all ++ [(low st.name, unesc st.value)], state := 1, slash := false } else st
def pre3 (st : St) (b : UInt8) : St := if st.state = 3 ∧ (!isSp b && b != 61) = true then { st with all := st.all ++ [(low st.name, [])], state := 1, slash := false } else st
def post (st : St) (b : UInt8) : Res :=
  if st.state = 2 then .go { st with name := st.name ++ [b] }
  else if st.state = 3 then (if b = 61 then .go { st with state := 4 } else .go st)
  else if st.state = 4 then (if isSp b = true then .go st else if b = 34 ∨ b = 39 then .go { st with state := 5, quote := b, value := [] } else .again { st with state := 6, value := [] })
  else if st.state = 5 then (if b = st.quote then .go { st with all := st.all ++ [(low st.name, unesc st.value)], state := 1, slash := false } else .go { st with value := st.value ++ [b] })
  else if st.state = 6 then .go { st with value := st.value ++ [b] }
  else if b = 62 then .fin st
  else if b = 47 then .go { st with slash := true }
  else if isSp b = true then .go { st with slash := false }
  else .go { st with state := 2, name := [b] }
def step (st : St) (b : UInt8) : Res :=
  if st.state = 0 ∧ endsName b = false then .go { st with tname := st.tname ++ [b] } else post (pre3 (pre6 (pre2 (pre0 st) b) b) b) b
def runM : St → List UInt8 → Option (St × List UInt8)
  | _, [] => none
  | st, b :: r => match step st b with
    | .go st' => runM st' r
    | .fin st' => some (st', r)
    | .again st' => match step st' b with
      | .go st'' => runM st'' r
      | .fin st'' => some (st'', r)
      | .again _ => none
def st0 : St := ⟨0, [], [], [], 0, false, []⟩

theorem runM_nil (st : St) : runM st [] = none := rfl
theorem runM_go {st st' : St} {b : UInt8} (r : List UInt8) (h : step st b = .go st') : runM st (b :: r) = runM st' r := by rw [runM, h]
theorem runM_fin {st st' : St} {b : UInt8} (r : List UInt8) (h : step st b = .fin st') : runM st (b :: r) = some (st', r) := by rw [runM, h]
theorem step_again {st st' : St} {b : UInt8} (h : step st b = .again st') : st'.state = 6 := by
  unfold step at h
  split at h
  · cases h
  · generalize pre3 (pre6 (pre2 (pre0 st) b) b) b = t at h
    unfold post at h
    split at h
    · cases h
    split at h
    · split at h <;> cases h
    split at h
    · split at h
      · cases h
      split at h
      · cases h
      · injection h with h; rw [← h]
    split at h
    · split at h <;> cases h
    split at h
    · cases h
    split at h
    · cases h
    split at h
    · cases h
    split at h
    · cases h
    · cases h
theorem runM_again {st st' : St} {b : UInt8} (r : List UInt8) (h : step st b = .again st') : runM st (b :: r) = runM st' (b :: r) := by
  have h6 := step_again h
  rw [runM, h]
  simp only
  rw [runM]
  cases h2 : step st' b with
  | go s => rfl
  | fin s => rfl
  | again s =>
    exfalso
    have h4 := h2
    unfold step at h2
    rw [if_neg (fun hh => by rw [h6] at hh; exact absurd hh.1 (by decide))] at h2
    have e0 : pre0 st' = st' := by unfold pre0; rw [if_neg (by rw [h6]; decide)]
    have e2 : pre2 st' b = st' := by unfold pre2; rw [if_neg (fun hh => by rw [h6] at hh; exact absurd hh.1 (by decide))]
    rw [e0, e2] at h2
    by_cases hq : (isSp b || b == 62) = true
    · have e6 : (pre6 st' b).state = 1 := by unfold pre6; rw [if_pos ⟨h6, hq⟩]
      have e3 : pre3 (pre6 st' b) b = pre6 st' b := by unfold pre3; rw [if_neg (fun hh => by rw [e6] at hh; exact absurd hh.1 (by decide))]
      rw [e3] at h2
      unfold post at h2
      rw [if_neg (by rw [e6]; decide), if_neg (by rw [e6]; decide), if_neg (by rw [e6]; decide), if_neg (by rw [e6]; decide), if_neg (by rw [e6]; decide)] at h2
      split at h2
      · cases h2
      split at h2
      · cases h2
      split at h2
      · cases h2
      · cases h2
    · have e6 : pre6 st' b = st' := by unfold pre6; rw [if_neg (fun hh => hq hh.2)]
      have e3 : pre3 st' b = st' := by unfold pre3; rw [if_neg (fun hh => by rw [h6] at hh; exact absurd hh.1 (by decide))]
      rw [e6, e3] at h2
      unfold post at h2
      rw [if_neg (by rw [h6]; decide), if_neg (by rw [h6]; decide), if_neg (by rw [h6]; decide), if_neg (by rw [h6]; decide), if_pos h6] at h2
      cases h2

/-- what is left is shorter -/
theorem runM_shorter : ∀ (l : List UInt8) (st : St) {st' : St} {r : List UInt8}, runM st l = some (st', r) → r.length < l.length
  | [], st, st', r, h => by cases h
  | b :: l, st, st', r, h => by
    rw [List.length_cons]
    rw [runM] at h
    split at h
    · exact Nat.lt_succ_of_lt (runM_shorter l _ h)
    · injection h with h; injection h with _ h; subst h; omega
    · split at h
      · exact Nat.lt_succ_of_lt (runM_shorter l _ h)
      · injection h with h; injection h with _ h; subst h; omega
      · cases h

/-- of several attributes with one name the first one -/
def firsts : List Att → List Att → List Att
  | acc, [] => acc
  | acc, a :: l => firsts (if acc.all (fun c => c.1 != a.1) = true then acc ++ [a] else acc) l

/-! ### the tokens -/
/-- the first place of a text in bytes -/
def placeOf (find : List UInt8) : List UInt8 → Option Nat
  | [] => if find = [] then some 0 else none
  | b :: r => if (b :: r).take find.length = find then some 0 else (placeOf find r).map (· + 1)
def chars (txt : List UInt8) : List Tok := if txt = [] then [] else [⟨3, [], [], false, unesc txt⟩]
/-- a comment, and what is left -/
def remark (find l : List UInt8) : Tok × List UInt8 := match placeOf find l with
  | none => (⟨4, [], [], false, l⟩, [])
  | some k => (⟨4, [], [], false, l.take k⟩, l.drop (k + find.length))
def rawName (n : List UInt8) : Bool := n == [115, 99, 114, 105, 112, 116] || n == [115, 116, 121, 108, 101] || n == [116, 101, 120, 116, 97, 114, 101, 97] || n == [116, 105, 116, 108, 101]
/-- a raw text's end lies here -/
def rawEnd (n : List UInt8) (l : List UInt8) : Bool := match l.drop (2 + n.length) with
  | [] => false
  | c :: _ => l.take 2 == [60, 47] && low ((l.drop 2).take n.length) == n && (isSp c || c == 47 || c == 62)
/-- a raw text, and what is left -/
def rawText (n : List UInt8) : List UInt8 → List UInt8 × List UInt8
  | [] => ([], [])
  | b :: r => if rawEnd n (b :: r) = true then ([], b :: r) else (b :: (rawText n r).1, (rawText n r).2)
def rawToks (n raw : List UInt8) : List Tok :=
  if raw = [] then [] else [⟨3, [], [], false, if n.head? = some 116 then unesc raw else raw⟩]
/-- what stands at a place -/
inductive Item where
  | text                                  -- a byte of a text
  | mark (t : Tok) (rest : List UInt8)    -- a comment
  | stop                                  -- a tag that does not end
  | close (n : List UInt8) (rest : List UInt8)
  | start (n : List UInt8) (as : List Att) (self : Bool) (rest : List UInt8)
def startI (l : List UInt8) : Item := match runM st0 l with
  | none => .stop
  | some (s, t) => .start (low s.tname) (firsts [] s.all) s.slash t
def closeI (l : List UInt8) : Item := match runM st0 l with
  | none => .stop
  | some (s, t) => .close (low s.tname) t
def markI (find l : List UInt8) : Item := .mark (remark find l).1 (remark find l).2
def slashI (r : List UInt8) : Item := match r with
  | [] => .text
  | d :: r' => if isAl d = true then closeI (d :: r') else markI [62] (d :: r')
def bangI (r : List UInt8) : Item := if r.take 2 = [45, 45] then markI [45, 45, 62] (r.drop 2) else markI [62] r
def item : List UInt8 → Item
  | a :: c :: r => if a ≠ 60 then .text else if isAl c = true then startI (c :: r) else if c = 33 then bangI r else if c = 63 then markI [62] (c :: r) else if c = 47 then slashI r else .text
  | _ => .text
def toksF : Nat → List UInt8 → List UInt8 → List Tok
  | 0, txt, _ => chars txt
  | _ + 1, txt, [] => chars txt
  | f + 1, txt, b :: r => match item (b :: r) with
    | .text => toksF f (txt ++ [b]) r
    | .mark t rest => chars txt ++ t :: toksF f [] rest
    | .stop => chars txt
    | .close n rest => chars txt ++ ⟨2, n, [], false, []⟩ :: toksF f [] rest
    | .start n as self rest => if rawName n = true then chars txt ++ ⟨1, n, as, self, []⟩ :: (rawToks n (rawText n rest).1 ++ toksF f [] (rawText n rest).2)
      else chars txt ++ ⟨1, n, as, self, []⟩ :: toksF f [] rest
def toks (l : List UInt8) : List Tok := toksF l.length [] l

end U
end Go.Proofs.Ytmfkefcdddoooaa

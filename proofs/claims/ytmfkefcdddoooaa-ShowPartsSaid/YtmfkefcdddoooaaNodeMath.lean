/- Plain mathematics: nodes; how tokens become a tree, step by step as package tree does it. -/
import Derived.Test.YtmfkefcdddoooaaFaultMath
namespace Go.Proofs.Ytmfkefcdddoooaa
namespace U

/-- a node: a name, attributes, a text, parts -/
inductive Nd where
  | mk (name : List UInt8) (attrs : List Att) (text : List UInt8) (parts : List Nd)
def Nd.name : Nd → List UInt8 | .mk n _ _ _ => n
def Nd.attrs : Nd → List Att | .mk _ a _ _ => a
def Nd.text : Nd → List UInt8 | .mk _ _ t _ => t
def Nd.parts : Nd → List Nd | .mk _ _ _ p => p
/-- one more part -/
def Nd.push : Nd → Nd → Nd | .mk n a t p, x => .mk n a t (p ++ [x])
theorem Nd.eta : ∀ (n : Nd), Nd.mk n.name n.attrs n.text n.parts = n | .mk _ _ _ _ => rfl
theorem Nd.push_name : ∀ (n x : Nd), (n.push x).name = n.name | .mk _ _ _ _, _ => rfl
theorem Nd.push_attrs : ∀ (n x : Nd), (n.push x).attrs = n.attrs | .mk _ _ _ _, _ => rfl
theorem Nd.push_text : ∀ (n x : Nd), (n.push x).text = n.text | .mk _ _ _ _, _ => rfl
theorem Nd.push_parts : ∀ (n x : Nd), (n.push x).parts = n.parts ++ [x] | .mk _ _ _ _, _ => rfl

/-- what is being built: what is outside of all that is open; the open elements, the inmost first; the pieces of a text that may go on; how many nodes; the name whose texts are not told -/
structure Bst where
  out : List Nd
  op : List Nd
  tx : List (List UInt8)
  cnt : Nat
  hid : List UInt8
def Bst.new : Bst := ⟨[], [], [], 0, []⟩
/-- a node at the current place -/
def Bst.add (s : Bst) (n : Nd) : Bst := match s.op with
  | [] => { s with out := s.out ++ [n] }
  | a :: r => { s with op := a.push n :: r }
def Bst.noText (s : Bst) : Bst := ⟨s.out, s.op, [], s.cnt, s.hid⟩
def Bst.withOp (s : Bst) (r : List Nd) : Bst := ⟨s.out, r, s.tx, s.cnt, s.hid⟩
def Bst.more (s : Bst) : Bst := ⟨s.out, s.op, s.tx, s.cnt + 1, s.hid⟩
/-- the text ends -/
def Bst.endText (s : Bst) : Bst := if s.tx = [] then s else Bst.noText (s.add (.mk [] [] s.tx.flatten []))
/-- the inmost one is closed -/
def Bst.pop (s : Bst) : Bst := match s.endText.op with
  | [] => s.endText
  | a :: r => (s.endText.withOp r).add a
def Bst.popN : Nat → Bst → Bst
  | 0, s => s
  | n + 1, s => popN n s.pop
/-- where the last one with this name is, from the outside, counted from 1; 0: there is none -/
def idx (name : List UInt8) : List Nd → Nat
  | [] => 0
  | a :: r => if a.name = name then r.length + 1 else idx name r
def Bst.closeFrom (s : Bst) (k : Nat) : Bst := Bst.popN (s.op.length - k) s
def Bst.closeLast (s : Bst) (name : List UInt8) : Bst := if idx name s.op = 0 then s else s.closeFrom (idx name s.op - 1)
def hides (n : List UInt8) : Bool := n == [115, 99, 114, 105, 112, 116] || n == [115, 116, 121, 108, 101]
def endsPar (n : List UInt8) : Bool := n == [112] || n == [100, 105, 118] || n == [117, 108] || n == [111, 108] || n == [108, 105] || n == [104, 49] || n == [104, 50] || n == [116, 97, 98, 108, 101] || n == [98, 108, 111, 99, 107, 113, 117, 111, 116, 101]
def isVoid (n : List UInt8) : Bool := n == [98, 114] || n == [104, 114] || n == [105, 109, 103] || n == [105, 110, 112, 117, 116]
def Bst.closePar (s : Bst) (name : List UInt8) : Bst := if endsPar name = true then s.closeLast [112] else s
def Bst.closeBefore (s : Bst) (name : List UInt8) : Bst :=
  if name = [108, 105] ∧ max (idx [117, 108] (s.closePar name).op) (idx [111, 108] (s.closePar name).op) < idx [108, 105] (s.closePar name).op then (s.closePar name).closeLast [108, 105] else s.closePar name
def Bst.start2 (s : Bst) (name : List UInt8) (attrs : List Att) (self : Bool) : Bst :=
  if self = true ∨ isVoid name = true then s.endText.more.add (.mk name attrs [] []) else s.endText.more.withOp (.mk name attrs [] [] :: s.endText.op)
def Bst.start1 (s : Bst) (name : List UInt8) (attrs : List Att) (self : Bool) : Bst :=
  if s.op.length = 10 then (if hides name = true ∧ self = false then { s with hid := name } else s) else s.start2 name attrs self
def Bst.start (s : Bst) (name : List UInt8) (attrs : List Att) (self : Bool) : Bst := Bst.start1 (Bst.closeBefore { s with hid := [] } name) name attrs self
def Bst.ends (s : Bst) (name : List UInt8) : Bst := Bst.closeLast (if s.hid = name then { s with hid := [] } else s) name
def Bst.muted (s : Bst) : Bool := match s.op with
  | [] => false
  | a :: _ => hides a.name
def Bst.chars (s : Bst) (text : List UInt8) : Bst :=
  if text = [] ∨ s.hid ≠ [] ∨ s.muted = true then s else { s with cnt := if s.tx = [] then s.cnt + 1 else s.cnt, tx := s.tx ++ [text] }
/-- one token -/
def Bst.step (s : Bst) (t : Tk) : Bst :=
  if t.kind = 1 then s.start t.name t.attrs t.self else if t.kind = 2 then s.ends t.name else if t.kind = 3 then s.chars t.text else s
def Bst.stepE (s : Bst) (t : Tk) : Bst × Nat :=
  if t.kind = 1 ∨ t.kind = 2 ∨ t.kind = 3 ∨ t.kind = 4 then (s.step t, if 150 < (s.step t).cnt then 1 else 0) else (s, 3)
def Bst.done (s : Bst) : List Nd := (s.closeFrom 0).endText.out
def Bst.run : Bst → List Tk → List Nd × Nat
  | s, [] => (s.done, 0)
  | s, t :: r => if (s.stepE t).2 = 0 then Bst.run (s.stepE t).1 r else ([], (s.stepE t).2)
/-- what Build answers -/
def build (l : List Tk) : List Nd × Nat := if 300 < l.length then ([], 1) else Bst.new.run l

/-- how much there is, at most as much as was counted -/
def Bst.bulk (s : Bst) : Nat := s.out.length + (s.op.map fun a => a.parts.length + 1).sum + (if s.tx = [] then 0 else 1)
theorem Bst.add_bulk (s : Bst) (n : Nd) : (s.add n).bulk = s.bulk + 1 := by
  unfold Bst.add Bst.bulk
  cases h : s.op with
  | nil => simp only [List.length_append, List.length_cons, List.length_nil, List.map_nil, List.sum_nil]; omega
  | cons a r => simp only [List.map_cons, List.sum_cons, Nd.push_parts, List.length_append, List.length_cons, List.length_nil]; omega
theorem Bst.add_tx (s : Bst) (n : Nd) : (s.add n).tx = s.tx := by unfold Bst.add; split <;> rfl
theorem Bst.add_cnt (s : Bst) (n : Nd) : (s.add n).cnt = s.cnt := by unfold Bst.add; split <;> rfl
theorem Bst.add_hid (s : Bst) (n : Nd) : (s.add n).hid = s.hid := by unfold Bst.add; split <;> rfl
theorem Bst.add_op (s : Bst) (n : Nd) : (s.add n).op.length = s.op.length := by unfold Bst.add; split <;> rename_i h <;> simp [h]
theorem Bst.endText_bulk (s : Bst) : s.endText.bulk = s.bulk := by
  unfold Bst.endText
  split
  · rfl
  · rename_i h
    have h1 := Bst.add_bulk s (.mk [] [] s.tx.flatten [])
    have h2 := Bst.add_tx s (.mk [] [] s.tx.flatten [])
    have h3 : (s.add (.mk [] [] s.tx.flatten [])).bulk = (s.add (.mk [] [] s.tx.flatten [])).noText.bulk + 1 := by
      unfold Bst.bulk
      rw [h2, if_neg h]
      rfl
    omega
theorem Bst.endText_tx (s : Bst) : s.endText.tx = [] := by
  unfold Bst.endText
  split
  · assumption
  · rfl
theorem Bst.endText_cnt (s : Bst) : s.endText.cnt = s.cnt := by
  unfold Bst.endText
  split
  · rfl
  · exact Bst.add_cnt _ _
theorem Bst.endText_hid (s : Bst) : s.endText.hid = s.hid := by
  unfold Bst.endText
  split
  · rfl
  · exact Bst.add_hid _ _
theorem Bst.endText_op (s : Bst) : s.endText.op.length = s.op.length := by
  unfold Bst.endText
  split
  · rfl
  · exact Bst.add_op _ _
theorem Bst.pop_of {s : Bst} {a : Nd} {r : List Nd} (h : s.endText.op = a :: r) : s.pop = (s.endText.withOp r).add a := by unfold Bst.pop; rw [h]
theorem Bst.pop_bulk (s : Bst) : s.pop.bulk ≤ s.bulk := by
  unfold Bst.pop
  have h0 := Bst.endText_bulk s
  split
  · exact Nat.le_of_eq h0
  · rename_i a r h
    rw [Bst.add_bulk]
    have h1 : s.endText.bulk = s.endText.out.length + (s.endText.op.map fun a => a.parts.length + 1).sum + (if s.endText.tx = [] then 0 else 1) := rfl
    rw [h, List.map_cons, List.sum_cons] at h1
    have h2 : (s.endText.withOp r).bulk = s.endText.out.length + (r.map fun a => a.parts.length + 1).sum + (if s.endText.tx = [] then 0 else 1) := rfl
    omega
theorem Bst.pop_cnt (s : Bst) : s.pop.cnt = s.cnt := by
  unfold Bst.pop
  split
  · exact Bst.endText_cnt s
  · rw [Bst.add_cnt]; exact Bst.endText_cnt s
theorem Bst.pop_hid (s : Bst) : s.pop.hid = s.hid := by
  unfold Bst.pop
  split
  · exact Bst.endText_hid s
  · rw [Bst.add_hid]; exact Bst.endText_hid s
theorem Bst.pop_op (s : Bst) : s.pop.op.length = s.op.length - 1 := by
  have h1 := Bst.endText_op s
  unfold Bst.pop
  split
  · rename_i h; rw [h] at h1 ⊢; rw [← h1]; rfl
  · rename_i a r h
    rw [h] at h1
    rw [Bst.add_op]
    show r.length = _
    rw [← h1]
    simp
theorem Bst.popN_op : ∀ (n : Nat) (s : Bst), (Bst.popN n s).op.length = s.op.length - n
  | 0, s => by simp [Bst.popN]
  | n + 1, s => by rw [Bst.popN, Bst.popN_op n, Bst.pop_op]; omega
theorem Bst.popN_bulk : ∀ (n : Nat) (s : Bst), (Bst.popN n s).bulk ≤ s.bulk
  | 0, s => Nat.le_refl _
  | n + 1, s => by rw [Bst.popN]; exact Nat.le_trans (Bst.popN_bulk n _) (Bst.pop_bulk s)
theorem Bst.popN_cnt : ∀ (n : Nat) (s : Bst), (Bst.popN n s).cnt = s.cnt
  | 0, s => rfl
  | n + 1, s => by rw [Bst.popN, Bst.popN_cnt n, Bst.pop_cnt]
theorem Bst.popN_hid : ∀ (n : Nat) (s : Bst), (Bst.popN n s).hid = s.hid
  | 0, s => rfl
  | n + 1, s => by rw [Bst.popN, Bst.popN_hid n, Bst.pop_hid]
theorem Bst.popN_succ : ∀ (n : Nat) (s : Bst), Bst.popN (n + 1) s = (Bst.popN n s).pop
  | 0, s => rfl
  | n + 1, s => by rw [Bst.popN, Bst.popN_succ n, Bst.popN]
theorem idx_le (name : List UInt8) : ∀ (l : List Nd), idx name l ≤ l.length
  | [] => Nat.le_refl _
  | a :: r => by
    rw [idx]
    have := idx_le name r
    split
    · simp
    · rw [List.length_cons]; omega
theorem Bst.closeFrom_op (s : Bst) (k : Nat) (hk : k ≤ s.op.length) : (s.closeFrom k).op.length = k := by unfold Bst.closeFrom; rw [Bst.popN_op]; omega
theorem Bst.closeLast_le (s : Bst) (name : List UInt8) : (s.closeLast name).bulk ≤ s.bulk ∧ (s.closeLast name).cnt = s.cnt ∧ (s.closeLast name).hid = s.hid ∧ (s.closeLast name).op.length ≤ s.op.length := by
  unfold Bst.closeLast
  split
  · exact ⟨Nat.le_refl _, rfl, rfl, Nat.le_refl _⟩
  · exact ⟨Bst.popN_bulk _ _, Bst.popN_cnt _ _, Bst.popN_hid _ _, by rw [Bst.closeFrom, Bst.popN_op]; omega⟩
theorem Bst.closePar_le (s : Bst) (name : List UInt8) : (s.closePar name).bulk ≤ s.bulk ∧ (s.closePar name).cnt = s.cnt ∧ (s.closePar name).hid = s.hid ∧ (s.closePar name).op.length ≤ s.op.length := by
  unfold Bst.closePar
  split
  · exact Bst.closeLast_le _ _
  · exact ⟨Nat.le_refl _, rfl, rfl, Nat.le_refl _⟩
theorem Bst.closeBefore_le (s : Bst) (name : List UInt8) : (s.closeBefore name).bulk ≤ s.bulk ∧ (s.closeBefore name).cnt = s.cnt ∧ (s.closeBefore name).hid = s.hid ∧ (s.closeBefore name).op.length ≤ s.op.length := by
  unfold Bst.closeBefore
  obtain ⟨a, b, c, d⟩ := Bst.closePar_le s name
  split
  · obtain ⟨a', b', c', d'⟩ := Bst.closeLast_le (s.closePar name) [108, 105]
    exact ⟨Nat.le_trans a' a, b'.trans b, c'.trans c, Nat.le_trans d' d⟩
  · exact ⟨a, b, c, d⟩
/-- what holds between the tokens -/
structure Bst.Ok (s : Bst) : Prop where
  bulk : s.bulk ≤ s.cnt
  deep : s.op.length ≤ 10
theorem Bst.start2_ok {s : Bst} (h : s.Ok) (hl : s.op.length < 10) (name : List UInt8) (attrs : List Att) (self : Bool) : (s.start2 name attrs self).Ok ∧ (s.start2 name attrs self).cnt = s.cnt + 1 := by
  have h1 := Bst.endText_bulk s
  have h2 := Bst.endText_cnt s
  have h3 := Bst.endText_op s
  have h4 := h.bulk
  unfold Bst.start2
  split
  · refine ⟨⟨?_, ?_⟩, ?_⟩
    · rw [Bst.add_bulk, Bst.add_cnt]
      show s.endText.bulk + 1 ≤ s.endText.cnt + 1
      omega
    · rw [Bst.add_op]
      show s.endText.op.length ≤ 10
      omega
    · rw [Bst.add_cnt]
      show s.endText.cnt + 1 = _
      omega
  · refine ⟨⟨?_, ?_⟩, ?_⟩
    · show s.endText.out.length + ((Nd.mk name attrs [] [] :: s.endText.op).map fun a => a.parts.length + 1).sum + (if s.endText.tx = [] then 0 else 1) ≤ s.endText.cnt + 1
      have h5 : s.endText.bulk = s.endText.out.length + (s.endText.op.map fun a => a.parts.length + 1).sum + (if s.endText.tx = [] then 0 else 1) := rfl
      rw [List.map_cons, List.sum_cons]
      show s.endText.out.length + (0 + 1 + (s.endText.op.map fun a => a.parts.length + 1).sum) + (if s.endText.tx = [] then 0 else 1) ≤ s.endText.cnt + 1
      omega
    · show s.endText.op.length + 1 ≤ 10
      omega
    · show s.endText.cnt + 1 = _
      omega
theorem Bst.start1_ok {s : Bst} (h : s.Ok) (name : List UInt8) (attrs : List Att) (self : Bool) : (s.start1 name attrs self).Ok ∧ (s.start1 name attrs self).cnt ≤ s.cnt + 1 := by
  have h2 := h.deep
  unfold Bst.start1
  split
  · split
    · exact ⟨⟨h.bulk, h.deep⟩, Nat.le_succ _⟩
    · exact ⟨h, Nat.le_succ _⟩
  · rename_i hl
    obtain ⟨a, b⟩ := Bst.start2_ok h (by omega) name attrs self
    exact ⟨a, Nat.le_of_eq b⟩
theorem Bst.hid_ok {s : Bst} (h : s.Ok) (x : List UInt8) : Bst.Ok { s with hid := x } := ⟨h.bulk, h.deep⟩
theorem Bst.closeBefore_ok {s : Bst} (h : s.Ok) (name : List UInt8) : (s.closeBefore name).Ok := by
  obtain ⟨a, b, c, d⟩ := Bst.closeBefore_le s name
  have h1 := h.bulk
  have h2 := h.deep
  exact ⟨by omega, by omega⟩
theorem Bst.closeLast_ok {s : Bst} (h : s.Ok) (name : List UInt8) : (s.closeLast name).Ok := by
  obtain ⟨a, b, c, d⟩ := Bst.closeLast_le s name
  have h1 := h.bulk
  have h2 := h.deep
  exact ⟨by omega, by omega⟩
theorem Bst.step_ok {s : Bst} (h : s.Ok) (t : Tk) : (s.step t).Ok ∧ (s.step t).cnt ≤ s.cnt + 1 := by
  unfold Bst.step
  split
  · have h1 := Bst.closeBefore_le { s with hid := [] } t.name
    obtain ⟨a, b⟩ := Bst.start1_ok (Bst.closeBefore_ok (Bst.hid_ok h []) t.name) t.name t.attrs t.self
    have h2 : (Bst.closeBefore { s with hid := [] } t.name).cnt = s.cnt := h1.2.1
    exact ⟨a, by rw [h2] at b; exact b⟩
  split
  · have h0 : (if s.hid = t.name then ({ s with hid := [] } : Bst) else s).Ok ∧ (if s.hid = t.name then ({ s with hid := [] } : Bst) else s).cnt = s.cnt := by
      split
      · exact ⟨Bst.hid_ok h [], rfl⟩
      · exact ⟨h, rfl⟩
    exact ⟨Bst.closeLast_ok h0.1 _, by rw [Bst.ends, (Bst.closeLast_le _ _).2.1, h0.2]; exact Nat.le_succ _⟩
  split
  · unfold Bst.chars
    have h1 := h.bulk
    split
    · exact ⟨h, Nat.le_succ _⟩
    · refine ⟨⟨?_, h.deep⟩, ?_⟩
      · have h5 : s.bulk = s.out.length + (s.op.map fun a => a.parts.length + 1).sum + (if s.tx = [] then 0 else 1) := rfl
        show s.out.length + (s.op.map fun a => a.parts.length + 1).sum + (if s.tx ++ [t.text] = [] then 0 else 1) ≤ if s.tx = [] then s.cnt + 1 else s.cnt
        rw [if_neg (by simp)]
        split
        · rename_i e; rw [if_pos e] at h5; omega
        · rename_i e; rw [if_neg e] at h5; omega
      · show (if s.tx = [] then s.cnt + 1 else s.cnt) ≤ _
        split
        · exact Nat.le_refl _
        · exact Nat.le_succ _
  · exact ⟨h, Nat.le_succ _⟩

end U
end Go.Proofs.Ytmfkefcdddoooaa

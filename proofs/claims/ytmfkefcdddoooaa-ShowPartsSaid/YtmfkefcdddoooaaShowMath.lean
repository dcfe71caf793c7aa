/- Plain mathematics: what is refused of nodes; the tokens of nodes; nodes that are read out of tokens. -/
import Derived.Test.YtmfkefcdddoooaaCntMath
import Derived.Test.YtmfkefcdddoooaaEmitText
namespace Go.Proofs.Ytmfkefcdddoooaa
namespace U

/-- the tag that a node is checked as -/
def Nd.start (n : Nd) : Tk := ⟨1, n.name, n.attrs, false, n.text⟩
def elemFault (n : Nd) : Nat := if fault [n.start] = 0 then (if isVoid n.name = true ∧ n.parts ≠ [] then 4 else 0) else fault [n.start]
def nodeFault (prev : Bool) (deep : Nat) (n : Nd) : Nat :=
  if 10 ≤ deep then 6 else if n.name = [] then (if n.attrs ≠ [] ∨ n.parts ≠ [] ∨ n.text = [] ∨ prev = true then 4 else 0) else elemFault n
mutual
def ndFault (prev : Bool) (deep : Nat) : Nd → Nat
  | .mk n a t p => if nodeFault prev deep (.mk n a t p) = 0 then lFault false (deep + 1) p else nodeFault prev deep (.mk n a t p)
def lFault (prev : Bool) (deep : Nat) : List Nd → Nat
  | [] => 0
  | n :: r => if ndFault prev deep n = 0 then lFault n.name.isEmpty deep r else ndFault prev deep n
end
/-- what Check answers -/
def showFault (l : List Nd) : Nat := if lFault false 0 l = 0 then (if 150 < cntL l then 1 else 0) else lFault false 0 l
theorem ndFault_eq (prev : Bool) (deep : Nat) : ∀ (n : Nd), ndFault prev deep n = if nodeFault prev deep n = 0 then lFault false (deep + 1) n.parts else nodeFault prev deep n
  | .mk _ _ _ _ => by rw [ndFault]; rfl
theorem lFault_nil (prev : Bool) (deep : Nat) : lFault prev deep [] = 0 := by rw [lFault]
theorem lFault_cons (prev : Bool) (deep : Nat) (n : Nd) (r : List Nd) : lFault prev deep (n :: r) = if ndFault prev deep n = 0 then lFault n.name.isEmpty deep r else ndFault prev deep n := by rw [lFault]

theorem fault_one (t : Tk) : fault [t] = faultAt false t [] := by
  unfold fault
  rw [if_neg (by simp), faults_cons]
  split
  · rename_i h; rw [h]; rfl
  · rfl
theorem elemFault_eq (n : Nd) : elemFault n = if isName n.name = true then (if attrsFault n.attrs = 0 then (if n.text ≠ [] ∨ (isVoid n.name = true ∧ n.parts ≠ []) ∨ rawName n.name = true then 4 else 0) else attrsFault n.attrs) else 5 := by
  have h1 : fault [n.start] = if isName n.name = true then (if attrsFault n.attrs = 0 then (if n.text ≠ [] ∨ rawName n.name = true then 4 else 0) else attrsFault n.attrs) else 5 := by
    rw [fault_one]
    unfold faultAt
    rw [if_pos (.inl rfl)]
    unfold namesFault
    show (if (if isName n.name = true then attrsFault n.attrs else 5) = 0 then form4 false n.start [] else (if isName n.name = true then attrsFault n.attrs else 5)) = _
    by_cases h1 : isName n.name = true
    · rw [if_pos h1, if_pos h1]
      by_cases h2 : attrsFault n.attrs = 0
      · rw [if_pos h2, if_pos h2]
        unfold form4 formOk
        show (if (if (1 : Int) = 1 then (n.text.isEmpty && (!rawName n.name || false)) else _) = true then 0 else 4) = _
        rw [if_pos rfl]
        cases n.text with
        | nil => cases rawName n.name <;> simp
        | cons a r => simp
      · rw [if_neg h2, if_neg h2]
    · rw [if_neg h1, if_neg h1, if_neg (by decide)]
  unfold elemFault
  rw [h1]
  by_cases a1 : isName n.name = true
  · rw [if_pos a1, if_pos a1]
    by_cases a2 : attrsFault n.attrs = 0
    · rw [if_pos a2, if_pos a2]
      by_cases a3 : n.text ≠ [] ∨ rawName n.name = true
      · rw [if_pos a3, if_neg (by decide), if_pos (a3.elim .inl fun h => .inr (.inr h))]
      · rw [if_neg a3, if_pos rfl]
        by_cases a4 : isVoid n.name = true ∧ n.parts ≠ []
        · rw [if_pos a4, if_pos (.inr (.inl a4))]
        · rw [if_neg a4, if_neg (fun h => h.elim (fun h => a3 (.inl h)) fun h => h.elim a4 fun h => a3 (.inr h))]
    · rw [if_neg a2, if_neg a2, if_neg a2]
  · rw [if_neg a1, if_neg a1, if_neg (by decide)]
theorem elemFault_zero {n : Nd} : elemFault n = 0 ↔ isName n.name = true ∧ attsOk n.attrs ∧ n.text = [] ∧ rawName n.name = false ∧ (isVoid n.name = true → n.parts = []) := by
  rw [elemFault_eq, ← attrsFault_zero]
  by_cases a1 : isName n.name = true
  · rw [if_pos a1]
    by_cases a2 : attrsFault n.attrs = 0
    · rw [if_pos a2]
      by_cases a3 : n.text ≠ [] ∨ (isVoid n.name = true ∧ n.parts ≠ []) ∨ rawName n.name = true
      · rw [if_pos a3]
        refine ⟨fun h => (by cases h), ?_⟩
        rintro ⟨_, _, b1, b2, b3⟩
        rcases a3 with h | ⟨h1, h2⟩ | h
        · exact absurd b1 h
        · exact absurd (b3 h1) h2
        · rw [b2] at h; cases h
      · rw [if_neg a3]
        refine ⟨fun _ => ⟨a1, a2, ?_, ?_, ?_⟩, fun _ => rfl⟩
        · exact Classical.byContradiction fun h => a3 (.inl h)
        · cases hh : rawName n.name with
          | false => rfl
          | true => exact absurd (.inr (.inr hh)) a3
        · intro hv
          exact Classical.byContradiction fun h => a3 (.inr (.inl ⟨hv, h⟩))
    · rw [if_neg a2]
      exact ⟨fun h => absurd h a2, fun h => absurd h.2.1 a2⟩
  · rw [if_neg a1]
    exact ⟨fun h => (by cases h), fun h => absurd h.1 a1⟩
theorem nodeFault_le (prev : Bool) (deep : Nat) (n : Nd) : nodeFault prev deep n ≤ 8 := by
  unfold nodeFault
  split
  · decide
  split
  · split <;> decide
  · rw [elemFault_eq]
    split
    · split
      · split <;> decide
      · unfold attrsFault
        repeat' split
        all_goals decide
    · decide

/-- is the last one a text -/
def endT (l : List Nd) : Bool := match l.getLast? with
  | none => false
  | some n => n.name.isEmpty
theorem endT_take {l : List Nd} {k : Nat} {n : Nd} (hx : l[k]? = some n) : endT (l.take (k + 1)) = n.name.isEmpty := by
  obtain ⟨hi, e⟩ := List.getElem?_eq_some_iff.1 hx
  rw [List.take_succ_eq_append_getElem hi, e]
  unfold endT
  rw [List.getLast?_append]
  rfl
theorem lF_drop {l : List Nd} {k : Nat} {n : Nd} (hx : l[k]? = some n) : l.drop k = n :: l.drop (k + 1) := by
  obtain ⟨hi, e⟩ := List.getElem?_eq_some_iff.1 hx
  rw [← e]
  exact List.drop_eq_getElem_cons hi
theorem lF_go {l : List Nd} {k : Nat} {n : Nd} {deep R : Nat} (hx : l[k]? = some n) (h : lFault (endT (l.take k)) deep (l.drop k) = R) (h0 : ndFault (endT (l.take k)) deep n = 0) : lFault (endT (l.take (k + 1))) deep (l.drop (k + 1)) = R := by
  rw [lF_drop hx, lFault_cons, if_pos h0] at h
  rw [endT_take hx]
  exact h
theorem lF_stop {l : List Nd} {k : Nat} {n : Nd} {deep R : Nat} (hx : l[k]? = some n) (h : lFault (endT (l.take k)) deep (l.drop k) = R) (h0 : ndFault (endT (l.take k)) deep n ≠ 0) : ndFault (endT (l.take k)) deep n = R := by
  rw [lF_drop hx, lFault_cons, if_neg h0] at h
  exact h

/-! ### the tokens of nodes -/
mutual
def ndToks : Nd → List Tok
  | .mk n a t p => if n = [] then [⟨3, [], [], false, t⟩] else ⟨1, n, a, false, []⟩ :: (if isVoid n = true then [] else lToks p ++ [⟨2, n, [], false, []⟩])
def lToks : List Nd → List Tok
  | [] => []
  | n :: r => ndToks n ++ lToks r
end
theorem ndToks_eq : ∀ (n : Nd), ndToks n = if n.name = [] then [⟨3, [], [], false, n.text⟩] else ⟨1, n.name, n.attrs, false, []⟩ :: (if isVoid n.name = true then [] else lToks n.parts ++ [⟨2, n.name, [], false, []⟩])
  | .mk _ _ _ _ => by rw [ndToks]; rfl
theorem lToks_nil : lToks [] = [] := by rw [lToks]
theorem lToks_cons (n : Nd) (r : List Nd) : lToks (n :: r) = ndToks n ++ lToks r := by rw [lToks]
theorem lToks_append : ∀ (a b : List Nd), lToks (a ++ b) = lToks a ++ lToks b
  | [], b => by rw [lToks_nil]; rfl
  | n :: r, b => by rw [List.cons_append, lToks_cons, lToks_cons, lToks_append r b, List.append_assoc]
theorem lToks_take {l : List Nd} {i : Nat} {n : Nd} (h : l[i]? = some n) : lToks (l.take (i + 1)) = lToks (l.take i) ++ ndToks n := by
  obtain ⟨hi, e⟩ := List.getElem?_eq_some_iff.1 h
  rw [List.take_succ_eq_append_getElem hi, e, lToks_append, lToks_cons, lToks_nil, List.append_nil]
mutual
theorem ndToks_len : ∀ (n : Nd), (ndToks n).length ≤ 2 * cntN n
  | .mk n a t p => by
    rw [ndToks, cntN]
    have := lToks_len p
    split
    · simp; omega
    · split
      · simp; omega
      · simp; omega
theorem lToks_len : ∀ (l : List Nd), (lToks l).length ≤ 2 * cntL l
  | [] => by rw [lToks_nil]; simp
  | n :: r => by
    rw [lToks_cons, cntL_cons, List.length_append]
    have h1 := ndToks_len n
    have h2 := lToks_len r
    omega
end
def lastB : Bool → List Nd → Bool
  | prev, [] => prev
  | _, n :: r => lastB n.name.isEmpty r
mutual
theorem nd_okT : ∀ (n : Nd) (prev : Bool) (deep : Nat) (r : List Tok), ndFault prev deep n = 0 → okT n.name.isEmpty r → okT prev (ndToks n ++ r)
  | .mk n a t p, prev, deep, r, h, hr => by
    rw [ndFault] at h
    by_cases h0 : nodeFault prev deep (.mk n a t p) = 0
    · rw [if_pos h0] at h
      unfold nodeFault at h0
      split at h0
      · cases h0
      · rw [ndToks]
        by_cases hn : n = []
        · rw [if_pos hn]
          have hn' : (Nd.mk n a t p).name = [] := hn
          rw [if_pos hn'] at h0
          split at h0
          · cases h0
          · rename_i h1
            have h2 : ¬ t = [] := fun e => h1 (.inr (.inr (.inl e)))
            have h3 : prev = false := by
              cases prev with
              | false => rfl
              | true => exact absurd (.inr (.inr (.inr rfl))) h1
            subst hn
            exact ⟨.inl ⟨rfl, h2, rfl, rfl, rfl, h3⟩, hr⟩
        · rw [if_neg hn]
          have hn' : ¬ (Nd.mk n a t p).name = [] := hn
          rw [if_neg hn', elemFault_zero] at h0
          obtain ⟨e1, e2, e3, e4, e5⟩ := h0
          have e1' : isName n = true := e1
          have e4' : rawName n = false := e4
          have hr' : okT false r := by
            have : (Nd.mk n a t p).name.isEmpty = false := by cases n with
              | nil => exact absurd rfl hn
              | cons b c => rfl
            rwa [this] at hr
          refine ⟨.inr (.inr ⟨rfl, e1', e2, rfl, fun h => by rw [e4'] at h; cases h⟩), ?_⟩
          show okT false ((if isVoid n = true then [] else lToks p ++ [⟨2, n, [], false, []⟩]) ++ r)
          by_cases hv : isVoid n = true
          · rw [if_pos hv]
            exact hr'
          · rw [if_neg hv, List.append_assoc]
            exact l_okT p false (deep + 1) _ h ⟨.inr (.inl ⟨rfl, e1', rfl, rfl, rfl⟩), hr'⟩
    · rw [if_neg h0] at h
      exact absurd h h0
theorem l_okT : ∀ (l : List Nd) (prev : Bool) (deep : Nat) (r : List Tok), lFault prev deep l = 0 → okT (lastB prev l) r → okT prev (lToks l ++ r)
  | [], prev, deep, r, _, hr => by rw [lToks_nil]; exact hr
  | n :: l, prev, deep, r, h, hr => by
    rw [lFault_cons] at h
    by_cases h0 : ndFault prev deep n = 0
    · rw [if_pos h0] at h
      rw [lToks_cons, List.append_assoc]
      exact nd_okT n prev deep _ h0 (l_okT l _ deep r h hr)
    · rw [if_neg h0] at h
      exact absurd h h0
end
theorem show_ok {l : List Nd} (h : showFault l = 0) : okT false (lToks l) ∧ (lToks l).length ≤ 300 ∧ lFault false 0 l = 0 ∧ cntL l ≤ 150 := by
  unfold showFault at h
  by_cases h0 : lFault false 0 l = 0
  · rw [if_pos h0] at h
    have hc : cntL l ≤ 150 := by
      split at h
      · cases h
      · omega
    have h1 := l_okT l false 0 [] h0 trivial
    rw [List.append_nil] at h1
    have h2 := lToks_len l
    exact ⟨h1, by omega, h0, hc⟩
  · rw [if_neg h0] at h
    exact absurd h h0
/-- what Text answers -/
def showText (l : List Nd) : List UInt8 × Nat := if showFault l = 0 then (if 600 < (emit (lToks l)).length then ([], 1) else (emit (lToks l), 0)) else ([], showFault l)
theorem show_textOf {l : List Nd} (h : showFault l = 0) : textOf ((lToks l).map Tok.tk) = showText l := by
  obtain ⟨h1, h2, _⟩ := show_ok h
  unfold textOf showText
  rw [if_pos ((fault_ok h2).2 h1), if_pos h]
  have : ((lToks l).map Tok.tk).map Tk.tok = lToks l := by rw [List.map_map]; exact List.map_id' _
  rw [this]

end U
end Go.Proofs.Ytmfkefcdddoooaa

/- Several texts in one: CntMath, FaultAt, EmitText, ShowMath. -/
import Derived.Test.YtmfkefcdddoooaaGreatDoorP02
namespace Go.Proofs.YtmfkefcdddoooaaGreatDoor
namespace U

mutual
def cntN : Nd → Nat | .mk _ _ _ p => 1 + cntL p
def cntL : List Nd → Nat | [] => 0 | n :: r => cntN n + cntL r
end
mutual
def depN : Nd → Nat | .mk _ _ _ p => 1 + depL p
def depL : List Nd → Nat | [] => 0 | n :: r => max (depN n) (depL r)
end
theorem cntN_eq : ∀ (n : Nd), cntN n = 1 + cntL n.parts | .mk _ _ _ _ => by rw [cntN]; rfl
theorem depN_eq : ∀ (n : Nd), depN n = 1 + depL n.parts | .mk _ _ _ _ => by rw [depN]; rfl
theorem cntL_cons (n : Nd) (r : List Nd) : cntL (n :: r) = cntN n + cntL r := by rw [cntL]
theorem depL_cons (n : Nd) (r : List Nd) : depL (n :: r) = max (depN n) (depL r) := by rw [depL]
theorem cntL_nil : cntL [] = 0 := by rw [cntL]
theorem depL_nil : depL [] = 0 := by rw [depL]
theorem cntL_append : ∀ (a b : List Nd), cntL (a ++ b) = cntL a + cntL b
  | [], b => by rw [cntL_nil]; simp
  | n :: r, b => by rw [List.cons_append, cntL_cons, cntL_cons, cntL_append r b]; omega
theorem depL_append : ∀ (a b : List Nd), depL (a ++ b) = max (depL a) (depL b)
  | [], b => by rw [depL_nil]; simp
  | n :: r, b => by rw [List.cons_append, depL_cons, depL_cons, depL_append r b]; omega
theorem cntL_get {l : List Nd} {i : Nat} {n : Nd} (h : l[i]? = some n) : cntL l = cntL (l.take i) + cntN n + cntL (l.drop (i + 1)) := by
  obtain ⟨hi, e⟩ := List.getElem?_eq_some_iff.1 h
  have h1 : l = l.take i ++ n :: l.drop (i + 1) := by rw [← e]; simp
  conv => lhs; rw [h1]
  rw [cntL_append, cntL_cons]
  omega
theorem cntL_take {l : List Nd} {i : Nat} {n : Nd} (h : l[i]? = some n) : cntL (l.take (i + 1)) = cntL (l.take i) + cntN n := by
  obtain ⟨hi, e⟩ := List.getElem?_eq_some_iff.1 h
  rw [List.take_succ_eq_append_getElem hi, e, cntL_append, cntL_cons, cntL_nil]
  omega
theorem depL_take {l : List Nd} {i : Nat} {n : Nd} (h : l[i]? = some n) : depL (l.take (i + 1)) = max (depL (l.take i)) (depN n) := by
  obtain ⟨hi, e⟩ := List.getElem?_eq_some_iff.1 h
  rw [List.take_succ_eq_append_getElem hi, e, depL_append, depL_cons, depL_nil]
  omega
/-- the next level -/
def lower (l : List Nd) : List Nd := l.flatMap Nd.parts
theorem lower_take {l : List Nd} {i : Nat} {n : Nd} (h : l[i]? = some n) : lower (l.take (i + 1)) = lower (l.take i) ++ n.parts := by
  obtain ⟨hi, e⟩ := List.getElem?_eq_some_iff.1 h
  rw [List.take_succ_eq_append_getElem hi, e]
  simp [lower]
theorem cnt_lower (l : List Nd) : cntL l = l.length + cntL (lower l) := by
  induction l with
  | nil => rw [cntL_nil]; rfl
  | cons n r ih =>
    rw [cntL_cons, cntN_eq, ih, List.length_cons]
    have : lower (n :: r) = n.parts ++ lower r := by simp [lower]
    rw [this, cntL_append]
    omega
theorem dep_lower : ∀ (l : List Nd), l ≠ [] → depL l = 1 + depL (lower l)
  | [], h => absurd rfl h
  | n :: r, _ => by
    have e : lower (n :: r) = n.parts ++ lower r := by simp [lower]
    rw [depL_cons, depN_eq, e, depL_append]
    cases r with
    | nil => rw [depL_nil]; show _ = 1 + max _ (depL []); rw [depL_nil]; omega
    | cons m r => rw [dep_lower (m :: r) (by simp)]; omega
theorem len_cnt (l : List Nd) : l.length ≤ cntL l := by rw [cnt_lower]; omega
theorem dep_cnt : ∀ (k : Nat) (l : List Nd), cntL l ≤ k → depL l ≤ cntL l
  | 0, l, h => by
    have := len_cnt l
    cases l with
    | nil => rw [depL_nil]; omega
    | cons a r => simp at this; omega
  | k + 1, l, h => by
    cases l with
    | nil => rw [depL_nil]; omega
    | cons n r =>
      have h1 := cnt_lower (n :: r)
      rw [dep_lower (n :: r) (by simp)]
      simp only [List.length_cons] at h1
      have := dep_cnt k (lower (n :: r)) (by omega)
      omega
mutual
/-- nothing in a node is longer -/
def SmallNd (M : Nat) : Nd → Prop | .mk n a t p => n.length ≤ M ∧ t.length ≤ M ∧ a.length ≤ M ∧ (∀ x ∈ a, x.1.length ≤ M ∧ x.2.length ≤ M) ∧ p.length ≤ M ∧ SmallNs M p
def SmallNs (M : Nat) : List Nd → Prop | [] => True | n :: r => SmallNd M n ∧ SmallNs M r
end
theorem smallNs_iff (M : Nat) : ∀ (l : List Nd), SmallNs M l ↔ ∀ n ∈ l, SmallNd M n
  | [] => by rw [SmallNs]; exact ⟨fun _ n h => (by cases h), fun _ => trivial⟩
  | a :: r => by
    rw [SmallNs, smallNs_iff M r]
    simp
mutual
theorem SmallNd.more {M M' : Nat} (hM : M ≤ M') : ∀ (n : Nd), SmallNd M n → SmallNd M' n
  | .mk n a t p, h => by
    rw [SmallNd] at h ⊢
    obtain ⟨h1, h2, h3, h4, h5, h6⟩ := h
    exact ⟨Nat.le_trans h1 hM, Nat.le_trans h2 hM, Nat.le_trans h3 hM, fun x hx => ⟨Nat.le_trans (h4 x hx).1 hM, Nat.le_trans (h4 x hx).2 hM⟩, Nat.le_trans h5 hM, SmallNs.more hM p h6⟩
theorem SmallNs.more {M M' : Nat} (hM : M ≤ M') : ∀ (l : List Nd), SmallNs M l → SmallNs M' l
  | [], _ => by rw [SmallNs]; trivial
  | n :: r, h => by
    rw [SmallNs] at h ⊢
    exact ⟨SmallNd.more hM n h.1, SmallNs.more hM r h.2⟩
end

end U
end Go.Proofs.YtmfkefcdddoooaaGreatDoor

namespace Go.Proofs.YtmfkefcdddoooaaGreatDoor
namespace U

/-- does a text end the list -/
def endB (l : List Tk) : Bool := match l.getLast? with
  | some t => t.kind == 3
  | none => false
theorem endB_zero (l : List Tk) : endB (l.take 0) = false := by rw [List.take_zero]; rfl
theorem endB_succ {l : List Tk} {k : Nat} {t : Tk} (h : l[k]? = some t) : endB (l.take (k + 1)) = (t.kind == 3) := by
  obtain ⟨hk, e⟩ := List.getElem?_eq_some_iff.1 h
  unfold endB
  rw [List.take_succ_eq_append_getElem hk, e, List.getLast?_concat]
theorem faults_at {l : List Tk} {k : Nat} {t : Tk} (prev : Bool) (h : l[k]? = some t) : faults prev (l.drop k) = if faultAt prev t (l.drop (k + 1)) = 0 then faults (t.kind == 3) (l.drop (k + 1)) else faultAt prev t (l.drop (k + 1)) := by
  obtain ⟨hk, e⟩ := List.getElem?_eq_some_iff.1 h
  rw [List.drop_eq_getElem_cons hk, e, faults_cons]
theorem faults_go {l : List Tk} {k R : Nat} {t : Tk} (h : l[k]? = some t) (hR : faults (endB (l.take k)) (l.drop k) = R) (h0 : faultAt (endB (l.take k)) t (l.drop (k + 1)) = 0) : faults (endB (l.take (k + 1))) (l.drop (k + 1)) = R := by
  rw [faults_at _ h, if_pos h0] at hR
  rw [endB_succ h]
  exact hR
theorem faults_stop {l : List Tk} {k R m : Nat} {t : Tk} (h : l[k]? = some t) (hR : faults (endB (l.take k)) (l.drop k) = R) (h0 : faultAt (endB (l.take k)) t (l.drop (k + 1)) = m) (hm : m ≠ 0) : R = m := by
  rw [faults_at _ h, h0, if_neg hm] at hR
  exact hR.symm
theorem isEndB_none {l : List Tk} {k : Nat} (n : List UInt8) (h : l.length ≤ k) : isEndB n (l.drop k) = false := by
  rw [List.drop_eq_nil_of_le h]; rfl
theorem isEndB_some {l : List Tk} {k : Nat} {t : Tk} (n : List UInt8) (h : l[k]? = some t) : isEndB n (l.drop k) = (t.kind == 2 && t.name == n) := by
  obtain ⟨hk, e⟩ := List.getElem?_eq_some_iff.1 h
  rw [List.drop_eq_getElem_cons hk, e]; rfl
variable {prev : Bool} {t : Tk} {r : List Tk}
theorem faultAt_kind (h1 : t.kind ≠ 1) (h2 : t.kind ≠ 2) (h3 : t.kind ≠ 3) (h4 : t.kind ≠ 4) : faultAt prev t r = 3 := by
  unfold faultAt
  rw [if_neg (by omega), if_neg (by omega)]
theorem faultAt_name (h : t.kind = 1 ∨ t.kind = 2) (hn : isName t.name = false) : faultAt prev t r = 5 := by
  unfold faultAt namesFault
  rw [if_pos h, hn]
  rfl
theorem faultAt_atts (h : t.kind = 1 ∨ t.kind = 2) (hn : isName t.name = true) (ha : attrsFault t.attrs ≠ 0) : faultAt prev t r = attrsFault t.attrs := by
  unfold faultAt namesFault
  rw [if_pos h, if_pos hn, if_neg ha]
theorem faultAt_tag (h : t.kind = 1 ∨ t.kind = 2) (hn : isName t.name = true) (ha : attrsFault t.attrs = 0) : faultAt prev t r = form4 prev t r := by
  unfold faultAt namesFault
  rw [if_pos h, if_pos hn, if_pos ha]
theorem faultAt_text (h : t.kind = 3 ∨ t.kind = 4) : faultAt prev t r = form4 prev t r := by
  unfold faultAt
  rw [if_neg (by omega), if_pos h]
theorem form4_no (h : formOk prev t r = false) : form4 prev t r = 4 := by unfold form4; rw [h]; rfl
theorem form4_yes (h : formOk prev t r = true) : form4 prev t r = 0 := by unfold form4; rw [h]; rfl
theorem formOk_one (h : t.kind = 1) : formOk prev t r = (t.text.isEmpty && (!rawName t.name || isEndB t.name r)) := by unfold formOk; rw [if_pos h]
theorem formOk_two (h : t.kind = 2) : formOk prev t r = (t.text.isEmpty && (t.attrs.isEmpty && !t.self)) := by unfold formOk; rw [if_neg (by omega), if_pos h]
theorem formOk_three (h : t.kind = 3) : formOk prev t r = (!t.text.isEmpty && (t.name.isEmpty && (t.attrs.isEmpty && !t.self && !prev))) := by unfold formOk; rw [if_neg (by omega), if_neg (by omega), if_pos h]
theorem formOk_four (h : t.kind = 4) : formOk prev t r = false := by unfold formOk; rw [if_neg (by omega), if_neg (by omega), if_neg (by omega)]
theorem rawName_cases {n : List UInt8} (h : rawName n = true) : n = [115, 99, 114, 105, 112, 116] ∨ n = [115, 116, 121, 108, 101] ∨ n = [116, 101, 120, 116, 97, 114, 101, 97] ∨ n = [116, 105, 116, 108, 101] := by
  unfold rawName at h
  simp only [Bool.or_eq_true, beq_iff_eq] at h
  rcases h with ((h | h) | h) | h
  · exact .inl h
  · exact .inr (.inl h)
  · exact .inr (.inr (.inl h))
  · exact .inr (.inr (.inr h))
theorem rawName_no {n : List UInt8} (h : rawName n = false) : (n == [115, 99, 114, 105, 112, 116]) = false ∧ (n == [115, 116, 121, 108, 101]) = false ∧ (n == [116, 101, 120, 116, 97, 114, 101, 97]) = false ∧ (n == [116, 105, 116, 108, 101]) = false := by
  unfold rawName at h
  simp only [Bool.or_eq_false_iff] at h
  exact ⟨h.1.1.1, h.1.1.2, h.1.2, h.2⟩

end U
end Go.Proofs.YtmfkefcdddoooaaGreatDoor

namespace Go.Proofs.YtmfkefcdddoooaaGreatDoor
namespace U

def textOf (l : List Tk) : List UInt8 × Nat := if fault l = 0 then (if 600 < (emit (l.map Tk.tok)).length then ([], 1) else (emit (l.map Tk.tok), 0)) else ([], fault l)
/-- an attribute, a token as they are written with their texts cut -/
def attC (a : Att) : List UInt8 := 32 :: (a.1 ++ 61 :: 34 :: (esc true (a.2.take 601) ++ [34]))
def startC (n : List UInt8) (al : List Att) (self : Bool) : List UInt8 := 60 :: (n ++ (al.flatMap attC ++ tailE self))
def tokC (t : Tk) : List UInt8 := if t.kind = 3 then esc false (t.text.take 601) else if t.kind = 2 then endE t.name else startC t.name t.attrs t.self

theorem esc_take (q : Bool) (v : List UInt8) : (esc q (v.take 601)).length ≤ (esc q v).length ∧ ((esc q (v.take 601)).length ≤ 600 → esc q (v.take 601) = esc q v) := by
  have h : esc q v = esc q (v.take 601) ++ esc q (v.drop 601) := by rw [← esc_append, List.take_append_drop]
  refine ⟨by rw [h, List.length_append]; omega, fun hl => ?_⟩
  have h1 := (esc_length q (v.take 601)).1
  rw [List.take_of_length_le (by rw [List.length_take] at h1; omega)]
theorem attC_cut (a : Att) : (attC a).length ≤ (attE a).length ∧ ((attC a).length ≤ 600 → attC a = attE a) := by
  obtain ⟨h1, h2⟩ := esc_take true a.2
  have l1 : (attC a).length = a.1.length + (esc true (a.2.take 601)).length + 4 := by simp [attC]; omega
  have l2 : (attE a).length = a.1.length + (esc true a.2).length + 4 := by simp [attE]; omega
  refine ⟨by omega, fun h => ?_⟩
  unfold attC attE
  rw [h2 (by omega)]
theorem atts_cut (al : List Att) : (al.flatMap attC).length ≤ (al.flatMap attE).length ∧ ((al.flatMap attC).length ≤ 600 → al.flatMap attC = al.flatMap attE) := by
  induction al with
  | nil => exact ⟨Nat.le_refl _, fun _ => rfl⟩
  | cons a r ih =>
    obtain ⟨h1, h2⟩ := attC_cut a
    have e1 : (a :: r).flatMap attC = attC a ++ r.flatMap attC := by simp
    have e2 : (a :: r).flatMap attE = attE a ++ r.flatMap attE := by simp
    rw [e1, e2, List.length_append, List.length_append]
    refine ⟨by omega, fun h => ?_⟩
    rw [h2 (by omega), ih.2 (by omega)]
theorem tokC_cut {t : Tk} (hk : t.kind = 1 ∨ t.kind = 2 ∨ t.kind = 3) : (tokC t).length ≤ (tokE t.tok).length ∧ ((tokC t).length ≤ 600 → tokC t = tokE t.tok) := by
  obtain ⟨kind, name, attrs, self, text⟩ := t
  simp only at hk
  rcases hk with rfl | rfl | rfl
  · have e1 : tokC ⟨1, name, attrs, self, text⟩ = startC name attrs self := rfl
    have e2 : tokE (Tk.tok ⟨1, name, attrs, self, text⟩) = startE name attrs self := rfl
    obtain ⟨h1, h2⟩ := atts_cut attrs
    rw [e1, e2]
    have l1 : (startC name attrs self).length = name.length + (attrs.flatMap attC).length + (tailE self).length + 1 := by simp only [startC, List.length_cons, List.length_append]; omega
    have l2 : (startE name attrs self).length = name.length + (attrs.flatMap attE).length + (tailE self).length + 1 := by simp only [startE, List.length_cons, List.length_append]; omega
    refine ⟨by omega, fun h => ?_⟩
    unfold startC startE
    rw [h2 (by omega)]
  · have e1 : tokC ⟨2, name, attrs, self, text⟩ = endE name := rfl
    have e2 : tokE (Tk.tok ⟨2, name, attrs, self, text⟩) = endE name := rfl
    rw [e1, e2]
    exact ⟨Nat.le_refl _, fun _ => rfl⟩
  · have e1 : tokC ⟨3, name, attrs, self, text⟩ = esc false (text.take 601) := rfl
    have e2 : tokE (Tk.tok ⟨3, name, attrs, self, text⟩) = esc false text := rfl
    rw [e1, e2]
    exact esc_take false text
/-- what each token is where nothing is refused -/
theorem faults_tok : ∀ (l : List Tk) (prev : Bool), faults prev l = 0 → ∀ t ∈ l, t.kind = 3 ∨ (t.kind = 2 ∧ isName t.name = true ∧ attsOk t.attrs) ∨ (t.kind = 1 ∧ isName t.name = true ∧ attsOk t.attrs)
  | [], _, _, t, ht => by cases ht
  | a :: r, prev, h, t, ht => by
    rw [faults_cons] at h
    split at h
    · rename_i h0
      rcases List.mem_cons.1 ht with rfl | ht
      · unfold faultAt at h0
        by_cases h12 : t.kind = 1 ∨ t.kind = 2
        · rw [if_pos h12] at h0
          split at h0
          · rename_i hn
            obtain ⟨h1, h2⟩ := namesFault_zero.1 hn
            rcases h12 with k | k
            · exact .inr (.inr ⟨k, h1, h2⟩)
            · exact .inr (.inl ⟨k, h1, h2⟩)
          · rename_i hn; exact absurd h0 hn
        · rw [if_neg h12] at h0
          by_cases h34 : t.kind = 3 ∨ t.kind = 4
          · rcases h34 with k | k
            · exact .inl k
            · rw [if_pos (.inr k), form4_zero, formOk_four k] at h0
              cases h0
          · rw [if_neg h34] at h0
            cases h0
      · exact faults_tok r _ h t ht
    · rename_i h0; exact absurd h h0
theorem isName_le {n : List UInt8} (h : isName n = true) : n.length ≤ 12 := by
  cases n with
  | nil => exact Nat.zero_le _
  | cons c r =>
    unfold isName at h
    rw [Bool.and_eq_true, decide_eq_true_eq] at h
    rw [List.length_cons]
    omega
theorem emit_take {l : List Tk} {k : Nat} {t : Tk} (h : l[k]? = some t) : emit ((l.take (k + 1)).map Tk.tok) = emit ((l.take k).map Tk.tok) ++ tokE t.tok := by
  obtain ⟨hk, e⟩ := List.getElem?_eq_some_iff.1 h
  rw [List.take_succ_eq_append_getElem hk, e, List.map_append, emit_append]
  congr 1
  simp [emit]
theorem emit_le (l : List Tk) (k : Nat) : (emit ((l.take k).map Tk.tok)).length ≤ (emit (l.map Tk.tok)).length := by
  have h : emit (l.map Tk.tok) = emit ((l.take k).map Tk.tok) ++ emit ((l.drop k).map Tk.tok) := by rw [← emit_append, ← List.map_append, List.take_append_drop]
  rw [h, List.length_append]
  omega

end U
end Go.Proofs.YtmfkefcdddoooaaGreatDoor

namespace Go.Proofs.YtmfkefcdddoooaaGreatDoor
namespace U

/-- the tag that a node is checked as -/
def Nd.start (n : Nd) : Tk := ⟨1, n.name, n.attrs, false, n.text⟩
def elemFault (n : Nd) : Nat := if fault [n.start] = 0 then (if isVoid n.name = true ∧ n.parts ≠ [] then 4 else 0) else fault [n.start]
def nodeFault (prev : Bool) (deep : Nat) (n : Nd) : Nat :=
  if 10 ≤ deep then 6 else if n.name = [] then (if n.attrs ≠ [] ∨ n.parts ≠ [] ∨ n.text = [] ∨ prev = true then 4 else 0) else elemFault n
mutual
def ndFault (prev : Bool) (deep : Nat) : Nd → Nat
  | .mk n a t p => if nodeFault prev deep (.mk n a t p) = 0 then lFault false (deep + 1) p else nodeFault prev deep (.mk n a t p)
def lFault (prev : Bool) (deep : Nat) : List Nd → Nat
  | [] => 0
  | n :: r => if ndFault prev deep n = 0 then lFault n.name.isEmpty deep r else ndFault prev deep n
end
/-- what Check answers -/
def showFault (l : List Nd) : Nat := if lFault false 0 l = 0 then (if 150 < cntL l then 1 else 0) else lFault false 0 l
theorem ndFault_eq (prev : Bool) (deep : Nat) : ∀ (n : Nd), ndFault prev deep n = if nodeFault prev deep n = 0 then lFault false (deep + 1) n.parts else nodeFault prev deep n
  | .mk _ _ _ _ => by rw [ndFault]; rfl
theorem lFault_nil (prev : Bool) (deep : Nat) : lFault prev deep [] = 0 := by rw [lFault]
theorem lFault_cons (prev : Bool) (deep : Nat) (n : Nd) (r : List Nd) : lFault prev deep (n :: r) = if ndFault prev deep n = 0 then lFault n.name.isEmpty deep r else ndFault prev deep n := by rw [lFault]

theorem fault_one (t : Tk) : fault [t] = faultAt false t [] := by
  unfold fault
  rw [if_neg (by simp), faults_cons]
  split
  · rename_i h; rw [h]; rfl
  · rfl
theorem elemFault_eq (n : Nd) : elemFault n = if isName n.name = true then (if attrsFault n.attrs = 0 then (if n.text ≠ [] ∨ (isVoid n.name = true ∧ n.parts ≠ []) ∨ rawName n.name = true then 4 else 0) else attrsFault n.attrs) else 5 := by
  have h1 : fault [n.start] = if isName n.name = true then (if attrsFault n.attrs = 0 then (if n.text ≠ [] ∨ rawName n.name = true then 4 else 0) else attrsFault n.attrs) else 5 := by
    rw [fault_one]
    unfold faultAt
    rw [if_pos (.inl rfl)]
    unfold namesFault
    show (if (if isName n.name = true then attrsFault n.attrs else 5) = 0 then form4 false n.start [] else (if isName n.name = true then attrsFault n.attrs else 5)) = _
    by_cases h1 : isName n.name = true
    · rw [if_pos h1, if_pos h1]
      by_cases h2 : attrsFault n.attrs = 0
      · rw [if_pos h2, if_pos h2]
        unfold form4 formOk
        show (if (if (1 : Int) = 1 then (n.text.isEmpty && (!rawName n.name || false)) else _) = true then 0 else 4) = _
        rw [if_pos rfl]
        cases n.text with
        | nil => cases rawName n.name <;> simp
        | cons a r => simp
      · rw [if_neg h2, if_neg h2]
    · rw [if_neg h1, if_neg h1, if_neg (by decide)]
  unfold elemFault
  rw [h1]
  by_cases a1 : isName n.name = true
  · rw [if_pos a1, if_pos a1]
    by_cases a2 : attrsFault n.attrs = 0
    · rw [if_pos a2, if_pos a2]
      by_cases a3 : n.text ≠ [] ∨ rawName n.name = true
      · rw [if_pos a3, if_neg (by decide), if_pos (a3.elim .inl fun h => .inr (.inr h))]
      · rw [if_neg a3, if_pos rfl]
        by_cases a4 : isVoid n.name = true ∧ n.parts ≠ []
        · rw [if_pos a4, if_pos (.inr (.inl a4))]
        · rw [if_neg a4, if_neg (fun h => h.elim (fun h => a3 (.inl h)) fun h => h.elim a4 fun h => a3 (.inr h))]
    · rw [if_neg a2, if_neg a2, if_neg a2]
  · rw [if_neg a1, if_neg a1, if_neg (by decide)]
theorem elemFault_zero {n : Nd} : elemFault n = 0 ↔ isName n.name = true ∧ attsOk n.attrs ∧ n.text = [] ∧ rawName n.name = false ∧ (isVoid n.name = true → n.parts = []) := by
  rw [elemFault_eq, ← attrsFault_zero]
  by_cases a1 : isName n.name = true
  · rw [if_pos a1]
    by_cases a2 : attrsFault n.attrs = 0
    · rw [if_pos a2]
      by_cases a3 : n.text ≠ [] ∨ (isVoid n.name = true ∧ n.parts ≠ []) ∨ rawName n.name = true
      · rw [if_pos a3]
        refine ⟨fun h => (by cases h), ?_⟩
        rintro ⟨_, _, b1, b2, b3⟩
        rcases a3 with h | ⟨h1, h2⟩ | h
        · exact absurd b1 h
        · exact absurd (b3 h1) h2
        · rw [b2] at h; cases h
      · rw [if_neg a3]
        refine ⟨fun _ => ⟨a1, a2, ?_, ?_, ?_⟩, fun _ => rfl⟩
        · exact Classical.byContradiction fun h => a3 (.inl h)
        · cases hh : rawName n.name with
          | false => rfl
          | true => exact absurd (.inr (.inr hh)) a3
        · intro hv
          exact Classical.byContradiction fun h => a3 (.inr (.inl ⟨hv, h⟩))
    · rw [if_neg a2]
      exact ⟨fun h => absurd h a2, fun h => absurd h.2.1 a2⟩
  · rw [if_neg a1]
    exact ⟨fun h => (by cases h), fun h => absurd h.1 a1⟩
theorem nodeFault_le (prev : Bool) (deep : Nat) (n : Nd) : nodeFault prev deep n ≤ 8 := by
  unfold nodeFault
  split
  · decide
  split
  · split <;> decide
  · rw [elemFault_eq]
    split
    · split
      · split <;> decide
      · unfold attrsFault
        repeat' split
        all_goals decide
    · decide

/-- is the last one a text -/
def endT (l : List Nd) : Bool := match l.getLast? with
  | none => false
  | some n => n.name.isEmpty
theorem endT_take {l : List Nd} {k : Nat} {n : Nd} (hx : l[k]? = some n) : endT (l.take (k + 1)) = n.name.isEmpty := by
  obtain ⟨hi, e⟩ := List.getElem?_eq_some_iff.1 hx
  rw [List.take_succ_eq_append_getElem hi, e]
  unfold endT
  rw [List.getLast?_append]
  rfl
theorem lF_drop {l : List Nd} {k : Nat} {n : Nd} (hx : l[k]? = some n) : l.drop k = n :: l.drop (k + 1) := by
  obtain ⟨hi, e⟩ := List.getElem?_eq_some_iff.1 hx
  rw [← e]
  exact List.drop_eq_getElem_cons hi
theorem lF_go {l : List Nd} {k : Nat} {n : Nd} {deep R : Nat} (hx : l[k]? = some n) (h : lFault (endT (l.take k)) deep (l.drop k) = R) (h0 : ndFault (endT (l.take k)) deep n = 0) : lFault (endT (l.take (k + 1))) deep (l.drop (k + 1)) = R := by
  rw [lF_drop hx, lFault_cons, if_pos h0] at h
  rw [endT_take hx]
  exact h
theorem lF_stop {l : List Nd} {k : Nat} {n : Nd} {deep R : Nat} (hx : l[k]? = some n) (h : lFault (endT (l.take k)) deep (l.drop k) = R) (h0 : ndFault (endT (l.take k)) deep n ≠ 0) : ndFault (endT (l.take k)) deep n = R := by
  rw [lF_drop hx, lFault_cons, if_neg h0] at h
  exact h

/-! ### the tokens of nodes -/
mutual
def ndToks : Nd → List Tok
  | .mk n a t p => if n = [] then [⟨3, [], [], false, t⟩] else ⟨1, n, a, false, []⟩ :: (if isVoid n = true then [] else lToks p ++ [⟨2, n, [], false, []⟩])
def lToks : List Nd → List Tok
  | [] => []
  | n :: r => ndToks n ++ lToks r
end
theorem ndToks_eq : ∀ (n : Nd), ndToks n = if n.name = [] then [⟨3, [], [], false, n.text⟩] else ⟨1, n.name, n.attrs, false, []⟩ :: (if isVoid n.name = true then [] else lToks n.parts ++ [⟨2, n.name, [], false, []⟩])
  | .mk _ _ _ _ => by rw [ndToks]; rfl
theorem lToks_nil : lToks [] = [] := by rw [lToks]
theorem lToks_cons (n : Nd) (r : List Nd) : lToks (n :: r) = ndToks n ++ lToks r := by rw [lToks]
theorem lToks_append : ∀ (a b : List Nd), lToks (a ++ b) = lToks a ++ lToks b
  | [], b => by rw [lToks_nil]; rfl
  | n :: r, b => by rw [List.cons_append, lToks_cons, lToks_cons, lToks_append r b, List.append_assoc]
theorem lToks_take {l : List Nd} {i : Nat} {n : Nd} (h : l[i]? = some n) : lToks (l.take (i + 1)) = lToks (l.take i) ++ ndToks n := by
  obtain ⟨hi, e⟩ := List.getElem?_eq_some_iff.1 h
  rw [List.take_succ_eq_append_getElem hi, e, lToks_append, lToks_cons, lToks_nil, List.append_nil]
mutual
theorem ndToks_len : ∀ (n : Nd), (ndToks n).length ≤ 2 * cntN n
  | .mk n a t p => by
    rw [ndToks, cntN]
    have := lToks_len p
    split
    · simp; omega
    · split
      · simp; omega
      · simp; omega
theorem lToks_len : ∀ (l : List Nd), (lToks l).length ≤ 2 * cntL l
  | [] => by rw [lToks_nil]; simp
  | n :: r => by
    rw [lToks_cons, cntL_cons, List.length_append]
    have h1 := ndToks_len n
    have h2 := lToks_len r
    omega
end
def lastB : Bool → List Nd → Bool
  | prev, [] => prev
  | _, n :: r => lastB n.name.isEmpty r
mutual
theorem nd_okT : ∀ (n : Nd) (prev : Bool) (deep : Nat) (r : List Tok), ndFault prev deep n = 0 → okT n.name.isEmpty r → okT prev (ndToks n ++ r)
  | .mk n a t p, prev, deep, r, h, hr => by
    rw [ndFault] at h
    by_cases h0 : nodeFault prev deep (.mk n a t p) = 0
    · rw [if_pos h0] at h
      unfold nodeFault at h0
      split at h0
      · cases h0
      · rw [ndToks]
        by_cases hn : n = []
        · rw [if_pos hn]
          have hn' : (Nd.mk n a t p).name = [] := hn
          rw [if_pos hn'] at h0
          split at h0
          · cases h0
          · rename_i h1
            have h2 : ¬ t = [] := fun e => h1 (.inr (.inr (.inl e)))
            have h3 : prev = false := by
              cases prev with
              | false => rfl
              | true => exact absurd (.inr (.inr (.inr rfl))) h1
            subst hn
            exact ⟨.inl ⟨rfl, h2, rfl, rfl, rfl, h3⟩, hr⟩
        · rw [if_neg hn]
          have hn' : ¬ (Nd.mk n a t p).name = [] := hn
          rw [if_neg hn', elemFault_zero] at h0
          obtain ⟨e1, e2, e3, e4, e5⟩ := h0
          have e1' : isName n = true := e1
          have e4' : rawName n = false := e4
          have hr' : okT false r := by
            have : (Nd.mk n a t p).name.isEmpty = false := by cases n with
              | nil => exact absurd rfl hn
              | cons b c => rfl
            rwa [this] at hr
          refine ⟨.inr (.inr ⟨rfl, e1', e2, rfl, fun h => by rw [e4'] at h; cases h⟩), ?_⟩
          show okT false ((if isVoid n = true then [] else lToks p ++ [⟨2, n, [], false, []⟩]) ++ r)
          by_cases hv : isVoid n = true
          · rw [if_pos hv]
            exact hr'
          · rw [if_neg hv, List.append_assoc]
            exact l_okT p false (deep + 1) _ h ⟨.inr (.inl ⟨rfl, e1', rfl, rfl, rfl⟩), hr'⟩
    · rw [if_neg h0] at h
      exact absurd h h0
theorem l_okT : ∀ (l : List Nd) (prev : Bool) (deep : Nat) (r : List Tok), lFault prev deep l = 0 → okT (lastB prev l) r → okT prev (lToks l ++ r)
  | [], prev, deep, r, _, hr => by rw [lToks_nil]; exact hr
  | n :: l, prev, deep, r, h, hr => by
    rw [lFault_cons] at h
    by_cases h0 : ndFault prev deep n = 0
    · rw [if_pos h0] at h
      rw [lToks_cons, List.append_assoc]
      exact nd_okT n prev deep _ h0 (l_okT l _ deep r h hr)
    · rw [if_neg h0] at h
      exact absurd h h0
end
theorem show_ok {l : List Nd} (h : showFault l = 0) : okT false (lToks l) ∧ (lToks l).length ≤ 300 ∧ lFault false 0 l = 0 ∧ cntL l ≤ 150 := by
  unfold showFault at h
  by_cases h0 : lFault false 0 l = 0
  · rw [if_pos h0] at h
    have hc : cntL l ≤ 150 := by
      split at h
      · cases h
      · omega
    have h1 := l_okT l false 0 [] h0 trivial
    rw [List.append_nil] at h1
    have h2 := lToks_len l
    exact ⟨h1, by omega, h0, hc⟩
  · rw [if_neg h0] at h
    exact absurd h h0
/-- what Text answers -/
def showText (l : List Nd) : List UInt8 × Nat := if showFault l = 0 then (if 600 < (emit (lToks l)).length then ([], 1) else (emit (lToks l), 0)) else ([], showFault l)
theorem show_textOf {l : List Nd} (h : showFault l = 0) : textOf ((lToks l).map Tok.tk) = showText l := by
  obtain ⟨h1, h2, _⟩ := show_ok h
  unfold textOf showText
  rw [if_pos ((fault_ok h2).2 h1), if_pos h]
  have : ((lToks l).map Tok.tk).map Tk.tok = lToks l := by rw [List.map_map]; exact List.map_id' _
  rw [this]

end U
end Go.Proofs.YtmfkefcdddoooaaGreatDoor

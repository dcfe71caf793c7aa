/- Several texts in one: TextLen, CntMath, ClosedMath. -/
import Derived.Test.YtankcnikebcpkaaGreatDoorP03
import Derived.Test.YtankcnikebcpkaaGreatDoorP01
namespace Go.Proofs.YtankcnikebcpkaaGreatDoor
namespace U

theorem chars_texts (txt : List UInt8) : ∀ t ∈ chars txt, t.text.length ≤ txt.length := by
  intro t ht
  unfold chars at ht
  split at ht
  · cases ht
  · obtain rfl := List.mem_singleton.1 ht
    exact unesc_length _ txt (Nat.le_refl _)
theorem raw_texts (n raw : List UInt8) : ∀ t ∈ rawToks n raw, t.text.length ≤ raw.length := by
  intro t ht
  unfold rawToks at ht
  split at ht
  · cases ht
  · obtain rfl := List.mem_singleton.1 ht
    show (if n.head? = some 116 then unesc raw else raw).length ≤ _
    split
    · exact unesc_length _ raw (Nat.le_refl _)
    · exact Nat.le_refl _
theorem remark_text (find l : List UInt8) : (remark find l).1.text.length ≤ l.length := by
  unfold remark
  split
  · exact Nat.le_refl _
  · show (l.take _).length ≤ _
    rw [List.length_take]
    omega
theorem toksT_texts : ∀ (m : Nat) (l txt : List UInt8), l.length ≤ m → ∀ t ∈ toksT txt l, t.text.length ≤ l.length + txt.length
  | 0, l, txt, hm => by
    obtain rfl : l = [] := List.eq_nil_of_length_eq_zero (by omega)
    intro t ht
    rw [toksT_nil] at ht
    have := chars_texts _ t ht
    omega
  | m + 1, [], txt, hm => by
    intro t ht
    rw [toksT_nil] at ht
    have := chars_texts _ t ht
    omega
  | m + 1, b :: r, txt, hm => by
    have hr : r.length ≤ m := by simpa using hm
    by_cases h3 : kindOf (b :: r) = 3
    · rw [toksT_text txt rfl (item_text h3)]
      intro t ht
      have := toksT_texts m r _ hr t ht
      rw [List.length_append, List.length_singleton] at this
      rw [List.length_cons]
      omega
    · rw [toksT_flush txt (.inr (item_notext h3))]
      intro t ht
      rcases List.mem_append.1 ht with ht | ht
      · have := chars_texts _ t ht
        omega
      have one : ∀ rest : List UInt8, rest.length < (b :: r).length → t ∈ toksT [] rest → t.text.length ≤ (b :: r).length + txt.length := by
        intro rest hl h
        have := toksT_texts m rest [] (by rw [List.length_cons] at hl; omega) t h
        rw [List.length_nil] at this
        omega
      rcases kindOf_cases (b :: r) with h | h | h | h
      · obtain ⟨c, u, e1, ha, he⟩ := item_start h
        unfold startI at he
        cases hru : runM st0 (c :: u) with
        | none => rw [hru] at he; rw [toksT_stop he] at ht; cases ht
        | some x =>
          obtain ⟨st, rest⟩ := x
          rw [hru] at he
          have hsh := item_shorter.2.2 _ _ _ _ he
          have hle := rawText_le (low st.tname) rest
          have hbo := congrArg List.length (rawText_both (low st.tname) rest)
          rw [List.length_append] at hbo
          rw [toksT_start he] at ht
          rcases List.mem_cons.1 ht with rfl | ht
          · exact Nat.zero_le _
          · split at ht
            · rcases List.mem_append.1 ht with ht | ht
              · have := raw_texts _ _ t ht
                omega
              · exact one _ (by omega) ht
            · exact one _ hsh ht
      · obtain ⟨c, u, e1, ha, he⟩ := item_end h
        unfold closeI at he
        cases hru : runM st0 (c :: u) with
        | none => rw [hru] at he; rw [toksT_stop he] at ht; cases ht
        | some x =>
          obtain ⟨st, rest⟩ := x
          rw [hru] at he
          have hsh := item_shorter.2.1 _ _ he
          rw [toksT_close he] at ht
          rcases List.mem_cons.1 ht with rfl | ht
          · exact Nat.zero_le _
          · exact one _ hsh ht
      · exact absurd h h3
      · obtain ⟨find, u, he, hu⟩ : ∃ find u, item (b :: r) = markI find u ∧ u.length ≤ (b :: r).length := by
          rcases item_mark h with ⟨_, e⟩ | ⟨_, _, e⟩ | ⟨_, _, e⟩ <;> exact ⟨_, _, e, by rw [List.length_drop]; omega⟩
        have hsh := item_shorter.1 _ _ he
        rw [toksT_mark he] at ht
        rcases List.mem_cons.1 ht with rfl | ht
        · have := remark_text find u
          omega
        · exact one _ hsh ht
theorem toks_texts (l : List UInt8) : ∀ t ∈ toks l, t.text.length ≤ l.length := fun t ht => by
  have := toksT_texts l.length l [] (Nat.le_refl _) t ht
  simpa using this

/-- what holds of each form of a token holds of all that is parsed -/
theorem toksT_all (P : Tok → Prop) (h1 : ∀ n as s, P ⟨1, n, as, s, []⟩) (h2 : ∀ n, P ⟨2, n, [], false, []⟩) (h3 : ∀ x, P ⟨3, [], [], false, x⟩) (h4 : ∀ x, P ⟨4, [], [], false, x⟩) : ∀ (m : Nat) (l txt : List UInt8), l.length ≤ m → ∀ t ∈ toksT txt l, P t := by
  have hch : ∀ txt, ∀ t ∈ chars txt, P t := fun txt t ht => by
    unfold chars at ht
    split at ht
    · cases ht
    · obtain rfl := List.mem_singleton.1 ht; exact h3 _
  have hraw : ∀ n raw, ∀ t ∈ rawToks n raw, P t := fun n raw t ht => by
    unfold rawToks at ht
    split at ht
    · cases ht
    · obtain rfl := List.mem_singleton.1 ht; exact h3 _
  have hrem : ∀ find u, P (remark find u).1 := fun find u => by
    unfold remark
    split
    · exact h4 _
    · exact h4 _
  intro m
  induction m with
  | zero =>
    intro l txt hm t ht
    obtain rfl : l = [] := List.eq_nil_of_length_eq_zero (by omega)
    rw [toksT_nil] at ht
    exact hch _ t ht
  | succ m ih =>
    intro l txt hm
    cases l with
    | nil =>
      intro t ht
      rw [toksT_nil] at ht
      exact hch _ t ht
    | cons b r =>
      have hr : r.length ≤ m := by simpa using hm
      by_cases k3 : kindOf (b :: r) = 3
      · rw [toksT_text txt rfl (item_text k3)]
        exact ih r _ hr
      · rw [toksT_flush txt (.inr (item_notext k3))]
        intro t ht
        rcases List.mem_append.1 ht with ht | ht
        · exact hch _ t ht
        have one : ∀ rest : List UInt8, rest.length < (b :: r).length → t ∈ toksT [] rest → P t := fun rest hl h => ih rest [] (by rw [List.length_cons] at hl; omega) t h
        rcases kindOf_cases (b :: r) with h | h | h | h
        · obtain ⟨c, u, e1, ha, he⟩ := item_start h
          unfold startI at he
          cases hru : runM st0 (c :: u) with
          | none => rw [hru] at he; rw [toksT_stop he] at ht; cases ht
          | some x =>
            obtain ⟨st, rest⟩ := x
            rw [hru] at he
            have hsh := item_shorter.2.2 _ _ _ _ he
            have hle := rawText_le (low st.tname) rest
            rw [toksT_start he] at ht
            rcases List.mem_cons.1 ht with rfl | ht
            · exact h1 _ _ _
            · split at ht
              · rcases List.mem_append.1 ht with ht | ht
                · exact hraw _ _ t ht
                · exact one _ (by omega) ht
              · exact one _ hsh ht
        · obtain ⟨c, u, e1, ha, he⟩ := item_end h
          unfold closeI at he
          cases hru : runM st0 (c :: u) with
          | none => rw [hru] at he; rw [toksT_stop he] at ht; cases ht
          | some x =>
            obtain ⟨st, rest⟩ := x
            rw [hru] at he
            have hsh := item_shorter.2.1 _ _ he
            rw [toksT_close he] at ht
            rcases List.mem_cons.1 ht with rfl | ht
            · exact h2 _
            · exact one _ hsh ht
        · exact absurd h k3
        · obtain ⟨find, u, he⟩ : ∃ find u, item (b :: r) = markI find u := by
            rcases item_mark h with ⟨_, e⟩ | ⟨_, _, e⟩ | ⟨_, _, e⟩ <;> exact ⟨_, _, e⟩
          have hsh := item_shorter.1 _ _ he
          rw [toksT_mark he] at ht
          rcases List.mem_cons.1 ht with rfl | ht
          · exact hrem _ _
          · exact one _ hsh ht
theorem toks_kinds (l : List UInt8) : ∀ t ∈ toks l, t.kind = 1 ∨ t.kind = 2 ∨ t.kind = 3 ∨ t.kind = 4 :=
  toksT_all _ (fun _ _ _ => .inl rfl) (fun _ => .inr (.inl rfl)) (fun _ => .inr (.inr (.inl rfl))) (fun _ => .inr (.inr (.inr rfl))) l.length l [] (Nat.le_refl _)

end U
end Go.Proofs.YtankcnikebcpkaaGreatDoor

namespace Go.Proofs.YtankcnikebcpkaaGreatDoor
namespace U

mutual
def cntN : Nd → Nat | .mk _ _ _ p => 1 + cntL p
def cntL : List Nd → Nat | [] => 0 | n :: r => cntN n + cntL r
end
mutual
def depN : Nd → Nat | .mk _ _ _ p => 1 + depL p
def depL : List Nd → Nat | [] => 0 | n :: r => max (depN n) (depL r)
end
theorem cntN_eq : ∀ (n : Nd), cntN n = 1 + cntL n.parts | .mk _ _ _ _ => by rw [cntN]; rfl
theorem depN_eq : ∀ (n : Nd), depN n = 1 + depL n.parts | .mk _ _ _ _ => by rw [depN]; rfl
theorem cntL_cons (n : Nd) (r : List Nd) : cntL (n :: r) = cntN n + cntL r := by rw [cntL]
theorem depL_cons (n : Nd) (r : List Nd) : depL (n :: r) = max (depN n) (depL r) := by rw [depL]
theorem cntL_nil : cntL [] = 0 := by rw [cntL]
theorem depL_nil : depL [] = 0 := by rw [depL]
theorem cntL_append : ∀ (a b : List Nd), cntL (a ++ b) = cntL a + cntL b
  | [], b => by rw [cntL_nil]; simp
  | n :: r, b => by rw [List.cons_append, cntL_cons, cntL_cons, cntL_append r b]; omega
theorem depL_append : ∀ (a b : List Nd), depL (a ++ b) = max (depL a) (depL b)
  | [], b => by rw [depL_nil]; simp
  | n :: r, b => by rw [List.cons_append, depL_cons, depL_cons, depL_append r b]; omega
theorem cntL_get {l : List Nd} {i : Nat} {n : Nd} (h : l[i]? = some n) : cntL l = cntL (l.take i) + cntN n + cntL (l.drop (i + 1)) := by
  obtain ⟨hi, e⟩ := List.getElem?_eq_some_iff.1 h
  have h1 : l = l.take i ++ n :: l.drop (i + 1) := by rw [← e]; simp
  conv => lhs; rw [h1]
  rw [cntL_append, cntL_cons]
  omega
theorem cntL_take {l : List Nd} {i : Nat} {n : Nd} (h : l[i]? = some n) : cntL (l.take (i + 1)) = cntL (l.take i) + cntN n := by
  obtain ⟨hi, e⟩ := List.getElem?_eq_some_iff.1 h
  rw [List.take_succ_eq_append_getElem hi, e, cntL_append, cntL_cons, cntL_nil]
  omega
theorem depL_take {l : List Nd} {i : Nat} {n : Nd} (h : l[i]? = some n) : depL (l.take (i + 1)) = max (depL (l.take i)) (depN n) := by
  obtain ⟨hi, e⟩ := List.getElem?_eq_some_iff.1 h
  rw [List.take_succ_eq_append_getElem hi, e, depL_append, depL_cons, depL_nil]
  omega
/-- the next level -/
def lower (l : List Nd) : List Nd := l.flatMap Nd.parts
theorem lower_take {l : List Nd} {i : Nat} {n : Nd} (h : l[i]? = some n) : lower (l.take (i + 1)) = lower (l.take i) ++ n.parts := by
  obtain ⟨hi, e⟩ := List.getElem?_eq_some_iff.1 h
  rw [List.take_succ_eq_append_getElem hi, e]
  simp [lower]
theorem cnt_lower (l : List Nd) : cntL l = l.length + cntL (lower l) := by
  induction l with
  | nil => rw [cntL_nil]; rfl
  | cons n r ih =>
    rw [cntL_cons, cntN_eq, ih, List.length_cons]
    have : lower (n :: r) = n.parts ++ lower r := by simp [lower]
    rw [this, cntL_append]
    omega
theorem dep_lower : ∀ (l : List Nd), l ≠ [] → depL l = 1 + depL (lower l)
  | [], h => absurd rfl h
  | n :: r, _ => by
    have e : lower (n :: r) = n.parts ++ lower r := by simp [lower]
    rw [depL_cons, depN_eq, e, depL_append]
    cases r with
    | nil => rw [depL_nil]; show _ = 1 + max _ (depL []); rw [depL_nil]; omega
    | cons m r => rw [dep_lower (m :: r) (by simp)]; omega
theorem len_cnt (l : List Nd) : l.length ≤ cntL l := by rw [cnt_lower]; omega
theorem dep_cnt : ∀ (k : Nat) (l : List Nd), cntL l ≤ k → depL l ≤ cntL l
  | 0, l, h => by
    have := len_cnt l
    cases l with
    | nil => rw [depL_nil]; omega
    | cons a r => simp at this; omega
  | k + 1, l, h => by
    cases l with
    | nil => rw [depL_nil]; omega
    | cons n r =>
      have h1 := cnt_lower (n :: r)
      rw [dep_lower (n :: r) (by simp)]
      simp only [List.length_cons] at h1
      have := dep_cnt k (lower (n :: r)) (by omega)
      omega
mutual
/-- nothing in a node is longer -/
def SmallNd (M : Nat) : Nd → Prop | .mk n a t p => n.length ≤ M ∧ t.length ≤ M ∧ a.length ≤ M ∧ (∀ x ∈ a, x.1.length ≤ M ∧ x.2.length ≤ M) ∧ p.length ≤ M ∧ SmallNs M p
def SmallNs (M : Nat) : List Nd → Prop | [] => True | n :: r => SmallNd M n ∧ SmallNs M r
end
theorem smallNs_iff (M : Nat) : ∀ (l : List Nd), SmallNs M l ↔ ∀ n ∈ l, SmallNd M n
  | [] => by rw [SmallNs]; exact ⟨fun _ n h => (by cases h), fun _ => trivial⟩
  | a :: r => by
    rw [SmallNs, smallNs_iff M r]
    simp
mutual
theorem SmallNd.more {M M' : Nat} (hM : M ≤ M') : ∀ (n : Nd), SmallNd M n → SmallNd M' n
  | .mk n a t p, h => by
    rw [SmallNd] at h ⊢
    obtain ⟨h1, h2, h3, h4, h5, h6⟩ := h
    exact ⟨Nat.le_trans h1 hM, Nat.le_trans h2 hM, Nat.le_trans h3 hM, fun x hx => ⟨Nat.le_trans (h4 x hx).1 hM, Nat.le_trans (h4 x hx).2 hM⟩, Nat.le_trans h5 hM, SmallNs.more hM p h6⟩
theorem SmallNs.more {M M' : Nat} (hM : M ≤ M') : ∀ (l : List Nd), SmallNs M l → SmallNs M' l
  | [], _ => by rw [SmallNs]; trivial
  | n :: r, h => by
    rw [SmallNs] at h ⊢
    exact ⟨SmallNd.more hM n h.1, SmallNs.more hM r h.2⟩
end

end U
end Go.Proofs.YtankcnikebcpkaaGreatDoor

namespace Go.Proofs.YtankcnikebcpkaaGreatDoor
namespace U

def nP : List UInt8 := [112]
def nLi : List UInt8 := [108, 105]
def nUl : List UInt8 := [117, 108]
def nOl : List UInt8 := [111, 108]
/-- within an li, with no list in between -/
def liIn (n : List UInt8) (li : Bool) : Bool := if n = nUl ∨ n = nOl then false else if n = nLi then true else li
mutual
def closedN (p li : Bool) : Nd → Bool | .mk n _ _ ps => !(n == nP && p) && !(n == nLi && li) && closedL (p || n == nP) (liIn n li) ps
def closedL (p li : Bool) : List Nd → Bool | [] => true | n :: r => closedN p li n && closedL p li r
end
theorem closedN_eq (p li : Bool) : ∀ (n : Nd), closedN p li n = (!(n.name == nP && p) && !(n.name == nLi && li) && closedL (p || n.name == nP) (liIn n.name li) n.parts) | .mk _ _ _ _ => by rw [closedN]; rfl
theorem closedL_nil (p li : Bool) : closedL p li [] = true := by rw [closedL]
theorem closedL_append (p li : Bool) : ∀ (a b : List Nd), closedL p li (a ++ b) = (closedL p li a && closedL p li b)
  | [], b => by rw [closedL_nil]; simp
  | n :: r, b => by rw [List.cons_append, closedL, closedL, closedL_append p li r b, Bool.and_assoc]
theorem closedL_one (p li : Bool) (n : Nd) : closedL p li [n] = closedN p li n := by rw [closedL, closedL_nil, Bool.and_true]
def pOf : List Nd → Bool | [] => false | a :: r => pOf r || a.name == nP
def liOf : List Nd → Bool | [] => false | a :: r => liIn a.name (liOf r)
/-- the stack and what hangs on it -/
def StkOk : List Nd → Prop
  | [] => True
  | a :: r => closedL (pOf (a :: r)) (liOf (a :: r)) a.parts = true ∧ (a.name == nP && pOf r) = false ∧ (a.name == nLi && liOf r) = false ∧ StkOk r
structure ClOk (s : Bst) : Prop where
  out : closedL false false s.out = true
  op : StkOk s.op
theorem StkOk.node {a : Nd} {r : List Nd} (h : StkOk (a :: r)) : closedN (pOf r) (liOf r) a = true := by
  obtain ⟨h1, h2, h3, _⟩ := h
  rw [closedN_eq, h2, h3]
  simpa [pOf, liOf] using h1
theorem ClOk.add {s : Bst} (h : ClOk s) {n : Nd} (hn : closedN (pOf s.op) (liOf s.op) n = true) : ClOk (s.add n) := by
  unfold Bst.add
  cases hs : s.op with
  | nil =>
    rw [hs] at hn
    refine ⟨?_, by show StkOk ([] : List Nd); trivial⟩
    show closedL false false (s.out ++ [n]) = true
    rw [closedL_append, h.out, closedL_one]
    simpa [pOf, liOf] using hn
  | cons a r =>
    have h0 := h.op
    rw [hs] at h0 hn
    obtain ⟨h1, h2, h3, h4⟩ := h0
    refine ⟨h.out, ?_⟩
    show StkOk (a.push n :: r)
    refine ⟨?_, by rw [Nd.push_name]; exact h2, by rw [Nd.push_name]; exact h3, h4⟩
    have e1 : pOf (a.push n :: r) = pOf (a :: r) := by unfold pOf; rw [Nd.push_name]
    have e2 : liOf (a.push n :: r) = liOf (a :: r) := by unfold liOf; rw [Nd.push_name]
    rw [e1, e2, Nd.push_parts, closedL_append, h1, closedL_one, hn]
    rfl
theorem closed_text (p li : Bool) (t : List UInt8) : closedN p li (.mk [] [] t []) = true := by
  rw [closedN, closedL_nil]
  have h1 : (([] : List UInt8) == nP) = false := by decide
  have h2 : (([] : List UInt8) == nLi) = false := by decide
  rw [h1, h2]
  rfl
theorem ClOk.endText {s : Bst} (h : ClOk s) : ClOk s.endText := by
  unfold Bst.endText
  split
  · exact h
  · have := h.add (closed_text (pOf s.op) (liOf s.op) s.tx.flatten)
    exact ⟨this.out, this.op⟩
theorem endText_names (s : Bst) : s.endText.op.map Nd.name = s.op.map Nd.name := by
  unfold Bst.endText
  split
  · rfl
  · show (s.add (.mk [] [] s.tx.flatten [])).op.map Nd.name = _
    unfold Bst.add
    split
    · rfl
    · rename_i a r h; rw [h]; simp [Nd.push_name]
theorem ClOk.pop {s : Bst} (h : ClOk s) : ClOk s.pop := by
  have h1 := h.endText
  unfold Bst.pop
  split
  · exact h1
  · rename_i a r hs
    have h2 := h1.op
    rw [hs] at h2
    exact ClOk.add (s := s.endText.withOp r) ⟨h1.out, h2.2.2.2⟩ h2.node
theorem pop_names (s : Bst) : s.pop.op.map Nd.name = (s.op.map Nd.name).tail := by
  have h1 := endText_names s
  unfold Bst.pop
  split
  · rename_i hs; rw [hs] at h1; rw [hs, ← h1]; rfl
  · rename_i a r hs
    rw [hs] at h1
    rw [← h1]
    show ((s.endText.withOp r).add a).op.map Nd.name = r.map Nd.name
    unfold Bst.add Bst.withOp
    cases r with
    | nil => rfl
    | cons b r => simp [Nd.push_name]
theorem ClOk.popN {s : Bst} (h : ClOk s) : ∀ n, ClOk (Bst.popN n s)
  | 0 => h
  | n + 1 => by rw [Bst.popN_succ]; exact (h.popN n).pop
theorem popN_names (s : Bst) : ∀ n, (Bst.popN n s).op.map Nd.name = (s.op.map Nd.name).drop n
  | 0 => rfl
  | n + 1 => by rw [Bst.popN_succ, pop_names, popN_names s n, List.tail_drop]
/-- flags and places hang on the names alone -/
theorem pOf_names : ∀ (a b : List Nd), a.map Nd.name = b.map Nd.name → pOf a = pOf b
  | [], [], _ => rfl
  | [], b :: _, h => by simp at h
  | a :: _, [], h => by simp at h
  | a :: x, b :: y, h => by
    simp at h
    unfold pOf
    rw [pOf_names x y h.2, h.1]
theorem liOf_names : ∀ (a b : List Nd), a.map Nd.name = b.map Nd.name → liOf a = liOf b
  | [], [], _ => rfl
  | [], b :: _, h => by simp at h
  | a :: _, [], h => by simp at h
  | a :: x, b :: y, h => by
    simp at h
    unfold liOf
    rw [liOf_names x y h.2, h.1]
theorem ClOk.closeLast {s : Bst} (h : ClOk s) (name : List UInt8) : ClOk (s.closeLast name) := by
  unfold Bst.closeLast
  split
  · exact h
  · exact h.popN _
/-- below the last one with this name -/
theorem idx_split (name : List UInt8) : ∀ (l : List Nd), idx name l ≠ 0 → ∃ pre a r, l = pre ++ a :: r ∧ a.name = name ∧ r.length + 1 = idx name l ∧ ∀ x ∈ pre, x.name ≠ name
  | [], h => absurd rfl h
  | a :: r, h => by
    by_cases he : a.name = name
    · exact ⟨[], a, r, rfl, he, by rw [idx, if_pos he], fun x hx => by cases hx⟩
    · have e : idx name (a :: r) = idx name r := by rw [idx, if_neg he]
      obtain ⟨pre, b, r', h1, h2, h3, h4⟩ := idx_split name r (by rw [← e]; exact h)
      refine ⟨a :: pre, b, r', by rw [h1]; rfl, h2, by rw [e]; exact h3, fun x hx => ?_⟩
      rcases List.mem_cons.1 hx with rfl | hx
      · exact he
      · exact h4 x hx
theorem closeLast_names {s : Bst} {name : List UInt8} {pre r : List Nd} {a : Nd} (hs : s.op = pre ++ a :: r) (hl : r.length + 1 = idx name s.op) : (s.closeLast name).op.map Nd.name = r.map Nd.name := by
  unfold Bst.closeLast Bst.closeFrom
  rw [if_neg (by omega), popN_names, ← hl, hs, List.length_append, List.length_cons, show pre.length + (r.length + 1) - (r.length + 1 - 1) = pre.length + 1 by omega, List.map_append, List.map_cons]
  rw [show pre.length + 1 = (pre.map Nd.name).length + 1 by rw [List.length_map], List.drop_append]
  simp
theorem idx_zero (name : List UInt8) : ∀ (l : List Nd), idx name l = 0 → ∀ a ∈ l, a.name ≠ name
  | [], _, a, ha => by cases ha
  | b :: r, h, a, ha => by
    by_cases he : b.name = name
    · rw [idx, if_pos he] at h; omega
    · rw [idx, if_neg he] at h
      rcases List.mem_cons.1 ha with rfl | ha
      · exact he
      · exact idx_zero name r h a ha
theorem pOf_no : ∀ (l : List Nd), (∀ a ∈ l, a.name ≠ nP) → pOf l = false
  | [], _ => rfl
  | a :: r, h => by
    unfold pOf
    rw [pOf_no r fun x hx => h x (List.mem_cons_of_mem _ hx)]
    simpa using h a (List.mem_cons_self ..)
theorem StkOk.tail : ∀ (pre : List Nd) {l : List Nd}, StkOk (pre ++ l) → StkOk l
  | [], _, h => h
  | _ :: pre, _, h => StkOk.tail pre h.2.2.2
/-- behind the closing of the last p no p is open -/
theorem close_p {s : Bst} (h : ClOk s) : pOf (s.closeLast nP).op = false := by
  by_cases h0 : idx nP s.op = 0
  · have e : s.closeLast nP = s := by unfold Bst.closeLast; rw [if_pos h0]
    rw [e]
    exact pOf_no _ (idx_zero nP s.op h0)
  · obtain ⟨pre, a, r, h1, h2, h3, _⟩ := idx_split nP s.op h0
    rw [pOf_names _ _ (closeLast_names h1 h3)]
    have h4 := h.op
    rw [h1] at h4
    have h5 := (StkOk.tail pre h4).2.1
    rw [h2] at h5
    simpa using h5
/-- an li may come: none is open, or a list is open within it -/
theorem li_free : ∀ (l : List Nd), ¬ max (idx nUl l) (idx nOl l) < idx nLi l → liOf l = false
  | [], _ => rfl
  | a :: r, h => by
    show liIn a.name (liOf r) = false
    unfold liIn
    by_cases h1 : a.name = nUl ∨ a.name = nOl
    · rw [if_pos h1]
    · rw [if_neg h1]
      have hu : idx nUl (a :: r) = idx nUl r := by rw [idx, if_neg fun e => h1 (.inl e)]
      have ho : idx nOl (a :: r) = idx nOl r := by rw [idx, if_neg fun e => h1 (.inr e)]
      by_cases h2 : a.name = nLi
      · exfalso
        have hl : idx nLi (a :: r) = r.length + 1 := by rw [idx, if_pos h2]
        have := idx_le nUl r
        have := idx_le nOl r
        omega
      · rw [if_neg h2]
        have hl : idx nLi (a :: r) = idx nLi r := by rw [idx, if_neg h2]
        exact li_free r (by omega)
theorem close_li {s : Bst} (h : ClOk s) (hi : max (idx nUl s.op) (idx nOl s.op) < idx nLi s.op) : liOf (s.closeLast nLi).op = false := by
  obtain ⟨pre, a, r, h1, h2, h3, _⟩ := idx_split nLi s.op (by omega)
  rw [liOf_names _ _ (closeLast_names h1 h3)]
  have h4 := h.op
  rw [h1] at h4
  have h5 := (StkOk.tail pre h4).2.2.1
  rw [h2] at h5
  simpa using h5
theorem pOf_drop : ∀ (pre l : List Nd), pOf (pre ++ l) = false → pOf l = false
  | [], _, h => h
  | a :: pre, l, h => pOf_drop pre l (by
      have : (pOf (pre ++ l) || a.name == nP) = false := h
      simp only [Bool.or_eq_false_iff] at this
      exact this.1)
theorem closeLast_p {s : Bst} (h : pOf s.op = false) (name : List UInt8) : pOf (s.closeLast name).op = false := by
  by_cases h0 : idx name s.op = 0
  · have e : s.closeLast name = s := by unfold Bst.closeLast; rw [if_pos h0]
    rw [e]; exact h
  · obtain ⟨pre, a, r, h1, h2, h3, _⟩ := idx_split name s.op h0
    rw [pOf_names _ _ (closeLast_names h1 h3)]
    rw [h1] at h
    exact pOf_drop (pre ++ [a]) r (by simpa using h)
/-- what a Start leaves open lets it in -/
theorem before_ok {s : Bst} (h : ClOk s) (name : List UInt8) : ClOk (s.closeBefore name) ∧ (name == nP && pOf (s.closeBefore name).op) = false ∧ (name == nLi && liOf (s.closeBefore name).op) = false := by
  have hp : ClOk (s.closePar name) := by
    unfold Bst.closePar
    split
    · exact h.closeLast _
    · exact h
  refine ⟨?_, ?_, ?_⟩
  · unfold Bst.closeBefore
    split
    · exact hp.closeLast _
    · exact hp
  · by_cases hn : name = nP
    · subst hn
      have e : s.closeBefore nP = s.closeLast nP := by
        unfold Bst.closeBefore
        rw [if_neg (by rintro ⟨e, _⟩; exact absurd e (by decide))]
        unfold Bst.closePar
        rw [if_pos (by decide)]
        rfl
      rw [e, close_p h]
      rfl
    · rw [beq_eq_false_iff_ne.2 hn]; rfl
  · by_cases hn : name = nLi
    · subst hn
      unfold Bst.closeBefore
      split
      · rename_i hc
        have := close_li hp hc.2
        rw [show (s.closePar nLi).closeLast [108, 105] = (s.closePar nLi).closeLast nLi from rfl, this]
        rfl
      · rename_i hc
        have := li_free (s.closePar nLi).op (fun e => hc ⟨rfl, e⟩)
        rw [this]
        rfl
    · rw [beq_eq_false_iff_ne.2 hn]; rfl
theorem endText_flags (s : Bst) : pOf s.endText.op = pOf s.op ∧ liOf s.endText.op = liOf s.op := ⟨pOf_names _ _ (endText_names s), liOf_names _ _ (endText_names s)⟩
theorem ClOk.start2 {s : Bst} (h : ClOk s) (name : List UInt8) (attrs : List Att) (self : Bool) (h1 : (name == nP && pOf s.op) = false) (h2 : (name == nLi && liOf s.op) = false) : ClOk (s.start2 name attrs self) := by
  have he := h.endText
  obtain ⟨f1, f2⟩ := endText_flags s
  unfold Bst.start2
  split
  · refine ClOk.add (s := s.endText.more) ⟨he.out, he.op⟩ ?_
    show closedN (pOf s.endText.op) (liOf s.endText.op) _ = true
    rw [closedN, f1, f2, h1, h2, closedL_nil]
    rfl
  · refine ⟨he.out, ?_, ?_, ?_, he.op⟩
    · exact closedL_nil _ _
    · show (name == nP && pOf s.endText.op) = false; rw [f1]; exact h1
    · show (name == nLi && liOf s.endText.op) = false; rw [f2]; exact h2
theorem ClOk.step {s : Bst} (h : ClOk s) (t : Tk) : ClOk (s.step t) := by
  unfold Bst.step
  split
  · have h0 : ClOk (⟨s.out, s.op, s.tx, s.cnt, []⟩ : Bst) := ⟨h.out, h.op⟩
    obtain ⟨b1, b2, b3⟩ := before_ok h0 t.name
    unfold Bst.start Bst.start1
    split
    · split
      · exact ⟨b1.out, b1.op⟩
      · exact b1
    · exact ClOk.start2 b1 _ _ _ b2 b3
  split
  · unfold Bst.ends
    refine ClOk.closeLast ?_ _
    split
    · exact ⟨h.out, h.op⟩
    · exact h
  split
  · unfold Bst.chars
    split
    · exact h
    · exact ⟨h.out, h.op⟩
  · exact h
theorem ClOk.run : ∀ (l : List Tk) (s : Bst), ClOk s → closedL false false (s.run l).1 = true
  | [], s, h => ((h.popN _).endText).out
  | t :: r, s, h => by
    rw [Bst.run]
    split
    · refine ClOk.run r _ ?_
      unfold Bst.stepE
      split
      · exact h.step t
      · exact h
    · exact closedL_nil _ _
theorem build_closed (l : List Tk) : closedL false false (build l).1 = true := by
  unfold build
  split
  · exact closedL_nil _ _
  · exact ClOk.run l _ ⟨closedL_nil _ _, trivial⟩

end U
end Go.Proofs.YtankcnikebcpkaaGreatDoor

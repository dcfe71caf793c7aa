/- Plain mathematics: how many nodes, how deep; how long everything in them is. -/
import Derived.Test.YtmfkefcdddoooaaNodeMath
namespace Go.Proofs.Ytmfkefcdddoooaa
namespace U

mutual
def cntN : Nd → Nat | .mk _ _ _ p => 1 + cntL p
def cntL : List Nd → Nat | [] => 0 | n :: r => cntN n + cntL r
end
mutual
def depN : Nd → Nat | .mk _ _ _ p => 1 + depL p
def depL : List Nd → Nat | [] => 0 | n :: r => max (depN n) (depL r)
end
theorem cntN_eq : ∀ (n : Nd), cntN n = 1 + cntL n.parts | .mk _ _ _ _ => by rw [cntN]; rfl
theorem depN_eq : ∀ (n : Nd), depN n = 1 + depL n.parts | .mk _ _ _ _ => by rw [depN]; rfl
theorem cntL_cons (n : Nd) (r : List Nd) : cntL (n :: r) = cntN n + cntL r := by rw [cntL]
theorem depL_cons (n : Nd) (r : List Nd) : depL (n :: r) = max (depN n) (depL r) := by rw [depL]
theorem cntL_nil : cntL [] = 0 := by rw [cntL]
theorem depL_nil : depL [] = 0 := by rw [depL]
theorem cntL_append : ∀ (a b : List Nd), cntL (a ++ b) = cntL a + cntL b
  | [], b => by rw [cntL_nil]; simp
  | n :: r, b => by rw [List.cons_append, cntL_cons, cntL_cons, cntL_append r b]; omega
theorem depL_append : ∀ (a b : List Nd), depL (a ++ b) = max (depL a) (depL b)
  | [], b => by rw [depL_nil]; simp
  | n :: r, b => by rw [List.cons_append, depL_cons, depL_cons, depL_append r b]; omega
theorem cntL_get {l : List Nd} {i : Nat} {n : Nd} (h : l[i]? = some n) : cntL l = cntL (l.take i) + cntN n + cntL (l.drop (i + 1)) := by
  obtain ⟨hi, e⟩ := List.getElem?_eq_some_iff.1 h
  have h1 : l = l.take i ++ n :: l.drop (i + 1) := by rw [← e]; simp
  conv => lhs; rw [h1]
  rw [cntL_append, cntL_cons]
  omega
theorem cntL_take {l : List Nd} {i : Nat} {n : Nd} (h : l[i]? = some n) : cntL (l.take (i + 1)) = cntL (l.take i) + cntN n := by
  obtain ⟨hi, e⟩ := List.getElem?_eq_some_iff.1 h
  rw [List.take_succ_eq_append_getElem hi, e, cntL_append, cntL_cons, cntL_nil]
  omega
theorem depL_take {l : List Nd} {i : Nat} {n : Nd} (h : l[i]? = some n) : depL (l.take (i + 1)) = max (depL (l.take i)) (depN n) := by
  obtain ⟨hi, e⟩ := List.getElem?_eq_some_iff.1 h
  rw [List.take_succ_eq_append_getElem hi, e, depL_append, depL_cons, depL_nil]
  omega
/-- the next level -/
def lower (l : List Nd) : List Nd := l.flatMap Nd.parts
theorem lower_take {l : List Nd} {i : Nat} {n : Nd} (h : l[i]? = some n) : lower (l.take (i + 1)) = lower (l.take i) ++ n.parts := by
  obtain ⟨hi, e⟩ := List.getElem?_eq_some_iff.1 h
  rw [List.take_succ_eq_append_getElem hi, e]
  simp [lower]
theorem cnt_lower (l : List Nd) : cntL l = l.length + cntL (lower l) := by
  induction l with
  | nil => rw [cntL_nil]; rfl
  | cons n r ih =>
    rw [cntL_cons, cntN_eq, ih, List.length_cons]
    have : lower (n :: r) = n.parts ++ lower r := by simp [lower]
    rw [this, cntL_append]
    omega
theorem dep_lower : ∀ (l : List Nd), l ≠ [] → depL l = 1 + depL (lower l)
  | [], h => absurd rfl h
  | n :: r, _ => by
    have e : lower (n :: r) = n.parts ++ lower r := by simp [lower]
    rw [depL_cons, depN_eq, e, depL_append]
    cases r with
    | nil => rw [depL_nil]; show _ = 1 + max _ (depL []); rw [depL_nil]; omega
    | cons m r => rw [dep_lower (m :: r) (by simp)]; omega
theorem len_cnt (l : List Nd) : l.length ≤ cntL l := by rw [cnt_lower]; omega
theorem dep_cnt : ∀ (k : Nat) (l : List Nd), cntL l ≤ k → depL l ≤ cntL l
  | 0, l, h => by
    have := len_cnt l
    cases l with
    | nil => rw [depL_nil]; omega
    | cons a r => simp at this; omega
  | k + 1, l, h => by
    cases l with
    | nil => rw [depL_nil]; omega
    | cons n r =>
      have h1 := cnt_lower (n :: r)
      rw [dep_lower (n :: r) (by simp)]
      simp only [List.length_cons] at h1
      have := dep_cnt k (lower (n :: r)) (by omega)
      omega
mutual
/-- nothing in a node is longer -/
def SmallNd (M : Nat) : Nd → Prop | .mk n a t p => n.length ≤ M ∧ t.length ≤ M ∧ a.length ≤ M ∧ (∀ x ∈ a, x.1.length ≤ M ∧ x.2.length ≤ M) ∧ p.length ≤ M ∧ SmallNs M p
def SmallNs (M : Nat) : List Nd → Prop | [] => True | n :: r => SmallNd M n ∧ SmallNs M r
end
theorem smallNs_iff (M : Nat) : ∀ (l : List Nd), SmallNs M l ↔ ∀ n ∈ l, SmallNd M n
  | [] => by rw [SmallNs]; exact ⟨fun _ n h => (by cases h), fun _ => trivial⟩
  | a :: r => by
    rw [SmallNs, smallNs_iff M r]
    simp
mutual
theorem SmallNd.more {M M' : Nat} (hM : M ≤ M') : ∀ (n : Nd), SmallNd M n → SmallNd M' n
  | .mk n a t p, h => by
    rw [SmallNd] at h ⊢
    obtain ⟨h1, h2, h3, h4, h5, h6⟩ := h
    exact ⟨Nat.le_trans h1 hM, Nat.le_trans h2 hM, Nat.le_trans h3 hM, fun x hx => ⟨Nat.le_trans (h4 x hx).1 hM, Nat.le_trans (h4 x hx).2 hM⟩, Nat.le_trans h5 hM, SmallNs.more hM p h6⟩
theorem SmallNs.more {M M' : Nat} (hM : M ≤ M') : ∀ (l : List Nd), SmallNs M l → SmallNs M' l
  | [], _ => by rw [SmallNs]; trivial
  | n :: r, h => by
    rw [SmallNs] at h ⊢
    exact ⟨SmallNd.more hM n h.1, SmallNs.more hM r h.2⟩
end

end U
end Go.Proofs.Ytmfkefcdddoooaa

/- How far each state of a machine is from a final one: what a breadth-first walk from the final ones finds. -/
import Derived.Test.YtonchdhchaiikaaAuRunMath
namespace Go.Proofs.Ytonchdhchaiikaa

def U.lk (l : List Int) (s : Nat) : Int := l[s]?.getD (-1)
def U.Edge (ll : List (List Int)) (s z : Nat) : Prop := ∃ (l : List Int) (j : Nat), ll[s]? = some l ∧ l[j]? = some (z : Int)
/-- k letters lead from s to a final state -/
def U.Rch (ll : List (List Int)) (fl : List Bool) : Nat → Nat → Prop
  | 0, s => fl[s]? = some true
  | k + 1, s => ∃ z, U.Edge ll s z ∧ U.Rch ll fl k z
def U.Min (ll : List (List Int)) (fl : List Bool) (k s : Nat) : Prop := U.Rch ll fl k s ∧ ∀ k', k' < k → ¬ U.Rch ll fl k' s
def U.Dist (ll : List (List Int)) (fl : List Bool) (s : Nat) (m : Int) : Prop := (m = -1 ∧ ∀ k, ¬ U.Rch ll fl k s) ∨ ∃ k : Nat, m = (k : Int) ∧ U.Min ll fl k s
theorem U.Min.unique {ll : List (List Int)} {fl : List Bool} {k k' s : Nat} (h : U.Min ll fl k s) (h' : U.Min ll fl k' s) : k = k' := by
  rcases Nat.lt_trichotomy k k' with hlt | e | hgt
  · exact absurd h.1 (h'.2 k hlt)
  · exact e
  · exact absurd h'.1 (h.2 k' hgt)
theorem U.Dist.unique {ll : List (List Int)} {fl : List Bool} {s : Nat} {m m' : Int} (h : U.Dist ll fl s m) (h' : U.Dist ll fl s m') : m = m' := by
  rcases h with ⟨rfl, h⟩ | ⟨k, rfl, h⟩
  · rcases h' with ⟨rfl, _⟩ | ⟨k', rfl, h'⟩
    · rfl
    · exact absurd h'.1 (h k')
  · rcases h' with ⟨rfl, h'⟩ | ⟨k', rfl, h'⟩
    · exact absurd h.1 (h' k)
    · rw [h.unique h']
theorem U.lk_set {l : List Int} {p : Nat} (hp : p < l.length) (v : Int) (s : Nat) : U.lk (l.set p v) s = if s = p then v else U.lk l s := by
  unfold U.lk
  rw [List.getElem?_set]
  by_cases h : s = p
  · subst h
    rw [if_pos rfl, if_pos hp, if_pos rfl]
    rfl
  · rw [if_neg (fun e => h e.symm), if_neg h]
theorem U.lk_get {l : List Int} {s : Nat} {x : Int} (h : l[s]? = some x) : U.lk l s = x := by unfold U.lk; rw [h]; rfl
theorem U.lk_lt {l : List Int} {s : Nat} (h : 0 ≤ U.lk l s) : s < l.length := by
  rcases Nat.lt_or_ge s l.length with h1 | h1
  · exact h1
  · unfold U.lk at h
    rw [List.getElem?_eq_none h1] at h
    exact absurd h (by decide)
theorem U.lk_of {l : List Int} {s : Nat} (h : s < l.length) : l[s]? = some (U.lk l s) := by
  unfold U.lk
  rw [List.getElem?_eq_getElem h]
  rfl
def U.negs (l : List Int) : Nat := l.countP fun x => decide (x < 0)
theorem U.neg_set : ∀ (l : List Int) (p : Nat) (v : Int), p < l.length → U.lk l p < 0 → 0 ≤ v → U.negs (l.set p v) + 1 = U.negs l
  | [], p, v, h, _, _ => by simp at h
  | a :: l, 0, v, _, h, hv => by
    have ha : a < 0 := h
    unfold U.negs
    rw [List.set_cons_zero, List.countP_cons, List.countP_cons, if_pos (decide_eq_true ha), if_neg (by simpa using hv)]
  | a :: l, p + 1, v, h, hn, hv => by
    have := U.neg_set l p v (by simpa using h) hn hv
    unfold U.negs at *
    rw [List.set_cons_succ, List.countP_cons, List.countP_cons]
    omega

structure U.Bfs (ll : List (List Int)) (fl : List Bool) (N : Nat) (left : List Int) (q : List Nat) : Prop where
  len : left.length = N
  inq : ∀ s, 0 ≤ U.lk left s → s ∈ q
  qin : ∀ s ∈ q, 0 ≤ U.lk left s
  cnt : q.length + U.negs left = N
  snd : ∀ (s k : Nat), U.lk left s = (k : Int) → U.Rch ll fl k s
  fin : ∀ s, fl[s]? = some true → U.lk left s = 0
  lo : ∀ s, -1 ≤ U.lk left s
  hi : ∀ s, U.lk left s ≤ (q.length : Int)
  srt : ∀ i j x y : Nat, i ≤ j → q[i]? = some x → q[j]? = some y → U.lk left x ≤ U.lk left y
def U.Proc (ll : List (List Int)) (left : List Int) (q : List Nat) (i : Nat) : Prop := ∀ j x : Nat, j < i → q[j]? = some x → ∀ p, U.Edge ll p x → 0 ≤ U.lk left p ∧ U.lk left p ≤ U.lk left x + 1
def U.Top (left : List Int) (q : List Nat) (i : Nat) : Prop := ∀ x : Nat, q[i]? = some x → ∀ s : Nat, U.lk left s ≤ U.lk left x + 1
theorem U.Bfs.short {ll : List (List Int)} {fl : List Bool} {N : Nat} {left : List Int} {q : List Nat} (h : U.Bfs ll fl N left q) : q.length ≤ N := by have := h.cnt; omega
theorem U.Bfs.small {ll : List (List Int)} {fl : List Bool} {N : Nat} {left : List Int} {q : List Nat} (h : U.Bfs ll fl N left q) {i x : Nat} (hx : q[i]? = some x) : x < N := by
  have := U.lk_lt (h.qin x (List.mem_of_getElem? hx))
  rw [h.len] at this
  exact this
theorem app_get {α : Type} {q : List α} {p x : α} {i : Nat} (h : (q ++ [p])[i]? = some x) : (q[i]? = some x ∧ i < q.length) ∨ (i = q.length ∧ x = p) := by
  rcases Nat.lt_or_ge i q.length with h1 | h1
  · rw [List.getElem?_append_left h1] at h
    exact .inl ⟨h, h1⟩
  · rw [List.getElem?_append_right h1] at h
    have hi : i - q.length = 0 := by
      rcases Nat.eq_zero_or_pos (i - q.length) with h0 | h0
      · exact h0
      · rw [List.getElem?_eq_none (by simp; omega)] at h
        cases h
    rw [hi] at h
    exact .inr ⟨by omega, by simpa using h.symm⟩
/-- a state that is met for the first time -/
theorem U.Bfs.step {ll : List (List Int)} {fl : List Bool} {N : Nat} {left : List Int} {q : List Nat} (h : U.Bfs ll fl N left q) {i x p : Nat} (hx : q[i]? = some x) (hT : U.Top left q i) (hP : U.Proc ll left q i) (hp : p < N) (hn : U.lk left p < 0) (he : U.Edge ll p x) :
    U.Bfs ll fl N (left.set p (U.lk left x + 1)) (q ++ [p]) ∧ U.Proc ll (left.set p (U.lk left x + 1)) (q ++ [p]) i ∧ U.Top (left.set p (U.lk left x + 1)) (q ++ [p]) i ∧
      (∀ s, 0 ≤ U.lk left s → U.lk (left.set p (U.lk left x + 1)) s = U.lk left s) ∧ U.lk (left.set p (U.lk left x + 1)) p = U.lk left x + 1 := by
  have hpl : p < left.length := by rw [h.len]; exact hp
  have hL := U.lk_set hpl (U.lk left x + 1)
  have hx0 := h.qin x (List.mem_of_getElem? hx)
  have hold : ∀ s, 0 ≤ U.lk left s → U.lk (left.set p (U.lk left x + 1)) s = U.lk left s := by
    intro s hs
    rw [hL, if_neg]
    intro e
    subst e
    omega
  have hil : i < q.length := (List.getElem?_eq_some_iff.1 hx).1
  refine ⟨⟨by rw [List.length_set]; exact h.len, ?_, ?_, ?_, ?_, ?_, ?_, ?_, ?_⟩, ?_, ?_, hold, by rw [hL, if_pos rfl]⟩
  · intro s hs
    rw [hL] at hs
    by_cases e : s = p
    · subst e; simp
    · rw [if_neg e] at hs
      exact List.mem_append_left _ (h.inq s hs)
  · intro s hs
    rw [hL]
    by_cases e : s = p
    · rw [if_pos e]; omega
    · rw [if_neg e]
      rcases List.mem_append.1 hs with hs | hs
      · exact h.qin s hs
      · exact absurd (by simpa using hs) e
  · have := U.neg_set left p (U.lk left x + 1) hpl hn (by omega)
    have h2 := h.cnt
    rw [List.length_append, List.length_singleton]
    omega
  · intro s k hk
    rw [hL] at hk
    by_cases e : s = p
    · subst e
      rw [if_pos rfl] at hk
      obtain ⟨k', rfl⟩ : ∃ k', k = k' + 1 := ⟨k - 1, by omega⟩
      exact ⟨x, he, h.snd x k' (by omega)⟩
    · rw [if_neg e] at hk
      exact h.snd s k hk
  · intro s hs
    have := h.fin s hs
    rw [hold s (by omega), this]
  · intro s
    rw [hL]
    split
    · omega
    · exact h.lo s
  · intro s
    rw [hL, List.length_append, List.length_singleton]
    have h1 := h.hi x
    have h2 := h.hi s
    split <;> omega
  · intro a b y z hab hy hz
    rcases app_get hy with ⟨hy, ha⟩ | ⟨ha, hy⟩
    · have hy0 := h.qin y (List.mem_of_getElem? hy)
      rw [hold y hy0]
      rcases app_get hz with ⟨hz, hb⟩ | ⟨hb, hz⟩
      · rw [hold z (h.qin z (List.mem_of_getElem? hz))]
        exact h.srt a b y z hab hy hz
      · subst hz
        rw [hL, if_pos rfl]
        exact hT x hx y
    · rcases app_get hz with ⟨hz, hb⟩ | ⟨hb, hz⟩
      · omega
      · subst hy
        subst hz
        exact Int.le_refl _
  · intro j y hj hy p' he'
    rcases app_get hy with ⟨hy, _⟩ | ⟨hj2, _⟩
    · have := hP j y hj hy p' he'
      rw [hold p' this.1, hold y (h.qin y (List.mem_of_getElem? hy))]
      exact this
    · omega
  · intro y hy s
    rcases app_get hy with ⟨hy, _⟩ | ⟨hj2, _⟩
    · rw [hx] at hy
      obtain rfl : x = y := by simpa using hy
      rw [hold x hx0, hL]
      split
      · exact Int.le_refl _
      · exact hT x hx s
    · omega
theorem U.Top.next {ll : List (List Int)} {fl : List Bool} {N : Nat} {left : List Int} {q : List Nat} (h : U.Bfs ll fl N left q) {i x : Nat} (hx : q[i]? = some x) (hT : U.Top left q i) : U.Top left q (i + 1) := by
  intro y hy s
  have h1 := hT x hx s
  have h2 := h.srt i (i + 1) x y (by omega) hx hy
  omega
theorem U.Proc.next {ll : List (List Int)} {left : List Int} {q : List Nat} {i x : Nat} (hx : q[i]? = some x) (hP : U.Proc ll left q i) (h : ∀ p, U.Edge ll p x → 0 ≤ U.lk left p ∧ U.lk left p ≤ U.lk left x + 1) : U.Proc ll left q (i + 1) := by
  intro j y hj hy p he
  by_cases e : j = i
  · subst e
    rw [hx] at hy
    obtain rfl : x = y := by simpa using hy
    exact h p he
  · exact hP j y (by omega) hy p he
theorem U.Bfs.done {ll : List (List Int)} {fl : List Bool} {N : Nat} {left : List Int} {q : List Nat} (h : U.Bfs ll fl N left q) {i : Nat} (hi : q.length ≤ i) (hP : U.Proc ll left q i) (s : Nat) : U.Dist ll fl s (U.lk left s) := by
  have key : ∀ (k s : Nat), U.Rch ll fl k s → 0 ≤ U.lk left s ∧ U.lk left s ≤ (k : Int) := by
    intro k
    induction k with
    | zero =>
      intro s hs
      have := h.fin s hs
      omega
    | succ k ih =>
      rintro s ⟨z, he, hz⟩
      have h1 := ih z hz
      obtain ⟨j, hj⟩ := List.getElem?_of_mem (h.inq z h1.1)
      have hjl := (List.getElem?_eq_some_iff.1 hj).1
      have := hP j z (by omega) hj s he
      omega
  have hlo := h.lo s
  by_cases h0 : 0 ≤ U.lk left s
  · obtain ⟨k, hk⟩ := Int.eq_ofNat_of_zero_le h0
    refine .inr ⟨k, hk, h.snd s k hk, fun k' hk' hr => ?_⟩
    have := (key k' s hr).2
    omega
  · exact .inl ⟨by omega, fun k hr => h0 (key k s hr).1⟩

/-! the start -/
def U.zeroOr (b : Bool) : Int := if b then 0 else -1
def U.qOf : List Bool → Nat → List Nat
  | [], _ => []
  | b :: r, k => if b then k :: U.qOf r (k + 1) else U.qOf r (k + 1)
theorem U.qOf_mem : ∀ (fl : List Bool) (k s : Nat), s ∈ U.qOf fl k ↔ k ≤ s ∧ fl[s - k]? = some true
  | [], k, s => by simp [U.qOf]
  | b :: r, k, s => by
    have ih := U.qOf_mem r (k + 1) s
    rw [U.qOf]
    by_cases e : s = k
    · subst e
      rw [show s - s = 0 by omega]
      cases b with
      | true => simp
      | false =>
        rw [if_neg (by decide), ih]
        simp
        omega
    · have h1 : ∀ h : k ≤ s, s - k = (s - (k + 1)) + 1 := fun h => by omega
      have h2 : s ∈ (if b = true then k :: U.qOf r (k + 1) else U.qOf r (k + 1)) ↔ s ∈ U.qOf r (k + 1) := by
        cases b <;> simp [e]
      rw [h2, ih]
      constructor
      · rintro ⟨ha, hb⟩
        refine ⟨by omega, ?_⟩
        rw [h1 (by omega), List.getElem?_cons_succ]
        exact hb
      · rintro ⟨ha, hb⟩
        rw [h1 ha, List.getElem?_cons_succ] at hb
        exact ⟨by omega, hb⟩
theorem U.qOf_cnt : ∀ (fl : List Bool) (k : Nat), (U.qOf fl k).length + U.negs (fl.map U.zeroOr) = fl.length
  | [], k => by simp [U.qOf, U.negs]
  | b :: r, k => by
    have ih := U.qOf_cnt r (k + 1)
    unfold U.negs at *
    rw [U.qOf, List.map_cons, List.countP_cons, List.length_cons]
    cases b with
    | true =>
      rw [if_pos rfl, List.length_cons, if_neg (by decide)]
      omega
    | false =>
      rw [if_neg (by decide), if_pos (by decide)]
      omega
theorem U.zeroOr_lk (fl : List Bool) (s : Nat) : U.lk (fl.map U.zeroOr) s = if fl[s]? = some true then 0 else -1 := by
  unfold U.lk
  rw [List.getElem?_map]
  cases h : fl[s]? with
  | none => rfl
  | some b => cases b <;> rfl
theorem U.Bfs.start (ll : List (List Int)) (fl : List Bool) : U.Bfs ll fl fl.length (fl.map U.zeroOr) (U.qOf fl 0) ∧ U.Proc ll (fl.map U.zeroOr) (U.qOf fl 0) 0 ∧ U.Top (fl.map U.zeroOr) (U.qOf fl 0) 0 := by
  have hL := U.zeroOr_lk fl
  have hM : ∀ s, s ∈ U.qOf fl 0 ↔ fl[s]? = some true := fun s => by
    rw [U.qOf_mem]
    simp
  refine ⟨⟨by simp, ?_, ?_, U.qOf_cnt fl 0, ?_, ?_, ?_, ?_, ?_⟩, fun j x hj => by omega, ?_⟩
  · intro s hs
    rw [hM]
    rw [hL] at hs
    by_cases h : fl[s]? = some true
    · exact h
    · rw [if_neg h] at hs; exact absurd hs (by decide)
  · intro s hs
    rw [hM] at hs
    rw [hL, if_pos hs]
    exact Int.le_refl _
  · intro s k hk
    rw [hL] at hk
    by_cases h : fl[s]? = some true
    · rw [if_pos h] at hk
      obtain rfl : k = 0 := by omega
      exact h
    · rw [if_neg h] at hk
      omega
  · intro s hs
    rw [hL, if_pos hs]
  · intro s
    rw [hL]
    split <;> omega
  · intro s
    rw [hL]
    split <;> omega
  · intro i j x y _ hx hy
    have h1 := (hM x).1 (List.mem_of_getElem? hx)
    have h2 := (hM y).1 (List.mem_of_getElem? hy)
    rw [hL, hL, if_pos h1, if_pos h2]
    exact Int.le_refl _
  · intro x hx s
    have h1 := (hM x).1 (List.mem_of_getElem? hx)
    rw [hL, hL, if_pos h1]
    split <;> omega

/-! who leads to whom -/
structure U.Bef (ll : List (List Int)) (N k j : Nat) (B : List (List Nat)) : Prop where
  len : B.length = N
  mem : ∀ (z : Nat) (l : List Nat), B[z]? = some l → ∀ p, p ∈ l ↔ (p < k ∧ U.Edge ll p z) ∨ (p = k ∧ ∃ (r : List Int) (j' : Nat), ll[k]? = some r ∧ j' < j ∧ r[j']? = some (z : Int))
  short : ∀ l ∈ B, l.length ≤ 8 * k + j
theorem U.Bef.start (ll : List (List Int)) (N : Nat) : U.Bef ll N 0 0 (List.replicate N []) := by
  refine ⟨by simp, ?_, ?_⟩
  · intro z l hl p
    rw [List.getElem?_replicate] at hl
    split at hl
    · obtain rfl : [] = l := by simpa using hl
      simp
    · cases hl
  · intro l hl
    rw [List.eq_of_mem_replicate hl]
    exact Nat.zero_le _
theorem U.Bef.skip {ll : List (List Int)} {N k j : Nat} {B : List (List Nat)} (h : U.Bef ll N k j B) {r : List Int} {x : Int} (hr : ll[k]? = some r) (hx : r[j]? = some x) (hn : x < 0) : U.Bef ll N k (j + 1) B := by
  refine ⟨h.len, ?_, fun l hl => by have := h.short l hl; omega⟩
  intro z l hl p
  rw [h.mem z l hl p]
  constructor
  · rintro (h1 | ⟨e, r', j', h1, h2, h3⟩)
    · exact .inl h1
    · exact .inr ⟨e, r', j', h1, by omega, h3⟩
  · rintro (h1 | ⟨e, r', j', h1, h2, h3⟩)
    · exact .inl h1
    · refine .inr ⟨e, r', j', h1, ?_, h3⟩
      rw [hr] at h1
      obtain rfl : r = r' := by simpa using h1
      rcases Nat.lt_or_ge j' j with h4 | h4
      · exact h4
      · obtain rfl : j' = j := by omega
        rw [hx] at h3
        simp at h3
        omega
theorem U.Bef.put {ll : List (List Int)} {N k j : Nat} {B : List (List Nat)} (h : U.Bef ll N k j B) {r : List Int} {z : Nat} {l : List Nat} (hr : ll[k]? = some r) (hx : r[j]? = some (z : Int)) (hl : B[z]? = some l) : U.Bef ll N k (j + 1) (B.set z (l ++ [k])) := by
  have hz : z < B.length := (List.getElem?_eq_some_iff.1 hl).1
  refine ⟨by rw [List.length_set]; exact h.len, ?_, ?_⟩
  · intro z' l' hl' p
    rw [List.getElem?_set] at hl'
    by_cases e : z = z'
    · subst e
      rw [if_pos rfl, if_pos hz] at hl'
      obtain rfl : l ++ [k] = l' := by simpa using hl'
      rw [List.mem_append, h.mem z l hl p]
      constructor
      · rintro ((h1 | ⟨e, r', j', h1, h2, h3⟩) | h1)
        · exact .inl h1
        · exact .inr ⟨e, r', j', h1, by omega, h3⟩
        · exact .inr ⟨by simpa using h1, r, j, hr, by omega, hx⟩
      · rintro (h1 | ⟨e, r', j', h1, h2, h3⟩)
        · exact .inl (.inl h1)
        · exact .inr (by simp [e])
    · rw [if_neg e] at hl'
      rw [h.mem z' l' hl' p]
      constructor
      · rintro (h1 | ⟨e, r', j', h1, h2, h3⟩)
        · exact .inl h1
        · exact .inr ⟨e, r', j', h1, by omega, h3⟩
      · rintro (h1 | ⟨e2, r', j', h1, h2, h3⟩)
        · exact .inl h1
        · refine .inr ⟨e2, r', j', h1, ?_, h3⟩
          rw [hr] at h1
          obtain rfl : r = r' := by simpa using h1
          rcases Nat.lt_or_ge j' j with h4 | h4
          · exact h4
          · obtain rfl : j' = j := by omega
            rw [hx] at h3
            have h5 : (z : Int) = (z' : Int) := by simpa using h3
            omega
  · intro x hxm
    rcases List.mem_or_eq_of_mem_set hxm with h1 | h1
    · have := h.short x h1
      omega
    · subst h1
      have := h.short l (List.mem_of_getElem? hl)
      rw [List.length_append, List.length_singleton]
      omega
theorem U.Bef.next {ll : List (List Int)} {N k : Nat} {B : List (List Nat)} (h : U.Bef ll N k 8 B) {r : List Int} (hr : ll[k]? = some r) (h8 : r.length = 8) : U.Bef ll N (k + 1) 0 B := by
  refine ⟨h.len, ?_, fun l hl => by have := h.short l hl; omega⟩
  intro z l hl p
  rw [h.mem z l hl p]
  constructor
  · rintro (h1 | ⟨e, r', j', h1, h2, h3⟩)
    · exact .inl ⟨by omega, h1.2⟩
    · subst e
      exact .inl ⟨by omega, r', j', h1, h3⟩
  · rintro (⟨h1, h2⟩ | ⟨_, r', j', _, h2, _⟩)
    · by_cases e : p = k
      · subst e
        obtain ⟨r', j', h3, h4⟩ := h2
        rw [hr] at h3
        obtain rfl : r = r' := by simpa using h3
        refine .inr ⟨rfl, r, j', hr, ?_, h4⟩
        have := (List.getElem?_eq_some_iff.1 h4).1
        omega
      · exact .inl ⟨by omega, h2⟩
    · omega
theorem U.Bef.all {ll : List (List Int)} {N : Nat} {B : List (List Nat)} (h : U.Bef ll N N 0 B) (hN : ll.length = N) {z : Nat} {l : List Nat} (hl : B[z]? = some l) (p : Nat) : p ∈ l ↔ U.Edge ll p z := by
  rw [h.mem z l hl p]
  constructor
  · rintro (h1 | ⟨_, r', j', _, h2, _⟩)
    · exact h1.2
    · omega
  · intro h1
    refine .inl ⟨?_, h1⟩
    obtain ⟨r, j, h2, _⟩ := h1
    have := (List.getElem?_eq_some_iff.1 h2).1
    omega

end Go.Proofs.Ytonchdhchaiikaa

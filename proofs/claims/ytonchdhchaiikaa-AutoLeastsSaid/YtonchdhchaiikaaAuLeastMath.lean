/- The least word, out of how far each state is from a final one. -/
import Derived.Test.YtonchdhchaiikaaAuDistMath
namespace Go.Proofs.Ytonchdhchaiikaa

def U.near (D : List Int) (d : Int) (z : Int) : Bool := decide (0 ≤ z) && U.lk D z.toNat == d
def U.path (ll : List (List Int)) (D : List Int) : Nat → Nat → List Int
  | 0, _ => []
  | d + 1, s => (((ll[s]?.getD []).findIdx (U.near D d) : Nat) : Int) :: U.path ll D d (((ll[s]?.getD [])[(ll[s]?.getD []).findIdx (U.near D d)]?.getD 0).toNat)
def U.leastD (ll : List (List Int)) (D : List Int) : List Int × Nat := if U.lk D 0 < 0 then ([], 7) else (U.path ll D (U.lk D 0).toNat 0, 0)
/-- the first place, found -/
theorem findIdx_first {α : Type} (p : α → Bool) : ∀ (l : List α) (k : Nat) (x : α), l[k]? = some x → p x = true → (∀ j y, j < k → l[j]? = some y → p y = false) → l.findIdx p = k
  | [], k, x, h, _, _ => by simp at h
  | a :: l, 0, x, h, hp, _ => by
    obtain rfl : a = x := by simpa using h
    rw [List.findIdx_cons, hp]
    rfl
  | a :: l, k + 1, x, h, hp, hn => by
    have h0 : p a = false := hn 0 a (by omega) rfl
    rw [List.findIdx_cons, h0]
    show l.findIdx p + 1 = k + 1
    rw [findIdx_first p l k x (by simpa using h) hp (fun j y hj hy => hn (j + 1) y (by omega) (by simpa using hy))]
/-- one letter more -/
theorem U.path_step {ll : List (List Int)} {D : List Int} {d s k : Nat} {l : List Int} {z : Nat} (hl : ll[s]? = some l) (hz : l[k]? = some (z : Int)) (hn : U.near D d (z : Int) = true) (hf : ∀ j y, j < k → l[j]? = some y → U.near D d y = false) :
    U.path ll D (d + 1) s = (k : Int) :: U.path ll D d z := by
  rw [U.path, hl, Option.getD_some, findIdx_first _ l k _ hz hn hf, hz, Option.getD_some, Int.toNat_natCast]
structure U.IsD (ll : List (List Int)) (fl : List Bool) (D : List Int) : Prop where
  len : D.length = ll.length
  dist : ∀ s, U.Dist ll fl s (U.lk D s)
  most : ∀ s, U.lk D s ≤ (ll.length : Int)
theorem U.IsD.unique {ll : List (List Int)} {fl : List Bool} {D E : List Int} (h : U.IsD ll fl D) (h' : U.IsD ll fl E) : D = E := by
  apply List.ext_getElem?
  intro s
  by_cases hs : s < ll.length
  · rw [U.lk_of (by rw [h.len]; exact hs), U.lk_of (by rw [h'.len]; exact hs), (h.dist s).unique (h'.dist s)]
  · rw [List.getElem?_eq_none (by rw [h.len]; omega), List.getElem?_eq_none (by rw [h'.len]; omega)]
theorem U.IsD.lo {ll : List (List Int)} {fl : List Bool} {D : List Int} (h : U.IsD ll fl D) (s : Nat) : -1 ≤ U.lk D s := by
  rcases h.dist s with ⟨e, _⟩ | ⟨k, e, _⟩ <;> rw [e] <;> omega
/-- a state that is not final has a letter that leads nearer -/
theorem U.IsD.nearer {ll : List (List Int)} {fl : List Bool} {D : List Int} (h : U.IsD ll fl D) {s d : Nat} (hd : U.lk D s = ((d + 1 : Nat) : Int)) {l : List Int} (hl : ll[s]? = some l) : l.any (U.near D d) = true := by
  rcases h.dist s with ⟨e, _⟩ | ⟨k, e, hk⟩
  · omega
  · obtain rfl : k = d + 1 := by omega
    obtain ⟨z, ⟨r, j, hr, hj⟩, hz⟩ := hk.1
    rw [hl] at hr
    obtain rfl : l = r := by simpa using hr
    refine List.any_eq_true.2 ⟨(z : Int), List.mem_of_getElem? hj, ?_⟩
    unfold U.near
    have hzd : U.lk D z = (d : Int) := by
      rcases h.dist z with ⟨_, h2⟩ | ⟨k', e', hk'⟩
      · exact absurd hz (h2 d)
      · rw [e']
        rcases Nat.lt_trichotomy k' d with hlt | e2 | hgt
        · exact absurd ⟨z, ⟨l, j, hl, hj⟩, hk'.1⟩ (hk.2 (k' + 1) (by omega))
        · rw [e2]
        · exact absurd hz (hk'.2 d hgt)
    rw [Int.toNat_natCast, hzd]
    simp
theorem U.near_iff {D : List Int} {d z : Int} : U.near D d z = true ↔ 0 ≤ z ∧ U.lk D z.toNat = d := by
  unfold U.near
  simp

/-! the document's table: N rounds -/
structure U.Aw (ll : List (List Int)) (fl : List Bool) (N r i j : Nat) (aw : List Int) : Prop where
  len : aw.length = N
  lo : ∀ x ∈ aw, 0 ≤ x ∧ x ≤ 1000
  snd : ∀ s, s < N → U.lk aw s = 1000 ∨ ∃ k : Nat, U.lk aw s = (k : Int) ∧ U.Rch ll fl k s
  cpl : ∀ s k, k ≤ r → U.Rch ll fl k s → U.lk aw s ≤ (k : Int)
  cur : ∀ s, s < i → U.Rch ll fl (r + 1) s → U.lk aw s ≤ ((r + 1 : Nat) : Int)
  let_ : ∀ (l : List Int) (j' z : Nat), ll[i]? = some l → j' < j → l[j']? = some (z : Int) → U.Rch ll fl r z → U.lk aw i ≤ ((r + 1 : Nat) : Int)
def U.farOr (b : Bool) : Int := if b then 0 else 1000
theorem U.Aw.start (ll : List (List Int)) (fl : List Bool) : U.Aw ll fl fl.length 0 0 0 (fl.map U.farOr) := by
  have hL : ∀ s, s < fl.length → U.lk (fl.map U.farOr) s = if fl[s]? = some true then 0 else 1000 := by
    intro s hs
    unfold U.lk
    rw [List.getElem?_map, List.getElem?_eq_getElem hs]
    cases fl[s] <;> rfl
  refine ⟨by simp, ?_, ?_, ?_, fun s hs => by omega, fun l j' z _ h => by omega⟩
  · intro x hx
    obtain ⟨b, _, rfl⟩ := List.mem_map.1 hx
    cases b <;> (unfold U.farOr; simp)
  · intro s hs
    rw [hL s hs]
    by_cases h : fl[s]? = some true
    · rw [if_pos h]
      exact .inr ⟨0, rfl, h⟩
    · rw [if_neg h]
      exact .inl rfl
  · intro s k hk hr
    obtain rfl : k = 0 := by omega
    have h : fl[s]? = some true := hr
    rw [hL s (List.getElem?_eq_some_iff.1 h).1, if_pos h]
    exact Int.le_refl _
theorem U.Aw.skip {ll : List (List Int)} {fl : List Bool} {N r i j : Nat} {aw : List Int} (h : U.Aw ll fl N r i j aw) {l : List Int} {x : Int} (hl : ll[i]? = some l) (hx : l[j]? = some x) (hn : x < 0) : U.Aw ll fl N r i (j + 1) aw := by
  refine ⟨h.len, h.lo, h.snd, h.cpl, h.cur, ?_⟩
  intro l' j' z hl' hj' hz hr
  rcases Nat.lt_or_ge j' j with h1 | h1
  · exact h.let_ l' j' z hl' h1 hz hr
  · obtain rfl : j' = j := by omega
    rw [hl] at hl'
    obtain rfl : l = l' := by simpa using hl'
    rw [hx] at hz
    have : x = (z : Int) := by simpa using hz
    omega
theorem U.Aw.put {ll : List (List Int)} {fl : List Bool} {N r i j : Nat} {aw : List Int} (h : U.Aw ll fl N r i j aw) {l : List Int} {z : Nat} (hi : i < N) (hzN : z < N) (hl : ll[i]? = some l) (hx : l[j]? = some (z : Int)) :
    U.Aw ll fl N r i (j + 1) (aw.set i (min (U.lk aw i) (U.lk aw z + 1))) := by
  have hil : i < aw.length := by rw [h.len]; exact hi
  have hL := U.lk_set hil (min (U.lk aw i) (U.lk aw z + 1))
  have hle : ∀ s, U.lk (aw.set i (min (U.lk aw i) (U.lk aw z + 1))) s ≤ U.lk aw s := by
    intro s
    rw [hL]
    split
    · rename_i e
      subst e
      exact Int.min_le_left _ _
    · exact Int.le_refl _
  have hi0 := h.lo _ (List.mem_of_getElem? (U.lk_of hil))
  have hz0 := h.lo _ (List.mem_of_getElem? (U.lk_of (by rw [h.len]; exact hzN)))
  refine ⟨by rw [List.length_set]; exact h.len, ?_, ?_, ?_, ?_, ?_⟩
  · intro x hx
    rcases List.mem_or_eq_of_mem_set hx with hx | rfl
    · exact h.lo x hx
    · omega
  · intro s hs
    rw [hL]
    by_cases e : s = i
    · subst e
      rw [if_pos rfl]
      by_cases hm : U.lk aw s ≤ U.lk aw z + 1
      · rw [Int.min_eq_left hm]
        exact h.snd s hs
      · rw [Int.min_eq_right (by omega)]
        rcases h.snd z hzN with h1 | ⟨k, h1, h2⟩
        · omega
        · exact .inr ⟨k + 1, by omega, z, ⟨l, j, hl, hx⟩, h2⟩
    · rw [if_neg e]
      exact h.snd s hs
  · intro s k hk hr
    exact Int.le_trans (hle s) (h.cpl s k hk hr)
  · intro s hs hr
    exact Int.le_trans (hle s) (h.cur s hs hr)
  · intro l' j' z' hl' hj' hz' hr
    rcases Nat.lt_or_ge j' j with h1 | h1
    · exact Int.le_trans (hle i) (h.let_ l' j' z' hl' h1 hz' hr)
    · obtain rfl : j' = j := by omega
      rw [hl] at hl'
      obtain rfl : l = l' := by simpa using hl'
      rw [hx] at hz'
      obtain rfl : z = z' := by
        have : (z : Int) = (z' : Int) := by simpa using hz'
        omega
      have := h.cpl z r (Nat.le_refl _) hr
      rw [hL, if_pos rfl]
      omega
theorem U.Aw.next {ll : List (List Int)} {fl : List Bool} {N r i : Nat} {aw : List Int} (h : U.Aw ll fl N r i 8 aw) {l : List Int} (hl : ll[i]? = some l) (h8 : l.length = 8) : U.Aw ll fl N r (i + 1) 0 aw := by
  refine ⟨h.len, h.lo, h.snd, h.cpl, ?_, fun l j' z _ h => by omega⟩
  intro s hs hr
  by_cases e : s = i
  · subst e
    obtain ⟨z, ⟨l', j', hl', hj'⟩, hz⟩ := hr
    have hj8 : j' < 8 := by
      rw [hl] at hl'
      obtain rfl : l = l' := by simpa using hl'
      have := (List.getElem?_eq_some_iff.1 hj').1
      omega
    exact h.let_ l' j' z hl' hj8 hj' hz
  · exact h.cur s (by omega) hr
theorem U.Aw.round {ll : List (List Int)} {fl : List Bool} {N r : Nat} {aw : List Int} (h : U.Aw ll fl N r N 0 aw) (hN : ll.length = N) : U.Aw ll fl N (r + 1) 0 0 aw := by
  refine ⟨h.len, h.lo, h.snd, ?_, fun s hs => by omega, fun l j' z _ h => by omega⟩
  intro s k hk hr
  by_cases e : k = r + 1
  · subst e
    have hr2 := hr
    obtain ⟨z, ⟨l', j', hl', _⟩, _⟩ := hr2
    have := (List.getElem?_eq_some_iff.1 hl').1
    exact h.cur s (by omega) hr
  · exact h.cpl s k (by omega) hr
/-- what the table says at the end -/
theorem U.Aw.done {ll : List (List Int)} {fl : List Bool} {N : Nat} {aw : List Int} (h : U.Aw ll fl N N 0 0 aw) (hN : ll.length = N) (h40 : N ≤ 40) {D : List Int} (hD : U.IsD ll fl D) {s : Nat} (hs : s < N) : U.lk aw s = if U.lk D s < 0 then 1000 else U.lk D s := by
  rcases hD.dist s with ⟨e, hn⟩ | ⟨k, e, hk⟩
  · rw [e, if_pos (by decide)]
    rcases h.snd s hs with h1 | ⟨k, _, h2⟩
    · exact h1
    · exact absurd h2 (hn k)
  · have hm := hD.most s
    rw [e, if_neg (by omega)]
    have h1 := h.cpl s k (by omega) hk.1
    have h0 := (h.lo _ (List.mem_of_getElem? (U.lk_of (show s < aw.length by rw [h.len]; exact hs)))).1
    rcases h.snd s hs with h2 | ⟨k', h2, h3⟩
    · omega
    · rcases Nat.lt_or_ge k' k with h4 | h4
      · exact absurd h3 (hk.2 k' h4)
      · omega

end Go.Proofs.Ytonchdhchaiikaa

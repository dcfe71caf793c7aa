/- Run as plain data. -/
import Derived.Test.YtonchdhchaiikaaAuMath
namespace Go.Proofs.Ytonchdhchaiikaa

def U.noLetter (x : Int) : Bool := decide (x < 0) || decide (8 ≤ x)
def U.Au.step (a : U.Au) (s x : Int) : Int := if s < 0 then -1 else (a.next[s.toNat]?.getD [])[x.toNat]?.getD (-1)
def U.Au.run (a : U.Au) (l : List Int) : Int × Nat :=
  if a.may = false then (0, 4) else if 40 < l.length then (0, 1) else if l.any U.noLetter = true then (0, 2) else (l.foldl a.step 0, 0)
theorem U.noLetter_false {x : Int} : U.noLetter x = false ↔ 0 ≤ x ∧ x < 8 := by
  unfold U.noLetter
  simp
theorem U.Au.step_no (a : U.Au) {s : Int} (x : Int) (h : s < 0) : a.step s x = -1 := by unfold U.Au.step; rw [if_pos h]
theorem U.Au.fold_no (a : U.Au) : ∀ (l : List Int), l.foldl a.step (-1) = -1
  | [] => rfl
  | x :: r => by rw [List.foldl_cons, a.step_no x (by omega)]; exact U.Au.fold_no a r
/-- where a state leads -/
theorem U.Au.Ok.step {a : U.Au} (h : a.Ok) {s : Nat} {x : Nat} (hs : s < a.next.length) (hx : x < 8) :
    ∃ (l : List Int) (z : Int), a.next[s]? = some l ∧ l[x]? = some z ∧ a.step (s : Int) (x : Int) = z ∧ l.length = 8 ∧ -1 ≤ z ∧ z < (a.next.length : Int) := by
  have h1 := List.getElem?_eq_getElem hs
  have h2 := h.at h1
  have h3 := List.getElem?_eq_getElem (l := a.next[s]) (i := x) (by omega)
  refine ⟨_, _, h1, h3, ?_, h2.1, h2.2 _ (List.mem_of_getElem? h3)⟩
  unfold U.Au.step
  rw [if_neg (by omega), Int.toNat_natCast, h1, Option.getD_some, Int.toNat_natCast, h3, Option.getD_some]
theorem U.all_letters {l : List Int} (h : l.any U.noLetter = false) {k : Nat} {x : Int} (hx : l[k]? = some x) : 0 ≤ x ∧ x < 8 := by
  rw [List.any_eq_false] at h
  exact U.noLetter_false.1 (by simpa using h x (List.mem_of_getElem? hx))

end Go.Proofs.Ytonchdhchaiikaa

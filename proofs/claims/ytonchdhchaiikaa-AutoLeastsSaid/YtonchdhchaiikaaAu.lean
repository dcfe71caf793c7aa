/- Automata in memory. -/
import Derived.Test.YtonchdhchaiikaaAuMath
import Derived.Test.YtonchdhchaiikaaWords
namespace Go.Proofs.Ytonchdhchaiikaa
open Go.RowKit

/-- a slice of elements of one cell that read as these, in a block of S -/
def RdL {α : Type} (R : Value → α → Prop) (w : World) (S : Nat → Prop) (v : Value) (l : List α) : Prop :=
  ∃ ao cap, v = .slice ao l.length cap ∧ l.length ≤ cap ∧ cap ≤ maxLen ∧ (l = [] ∨ ∃ g o, ao = some ⟨g, o, none⟩ ∧ S g ∧ ∀ i x, l[i]? = some x → ∃ pv, w.cell? ⟨g, o + i, none⟩ = some pv ∧ R pv x)
theorem RdL.form {α : Type} {R : Value → α → Prop} {w : World} {S : Nat → Prop} {v : Value} {l : List α} (h : RdL R w S v l) : ∃ ao cap, v = .slice ao l.length cap ∧ l.length ≤ cap ∧ cap ≤ maxLen := by
  obtain ⟨ao, cap, e, h1, h2, _⟩ := h
  exact ⟨ao, cap, e, h1, h2⟩
theorem RdL.keep {α : Type} {R R' : Value → α → Prop} {w w' : World} {S S' : Nat → Prop} {v : Value} {l : List α} (h : RdL R w S v l) (hk : ∀ p : Addr, S p.block → w'.cell? p = w.cell? p) (hS : ∀ b, S b → S' b) (hR : ∀ v x, R v x → R' v x) : RdL R' w' S' v l := by
  obtain ⟨ao, cap, e, h1, h2, h3⟩ := h
  refine ⟨ao, cap, e, h1, h2, ?_⟩
  rcases h3 with h3 | ⟨g, o, e2, hg, hc⟩
  · exact .inl h3
  · refine .inr ⟨g, o, e2, hS g hg, fun i x hx => ?_⟩
    obtain ⟨pv, c, r⟩ := hc i x hx
    exact ⟨pv, (hk _ hg).trans c, hR _ _ r⟩
theorem RdL.at {α : Type} {R : Value → α → Prop} {w : World} {S : Nat → Prop} {v : Value} {l : List α} (h : RdL R w S v l) {i : Nat} {x : α} (hx : l[i]? = some x) :
    ∃ g o cap pv, v = .slice (some ⟨g, o, none⟩) l.length cap ∧ S g ∧ w.cell? ⟨g, o + i, none⟩ = some pv ∧ R pv x := by
  obtain ⟨ao, cap, rfl, h1, h2, rfl | ⟨g, o, rfl, hg, hc⟩⟩ := h
  · cases hx
  · obtain ⟨pv, c, r⟩ := hc i x hx
    exact ⟨g, o, cap, pv, rfl, hg, c, r⟩
/-- numbers -/
abbrev RdI (w : World) (S : Nat → Prop) (v : Value) (l : List Int) : Prop := RdL (fun v z => v = .int .i64 z) w S v l
/-- Bools -/
abbrev RdB (w : World) (S : Nat → Prop) (v : Value) (l : List Bool) : Prop := RdL (fun v z => v = .bool z) w S v l
/-- rows of numbers -/
abbrev RdII (w : World) (S : Nat → Prop) (v : Value) (l : List (List Int)) : Prop := RdL (fun v r => RdI w S v r) w S v l
theorem RdI.keep {w w' : World} {S S' : Nat → Prop} {v : Value} {l : List Int} (h : RdI w S v l) (hk : ∀ p : Addr, S p.block → w'.cell? p = w.cell? p) (hS : ∀ b, S b → S' b) : RdI w' S' v l := RdL.keep h hk hS fun _ _ h => h
theorem RdB.keep {w w' : World} {S S' : Nat → Prop} {v : Value} {l : List Bool} (h : RdB w S v l) (hk : ∀ p : Addr, S p.block → w'.cell? p = w.cell? p) (hS : ∀ b, S b → S' b) : RdB w' S' v l := RdL.keep h hk hS fun _ _ h => h
theorem RdII.keep {w w' : World} {S S' : Nat → Prop} {v : Value} {l : List (List Int)} (h : RdII w S v l) (hk : ∀ p : Addr, S p.block → w'.cell? p = w.cell? p) (hS : ∀ b, S b → S' b) : RdII w' S' v l := RdL.keep h hk hS fun _ _ h => RdI.keep h hk hS
theorem RdI.below {w w' : World} {B B' : Nat} {v : Value} {l : List Int} (h : RdI w (· < B) v l) (hb : Below B w w') (hB : B ≤ B') : RdI w' (· < B') v l := RdI.keep h (fun _ hp => hb.cell hp) (fun _ hp => Nat.lt_of_lt_of_le hp hB)
theorem RdB.below {w w' : World} {B B' : Nat} {v : Value} {l : List Bool} (h : RdB w (· < B) v l) (hb : Below B w w') (hB : B ≤ B') : RdB w' (· < B') v l := RdB.keep h (fun _ hp => hb.cell hp) (fun _ hp => Nat.lt_of_lt_of_le hp hB)
theorem RdII.below {w w' : World} {B B' : Nat} {v : Value} {l : List (List Int)} (h : RdII w (· < B) v l) (hb : Below B w w') (hB : B ≤ B') : RdII w' (· < B') v l := RdII.keep h (fun _ hp => hb.cell hp) (fun _ hp => Nat.lt_of_lt_of_le hp hB)
/-- an automaton: the values of its two fields -/
structure RdAu (w : World) (S : Nat → Prop) (nv fv : Value) (a : U.Au) : Prop where
  next : RdII w S nv a.next
  final : RdB w S fv a.final
theorem RdAu.below {w w' : World} {B B' : Nat} {nv fv : Value} {a : U.Au} (h : RdAu w (· < B) nv fv a) (hb : Below B w w') (hB : B ≤ B') : RdAu w' (· < B') nv fv a := ⟨h.next.below hb hB, h.final.below hb hB⟩
/-- a value that is an automaton -/
def auVal (nv fv : Value) : Value := .agg #[nv, fv]
def auObj (nv fv : Value) : Obj := .cells #[nv, fv] 25 (0, 0)
theorem au_cells {w : World} {b : Nat} {x0 x1 : Value} {T : TypeId} {f : Nat × Nat} (h : w.heap[b]? = some (.cells #[x0, x1] T f)) : w.cell? ⟨b, 0, none⟩ = some x0 ∧ w.cell? ⟨b, 1, none⟩ = some x1 := by
  refine ⟨?_, ?_⟩ <;> rw [Lib.cell_of_heap h] <;> rfl
/-- a letter's cell of a row of rows -/
theorem RdII.cell {w : World} {S : Nat → Prop} {v : Value} {ll : List (List Int)} (h : RdII w S v ll) {i k : Nat} {l : List Int} {z : Int} (hl : ll[i]? = some l) (hz : l[k]? = some z) :
    ∃ g o cap g2 o2 cap2, v = .slice (some ⟨g, o, none⟩) ll.length cap ∧ S g ∧ S g2 ∧ w.cell? ⟨g, o + i, none⟩ = some (.slice (some ⟨g2, o2, none⟩) l.length cap2) ∧ w.cell? ⟨g2, o2 + k, none⟩ = some (.int .i64 z) := by
  obtain ⟨g, o, cap, pv, e, hg, hc, r⟩ := RdL.at h hl
  obtain ⟨g2, o2, cap2, pv2, rfl, hg2, hc2, rfl⟩ := RdL.at r hz
  exact ⟨g, o, cap, g2, o2, cap2, e, hg, hg2, hc, hc2⟩

end Go.Proofs.Ytonchdhchaiikaa

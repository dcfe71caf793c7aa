/- Machines in memory: rows of eight numbers. -/
import Derived.Test.YtonchdhchaiikaaAuBlk
namespace Go.Proofs.Ytonchdhchaiikaa
open Go.RowKit

/-- a slice of rows of eight numbers, in a block of S -/
def RdR8 (w : World) (S : Nat → Prop) (v : Value) (ll : List (List Int)) : Prop :=
  ∃ ao cap, v = .slice ao ll.length cap ∧ ll.length ≤ cap ∧ cap ≤ maxLen ∧ (∀ l ∈ ll, l.length = 8) ∧
    (ll = [] ∨ ∃ g o, ao = some ⟨g, o, none⟩ ∧ S g ∧ ∀ i l k z, ll[i]? = some l → l[k]? = some z → w.cell? ⟨g, o + i * 8 + k, none⟩ = some (.int .i64 z))
theorem RdR8.form {w : World} {S : Nat → Prop} {v : Value} {ll : List (List Int)} (h : RdR8 w S v ll) : ∃ ao cap, v = .slice ao ll.length cap ∧ ll.length ≤ cap ∧ cap ≤ maxLen := by
  obtain ⟨ao, cap, e, h1, h2, _⟩ := h
  exact ⟨ao, cap, e, h1, h2⟩
theorem RdR8.keep {w w' : World} {S S' : Nat → Prop} {v : Value} {ll : List (List Int)} (h : RdR8 w S v ll) (hk : ∀ p : Addr, S p.block → w'.cell? p = w.cell? p) (hS : ∀ b, S b → S' b) : RdR8 w' S' v ll := by
  obtain ⟨ao, cap, e, h1, h2, h3, h4⟩ := h
  refine ⟨ao, cap, e, h1, h2, h3, ?_⟩
  rcases h4 with h4 | ⟨g, o, e2, hg, hc⟩
  · exact .inl h4
  · exact .inr ⟨g, o, e2, hS g hg, fun i l k z hl hz => (hk _ hg).trans (hc i l k z hl hz)⟩
theorem RdR8.below {w w' : World} {B B' : Nat} {v : Value} {ll : List (List Int)} (h : RdR8 w (· < B) v ll) (hb : Below B w w') (hB : B ≤ B') : RdR8 w' (· < B') v ll := h.keep (fun _ hp => hb.cell hp) (fun _ hp => Nat.lt_of_lt_of_le hp hB)
theorem list8 {l : List Int} (h : l.length = 8) : ∃ a b c d e f g i, l = [a, b, c, d, e, f, g, i] := by
  match l, h with
  | [a, b, c, d, e, f, g, i], _ => exact ⟨a, b, c, d, e, f, g, i, rfl⟩
/-- a row's cells -/
theorem RdR8.row {w : World} {S : Nat → Prop} {v : Value} {ll : List (List Int)} (h : RdR8 w S v ll) {i : Nat} {l : List Int} (hl : ll[i]? = some l) :
    ∃ g o cap, v = .slice (some ⟨g, o, none⟩) ll.length cap ∧ S g ∧ l.length = 8 ∧ ∀ k z, l[k]? = some z → w.cell? ⟨g, o + i * 8 + k, none⟩ = some (.int .i64 z) := by
  obtain ⟨ao, cap, rfl, _, _, h3, rfl | ⟨g, o, rfl, hg, hc⟩⟩ := h
  · cases hl
  · exact ⟨g, o, cap, rfl, hg, h3 l (List.mem_of_getElem? hl), fun k z hz => hc i l k z hl hz⟩

end Go.Proofs.Ytonchdhchaiikaa

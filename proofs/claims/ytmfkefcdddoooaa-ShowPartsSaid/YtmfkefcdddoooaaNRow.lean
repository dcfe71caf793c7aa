/- Nodes in a row of the call's own that grows; what their slices hold lies elsewhere. -/
import Derived.Test.YtmfkefcdddoooaaNode
import Derived.Deep.AppendLies
namespace Go.Proofs.Ytmfkefcdddoooaa
open Go.RowKit

/-- blocks where the parts may lie: below T, or between lo and hi but for the row's own -/
abbrev Elsew (T lo hi : Nat) (v : Value) (b : Nat) : Prop := b < T ∨ (lo ≤ b ∧ b < hi ∧ some b ≠ v.ownBlock)
/-- blocks below T, or between lo and hi -/
abbrev Within (T lo hi : Nat) (b : Nat) : Prop := b < T ∨ (lo ≤ b ∧ b < hi)
def NRow (T : Nat) (w0 w : World) (v : Value) (xs : List NV) : Prop :=
  w.ownsRow w0.heap.size 45 4 v xs.length (ndCells xs) ∧ (∀ x ∈ xs, Done w (Elsew T w0.heap.size w.heap.size v) x) ∧ Below w0.heap.size w0 w ∧ T ≤ w0.heap.size
theorem NRow.nil {T : Nat} {w0 w : World} (hT : T ≤ w0.heap.size) (h : Below w0.heap.size w0 w) : NRow T w0 w (.slice none 0 0) [] := ⟨World.ownsRow_nil _ _ _ _, (fun x hx => by cases hx), h, hT⟩
theorem NRow.later {T : Nat} {w0 w w2 : World} {v : Value} {xs : List NV} (h : NRow T w0 w v xs) (hb : Below w.heap.size w w2) : NRow T w0 w2 v xs := by
  have h3 := h.2.2.1.size
  have h4 := h.2.2.2
  have h5 := hb.size
  refine ⟨own_keep h.1 hb, fun x hx => (h.2.1 x hx).keep (fun p hp => hb.cell ?_) (fun b hb' => ?_), h.2.2.1.trans (hb.mono h3), h4⟩
  · rcases hp with hp | hp
    · omega
    · exact hp.2.1
  · rcases hb' with hb' | ⟨a, b, c⟩
    · exact .inl hb'
    · exact .inr ⟨a, by omega, c⟩
theorem NRow.alloc {T : Nat} {w0 w : World} {v : Value} {xs : List NV} (h : NRow T w0 w v xs) (O : Obj) : NRow T w0 (w.alloc O) v xs := h.later ((Below.refl _ w).alloc (Nat.le_refl _) O)
theorem NRow.put {T : Nat} {w0 w w2 : World} {v : Value} {g cap n : Nat} {xs : List NV} (h : NRow T w0 w v xs) (x : NV) (hx : Done w (Elsew T w0.heap.size w.heap.size v) x)
    (ho : w2.ownsRow w0.heap.size 45 4 (.slice (some ⟨g, 0, none⟩) n cap) (xs.length + 1) (ndCells xs ++ [.string ⟨x.1.name.toArray⟩, x.2.1, .string ⟨x.1.text.toArray⟩, x.2.2])) (hg : w.grownBy w2 v.ownBlock) (hat : v.ownBlock = some g ∨ w.heap.size ≤ g) :
    NRow T w0 w2 (.slice (some ⟨g, 0, none⟩) n cap) (xs ++ [x]) := by
  have h3 := h.2.2.1.size
  have h4 := h.2.2.2
  have h5 := hg.size
  have hlt : ∀ k, v.ownBlock = some k → w0.heap.size ≤ k := fun k hk => (h.1.lt k hk).1
  have hk : ∀ y : NV, Done w (Elsew T w0.heap.size w.heap.size v) y → Done w2 (Elsew T w0.heap.size w2.heap.size (.slice (some ⟨g, 0, none⟩) n cap)) y := fun y hy => hy.keep (fun p hp => by
    rcases hp with hp | ⟨a, b, c⟩
    · exact hg.cell_far p (by omega) (fun e => by have := hlt p.block e.symm; omega)
    · exact hg.cell_far p b c) (fun b hb => by
    rcases hb with hb | ⟨a, b', c⟩
    · exact .inl hb
    · refine .inr ⟨a, by omega, fun e => ?_⟩
      have e2 : b = g := by simpa [Value.ownBlock] using e
      subst e2
      rcases hat with e3 | e3
      · exact c e3.symm
      · omega)
  refine ⟨?_, ?_, h.2.2.1.grown hg h.2.2.1.size (fun k hk => (h.1.lt k hk).1), h4⟩
  · rw [List.length_append, ndCells_append]
    exact ho
  · intro y hy
    rcases List.mem_append.1 hy with hy | hy
    · exact hk y (h.2.1 y hy)
    · obtain rfl := List.mem_singleton.1 hy
      exact hk y hx
/-- what comes back of it -/
theorem NRow.rd {T : Nat} {w0 w : World} {v : Value} {xs : List NV} (h : NRow T w0 w v xs) : RdNs w (Within T w0.heap.size w.heap.size) v (xs.map (·.1)) := by
  refine RdNs.of_own h.1 (fun x hx => (h.2.1 x hx).keep (fun _ _ => rfl) (fun b hb => ?_)) (fun g hg => .inr (h.1.lt g hg))
  rcases hb with hb | ⟨a, b', _⟩
  · exact .inl hb
  · exact .inr ⟨a, b'⟩
/-- what a call made behind the row: no block of the row's -/
theorem NRow.apart {T : Nat} {w0 w w2 : World} {v : Value} {xs : List NV} (h : NRow T w0 w v xs) {b hi : Nat} (hb : Within T w.heap.size hi b) (hhi : hi ≤ w2.heap.size) : Elsew T w0.heap.size w2.heap.size v b := by
  have h3 := h.2.2.1.size
  rcases hb with hb | ⟨a, b'⟩
  · exact .inl hb
  · refine .inr ⟨by omega, by omega, fun e => ?_⟩
    have := (h.1.lt _ e.symm).2
    omega
theorem cells4 {w : World} {n : Nat} {a b c d : Value} {t : TypeId} (h : w.heap[n]? = some (.cells #[a, b, c, d] t (0, 0))) : ∀ (j : Nat) u, [a, b, c, d][j]? = some u → w.cell? ((⟨n, 0, none⟩ : Addr).add j) = some u := by
  intro j u hj
  have e0 : (⟨n, 0, none⟩ : Addr).add j = ⟨n, j, none⟩ := by cases j <;> simp [Addr.add]
  rw [e0, Lib.cell_of_heap h]
  match j, hj with
  | 0, hj => simpa using hj
  | 1, hj => simpa using hj
  | 2, hj => simpa using hj
  | 3, hj => simpa using hj
  | (j + 4), hj => simp at hj
theorem part_heap {w : World} {b : Nat} {x0 x1 x2 x3 : Value} {T : TypeId} {f : Nat × Nat} (h : w.heap[b]? = some (.cells #[x0, x1, x2, x3] T f)) (y3 : Value) : (w.setCell ⟨b, 3, none⟩ y3).heap[b]? = some (.cells #[x0, x1, x2, y3] T f) := by
  simp [World.setCell, Array.getElem?_modify, h]
theorem nd_frozen {w : World} {b : Nat} {x0 x1 x2 x3 : Value} {T : TypeId} (h : w.heap[b]? = some (.cells #[x0, x1, x2, x3] T (0, 0))) : w.frozen? ⟨b, 0, none⟩ = false ∧ w.frozen? ⟨b, 1, none⟩ = false ∧ w.frozen? ⟨b, 2, none⟩ = false ∧ w.frozen? ⟨b, 3, none⟩ = false := ⟨Lib.frozen_of_heap h 0, Lib.frozen_of_heap h 1, Lib.frozen_of_heap h 2, Lib.frozen_of_heap h 3⟩

end Go.Proofs.Ytmfkefcdddoooaa

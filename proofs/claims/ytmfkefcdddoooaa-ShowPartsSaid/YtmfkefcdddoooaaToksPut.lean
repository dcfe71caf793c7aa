/- Tokens in a row of the call's own that grows. -/
import Derived.Test.YtmfkefcdddoooaaRdKC
namespace Go.Proofs.Ytmfkefcdddoooaa
open Go.RowKit

/-- tokens in a row of the call's own, with their attributes -/
def Made (w w' : World) (v : Value) (l : List (U.Tok × Value)) : Prop :=
  w'.ownsRow w.heap.size 31 5 v l.length (tokCells l) ∧ (∀ x ∈ l, w'.ownsRow w.heap.size 48 2 x.2 x.1.attrs.length (attCells x.1.attrs)) ∧ Below w.heap.size w w' ∧ ∀ x ∈ l, x.1.attrs.length ≤ 1048576
theorem Made.alloc {w wr : World} {v : Value} {l : List (U.Tok × Value)} (h : Made w wr v l) (o : Obj) : Made w (wr.alloc o) v l :=
  ⟨h.1.alloc _, fun x hx => (h.2.1 x hx).alloc _, h.2.2.1.alloc h.2.2.1.size _, h.2.2.2⟩
theorem Made.later {w wr w2 : World} {v : Value} {l : List (U.Tok × Value)} (h : Made w wr v l) (hb : Below wr.heap.size wr w2) : Made w w2 v l :=
  ⟨own_keep h.1 hb, fun x hx => own_keep (h.2.1 x hx) hb, h.2.2.1.trans (hb.mono h.2.2.1.size), h.2.2.2⟩
theorem Made.nil {w wr : World} (h : Below w.heap.size w wr) : Made w wr (.slice none 0 0) [] := ⟨World.ownsRow_nil _ _ _ _, (fun x hx => by cases hx), h, (fun x hx => by cases hx)⟩
theorem Made.put {w wr w2 : World} {v v2 : Value} {l : List (U.Tok × Value)} (h : Made w wr v l) (x : U.Tok) (av : Value) (hx : wr.ownsRow w.heap.size 48 2 av x.attrs.length (attCells x.attrs)) (hxl : x.attrs.length ≤ 1048576)
    (ho : w2.ownsRow w.heap.size 31 5 v2 (l.length + 1) (tokCells l ++ [.int .i64 (x.kind : Nat), .string ⟨x.name.toArray⟩, av, .bool x.self, .string ⟨x.text.toArray⟩])) (hg : wr.grownBy w2 v.ownBlock) : Made w w2 v2 (l ++ [(x, av)]) := by
  have hatt : ∀ (y : Value) (al : List U.Att), wr.ownsRow w.heap.size 48 2 y al.length (attCells al) → w2.ownsRow w.heap.size 48 2 y al.length (attCells al) := fun y al hy => hy.kept (row := v.ownBlock) hg (own_apart hy h.1 (by decide))
  refine ⟨?_, ?_, h.2.2.1.grown hg h.2.2.1.size (fun k hk => (h.1.lt k hk).1), ?_⟩
  · rw [List.length_append, tokCells_append]
    exact ho
  · intro y hy
    rcases List.mem_append.1 hy with hy | hy
    · exact hatt _ _ (h.2.1 y hy)
    · obtain rfl := List.mem_singleton.1 hy
      exact hatt _ _ hx
  · intro y hy
    rcases List.mem_append.1 hy with hy | hy
    · exact h.2.2.2 y hy
    · obtain rfl := List.mem_singleton.1 hy
      exact hxl
theorem Made.rd {w w' : World} {v : Value} {l : List (U.Tok × Value)} (h : Made w w' v l) : RdT w' w'.heap.size v (l.map (·.1)) := RdT.of_own h.1 h.2.1 h.2.2.2
theorem Made.rdKC {w w' : World} {v : Value} {l : List (U.Tok × Value)} (h : Made w w' v l) : RdKC w' w'.heap.size v ((l.map (·.1)).map U.Tok.tk) := by
  refine ⟨h.rd.rdK, Cap.of_own h.1, fun ao n cap e i t ht g o e2 av hc => ?_⟩
  obtain ⟨x, hx⟩ : ∃ x, l[i]? = some x := by
    rw [List.map_map, List.getElem?_map] at ht
    cases hx : l[i]? with
    | none => rw [hx] at ht; cases ht
    | some x => exact ⟨x, rfl⟩
  obtain ⟨g', cap', ev, _, _, c2, _, _⟩ := row_tok h.1 hx
  rw [e] at ev
  injection ev with e1 _ _
  rw [e2] at e1
  injection e1 with e1
  injection e1 with e3 e4
  subst e3
  subst e4
  rw [Nat.zero_add, c2] at hc
  injection hc with hc
  exact hc ▸ Cap.of_own (h.2.1 x (List.mem_of_getElem? hx))
theorem cells5 {w : World} {n : Nat} {a b c d e : Value} {t : TypeId} (h : w.heap[n]? = some (.cells #[a, b, c, d, e] t (0, 0))) : ∀ (j : Nat) u, [a, b, c, d, e][j]? = some u → w.cell? ((⟨n, 0, none⟩ : Addr).add j) = some u := by
  intro j u hj
  have e0 : (⟨n, 0, none⟩ : Addr).add j = ⟨n, j, none⟩ := by cases j <;> simp [Addr.add]
  rw [e0, Lib.cell_of_heap h]
  match j, hj with
  | 0, hj => simpa using hj
  | 1, hj => simpa using hj
  | 2, hj => simpa using hj
  | 3, hj => simpa using hj
  | 4, hj => simpa using hj
  | (j + 5), hj => simp at hj

end Go.Proofs.Ytmfkefcdddoooaa

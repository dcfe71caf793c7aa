/- tok's parser with its tokens; addText. -/
import Derived.Test.YtkmjngpgngkalaaDoorTag
import Derived.Deep.AppendLies
import Derived.Handy
import Derived.Outline
namespace Go.Proofs.YtkmjngpgngkalaaDoor
open Go.RowKit

/-- the parser and the tokens that it has -/
structure ParW (w wr : World) (bp : Nat) (r : ByteArray) (v : Value) (l : List (U.Tok × Value)) : Prop where
  par : wr.heap[bp]? = some (parBlock r v)
  row : wr.ownsRow (bp + 1) 27 5 v l.length (tokCells l)
  atts : ∀ x ∈ l, wr.ownsRow w.heap.size 42 2 x.2 x.1.attrs.length (attCells x.1.attrs)
  below : Below w.heap.size w wr
  bp0 : w.heap.size ≤ bp
  lens : ∀ x ∈ l, x.1.attrs.length ≤ 1048576
theorem att_far {w : World} {B n bp : Nat} {u v : Value} {xs : List Value} {r : ByteArray} (h : w.ownsRow B 42 2 u n xs) (hp : w.heap[bp]? = some (parBlock r v)) : u.ownBlock = none ∨ u.ownBlock ≠ some bp := by
  rcases h.2 with ⟨e, _⟩ | ⟨g, cap, cur, e, _, hg, _⟩
  · rw [e]; exact .inl rfl
  · rw [e]
    right
    intro e0
    have : g = bp := by simpa [Value.ownBlock] using e0
    subst this
    rw [hp] at hg
    unfold parBlock at hg
    injection hg with hg
    injection hg with _ h5 _
    exact absurd h5 (by decide)
theorem row_far {w : World} {B n bp : Nat} {v : Value} {xs : List Value} (h : w.ownsRow (bp + 1) 27 B v n xs) : v.ownBlock = none ∨ v.ownBlock ≠ some bp := by
  cases hv : v.ownBlock with
  | none => exact .inl rfl
  | some g =>
    right
    intro e
    have := (h.lt g hv).1
    injection e with e
    omega
theorem ParW.step {w wr w2 : World} {bp : Nat} {r r2 : ByteArray} {v : Value} {l : List (U.Tok × Value)} (h : ParW w wr bp r v l) (hR : Reads wr w2 bp r2 v) : ParW w w2 bp r2 v l :=
  ⟨hR.par, h.row.kept (row := some bp) hR.grown (row_far h.row), fun x hx => (h.atts x hx).kept (row := some bp) hR.grown (att_far (h.atts x hx) h.par),
    h.below.grown hR.grown h.below.size (fun k hk => by injection hk with hk; have := h.bp0; omega), h.bp0, h.lens⟩
theorem ParW.later {w wr w2 : World} {bp : Nat} {r : ByteArray} {v : Value} {l : List (U.Tok × Value)} (h : ParW w wr bp r v l) (hb : Below wr.heap.size wr w2) : ParW w w2 bp r v l :=
  h.step ((Reads.start h.par).later hb)
theorem ParW.alloc {w wr : World} {bp : Nat} {r : ByteArray} {v : Value} {l : List (U.Tok × Value)} (h : ParW w wr bp r v l) (o : Obj) : ParW w (wr.alloc o) bp r v l := h.later ((Below.refl _ _).alloc (Nat.le_refl _) _)
/-- the parser's block behind an append -/
theorem ParW.grown {w wr w2 : World} {bp : Nat} {r : ByteArray} {v : Value} {l : List (U.Tok × Value)} (h : ParW w wr bp r v l) (hg : wr.grownBy w2 v.ownBlock) : w2.heap[bp]? = some (parBlock r v) :=
  (hg.block _ (lt_of_heap h.par) (fun e => by have := (h.row.lt _ e.symm).1; omega)).trans h.par
theorem ParW.put {w wr w2 : World} {bp : Nat} {r : ByteArray} {v v2 : Value} {l : List (U.Tok × Value)} (h : ParW w wr bp r v l) (x : U.Tok) (av : Value) (hx : wr.ownsRow w.heap.size 42 2 av x.attrs.length (attCells x.attrs)) (hxl : x.attrs.length ≤ 1048576)
    (ho : w2.ownsRow (bp + 1) 27 5 v2 (l.length + 1) (tokCells l ++ [.int .i64 (x.kind : Nat), .string ⟨x.name.toArray⟩, av, .bool x.self, .string ⟨x.text.toArray⟩])) (hg : wr.grownBy w2 v.ownBlock) :
    ParW w (w2.setCell ⟨bp, 1, none⟩ v2) bp r v2 (l ++ [(x, av)]) := by
  have h4 := h.bp0
  have hb := lt_of_heap h.par
  have hlt : ∀ k, v.ownBlock = some k → bp + 1 ≤ k := fun k hk => (h.row.lt k hk).1
  have hpar := h.grown hg
  have hatt : ∀ (y : Value) (al : List U.Att), wr.ownsRow w.heap.size 42 2 y al.length (attCells al) → (w2.setCell ⟨bp, 1, none⟩ v2).ownsRow w.heap.size 42 2 y al.length (attCells al) := by
    intro y al hy
    have hy2 : w2.ownsRow w.heap.size 42 2 y al.length (attCells al) := hy.kept (row := v.ownBlock) hg (own_apart hy h.row (by decide))
    exact hy2.kept (row := some bp) (grown_setCell _ _ _ _) (att_far hy2 hpar)
  refine ⟨?_, ?_, ?_, ((h.below.grown hg h.below.size (fun k hk => by have := hlt k hk; omega)).setCell (p := ⟨bp, 1, none⟩) h4 _), h4, fun y hy => ?_⟩
  · unfold parBlock at hpar ⊢
    simp [World.setCell, Array.getElem?_modify, hpar]
  · rw [List.length_append, tokCells_append]
    exact ownsRow_setCell_below ho (a := ⟨bp, 1, none⟩) (Nat.lt_succ_self _) _
  · intro y hy
    rcases List.mem_append.1 hy with hy | hy
    · exact hatt _ _ (h.atts y hy)
    · obtain rfl := List.mem_singleton.1 hy
      exact hatt _ _ hx
  · rcases List.mem_append.1 hy with hy | hy
    · exact h.lens y hy
    · obtain rfl := List.mem_singleton.1 hy
      exact hxl

theorem new_cells {w : World} {n : Nat} {a b c d e : Value} {t : TypeId} (h : w.heap[n]? = some (.cells #[a, b, c, d, e] t (0, 0))) : ∀ (j : Nat) u, [a, b, c, d, e][j]? = some u → w.cell? ((⟨n, 0, none⟩ : Addr).add j) = some u := by
  intro j u hj
  have e0 : (⟨n, 0, none⟩ : Addr).add j = ⟨n, j, none⟩ := by cases j <;> simp [Addr.add]
  rw [e0, Lib.cell_of_heap h]
  match j, hj with
  | 0, hj => simpa using hj
  | 1, hj => simpa using hj
  | 2, hj => simpa using hj
  | 3, hj => simpa using hj
  | 4, hj => simpa using hj
  | (j + 5), hj => simp at hj

set_option maxHeartbeats 4000000 in
set_option maxRecDepth 1000000 in
theorem add_text (w wr : World) (bp : Nat) (r : ByteArray) (v : Value) (l : List (U.Tok × Value)) (k : Nat) (txt : List UInt8) (h : ParW w wr bp r v l) (hl : l.length ≤ 1048576) :
    Calls Tryd.prog 27 #[.pointer (some ⟨bp, 0, none⟩), .int .i64 k, .string ⟨txt.toArray⟩] wr fun e w' => e = .returned (.tuple #[]) ∧ ∃ v2, ParW w w' bp r v2 (l ++ [(⟨k, [], [], false, txt⟩, .slice none 0 0)]) := by
  obtain ⟨iT, hiT, hT0, hT1, hT2⟩ := info_parts infoTok
  obtain ⟨c0, c1, f0, f1⟩ := par_cells h.par
  have hbp := lt_of_heap h.par
  obtain ⟨ao, cap, rfl⟩ := own_form h.row
  have hN := h.alloc (.cells #[.int .i64 k, .string ⟨#[]⟩, .slice none 0 0, .bool false, .string ⟨txt.toArray⟩] 27 (0, 0))
  have hnew := heap_alloc_new wr (.cells #[.int .i64 k, .string ⟨#[]⟩, .slice none 0 0, .bool false, .string ⟨txt.toArray⟩] 27 (0, 0))
  have hcells := new_cells hnew
  go_enter Tryd.func27, Tryd.ntmps27
  go_wp2_with (at_builtin; refine wpList_append_own _ rfl _ _ 22 rfl (bp + 1) 27 iT _ 5 72 Tryd.underlying22 hiT hT0 hT1 hT2 rfl (by decide) _ _ _ rfl hN.row ⟨_, 0, none⟩ 1 1 [.int .i64 k, .string ⟨#[]⟩, .slice none 0 0, .bool false, .string ⟨txt.toArray⟩] rfl rfl ?c1 ?c2 ?c3 ?c4 ?c5 ?_)
  case c1 => exact hcells
  case c2 => first | exact ⟨rfl, rfl, rfl, rfl, rfl⟩ | (intro u hu; simp at hu; rcases hu with rfl | rfl | rfl | rfl | rfl <;> rfl)
  case c3 => unfold maxLen; omega
  case c4 => omega
  case c5 => simp; omega
  intro v7 w7 hown7 hgrow7 _
  obtain ⟨ao7, cap7, rfl⟩ := own_form hown7
  obtain ⟨q0, q1, q2, q3⟩ := par_cells (hN.grown hgrow7)
  have HP := hN.put ⟨k, [], [], false, txt⟩ (.slice none 0 0) (World.ownsRow_nil _ _ _ _) (Nat.zero_le _) hown7 hgrow7
  go_wp2_with fail
  go_end0
  exact ⟨rfl, _, HP⟩

end Go.Proofs.YtkmjngpgngkalaaDoor

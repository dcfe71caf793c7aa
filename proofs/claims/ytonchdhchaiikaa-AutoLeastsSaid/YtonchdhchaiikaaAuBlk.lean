/- A block of numbers that the call itself has made. -/
import Derived.Test.YtonchdhchaiikaaAu
import Derived.Deep.OwnRows
import Derived.OwnWalk
namespace Go.Proofs.Ytonchdhchaiikaa
open Go.RowKit

/-- block g holds the numbers l, none frozen -/
def Blk (w : World) (g : Nat) (l : List Int) : Prop := w.heap[g]? = some (.cells (l.map (Value.int .i64)).toArray 3 (0, 0))
theorem Blk.cell {w : World} {g : Nat} {l : List Int} (h : Blk w g l) {i : Nat} {x : Int} (hx : l[i]? = some x) : w.cell? ⟨g, i, none⟩ = some (.int .i64 x) := by
  rw [Lib.cell_of_heap h]
  simp [hx]
theorem Blk.frozen {w : World} {g : Nat} {l : List Int} (h : Blk w g l) (j : Nat) : w.frozen? ⟨g, j, none⟩ = false := Lib.frozen_of_heap h j
theorem Blk.lt {w : World} {g : Nat} {l : List Int} (h : Blk w g l) : g < w.heap.size := (Array.getElem?_eq_some_iff.1 h).1
theorem Blk.set {w : World} {g : Nat} {l : List Int} (h : Blk w g l) (j : Nat) (x : Int) : Blk (w.setCell ⟨g, j, none⟩ (.int .i64 x)) g (l.set j x) := by
  unfold Blk at *
  rw [heap_setCell_same w g j _ _ _ h]
  congr 2
  apply Array.toList_inj.1
  simp
theorem Blk.other {w : World} {g g2 j : Nat} {l : List Int} {v : Value} (h : Blk w g l) (hne : g ≠ g2) : Blk (w.setCell ⟨g2, j, none⟩ v) g l := by
  unfold Blk at *
  rw [heap_setCell_other w ⟨g2, j, none⟩ g v hne]
  exact h
theorem Blk.alloc {w : World} {g : Nat} {l : List Int} (h : Blk w g l) (O : Obj) : Blk (w.alloc O) g l := (Below.heap_alloc w O g h.lt).trans h
theorem Blk.below {w w' : World} {B g : Nat} {l : List Int} (h : Blk w g l) (hb : Below B w w') (hg : g < B) : Blk w' g l := (hb.block g hg).trans h
theorem Blk.drew {w : World} {g : Nat} {l : List Int} (h : Blk w g l) : Blk w.drew g l := h
theorem Blk.made (w : World) (n : Nat) : Blk (w.alloc (.cells (madeCells #[.int .i64 0] n) 3 (0, 0))) w.heap.size (List.replicate n 0) := by
  unfold Blk
  rw [heap_alloc_new]
  congr 2
  apply Array.toList_inj.1
  rw [toList_madeCells_one]
  simp
/-- 'make([]int, n)', n small -/
theorem make_ints {n : Nat} (hn : n ≤ 1048576) (u : World) : (Instr.makeSlice 27 (.int .i64 (n : Int)) (.int .i64 (n : Int))).run Try.prog u = .ok (.slice (some ⟨u.heap.size, 0, none⟩) n n) (u.alloc (.cells (madeCells #[.int .i64 0] n) 3)) :=
  run_make_row' 27 3 (.int .i64 0) 8 Try.underlying27 info3 rfl .i64 .i64 n (by omega) (by omega) u
/-- .. as a law of the walk: the world behind is only told of -/
theorem wpList_make_blk (w : World) {ops : Array Oper} {rest : List Oper} {o : Oper} {a : Act} {Q : Exit → Act → World → Prop}
    (hg : o.guard = none) (l c : Operand) (hop : o.op = Op.makeSlice 27 l c) (n : Nat) (hn : n ≤ 1048576) (hl : a.eval l = .int .i64 (n : Int)) (hc : a.eval c = .int .i64 (n : Int))
    (hK : ∀ w', Blk w' w.heap.size (List.replicate n 0) → Below w.heap.size w w' → w.heap.size < w'.heap.size → wpList Try.prog ops Q rest (a.put o.dst (.slice (some ⟨w.heap.size, 0, none⟩) n n)) w') :
    wpList Try.prog ops Q (o :: rest) a w := by
  obtain ⟨i, hi, hz0, hz1, hz2⟩ := info_parts info3
  exact wpList_make_row w hg l c 27 hop 3 i (.int .i64 0) Try.underlying27 hi hz0 hz1 rfl .i64 .i64 n hl hc (by rw [hz2]; omega) (by omega)
    (hK _ (Blk.made w n) ((Below.refl _ _).alloc (Nat.le_refl _) _) (by simp))

end Go.Proofs.Ytonchdhchaiikaa

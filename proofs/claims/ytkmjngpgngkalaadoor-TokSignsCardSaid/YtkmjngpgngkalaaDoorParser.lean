/- tok's parser: what the memory holds while it reads; take. -/
import Derived.Test.YtkmjngpgngkalaaDoorProg
import Derived.Test.YtkmjngpgngkalaaDoorWords
import Derived.Test.YtkmjngpgngkalaaDoorBytes
import Derived.WalkKit
import Derived.BigCall
import Derived.Below
import Derived.OwnWalk
import Derived.Lib.FrozenHead2
import Derived.Outline
namespace Go.Proofs.YtkmjngpgngkalaaDoor
open Go.RowKit

/-- the parser's block: what is not read yet, and the slice of tokens -/
def parBlock (r : ByteArray) (v : Value) : Obj := .cells #[.string r, v] 44 (0, 0)
theorem grown_trans {a b c : World} {row : Option Nat} (h1 : a.grownBy b row) (h2 : b.grownBy c row) : a.grownBy c row :=
  ⟨h2.os.trans h1.os, h2.tape.trans h1.tape, h2.output.trans h1.output, Nat.le_trans h1.size h2.size, fun k hk hne => (h2.block k (Nat.lt_of_lt_of_le hk h1.size) hne).trans (h1.block k hk hne)⟩
theorem grown_below {w w' : World} (hb : Below w.heap.size w w') (row : Option Nat) : w.grownBy w' row :=
  ⟨hb.os, hb.tape, hb.output, hb.size, fun k hk _ => hb.block k hk⟩
/-- from world z to world w nothing old but the parser's block has changed -/
structure Reads (z w : World) (bp : Nat) (r : ByteArray) (v : Value) : Prop where
  par : w.heap[bp]? = some (parBlock r v)
  grown : z.grownBy w (some bp)
theorem Reads.start {w : World} {bp : Nat} {r : ByteArray} {v : Value} (h : w.heap[bp]? = some (parBlock r v)) : Reads w w bp r v := ⟨h, World.grownBy.refl _ _⟩
theorem lt_of_heap {w : World} {b : Nat} {o : Obj} (h : w.heap[b]? = some o) : b < w.heap.size := (Array.getElem?_eq_some_iff.1 h).1
theorem Reads.later {z w w2 : World} {bp : Nat} {r : ByteArray} {v : Value} (h : Reads z w bp r v) (hb : Below w.heap.size w w2) : Reads z w2 bp r v :=
  ⟨(hb.block _ (lt_of_heap h.par)).trans h.par, grown_trans h.grown (grown_below hb _)⟩
theorem Reads.trans {z w w2 : World} {bp : Nat} {r r2 : ByteArray} {v v2 : Value} (h : Reads z w bp r v) (h2 : Reads w w2 bp r2 v2) : Reads z w2 bp r2 v2 := ⟨h2.par, grown_trans h.grown h2.grown⟩
theorem Reads.alloc {z w : World} {bp : Nat} {r : ByteArray} {v : Value} (h : Reads z w bp r v) (o : Obj) : Reads z (w.alloc o) bp r v := h.later ((Below.refl _ _).alloc (Nat.le_refl _) _)
theorem Reads.box {z w : World} {bp k : Nat} {r : ByteArray} {v : Value} {o : Obj} (h : Reads z w bp r v) (hk : z.heap[k]? = some o) (hne : k ≠ bp) : w.heap[k]? = some o := (h.grown.block k (lt_of_heap hk) (by simpa using hne)).trans hk
theorem box_below {z w : World} {k : Nat} {o : Obj} (hk : z.heap[k]? = some o) (hb : Below z.heap.size z w) : w.heap[k]? = some o := (hb.block k (lt_of_heap hk)).trans hk
/-- a block of the call's own is written -/
theorem Reads.other {z w : World} {bp k : Nat} {r : ByteArray} {v : Value} (h : Reads z w bp r v) (hz : z.heap.size ≤ k) (hne : k ≠ bp) (o : Nat) (u : Value) : Reads z (w.setCell ⟨k, o, none⟩ u) bp r v := by
  refine ⟨(Below.heap_setCell _ _ _ _ (fun e => hne e.symm)).trans h.par, ?_⟩
  have hg := h.grown
  exact ⟨hg.os, hg.tape, hg.output, by simpa [World.setCell] using hg.size, fun j hj hj2 => (Below.heap_setCell _ _ _ _ (by show j ≠ k; omega)).trans (hg.block j hj hj2)⟩
theorem par_cells {w : World} {bp : Nat} {r : ByteArray} {v : Value} (h : w.heap[bp]? = some (parBlock r v)) : w.cell? ⟨bp, 0, none⟩ = some (.string r) ∧ w.cell? ⟨bp, 1, none⟩ = some v ∧ w.frozen? ⟨bp, 0, none⟩ = false ∧ w.frozen? ⟨bp, 1, none⟩ = false := by
  unfold parBlock at h
  exact ⟨by rw [Lib.cell_of_heap h]; rfl, by rw [Lib.cell_of_heap h]; rfl, Lib.frozen_of_heap h 0, Lib.frozen_of_heap h 1⟩
theorem grown_setCell (w : World) (b o : Nat) (v : Value) : w.grownBy (w.setCell ⟨b, o, none⟩ v) (some b) :=
  ⟨rfl, rfl, rfl, by simp [World.setCell], fun k _ hk => Below.heap_setCell _ _ _ _ (fun e => hk (by simp [e]))⟩
theorem Reads.setRest {z w : World} {bp : Nat} {r : ByteArray} {v : Value} (h : Reads z w bp r v) (r' : ByteArray) : Reads z (w.setCell ⟨bp, 0, none⟩ (.string r')) bp r' v := by
  have hp := h.par
  unfold parBlock at hp
  refine ⟨?_, grown_trans h.grown (grown_setCell _ _ _ _)⟩
  simp [World.setCell, Array.getElem?_modify, hp, parBlock]

set_option maxHeartbeats 1000000 in
set_option maxRecDepth 100000 in
theorem take_walk (w : World) (bp n : Nat) (r : ByteArray) (v : Value) (h : w.heap[bp]? = some (parBlock r v)) (hn : n ≤ r.size) :
    Calls Tryd.prog 20 #[.pointer (some ⟨bp, 0, none⟩), .int .i64 n] w fun e w' => e = .returned (.string (r.extract 0 n)) ∧ Reads w w' bp (r.extract n r.size) v := by
  obtain ⟨c0, c1, f0, f1⟩ := par_cells h
  have HR := (Reads.start h).setRest (r.extract n r.size)
  go_enter Tryd.func20, Tryd.ntmps20
  go_wp2_with fail
  go_ret
  exact ⟨rfl, HR⟩

end Go.Proofs.YtkmjngpgngkalaaDoor

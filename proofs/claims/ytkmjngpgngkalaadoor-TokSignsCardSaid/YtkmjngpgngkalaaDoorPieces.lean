/- What the rows of texts hold that a literal makes. -/
import Derived.Test.YtkmjngpgngkalaaDoorProg
import Derived.WalkKit
import Derived.Below
import Derived.Test.YtkmjngpgngkalaaDoorRdT
namespace Go.Proofs.YtkmjngpgngkalaaDoor
open Go.RowKit

def pm (j : Nat) : ByteArray := match j with
  | 0 => ⟨#[97]⟩
  | 1 => ⟨#[98, 32]⟩
  | 2 => ⟨#[60, 112, 62]⟩
  | 3 => ⟨#[60, 47, 112, 62]⟩
  | 4 => ⟨#[60, 98, 62]⟩
  | 5 => ⟨#[60, 47, 98, 62]⟩
  | 6 => ⟨#[60, 98, 114, 47, 62]⟩
  | 7 => ⟨#[60, 33, 45, 45, 120, 45, 45, 62]⟩
  | 8 => ⟨#[60, 105, 32, 99, 108, 97, 115, 115, 61, 120, 62]⟩
  | 9 => ⟨#[60, 47, 105, 62]⟩
  | 10 => ⟨#[38, 97, 109, 112, 59]⟩
  | 11 => ⟨#[60]⟩
  | 12 => ⟨#[60, 117, 108, 62]⟩
  | 13 => ⟨#[60, 108, 105, 62]⟩
  | 14 => ⟨#[60, 47, 117, 108, 62]⟩
  | 15 => ⟨#[38]⟩
  | 16 => ⟨#[62]⟩
  | 17 => ⟨#[60, 115, 99, 114, 105, 112, 116, 62]⟩
  | 18 => ⟨#[60, 47, 115, 99, 114, 105, 112, 116, 62]⟩
  | 19 => ⟨#[10]⟩
  | 20 => ⟨#[60, 105, 109, 103, 32, 115, 114, 99, 61, 39, 120, 46, 112, 110, 103, 39, 62]⟩
  | 21 => ⟨#[60, 97, 32, 104, 114, 101, 102, 61, 34, 104, 116, 116, 112, 58, 47, 47, 120, 34, 62]⟩
  | 22 => ⟨#[60, 47, 97, 62]⟩
  | 23 => ⟨#[60, 63, 120, 62]⟩
  | _ => ⟨#[60, 47, 62]⟩
theorem pm_size (j : Nat) : (pm j).size ≤ 19 := by
  unfold pm
  split <;> decide
theorem pm_cell (j : Nat) (hj : j < 25) (W : World) (T : TypeId) (s : Nat × Nat) :
    (W.alloc (.cells #[.string ⟨#[97]⟩, .string ⟨#[98, 32]⟩, .string ⟨#[60, 112, 62]⟩, .string ⟨#[60, 47, 112, 62]⟩, .string ⟨#[60, 98, 62]⟩, .string ⟨#[60, 47, 98, 62]⟩, .string ⟨#[60, 98, 114, 47, 62]⟩, .string ⟨#[60, 33, 45, 45, 120, 45, 45, 62]⟩, .string ⟨#[60, 105, 32, 99, 108, 97, 115, 115, 61, 120, 62]⟩, .string ⟨#[60, 47, 105, 62]⟩, .string ⟨#[38, 97, 109, 112, 59]⟩, .string ⟨#[60]⟩, .string ⟨#[60, 117, 108, 62]⟩, .string ⟨#[60, 108, 105, 62]⟩, .string ⟨#[60, 47, 117, 108, 62]⟩, .string ⟨#[38]⟩, .string ⟨#[62]⟩, .string ⟨#[60, 115, 99, 114, 105, 112, 116, 62]⟩, .string ⟨#[60, 47, 115, 99, 114, 105, 112, 116, 62]⟩, .string ⟨#[10]⟩, .string ⟨#[60, 105, 109, 103, 32, 115, 114, 99, 61, 39, 120, 46, 112, 110, 103, 39, 62]⟩, .string ⟨#[60, 97, 32, 104, 114, 101, 102, 61, 34, 104, 116, 116, 112, 58, 47, 47, 120, 34, 62]⟩, .string ⟨#[60, 47, 97, 62]⟩, .string ⟨#[60, 63, 120, 62]⟩, .string ⟨#[60, 47, 62]⟩] T s)).cell? ⟨W.heap.size, j, none⟩ = some (.string (pm j)) := by
  match j, hj with
  | 0, _ => rw [Lib.cell_of_heap (heap_alloc_new W _)]; rfl
  | 1, _ => rw [Lib.cell_of_heap (heap_alloc_new W _)]; rfl
  | 2, _ => rw [Lib.cell_of_heap (heap_alloc_new W _)]; rfl
  | 3, _ => rw [Lib.cell_of_heap (heap_alloc_new W _)]; rfl
  | 4, _ => rw [Lib.cell_of_heap (heap_alloc_new W _)]; rfl
  | 5, _ => rw [Lib.cell_of_heap (heap_alloc_new W _)]; rfl
  | 6, _ => rw [Lib.cell_of_heap (heap_alloc_new W _)]; rfl
  | 7, _ => rw [Lib.cell_of_heap (heap_alloc_new W _)]; rfl
  | 8, _ => rw [Lib.cell_of_heap (heap_alloc_new W _)]; rfl
  | 9, _ => rw [Lib.cell_of_heap (heap_alloc_new W _)]; rfl
  | 10, _ => rw [Lib.cell_of_heap (heap_alloc_new W _)]; rfl
  | 11, _ => rw [Lib.cell_of_heap (heap_alloc_new W _)]; rfl
  | 12, _ => rw [Lib.cell_of_heap (heap_alloc_new W _)]; rfl
  | 13, _ => rw [Lib.cell_of_heap (heap_alloc_new W _)]; rfl
  | 14, _ => rw [Lib.cell_of_heap (heap_alloc_new W _)]; rfl
  | 15, _ => rw [Lib.cell_of_heap (heap_alloc_new W _)]; rfl
  | 16, _ => rw [Lib.cell_of_heap (heap_alloc_new W _)]; rfl
  | 17, _ => rw [Lib.cell_of_heap (heap_alloc_new W _)]; rfl
  | 18, _ => rw [Lib.cell_of_heap (heap_alloc_new W _)]; rfl
  | 19, _ => rw [Lib.cell_of_heap (heap_alloc_new W _)]; rfl
  | 20, _ => rw [Lib.cell_of_heap (heap_alloc_new W _)]; rfl
  | 21, _ => rw [Lib.cell_of_heap (heap_alloc_new W _)]; rfl
  | 22, _ => rw [Lib.cell_of_heap (heap_alloc_new W _)]; rfl
  | 23, _ => rw [Lib.cell_of_heap (heap_alloc_new W _)]; rfl
  | 24, _ => rw [Lib.cell_of_heap (heap_alloc_new W _)]; rfl
  | j + 25, h => exact absurd h (by omega)
theorem pm_get (j : Nat) (h : j < ([.string ⟨#[97]⟩, .string ⟨#[98, 32]⟩, .string ⟨#[60, 112, 62]⟩, .string ⟨#[60, 47, 112, 62]⟩, .string ⟨#[60, 98, 62]⟩, .string ⟨#[60, 47, 98, 62]⟩, .string ⟨#[60, 98, 114, 47, 62]⟩, .string ⟨#[60, 33, 45, 45, 120, 45, 45, 62]⟩, .string ⟨#[60, 105, 32, 99, 108, 97, 115, 115, 61, 120, 62]⟩, .string ⟨#[60, 47, 105, 62]⟩, .string ⟨#[38, 97, 109, 112, 59]⟩, .string ⟨#[60]⟩, .string ⟨#[60, 117, 108, 62]⟩, .string ⟨#[60, 108, 105, 62]⟩, .string ⟨#[60, 47, 117, 108, 62]⟩, .string ⟨#[38]⟩, .string ⟨#[62]⟩, .string ⟨#[60, 115, 99, 114, 105, 112, 116, 62]⟩, .string ⟨#[60, 47, 115, 99, 114, 105, 112, 116, 62]⟩, .string ⟨#[10]⟩, .string ⟨#[60, 105, 109, 103, 32, 115, 114, 99, 61, 39, 120, 46, 112, 110, 103, 39, 62]⟩, .string ⟨#[60, 97, 32, 104, 114, 101, 102, 61, 34, 104, 116, 116, 112, 58, 47, 47, 120, 34, 62]⟩, .string ⟨#[60, 47, 97, 62]⟩, .string ⟨#[60, 63, 120, 62]⟩, .string ⟨#[60, 47, 62]⟩] : List Value).length) : ([.string ⟨#[97]⟩, .string ⟨#[98, 32]⟩, .string ⟨#[60, 112, 62]⟩, .string ⟨#[60, 47, 112, 62]⟩, .string ⟨#[60, 98, 62]⟩, .string ⟨#[60, 47, 98, 62]⟩, .string ⟨#[60, 98, 114, 47, 62]⟩, .string ⟨#[60, 33, 45, 45, 120, 45, 45, 62]⟩, .string ⟨#[60, 105, 32, 99, 108, 97, 115, 115, 61, 120, 62]⟩, .string ⟨#[60, 47, 105, 62]⟩, .string ⟨#[38, 97, 109, 112, 59]⟩, .string ⟨#[60]⟩, .string ⟨#[60, 117, 108, 62]⟩, .string ⟨#[60, 108, 105, 62]⟩, .string ⟨#[60, 47, 117, 108, 62]⟩, .string ⟨#[38]⟩, .string ⟨#[62]⟩, .string ⟨#[60, 115, 99, 114, 105, 112, 116, 62]⟩, .string ⟨#[60, 47, 115, 99, 114, 105, 112, 116, 62]⟩, .string ⟨#[10]⟩, .string ⟨#[60, 105, 109, 103, 32, 115, 114, 99, 61, 39, 120, 46, 112, 110, 103, 39, 62]⟩, .string ⟨#[60, 97, 32, 104, 114, 101, 102, 61, 34, 104, 116, 116, 112, 58, 47, 47, 120, 34, 62]⟩, .string ⟨#[60, 47, 97, 62]⟩, .string ⟨#[60, 63, 120, 62]⟩, .string ⟨#[60, 47, 62]⟩] : List Value)[j]'h = .string (pm j) := by
  match j, h with
  | 0, _ => rfl
  | 1, _ => rfl
  | 2, _ => rfl
  | 3, _ => rfl
  | 4, _ => rfl
  | 5, _ => rfl
  | 6, _ => rfl
  | 7, _ => rfl
  | 8, _ => rfl
  | 9, _ => rfl
  | 10, _ => rfl
  | 11, _ => rfl
  | 12, _ => rfl
  | 13, _ => rfl
  | 14, _ => rfl
  | 15, _ => rfl
  | 16, _ => rfl
  | 17, _ => rfl
  | 18, _ => rfl
  | 19, _ => rfl
  | 20, _ => rfl
  | 21, _ => rfl
  | 22, _ => rfl
  | 23, _ => rfl
  | 24, _ => rfl
  | j + 25, h => exact absurd h (by simp)

def pp (j : Nat) : ByteArray := match j with
  | 0 => ⟨#[120]⟩
  | 1 => ⟨#[60, 112, 62]⟩
  | 2 => ⟨#[60, 47, 112, 62]⟩
  | 3 => ⟨#[60, 105, 32, 97, 61, 98, 62]⟩
  | 4 => ⟨#[60, 33, 45, 45, 120, 45, 45, 62]⟩
  | _ => ⟨#[121, 32]⟩
theorem pp_size (j : Nat) : (pp j).size ≤ 8 := by
  unfold pp
  split <;> decide
theorem pp_cell (j : Nat) (hj : j < 6) (W : World) (T : TypeId) (s : Nat × Nat) :
    (W.alloc (.cells #[.string ⟨#[120]⟩, .string ⟨#[60, 112, 62]⟩, .string ⟨#[60, 47, 112, 62]⟩, .string ⟨#[60, 105, 32, 97, 61, 98, 62]⟩, .string ⟨#[60, 33, 45, 45, 120, 45, 45, 62]⟩, .string ⟨#[121, 32]⟩] T s)).cell? ⟨W.heap.size, j, none⟩ = some (.string (pp j)) := by
  match j, hj with
  | 0, _ => rw [Lib.cell_of_heap (heap_alloc_new W _)]; rfl
  | 1, _ => rw [Lib.cell_of_heap (heap_alloc_new W _)]; rfl
  | 2, _ => rw [Lib.cell_of_heap (heap_alloc_new W _)]; rfl
  | 3, _ => rw [Lib.cell_of_heap (heap_alloc_new W _)]; rfl
  | 4, _ => rw [Lib.cell_of_heap (heap_alloc_new W _)]; rfl
  | 5, _ => rw [Lib.cell_of_heap (heap_alloc_new W _)]; rfl
  | j + 6, h => exact absurd h (by omega)
theorem pp_get (j : Nat) (h : j < ([.string ⟨#[120]⟩, .string ⟨#[60, 112, 62]⟩, .string ⟨#[60, 47, 112, 62]⟩, .string ⟨#[60, 105, 32, 97, 61, 98, 62]⟩, .string ⟨#[60, 33, 45, 45, 120, 45, 45, 62]⟩, .string ⟨#[121, 32]⟩] : List Value).length) : ([.string ⟨#[120]⟩, .string ⟨#[60, 112, 62]⟩, .string ⟨#[60, 47, 112, 62]⟩, .string ⟨#[60, 105, 32, 97, 61, 98, 62]⟩, .string ⟨#[60, 33, 45, 45, 120, 45, 45, 62]⟩, .string ⟨#[121, 32]⟩] : List Value)[j]'h = .string (pp j) := by
  match j, h with
  | 0, _ => rfl
  | 1, _ => rfl
  | 2, _ => rfl
  | 3, _ => rfl
  | 4, _ => rfl
  | 5, _ => rfl
  | j + 6, h => exact absurd h (by simp)

def pg (j : Nat) : ByteArray := match j with
  | 0 => ⟨#[]⟩
  | 1 => ⟨#[32]⟩
  | 2 => ⟨#[10, 32]⟩
  | _ => ⟨#[9]⟩
theorem pg_size (j : Nat) : (pg j).size ≤ 2 := by
  unfold pg
  split <;> decide
theorem pg_cell (j : Nat) (hj : j < 4) (W : World) (T : TypeId) (s : Nat × Nat) :
    (W.alloc (.cells #[.string ⟨#[]⟩, .string ⟨#[32]⟩, .string ⟨#[10, 32]⟩, .string ⟨#[9]⟩] T s)).cell? ⟨W.heap.size, j, none⟩ = some (.string (pg j)) := by
  match j, hj with
  | 0, _ => rw [Lib.cell_of_heap (heap_alloc_new W _)]; rfl
  | 1, _ => rw [Lib.cell_of_heap (heap_alloc_new W _)]; rfl
  | 2, _ => rw [Lib.cell_of_heap (heap_alloc_new W _)]; rfl
  | 3, _ => rw [Lib.cell_of_heap (heap_alloc_new W _)]; rfl
  | j + 4, h => exact absurd h (by omega)
theorem pg_get (j : Nat) (h : j < ([.string ⟨#[]⟩, .string ⟨#[32]⟩, .string ⟨#[10, 32]⟩, .string ⟨#[9]⟩] : List Value).length) : ([.string ⟨#[]⟩, .string ⟨#[32]⟩, .string ⟨#[10, 32]⟩, .string ⟨#[9]⟩] : List Value)[j]'h = .string (pg j) := by
  match j, h with
  | 0, _ => rfl
  | 1, _ => rfl
  | 2, _ => rfl
  | 3, _ => rfl
  | j + 4, h => exact absurd h (by simp)

end Go.Proofs.YtkmjngpgngkalaaDoor

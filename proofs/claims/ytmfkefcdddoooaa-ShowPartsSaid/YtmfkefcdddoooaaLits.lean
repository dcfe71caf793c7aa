/- What the rows of texts hold that the maker of nodes makes of literals. -/
import Derived.Test.YtmfkefcdddoooaaProg
import Derived.WalkKit
import Derived.Below
import Derived.Test.YtmfkefcdddoooaaRdT
import Derived.Test.YtmfkefcdddoooaaNodeMath
namespace Go.Proofs.Ytmfkefcdddoooaa
open Go.RowKit

def tnL (j : Nat) : List UInt8 := match j with
  | 0 => [120]
  | 1 => [97, 60, 98]
  | 2 => [38, 97, 109, 112, 59]
  | 3 => [121, 32, 122]
  | 4 => [32]
  | _ => [60, 112, 62]
def tnC : Array Value := #[.string ⟨#[120]⟩, .string ⟨#[97, 60, 98]⟩, .string ⟨#[38, 97, 109, 112, 59]⟩, .string ⟨#[121, 32, 122]⟩, .string ⟨#[32]⟩, .string ⟨#[60, 112, 62]⟩]
theorem tn_cell (j : Nat) (hj : j < 6) (W : World) (T : TypeId) (s : Nat × Nat) : (W.alloc (.cells #[.string ⟨#[120]⟩, .string ⟨#[97, 60, 98]⟩, .string ⟨#[38, 97, 109, 112, 59]⟩, .string ⟨#[121, 32, 122]⟩, .string ⟨#[32]⟩, .string ⟨#[60, 112, 62]⟩] T s)).cell? ⟨W.heap.size, j, none⟩ = some (.string ⟨(tnL j).toArray⟩) :=
  match j, hj with
  | 0, _ => by rw [Lib.cell_of_heap (heap_alloc_new W _)]; rfl
  | 1, _ => by rw [Lib.cell_of_heap (heap_alloc_new W _)]; rfl
  | 2, _ => by rw [Lib.cell_of_heap (heap_alloc_new W _)]; rfl
  | 3, _ => by rw [Lib.cell_of_heap (heap_alloc_new W _)]; rfl
  | 4, _ => by rw [Lib.cell_of_heap (heap_alloc_new W _)]; rfl
  | 5, _ => by rw [Lib.cell_of_heap (heap_alloc_new W _)]; rfl
  | j + 6, h => absurd h (by omega)
theorem tn_get (j : Nat) (h : j < ([.string ⟨#[120]⟩, .string ⟨#[97, 60, 98]⟩, .string ⟨#[38, 97, 109, 112, 59]⟩, .string ⟨#[121, 32, 122]⟩, .string ⟨#[32]⟩, .string ⟨#[60, 112, 62]⟩] : List Value).length) : ([.string ⟨#[120]⟩, .string ⟨#[97, 60, 98]⟩, .string ⟨#[38, 97, 109, 112, 59]⟩, .string ⟨#[121, 32, 122]⟩, .string ⟨#[32]⟩, .string ⟨#[60, 112, 62]⟩] : List Value)[j]'h = .string ⟨(tnL j).toArray⟩ :=
  match j, h with
  | 0, _ => rfl
  | 1, _ => rfl
  | 2, _ => rfl
  | 3, _ => rfl
  | 4, _ => rfl
  | 5, _ => rfl
  | j + 6, h => absurd h (by simp)
def vnL (j : Nat) : List UInt8 := match j with
  | 0 => [98, 114]
  | _ => [105, 109, 103]
def vnC : Array Value := #[.string ⟨#[98, 114]⟩, .string ⟨#[105, 109, 103]⟩]
theorem vn_cell (j : Nat) (hj : j < 2) (W : World) (T : TypeId) (s : Nat × Nat) : (W.alloc (.cells #[.string ⟨#[98, 114]⟩, .string ⟨#[105, 109, 103]⟩] T s)).cell? ⟨W.heap.size, j, none⟩ = some (.string ⟨(vnL j).toArray⟩) :=
  match j, hj with
  | 0, _ => by rw [Lib.cell_of_heap (heap_alloc_new W _)]; rfl
  | 1, _ => by rw [Lib.cell_of_heap (heap_alloc_new W _)]; rfl
  | j + 2, h => absurd h (by omega)
theorem vn_get (j : Nat) (h : j < ([.string ⟨#[98, 114]⟩, .string ⟨#[105, 109, 103]⟩] : List Value).length) : ([.string ⟨#[98, 114]⟩, .string ⟨#[105, 109, 103]⟩] : List Value)[j]'h = .string ⟨(vnL j).toArray⟩ :=
  match j, h with
  | 0, _ => rfl
  | 1, _ => rfl
  | j + 2, h => absurd h (by simp)
def enL (j : Nat) : List UInt8 := match j with
  | 0 => [100, 105, 118]
  | 1 => [98]
  | 2 => [101, 109]
  | 3 => [112]
  | 4 => [97]
  | _ => [117, 108]
def enC : Array Value := #[.string ⟨#[100, 105, 118]⟩, .string ⟨#[98]⟩, .string ⟨#[101, 109]⟩, .string ⟨#[112]⟩, .string ⟨#[97]⟩, .string ⟨#[117, 108]⟩]
theorem en_cell (j : Nat) (hj : j < 6) (W : World) (T : TypeId) (s : Nat × Nat) : (W.alloc (.cells #[.string ⟨#[100, 105, 118]⟩, .string ⟨#[98]⟩, .string ⟨#[101, 109]⟩, .string ⟨#[112]⟩, .string ⟨#[97]⟩, .string ⟨#[117, 108]⟩] T s)).cell? ⟨W.heap.size, j, none⟩ = some (.string ⟨(enL j).toArray⟩) :=
  match j, hj with
  | 0, _ => by rw [Lib.cell_of_heap (heap_alloc_new W _)]; rfl
  | 1, _ => by rw [Lib.cell_of_heap (heap_alloc_new W _)]; rfl
  | 2, _ => by rw [Lib.cell_of_heap (heap_alloc_new W _)]; rfl
  | 3, _ => by rw [Lib.cell_of_heap (heap_alloc_new W _)]; rfl
  | 4, _ => by rw [Lib.cell_of_heap (heap_alloc_new W _)]; rfl
  | 5, _ => by rw [Lib.cell_of_heap (heap_alloc_new W _)]; rfl
  | j + 6, h => absurd h (by omega)
theorem en_get (j : Nat) (h : j < ([.string ⟨#[100, 105, 118]⟩, .string ⟨#[98]⟩, .string ⟨#[101, 109]⟩, .string ⟨#[112]⟩, .string ⟨#[97]⟩, .string ⟨#[117, 108]⟩] : List Value).length) : ([.string ⟨#[100, 105, 118]⟩, .string ⟨#[98]⟩, .string ⟨#[101, 109]⟩, .string ⟨#[112]⟩, .string ⟨#[97]⟩, .string ⟨#[117, 108]⟩] : List Value)[j]'h = .string ⟨(enL j).toArray⟩ :=
  match j, h with
  | 0, _ => rfl
  | 1, _ => rfl
  | 2, _ => rfl
  | 3, _ => rfl
  | 4, _ => rfl
  | 5, _ => rfl
  | j + 6, h => absurd h (by simp)
def hvL (j : Nat) : List UInt8 := match j with
  | 0 => []
  | 1 => [120]
  | 2 => [97, 34, 98, 38]
  | 3 => [60]
  | _ => [104, 116, 116, 112, 58, 47, 47, 121]
def hvC : Array Value := #[.string ⟨#[]⟩, .string ⟨#[120]⟩, .string ⟨#[97, 34, 98, 38]⟩, .string ⟨#[60]⟩, .string ⟨#[104, 116, 116, 112, 58, 47, 47, 121]⟩]
theorem hv_cell (j : Nat) (hj : j < 5) (W : World) (T : TypeId) (s : Nat × Nat) : (W.alloc (.cells #[.string ⟨#[]⟩, .string ⟨#[120]⟩, .string ⟨#[97, 34, 98, 38]⟩, .string ⟨#[60]⟩, .string ⟨#[104, 116, 116, 112, 58, 47, 47, 121]⟩] T s)).cell? ⟨W.heap.size, j, none⟩ = some (.string ⟨(hvL j).toArray⟩) :=
  match j, hj with
  | 0, _ => by rw [Lib.cell_of_heap (heap_alloc_new W _)]; rfl
  | 1, _ => by rw [Lib.cell_of_heap (heap_alloc_new W _)]; rfl
  | 2, _ => by rw [Lib.cell_of_heap (heap_alloc_new W _)]; rfl
  | 3, _ => by rw [Lib.cell_of_heap (heap_alloc_new W _)]; rfl
  | 4, _ => by rw [Lib.cell_of_heap (heap_alloc_new W _)]; rfl
  | j + 5, h => absurd h (by omega)
theorem hv_get (j : Nat) (h : j < ([.string ⟨#[]⟩, .string ⟨#[120]⟩, .string ⟨#[97, 34, 98, 38]⟩, .string ⟨#[60]⟩, .string ⟨#[104, 116, 116, 112, 58, 47, 47, 121]⟩] : List Value).length) : ([.string ⟨#[]⟩, .string ⟨#[120]⟩, .string ⟨#[97, 34, 98, 38]⟩, .string ⟨#[60]⟩, .string ⟨#[104, 116, 116, 112, 58, 47, 47, 121]⟩] : List Value)[j]'h = .string ⟨(hvL j).toArray⟩ :=
  match j, h with
  | 0, _ => rfl
  | 1, _ => rfl
  | 2, _ => rfl
  | 3, _ => rfl
  | 4, _ => rfl
  | j + 5, h => absurd h (by simp)
theorem tn_some (j : Nat) (hj : j < 6) : tnL j ≠ [] := by
  match j, hj with
  | 0, _ | 1, _ | 2, _ | 3, _ | 4, _ | 5, _ => decide
theorem vn_name (j : Nat) (hj : j < 2) : U.isName (vnL j) = true ∧ U.rawName (vnL j) = false ∧ vnL j ≠ [108, 105] ∧ U.isVoid (vnL j) = true := by
  match j, hj with
  | 0, _ | 1, _ => decide
theorem en_name (j : Nat) (hj : j < 6) : U.isName (enL j) = true ∧ U.rawName (enL j) = false ∧ enL j ≠ [108, 105] ∧ U.isVoid (enL j) = false := by
  match j, hj with
  | 0, _ | 1, _ | 2, _ | 3, _ | 4, _ | 5, _ => decide

end Go.Proofs.Ytmfkefcdddoooaa

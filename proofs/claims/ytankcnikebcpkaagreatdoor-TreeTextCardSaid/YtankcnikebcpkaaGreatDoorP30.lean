/- Several texts in one: Pieces5, Picked. -/
import Derived.Test.YtankcnikebcpkaaGreatDoorProg
import Derived.WalkKit
import Derived.Below
import Derived.Outline
import Derived.Test.YtankcnikebcpkaaGreatDoorP05
namespace Go.Proofs.YtankcnikebcpkaaGreatDoor
open Go.RowKit

def pt (j : Nat) : ByteArray := match j with
  | 0 => ⟨#[97]⟩
  | 1 => ⟨#[98, 32]⟩
  | 2 => ⟨#[60, 112, 62]⟩
  | 3 => ⟨#[60, 47, 112, 62]⟩
  | 4 => ⟨#[60, 98, 62]⟩
  | 5 => ⟨#[60, 47, 98, 62]⟩
  | 6 => ⟨#[60, 98, 114, 47, 62]⟩
  | 7 => ⟨#[60, 33, 45, 45, 120, 45, 45, 62]⟩
  | 8 => ⟨#[60, 105, 32, 99, 108, 97, 115, 115, 61, 120, 62]⟩
  | 9 => ⟨#[60, 47, 105, 62]⟩
  | 10 => ⟨#[38, 97, 109, 112, 59]⟩
  | 11 => ⟨#[60, 117, 108, 62]⟩
  | 12 => ⟨#[60, 108, 105, 62]⟩
  | _ => ⟨#[60, 47, 117, 108, 62]⟩
theorem pt_size (j : Nat) : (pt j).size ≤ 11 := by
  unfold pt
  split <;> decide
theorem pt_cell (j : Nat) (hj : j < 14) (W : World) (T : TypeId) (s : Nat × Nat) :
    (W.alloc (.cells #[.string ⟨#[97]⟩, .string ⟨#[98, 32]⟩, .string ⟨#[60, 112, 62]⟩, .string ⟨#[60, 47, 112, 62]⟩, .string ⟨#[60, 98, 62]⟩, .string ⟨#[60, 47, 98, 62]⟩, .string ⟨#[60, 98, 114, 47, 62]⟩, .string ⟨#[60, 33, 45, 45, 120, 45, 45, 62]⟩, .string ⟨#[60, 105, 32, 99, 108, 97, 115, 115, 61, 120, 62]⟩, .string ⟨#[60, 47, 105, 62]⟩, .string ⟨#[38, 97, 109, 112, 59]⟩, .string ⟨#[60, 117, 108, 62]⟩, .string ⟨#[60, 108, 105, 62]⟩, .string ⟨#[60, 47, 117, 108, 62]⟩] T s)).cell? ⟨W.heap.size, j, none⟩ = some (.string (pt j)) := by
  match j, hj with
  | 0, _ => rw [Lib.cell_of_heap (heap_alloc_new W _)]; rfl
  | 1, _ => rw [Lib.cell_of_heap (heap_alloc_new W _)]; rfl
  | 2, _ => rw [Lib.cell_of_heap (heap_alloc_new W _)]; rfl
  | 3, _ => rw [Lib.cell_of_heap (heap_alloc_new W _)]; rfl
  | 4, _ => rw [Lib.cell_of_heap (heap_alloc_new W _)]; rfl
  | 5, _ => rw [Lib.cell_of_heap (heap_alloc_new W _)]; rfl
  | 6, _ => rw [Lib.cell_of_heap (heap_alloc_new W _)]; rfl
  | 7, _ => rw [Lib.cell_of_heap (heap_alloc_new W _)]; rfl
  | 8, _ => rw [Lib.cell_of_heap (heap_alloc_new W _)]; rfl
  | 9, _ => rw [Lib.cell_of_heap (heap_alloc_new W _)]; rfl
  | 10, _ => rw [Lib.cell_of_heap (heap_alloc_new W _)]; rfl
  | 11, _ => rw [Lib.cell_of_heap (heap_alloc_new W _)]; rfl
  | 12, _ => rw [Lib.cell_of_heap (heap_alloc_new W _)]; rfl
  | 13, _ => rw [Lib.cell_of_heap (heap_alloc_new W _)]; rfl
  | j + 14, h => exact absurd h (by omega)
theorem pt_get (j : Nat) (h : j < ([.string ⟨#[97]⟩, .string ⟨#[98, 32]⟩, .string ⟨#[60, 112, 62]⟩, .string ⟨#[60, 47, 112, 62]⟩, .string ⟨#[60, 98, 62]⟩, .string ⟨#[60, 47, 98, 62]⟩, .string ⟨#[60, 98, 114, 47, 62]⟩, .string ⟨#[60, 33, 45, 45, 120, 45, 45, 62]⟩, .string ⟨#[60, 105, 32, 99, 108, 97, 115, 115, 61, 120, 62]⟩, .string ⟨#[60, 47, 105, 62]⟩, .string ⟨#[38, 97, 109, 112, 59]⟩, .string ⟨#[60, 117, 108, 62]⟩, .string ⟨#[60, 108, 105, 62]⟩, .string ⟨#[60, 47, 117, 108, 62]⟩] : List Value).length) : ([.string ⟨#[97]⟩, .string ⟨#[98, 32]⟩, .string ⟨#[60, 112, 62]⟩, .string ⟨#[60, 47, 112, 62]⟩, .string ⟨#[60, 98, 62]⟩, .string ⟨#[60, 47, 98, 62]⟩, .string ⟨#[60, 98, 114, 47, 62]⟩, .string ⟨#[60, 33, 45, 45, 120, 45, 45, 62]⟩, .string ⟨#[60, 105, 32, 99, 108, 97, 115, 115, 61, 120, 62]⟩, .string ⟨#[60, 47, 105, 62]⟩, .string ⟨#[38, 97, 109, 112, 59]⟩, .string ⟨#[60, 117, 108, 62]⟩, .string ⟨#[60, 108, 105, 62]⟩, .string ⟨#[60, 47, 117, 108, 62]⟩] : List Value)[j]'h = .string (pt j) := by
  match j, h with
  | 0, _ => rfl
  | 1, _ => rfl
  | 2, _ => rfl
  | 3, _ => rfl
  | 4, _ => rfl
  | 5, _ => rfl
  | 6, _ => rfl
  | 7, _ => rfl
  | 8, _ => rfl
  | 9, _ => rfl
  | 10, _ => rfl
  | 11, _ => rfl
  | 12, _ => rfl
  | 13, _ => rfl
  | j + 14, h => exact absurd h (by simp)

def pc (j : Nat) : ByteArray := match j with
  | 0 => ⟨#[97]⟩
  | 1 => ⟨#[60, 112, 62]⟩
  | 2 => ⟨#[60, 47, 112, 62]⟩
  | 3 => ⟨#[60, 98, 62]⟩
  | 4 => ⟨#[60, 47, 98, 62]⟩
  | 5 => ⟨#[60, 117, 108, 62]⟩
  | 6 => ⟨#[60, 47, 117, 108, 62]⟩
  | 7 => ⟨#[60, 108, 105, 62]⟩
  | 8 => ⟨#[60, 47, 108, 105, 62]⟩
  | _ => ⟨#[60, 100, 105, 118, 62]⟩
theorem pc_size (j : Nat) : (pc j).size ≤ 5 := by
  unfold pc
  split <;> decide
theorem pc_cell (j : Nat) (hj : j < 10) (W : World) (T : TypeId) (s : Nat × Nat) :
    (W.alloc (.cells #[.string ⟨#[97]⟩, .string ⟨#[60, 112, 62]⟩, .string ⟨#[60, 47, 112, 62]⟩, .string ⟨#[60, 98, 62]⟩, .string ⟨#[60, 47, 98, 62]⟩, .string ⟨#[60, 117, 108, 62]⟩, .string ⟨#[60, 47, 117, 108, 62]⟩, .string ⟨#[60, 108, 105, 62]⟩, .string ⟨#[60, 47, 108, 105, 62]⟩, .string ⟨#[60, 100, 105, 118, 62]⟩] T s)).cell? ⟨W.heap.size, j, none⟩ = some (.string (pc j)) := by
  match j, hj with
  | 0, _ => rw [Lib.cell_of_heap (heap_alloc_new W _)]; rfl
  | 1, _ => rw [Lib.cell_of_heap (heap_alloc_new W _)]; rfl
  | 2, _ => rw [Lib.cell_of_heap (heap_alloc_new W _)]; rfl
  | 3, _ => rw [Lib.cell_of_heap (heap_alloc_new W _)]; rfl
  | 4, _ => rw [Lib.cell_of_heap (heap_alloc_new W _)]; rfl
  | 5, _ => rw [Lib.cell_of_heap (heap_alloc_new W _)]; rfl
  | 6, _ => rw [Lib.cell_of_heap (heap_alloc_new W _)]; rfl
  | 7, _ => rw [Lib.cell_of_heap (heap_alloc_new W _)]; rfl
  | 8, _ => rw [Lib.cell_of_heap (heap_alloc_new W _)]; rfl
  | 9, _ => rw [Lib.cell_of_heap (heap_alloc_new W _)]; rfl
  | j + 10, h => exact absurd h (by omega)
theorem pc_get (j : Nat) (h : j < ([.string ⟨#[97]⟩, .string ⟨#[60, 112, 62]⟩, .string ⟨#[60, 47, 112, 62]⟩, .string ⟨#[60, 98, 62]⟩, .string ⟨#[60, 47, 98, 62]⟩, .string ⟨#[60, 117, 108, 62]⟩, .string ⟨#[60, 47, 117, 108, 62]⟩, .string ⟨#[60, 108, 105, 62]⟩, .string ⟨#[60, 47, 108, 105, 62]⟩, .string ⟨#[60, 100, 105, 118, 62]⟩] : List Value).length) : ([.string ⟨#[97]⟩, .string ⟨#[60, 112, 62]⟩, .string ⟨#[60, 47, 112, 62]⟩, .string ⟨#[60, 98, 62]⟩, .string ⟨#[60, 47, 98, 62]⟩, .string ⟨#[60, 117, 108, 62]⟩, .string ⟨#[60, 47, 117, 108, 62]⟩, .string ⟨#[60, 108, 105, 62]⟩, .string ⟨#[60, 47, 108, 105, 62]⟩, .string ⟨#[60, 100, 105, 118, 62]⟩] : List Value)[j]'h = .string (pc j) := by
  match j, h with
  | 0, _ => rfl
  | 1, _ => rfl
  | 2, _ => rfl
  | 3, _ => rfl
  | 4, _ => rfl
  | 5, _ => rfl
  | 6, _ => rfl
  | 7, _ => rfl
  | 8, _ => rfl
  | 9, _ => rfl
  | j + 10, h => exact absurd h (by simp)

end Go.Proofs.YtankcnikebcpkaaGreatDoor

namespace Go.Proofs.YtankcnikebcpkaaGreatDoor
open Go.RowKit

theorem picked_facts (a n : Int) (hn : 0 < n) : (a.tmod n < 0 → a.tmod n + n = a % n) ∧ (¬ a.tmod n < 0 → a.tmod n = a % n) ∧ -n < a.tmod n ∧ a.tmod n < n := by
  have h1 := Int.emod_nonneg a (b := n) (by omega)
  have h2 := Int.emod_lt_of_pos a hn
  have h3 := Int.tmod_lt_of_pos a hn
  have h4 : -n < a.tmod n := by
    have := Int.lt_tmod_of_pos a hn
    exact this
  have h5 := Int.mul_tdiv_add_tmod a n
  have h6 := Int.mul_ediv_add_emod a n
  have key : ∀ x y p q : Int, n * x + p = a → n * y + q = a → -n < p - q → p - q < 2 * n → p - q ≠ 0 → p - q ≠ n → False := by
    intro x y p q e1 e2 l1 l2 n1 n2
    have e : p - q = n * (y - x) := by rw [Int.mul_sub]; omega
    rcases Int.lt_trichotomy (y - x) 0 with h | h | h
    · have := Int.mul_le_mul_of_nonneg_left (show y - x ≤ -1 by omega) (Int.le_of_lt hn)
      omega
    · rw [h] at e; omega
    · rcases Int.lt_or_le (y - x) 2 with h' | h'
      · have : y - x = 1 := by omega
        rw [this] at e; omega
      · have := Int.mul_le_mul_of_nonneg_left h' (Int.le_of_lt hn)
        omega
  refine ⟨fun h => ?_, fun h => ?_, h4, h3⟩
  · have k := key (a / n) (a.tdiv n) (a % n) (a.tmod n) h6 h5 (by omega) (by omega)
    by_cases e : a % n - a.tmod n = 0
    · omega
    · by_cases e' : a % n - a.tmod n = n
      · omega
      · exact (k e e').elim
  · have k := key (a / n) (a.tdiv n) (a % n) (a.tmod n) h6 h5 (by omega) (by omega)
    by_cases e : a % n - a.tmod n = 0
    · omega
    · by_cases e' : a % n - a.tmod n = n
      · omega
      · exact (k e e').elim

set_option maxHeartbeats 1000000 in
set_option maxRecDepth 100000 in
theorem picked_walk (a n : Int) (w : World) (hn : 0 < n) (hn2 : n ≤ 2147483647) :
    Calls Tryz.prog 12 #[.int .i64 a, .int .i64 n] w fun e w' => e = .returned (.int .i64 (a % n)) ∧ w = w' := by
  obtain ⟨f1, f2, f3, f4⟩ := picked_facts a n hn
  by_cases h0 : 0 ≤ a
  · have e1 := Int.emod_nonneg a (b := n) (by omega)
    have e2 := Int.emod_lt_of_pos a hn
    clear f1 f2 f3 f4
    go_enter Tryz.func12, Tryz.ntmps12
    go_wp2_with fail
    go_ret
    exact ⟨rfl, rfl⟩
  · by_cases h : a.tmod n < 0
    · have e := Lib.hid (f1 h)
      clear f1 f2
      go_enter Tryz.func12, Tryz.ntmps12
      go_wp2_with fail
      go_ret
      rw [← e.out]
      exact ⟨rfl, rfl⟩
    · have e := Lib.hid (f2 h)
      clear f1 f2
      go_enter Tryz.func12, Tryz.ntmps12
      go_wp2_with fail
      go_ret
      rw [← e.out]
      exact ⟨rfl, rfl⟩

end Go.Proofs.YtankcnikebcpkaaGreatDoor

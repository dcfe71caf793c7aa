/- The reference: isLetter, utfBytes. -/
import Derived.StillTailTactics
import Derived.Deep.RegionHeld3
import Derived.Handy
import Derived.Outline
import Derived.Test.YtcdgiohogddbkaaGreatDoorP03
import Derived.Test.YtcdgiohogddbkaaGreatDoorP02
namespace Go.Proofs.YtcdgiohogddbkaaGreatDoor
open Go.RowKit

set_option maxHeartbeats 1000000 in
set_option maxRecDepth 100000 in
/-- the reference's isLetter -/
theorem is_letter (n : Int) (w : World) : Calls Tryz.prog 60 #[.int .i64 n] w fun e w' => e = .returned (.bool (U.okI n)) ∧ w = w' := by
  by_cases h : 0 ≤ n ∧ n ≤ 1114111 ∧ (n < 55296 ∨ 57343 < n)
  · rw [show U.okI n = true from U.okI_iff.2 h]
    obtain ⟨h0, h1, h2 | h2⟩ := h
    · go_enter Tryz.func60, Tryz.ntmps60
      go_wp2
      go_ret
      exact ⟨rfl, rfl⟩
    · have h3 : decide (n < 55296) = false := decide_eq_false (by omega)
      have h4 : decide (57343 < n) = true := decide_eq_true (by omega)
      go_enter Tryz.func60, Tryz.ntmps60
      go_wp2
      go_ret
      exact ⟨rfl, rfl⟩
  · rw [show U.okI n = false from decide_eq_false h]
    by_cases h0 : 0 ≤ n
    · by_cases h1 : n ≤ 1114111
      · have h2 : 55296 ≤ n := by omega
        have h3 : n ≤ 57343 := by omega
        have h4 : decide (n < 55296) = false := decide_eq_false (by omega)
        have h5 : decide (57343 < n) = false := decide_eq_false (by omega)
        clear h
        go_enter Tryz.func60, Tryz.ntmps60
        go_wp2
        go_ret
        exact ⟨rfl, rfl⟩
      · have h2 : 1114112 ≤ n := by omega
        have h3 : decide (n ≤ 1114111) = false := decide_eq_false h1
        clear h h1
        go_enter Tryz.func60, Tryz.ntmps60
        go_wp2
        go_ret
        exact ⟨rfl, rfl⟩
    · have h2 : n < 0 := by omega
      clear h h0
      go_enter Tryz.func60, Tryz.ntmps60
      go_wp2
      go_ret
      exact ⟨rfl, rfl⟩

/-- the closure: six bits of the number -/
theorem low_1 (n : Nat) (hn : n ≤ 1114111) (ad : Addr) (w : World) (hc : w.cell? ad = some (.int .i64 n)) :
    Calls Tryz.prog 61 #[.int .i64 1, .pointer (some ad)] w fun e w' => e = .returned (.int .u8 (128 + (n : Int) % 64)) ∧ w = w' := by
  go_enter Tryz.func61, Tryz.ntmps61
  go_wp2
  go_ret
  exact ⟨rfl, rfl⟩
theorem low_64 (n : Nat) (hn : n ≤ 1114111) (ad : Addr) (w : World) (hc : w.cell? ad = some (.int .i64 n)) :
    Calls Tryz.prog 61 #[.int .i64 64, .pointer (some ad)] w fun e w' => e = .returned (.int .u8 (128 + (n : Int) / 64 % 64)) ∧ w = w' := by
  go_enter Tryz.func61, Tryz.ntmps61
  go_wp2
  go_ret
  exact ⟨rfl, rfl⟩
theorem low_4096 (n : Nat) (hn : n ≤ 1114111) (ad : Addr) (w : World) (hc : w.cell? ad = some (.int .i64 n)) :
    Calls Tryz.prog 61 #[.int .i64 4096, .pointer (some ad)] w fun e w' => e = .returned (.int .u8 (128 + (n : Int) / 4096 % 64)) ∧ w = w' := by
  go_enter Tryz.func61, Tryz.ntmps61
  go_wp2
  go_ret
  exact ⟨rfl, rfl⟩

/-- a fresh block of bytes is a row -/
theorem row_fresh (w : World) (B : Nat) (hB : B ≤ w.heap.size) (l : List UInt8) (hl : l.length ≤ 4) (cs : Array Value) (hcs : cs.toList = Lib.byteCells l) :
    (w.alloc (.cells cs 5)).ownsRow B 5 1 (.slice (some ⟨w.heap.size, 0, none⟩) l.length l.length) l.length (Lib.byteCells l) := by
  have hsz : cs.size = l.length := by rw [← Array.length_toList, hcs, Lib.byteCells_length]
  refine ⟨by rw [Lib.byteCells_length, Nat.mul_one], .inr ⟨w.heap.size, l.length, cs, rfl, hB, heap_alloc_new w _, Nat.le_refl _, by unfold maxLen; omega, by rw [hsz, Nat.mul_one], ?_⟩⟩
  rw [hcs, List.take_of_length_le (by rw [Lib.byteCells_length]; omega)]

theorem cells_enc {n : Nat} (hn : n ≤ 1114111) : Lib.byteCells (U.enc n) =
    if n < 128 then [.int .u8 (n : Int)] else if n < 2048 then [.int .u8 (192 + (n : Int) / 64), .int .u8 (128 + (n : Int) % 64)]
    else if n < 65536 then [.int .u8 (224 + (n : Int) / 4096), .int .u8 (128 + (n : Int) / 64 % 64), .int .u8 (128 + (n : Int) % 64)]
    else [.int .u8 (240 + (n : Int) / 262144), .int .u8 (128 + (n : Int) / 4096 % 64), .int .u8 (128 + (n : Int) / 64 % 64), .int .u8 (128 + (n : Int) % 64)] := by
  unfold U.enc Lib.byteCells
  by_cases h1 : n < 128
  · simp [h1]; omega
  by_cases h2 : n < 2048
  · simp [h1, h2]; omega
  by_cases h3 : n < 65536
  · simp [h1, h2, h3]; omega
  · simp [h1, h2, h3]; omega

set_option maxHeartbeats 1000000 in
set_option maxRecDepth 1000000 in
theorem utf_bytes (n : Nat) (hn : n ≤ 1114111) (w : World) :
    Calls Tryz.prog 47 #[.int .i64 n] w fun e w' => ∃ v, e = .returned v ∧ w'.ownsRow w.heap.size 5 1 v (U.enc n).length (Lib.byteCells (U.enc n)) ∧ Below w.heap.size w w' := by
  have hce := cells_enc hn
  have hle := (U.enc_length n).2
  by_cases h1 : n < 128
  · rw [if_pos h1] at hce
    have HC := Lib.hid hce
    have hl : (U.enc n).length = 1 := by rw [← Lib.byteCells_length, hce]; rfl
    have HL := Lib.hid hl
    clear hce hl
    go_enter Tryz.func47, Tryz.ntmps47
    go_wp2_with fail
    go_ret
    have hr := row_fresh (w.alloc (.cells #[.int .i64 n] 3)) w.heap.size (by simp) (U.enc n) hle #[.int .u8 n] (by rw [HC.out])
    rw [HL.out] at hr ⊢
    exact ⟨_, rfl, by simpa using hr, by go_grown⟩
  rw [if_neg h1] at hce
  by_cases h2 : n < 2048
  · rw [if_pos h2] at hce
    have HC := Lib.hid hce
    have hl : (U.enc n).length = 2 := by rw [← Lib.byteCells_length, hce]; rfl
    have HL := Lib.hid hl
    clear hce hl
    go_enter Tryz.func47, Tryz.ntmps47
    go_wp2_with fail
    have w1 : IntKind.i64.wrap ((n : Int) / 64) = (n : Int) / 64 := IntWalk.i64_in _ (by omega)
    have w2 : IntKind.i64.wrap (192 + (n : Int) / 64) = 192 + (n : Int) / 64 := IntWalk.i64_in _ (by omega)
    have w3 : IntKind.u8.wrap (192 + (n : Int) / 64) = 192 + (n : Int) / 64 := IntWalk.u8_in _ (by omega)
    go_region_held3 (fun w' => w'.cell? ⟨w.heap.size, 0, none⟩ = some (.int .i64 n)) (first | go_keep)
      (first
        | (go_at_call_of 61 (Value.int IntKind.i64 1); refine (low_1 n hn _ _ (by assumption)).mono ?_; rintro e w' ⟨rfl, rfl⟩))
    go_wp2_with fail
    go_ret
    have hr := row_fresh (w.alloc (.cells #[.int .i64 n] 3)) w.heap.size (by simp) (U.enc n) hle #[.int .u8 (192 + (n : Int) / 64), .int .u8 (128 + (n : Int) % 64)] (by rw [HC.out])
    rw [HL.out] at hr ⊢
    exact ⟨_, rfl, World.ownsRow.drew (by simpa using hr), by go_grown⟩
  rw [if_neg h2] at hce
  by_cases h3 : n < 65536
  · rw [if_pos h3] at hce
    have g1 : (2048 : Int) ≤ (n : Int) := by omega
    have g2 : (n : Int) < 65536 := by omega
    have g3 : decide ((n : Int) < 128) = false := decide_eq_false (by omega)
    have g4 : decide ((n : Int) < 2048) = false := decide_eq_false (by omega)
    clear h1 h2 h3
    have HC := Lib.hid hce
    have hl : (U.enc n).length = 3 := by rw [← Lib.byteCells_length, hce]; rfl
    have HL := Lib.hid hl
    clear hce hl
    go_enter Tryz.func47, Tryz.ntmps47
    go_wp2_with fail
    have w1 : IntKind.i64.wrap ((n : Int) / 4096) = (n : Int) / 4096 := IntWalk.i64_in _ (by omega)
    have w2 : IntKind.i64.wrap (224 + (n : Int) / 4096) = 224 + (n : Int) / 4096 := IntWalk.i64_in _ (by omega)
    have w3 : IntKind.u8.wrap (224 + (n : Int) / 4096) = 224 + (n : Int) / 4096 := IntWalk.u8_in _ (by omega)
    go_region_held3 (fun w' => w'.cell? ⟨w.heap.size, 0, none⟩ = some (.int .i64 n)) (first | go_keep)
      (first
        | (go_at_call_of 61 (Value.int IntKind.i64 64); refine (low_64 n hn _ _ (by assumption)).mono ?_; rintro e w' ⟨rfl, rfl⟩)
        | (go_at_call_of 61 (Value.int IntKind.i64 1); refine (low_1 n hn _ _ (by assumption)).mono ?_; rintro e w' ⟨rfl, rfl⟩))
    go_wp2_with fail
    go_ret
    have hr := row_fresh (w.alloc (.cells #[.int .i64 n] 3)) w.heap.size (by simp) (U.enc n) hle #[.int .u8 (224 + (n : Int) / 4096), .int .u8 (128 + (n : Int) / 64 % 64), .int .u8 (128 + (n : Int) % 64)] (by rw [HC.out])
    rw [HL.out] at hr ⊢
    exact ⟨_, rfl, World.ownsRow.drew (by simpa using hr), by go_grown⟩
  · rw [if_neg h3] at hce
    have g1 : (65536 : Int) ≤ (n : Int) := by omega
    have g3 : decide ((n : Int) < 128) = false := decide_eq_false (by omega)
    have g4 : decide ((n : Int) < 2048) = false := decide_eq_false (by omega)
    clear h1 h2 h3
    have HC := Lib.hid hce
    have hl : (U.enc n).length = 4 := by rw [← Lib.byteCells_length, hce]; rfl
    have HL := Lib.hid hl
    clear hce hl
    go_enter Tryz.func47, Tryz.ntmps47
    go_wp2_with fail
    have w1 : IntKind.i64.wrap ((n : Int) / 262144) = (n : Int) / 262144 := IntWalk.i64_in _ (by omega)
    have w2 : IntKind.i64.wrap (240 + (n : Int) / 262144) = 240 + (n : Int) / 262144 := IntWalk.i64_in _ (by omega)
    have w3 : IntKind.u8.wrap (240 + (n : Int) / 262144) = 240 + (n : Int) / 262144 := IntWalk.u8_in _ (by omega)
    go_region_held3 (fun w' => w'.cell? ⟨w.heap.size, 0, none⟩ = some (.int .i64 n)) (first | go_keep)
      (first
        | (go_at_call_of 61 (Value.int IntKind.i64 4096); refine (low_4096 n hn _ _ (by assumption)).mono ?_; rintro e w' ⟨rfl, rfl⟩)
        | (go_at_call_of 61 (Value.int IntKind.i64 64); refine (low_64 n hn _ _ (by assumption)).mono ?_; rintro e w' ⟨rfl, rfl⟩)
        | (go_at_call_of 61 (Value.int IntKind.i64 1); refine (low_1 n hn _ _ (by assumption)).mono ?_; rintro e w' ⟨rfl, rfl⟩))
    go_wp2_with fail
    go_ret
    have hr := row_fresh (w.alloc (.cells #[.int .i64 n] 3)) w.heap.size (by simp) (U.enc n) hle #[.int .u8 (240 + (n : Int) / 262144), .int .u8 (128 + (n : Int) / 4096 % 64), .int .u8 (128 + (n : Int) / 64 % 64), .int .u8 (128 + (n : Int) % 64)] (by rw [HC.out])
    rw [HL.out] at hr ⊢
    exact ⟨_, rfl, World.ownsRow.drew (by simpa using hr), by go_grown⟩

end Go.Proofs.YtcdgiohogddbkaaGreatDoor

/- Several texts in one: KindAt, Value, Lower, Named. -/
import Derived.Test.YtankcnikebcpkaaGreatDoorProg
import Derived.WalkKit
import Derived.BigCall
import Derived.Below
import Derived.Outline
import Derived.Lib.ConvBytes
import Derived.Laws.IdiomStrings
import Derived.OwnWalk
import Derived.Test.YtankcnikebcpkaaGreatDoorP02
import Derived.Test.YtankcnikebcpkaaGreatDoorP05
import Derived.Test.YtankcnikebcpkaaGreatDoorUntil
import Derived.Test.YtankcnikebcpkaaGreatDoorP21
import Derived.Test.YtankcnikebcpkaaGreatDoorP17
import Derived.Test.YtankcnikebcpkaaGreatDoorP00
namespace Go.Proofs.YtankcnikebcpkaaGreatDoor
open Go.RowKit

set_option maxHeartbeats 1000000 in
set_option maxRecDepth 100000 in
theorem is_letter_t (b : UInt8) (w : World) : Calls Tryz.prog 35 #[.int .u8 b.toNat] w fun e w' => e = .returned (.bool (U.isAl b)) ∧ w' = w := by
  have hb := b.toNat_lt
  rcases Nat.lt_or_ge b.toNat 65 with h1 | h1
  · have hr : U.isAl b = false := by unfold U.isAl; rw [decide_eq_false (by omega : ¬ 97 ≤ b.toNat), decide_eq_false (by omega : ¬ 65 ≤ b.toNat)]; simp
    rw [hr]
    have d1 : decide (97 ≤ (b.toNat : Int)) = false := decide_eq_false (by omega)
    have d2 : decide (65 ≤ (b.toNat : Int)) = false := decide_eq_false (by omega)
    go_enter Tryz.func35, Tryz.ntmps35
    go_wp2
    go_ret
    exact ⟨rfl, rfl⟩
  rcases Nat.lt_or_ge b.toNat 91 with h2 | h2
  · have hr : U.isAl b = true := by unfold U.isAl; rw [decide_eq_true h1, decide_eq_true (by omega : b.toNat ≤ 90)]; simp
    rw [hr]
    have d1 : decide (97 ≤ (b.toNat : Int)) = false := decide_eq_false (by omega)
    have d2 : decide (65 ≤ (b.toNat : Int)) = true := decide_eq_true (by omega)
    have d3 : decide ((b.toNat : Int) ≤ 90) = true := decide_eq_true (by omega)
    go_enter Tryz.func35, Tryz.ntmps35
    go_wp2
    go_ret
    exact ⟨rfl, rfl⟩
  rcases Nat.lt_or_ge b.toNat 97 with h3 | h3
  · have hr : U.isAl b = false := by unfold U.isAl; rw [decide_eq_false (by omega : ¬ 97 ≤ b.toNat), decide_eq_false (by omega : ¬ b.toNat ≤ 90)]; simp
    rw [hr]
    have d1 : decide (97 ≤ (b.toNat : Int)) = false := decide_eq_false (by omega)
    have d2 : decide (65 ≤ (b.toNat : Int)) = true := decide_eq_true (by omega)
    have d3 : decide ((b.toNat : Int) ≤ 90) = false := decide_eq_false (by omega)
    go_enter Tryz.func35, Tryz.ntmps35
    go_wp2
    go_ret
    exact ⟨rfl, rfl⟩
  rcases Nat.lt_or_ge b.toNat 123 with h4 | h4
  · have hr : U.isAl b = true := by unfold U.isAl; rw [decide_eq_true h3, decide_eq_true (by omega : b.toNat ≤ 122)]; simp
    rw [hr]
    have d1 : decide (97 ≤ (b.toNat : Int)) = true := decide_eq_true (by omega)
    have d2 : decide ((b.toNat : Int) ≤ 122) = true := decide_eq_true (by omega)
    go_enter Tryz.func35, Tryz.ntmps35
    go_wp2
    go_ret
    exact ⟨rfl, rfl⟩
  · have hr : U.isAl b = false := by unfold U.isAl; rw [decide_eq_false (by omega : ¬ b.toNat ≤ 122), decide_eq_false (by omega : ¬ b.toNat ≤ 90)]; simp
    rw [hr]
    have d1 : decide (97 ≤ (b.toNat : Int)) = true := decide_eq_true (by omega)
    have d2 : decide ((b.toNat : Int) ≤ 122) = false := decide_eq_false (by omega)
    have d3 : decide (65 ≤ (b.toNat : Int)) = true := decide_eq_true (by omega)
    have d4 : decide ((b.toNat : Int) ≤ 90) = false := decide_eq_false (by omega)
    go_enter Tryz.func35, Tryz.ntmps35
    go_wp2
    go_ret
    exact ⟨rfl, rfl⟩

theorem list_zero {s : ByteArray} {k : Nat} (h : s.size ≤ k) : s.data.toList.drop k = [] := List.drop_of_length_le (by rw [len_list]; exact h)
theorem list_two {s : ByteArray} (h : 1 < s.size) : s.data.toList = s[0] :: s[1] :: s.data.toList.drop 2 := by
  have h1 := drop_byte (byte_get s (k := 0) (by omega))
  have h2 := drop_byte (byte_get s (k := 1) (by omega))
  rw [List.drop_zero] at h1
  rw [← h2]
  exact h1
theorem byte_ne {b : UInt8} {n : Nat} (hn : n < 256) (h : (b.toNat : Int) ≠ n) : b ≠ UInt8.ofNat n := fun e => h (by rw [e]; simp; omega)
theorem bne_yes {b : UInt8} {n : Int} (h : (b.toNat : Int) ≠ n) : ((b.toNat : Int) != n) = true := by simpa using h
theorem bne_no {b : UInt8} {n : Int} (h : (b.toNat : Int) = n) : ((b.toNat : Int) != n) = false := by rw [h]; simp

set_option maxHeartbeats 4000000 in
set_option maxRecDepth 100000 in
theorem kind_short (s : ByteArray) (w : World) (h2 : s.size < 2) : Calls Tryz.prog 24 #[.string s] w fun e w' => e = .returned (.int .i64 3) ∧ w' = w := by
  go_enter Tryz.func24, Tryz.ntmps24
  go_wp2_with fail
  go_ret
  exact ⟨rfl, rfl⟩
set_option maxHeartbeats 4000000 in
set_option maxRecDepth 100000 in
theorem kind_other (s : ByteArray) (w : World) (h2 : 1 < s.size) (b60 : (((s[0]'(by omega)).toNat : Int) != 60) = true) : Calls Tryz.prog 24 #[.string s] w fun e w' => e = .returned (.int .i64 3) ∧ w' = w := by
  go_enter Tryz.func24, Tryz.ntmps24
  go_wp2_with fail
  go_ret
  exact ⟨rfl, rfl⟩
set_option maxHeartbeats 4000000 in
set_option maxRecDepth 100000 in
theorem kind_start (s : ByteArray) (w : World) (h2 : 1 < s.size) (b60 : (((s[0]'(by omega)).toNat : Int) != 60) = false) (al : U.isAl (s[1]'h2) = true) : Calls Tryz.prog 24 #[.string s] w fun e w' => e = .returned (.int .i64 1) ∧ w' = w := by
  go_enter Tryz.func24, Tryz.ntmps24
  go_wp2_with (refine (is_letter_t _ _).mono ?_; rintro e w' ⟨rfl, rfl⟩; rw [al])
  go_ret
  exact ⟨rfl, rfl⟩
set_option maxHeartbeats 4000000 in
set_option maxRecDepth 100000 in
theorem kind_33 (s : ByteArray) (w : World) (h2 : 1 < s.size) (b60 : (((s[0]'(by omega)).toNat : Int) != 60) = false) (al : U.isAl (s[1]'h2) = false) (b33 : (((s[1]'h2).toNat : Int) == 33) = true) : Calls Tryz.prog 24 #[.string s] w fun e w' => e = .returned (.int .i64 4) ∧ w' = w := by
  go_enter Tryz.func24, Tryz.ntmps24
  go_wp2_with (refine (is_letter_t _ _).mono ?_; rintro e w' ⟨rfl, rfl⟩; rw [al])
  go_ret
  exact ⟨rfl, rfl⟩
set_option maxHeartbeats 4000000 in
set_option maxRecDepth 100000 in
theorem kind_63 (s : ByteArray) (w : World) (h2 : 1 < s.size) (b60 : (((s[0]'(by omega)).toNat : Int) != 60) = false) (al : U.isAl (s[1]'h2) = false) (b33 : (((s[1]'h2).toNat : Int) == 33) = false) (b63 : (((s[1]'h2).toNat : Int) == 63) = true) : Calls Tryz.prog 24 #[.string s] w fun e w' => e = .returned (.int .i64 4) ∧ w' = w := by
  go_enter Tryz.func24, Tryz.ntmps24
  go_wp2_with (refine (is_letter_t _ _).mono ?_; rintro e w' ⟨rfl, rfl⟩; rw [al])
  go_ret
  exact ⟨rfl, rfl⟩
set_option maxHeartbeats 4000000 in
set_option maxRecDepth 100000 in
theorem kind_not47 (s : ByteArray) (w : World) (h2 : 1 < s.size) (b60 : (((s[0]'(by omega)).toNat : Int) != 60) = false) (al : U.isAl (s[1]'h2) = false) (b33 : (((s[1]'h2).toNat : Int) == 33) = false) (b63 : (((s[1]'h2).toNat : Int) == 63) = false) (b47 : (((s[1]'h2).toNat : Int) != 47) = true) : Calls Tryz.prog 24 #[.string s] w fun e w' => e = .returned (.int .i64 3) ∧ w' = w := by
  go_enter Tryz.func24, Tryz.ntmps24
  go_wp2_with (refine (is_letter_t _ _).mono ?_; rintro e w' ⟨rfl, rfl⟩; rw [al])
  go_ret
  exact ⟨rfl, rfl⟩
set_option maxHeartbeats 4000000 in
set_option maxRecDepth 100000 in
theorem kind_two (s : ByteArray) (w : World) (h2 : 1 < s.size) (b60 : (((s[0]'(by omega)).toNat : Int) != 60) = false) (al : U.isAl (s[1]'h2) = false) (b33 : (((s[1]'h2).toNat : Int) == 33) = false) (b63 : (((s[1]'h2).toNat : Int) == 63) = false) (b47 : (((s[1]'h2).toNat : Int) != 47) = false) (n2 : ((s.size : Int) == 2) = true) : Calls Tryz.prog 24 #[.string s] w fun e w' => e = .returned (.int .i64 3) ∧ w' = w := by
  go_enter Tryz.func24, Tryz.ntmps24
  go_wp2_with (refine (is_letter_t _ _).mono ?_; rintro e w' ⟨rfl, rfl⟩; rw [al])
  go_ret
  exact ⟨rfl, rfl⟩
set_option maxHeartbeats 4000000 in
set_option maxRecDepth 100000 in
theorem kind_end_true (s : ByteArray) (w : World) (h2 : 1 < s.size) (h3 : 2 < s.size) (b60 : (((s[0]'(by omega)).toNat : Int) != 60) = false) (al : U.isAl (s[1]'h2) = false) (b33 : (((s[1]'h2).toNat : Int) == 33) = false) (b63 : (((s[1]'h2).toNat : Int) == 63) = false) (b47 : (((s[1]'h2).toNat : Int) != 47) = false) (n2 : ((s.size : Int) == 2) = false) (al2 : U.isAl (s[2]'h3) = true) : Calls Tryz.prog 24 #[.string s] w fun e w' => e = .returned (.int .i64 2) ∧ w' = w := by
  go_enter Tryz.func24, Tryz.ntmps24
  go_wp2_with (refine (is_letter_t _ _).mono ?_; rintro e w' ⟨rfl, rfl⟩; first | rw [al] | rw [al2])
  go_ret
  exact ⟨rfl, rfl⟩
set_option maxHeartbeats 4000000 in
set_option maxRecDepth 100000 in
theorem kind_end_false (s : ByteArray) (w : World) (h2 : 1 < s.size) (h3 : 2 < s.size) (b60 : (((s[0]'(by omega)).toNat : Int) != 60) = false) (al : U.isAl (s[1]'h2) = false) (b33 : (((s[1]'h2).toNat : Int) == 33) = false) (b63 : (((s[1]'h2).toNat : Int) == 63) = false) (b47 : (((s[1]'h2).toNat : Int) != 47) = false) (n2 : ((s.size : Int) == 2) = false) (al2 : U.isAl (s[2]'h3) = false) : Calls Tryz.prog 24 #[.string s] w fun e w' => e = .returned (.int .i64 4) ∧ w' = w := by
  go_enter Tryz.func24, Tryz.ntmps24
  go_wp2_with (refine (is_letter_t _ _).mono ?_; rintro e w' ⟨rfl, rfl⟩; first | rw [al] | rw [al2])
  go_ret
  exact ⟨rfl, rfl⟩

theorem kind_at (s : ByteArray) (w : World) : Calls Tryz.prog 24 #[.string s] w fun e w' => e = .returned (.int .i64 (U.kindOf s.data.toList : Nat)) ∧ w' = w := by
  rcases Nat.lt_or_ge s.size 2 with h2 | h2
  · have hr : U.kindOf s.data.toList = 3 := by
      have hl := len_list s
      match s.data.toList, hl with
      | [], _ => rfl
      | [a], _ => rfl
      | a :: b :: l, hl => simp only [List.length_cons] at hl; omega
    rw [hr]
    exact kind_short s w h2
  have hl := list_two (s := s) h2
  rw [hl, U.kindOf_cons]
  by_cases h60 : ((s[0]'(by omega)).toNat : Int) = 60
  · rw [if_neg (fun h => h ((byte_eq (k := 60) (by decide)).1 (by omega)))]
    cases hal : U.isAl (s[1]'h2) with
    | true =>
      rw [if_pos rfl]
      exact kind_start s w h2 (bne_no h60) hal
    | false =>
      rw [if_neg (by decide)]
      by_cases h33 : ((s[1]'h2).toNat : Int) = 33
      · rw [if_pos (.inl ((byte_eq (k := 33) (by decide)).1 (by omega)))]
        exact kind_33 s w h2 (bne_no h60) hal (beq_yes h33)
      by_cases h63 : ((s[1]'h2).toNat : Int) = 63
      · rw [if_pos (.inr ((byte_eq (k := 63) (by decide)).1 (by omega)))]
        exact kind_63 s w h2 (bne_no h60) hal (beq_no h33) (beq_yes h63)
      rw [if_neg (by rintro (e | e); exact h33 (by rw [e]; rfl); exact h63 (by rw [e]; rfl))]
      by_cases h47 : ((s[1]'h2).toNat : Int) = 47
      · rw [if_pos (show s[1]'h2 = 47 from (byte_eq (k := 47) (by decide)).1 (by omega))]
        rcases Nat.lt_or_ge 2 s.size with h3 | h3
        · rw [drop_byte (byte_get s (k := 2) h3), U.kindS_cons]
          have n2 : ((s.size : Int) == 2) = false := by rw [beq_eq_false_iff_ne]; omega
          cases hal2 : U.isAl (s[2]'h3) with
          | true => exact kind_end_true s w h2 h3 (bne_no h60) hal (beq_no h33) (beq_no h63) (bne_no h47) n2 hal2
          | false => exact kind_end_false s w h2 h3 (bne_no h60) hal (beq_no h33) (beq_no h63) (bne_no h47) n2 hal2
        · rw [list_zero (by omega)]
          exact kind_two s w h2 (bne_no h60) hal (beq_no h33) (beq_no h63) (bne_no h47) (by rw [beq_iff_eq]; omega)
      · rw [if_neg (fun e => h47 (by rw [e]; rfl))]
        exact kind_not47 s w h2 (bne_no h60) hal (beq_no h33) (beq_no h63) (bne_yes h47)
  · rw [if_pos (fun e => h60 (by rw [e]; rfl))]
    exact kind_other s w h2 (bne_yes h60)

end Go.Proofs.YtankcnikebcpkaaGreatDoor

namespace Go.Proofs.YtankcnikebcpkaaGreatDoor
open Go.RowKit

/-- the package-level variables that the library reads -/
structure Glob (w : World) : Prop where
  max : ∃ m, w.cell? ⟨0, 0, none⟩ = some (.int .i64 m)
  err : ErrS w
/-- a block that is none of them -/
def Far (bp : Nat) : Prop := 0 ≠ bp ∧ 3 ≠ bp
theorem Glob.grown {w w' : World} {bp : Nat} (h : Glob w) (hf : Far bp) (hg : w.grownBy w' (some bp)) : Glob w' := by
  obtain ⟨m, hm⟩ := h.max
  obtain ⟨te, pe, he⟩ := h.err
  exact ⟨⟨m, hg.cell hm (by simpa using hf.1)⟩, ⟨te, pe, hg.cell he (by simpa using hf.2)⟩⟩
theorem Glob.below {w w' : World} (h : Glob w) (hb : Below w.heap.size w w') : Glob w' := by
  obtain ⟨m, hm⟩ := h.max
  obtain ⟨te, pe, he⟩ := h.err
  exact ⟨⟨m, (hb.cell (World.block_lt_of_cell? w _ hm)).trans hm⟩, ⟨te, pe, (hb.cell (World.block_lt_of_cell? w _ he)).trans he⟩⟩

namespace U
theorem index_place (find : List UInt8) (hf : find ≠ []) : ∀ l : List UInt8, Lib.index l find = match placeOf find l with
    | none => -1
    | some k => (k : Int)
  | [] => by
    rw [Lib.index, placeOf, if_neg hf]
    cases find with
    | nil => exact absurd rfl hf
    | cons a f => rfl
  | b :: r => by
    rw [Lib.index, placeOf, prefix_take]
    by_cases h : (b :: r).take find.length = find
    · rw [if_pos h, if_pos (by rw [h]; simp)]
      rfl
    · rw [if_neg h, if_neg (by simpa using h), index_place find hf r]
      cases placeOf find r with
      | none => rfl
      | some k =>
        simp only [Option.map_some]
        rw [if_neg (by simp only [beq_iff_eq]; omega)]
        rfl
theorem cut_place (find l : List UInt8) (hf : find ≠ []) : Lib.cut l find = match placeOf find l with
    | none => (l, [], false)
    | some k => (l.take k, l.drop (k + find.length), true) := by
  unfold Lib.cut
  rw [index_place find hf l]
  cases placeOf find l with
  | none => rfl
  | some k =>
    simp only
    rw [if_pos (by omega)]
    rfl
end U

theorem cut_val (q : UInt8) (l : List UInt8) (hq : q = 34 ∨ q = 39) : ∃ A B f, Lib.cut l [q] = (A, B, f) ∧ U.readVal (q :: l) = (A, B) ∧ A.length + B.length ≤ l.length := by
  rw [U.cut_place [q] l (by simp)]
  unfold U.readVal
  simp only [if_pos hq]
  cases hp : U.placeOf [q] l with
  | none => exact ⟨l, [], false, rfl, rfl, by simp⟩
  | some k => exact ⟨l.take k, l.drop (k + 1), true, rfl, rfl, by simp only [List.length_take, List.length_drop]; omega⟩
theorem empty_of {r : ByteArray} (h : r.size = 0) : r.toList.isEmpty = true := by
  rw [Lib.toList_data, show r.data.toList = [] from List.eq_nil_of_length_eq_zero (by rw [len_list]; exact h)]; rfl
theorem empty_not {r : ByteArray} (h : 0 < r.size) : r.toList.isEmpty = false := by
  rw [Lib.toList_data]
  cases hl : r.data.toList with
  | nil => have := len_list r; rw [hl, List.length_nil] at this; omega
  | cons _ _ => rfl
theorem list_one {r : ByteArray} (h : 0 < r.size) : r.data.toList = r[0] :: r.data.toList.drop 1 := by
  have := drop_byte (byte_get r (k := 0) h)
  rwa [List.drop_zero] at this

/-- a value is read -/
def Valued (w w' : World) (bp : Nat) (r : ByteArray) (v : Value) (e : Ending) : Prop :=
  ∃ a b : ByteArray, e = .returned (.string a) ∧ Reads w w' bp b v ∧ a.data.toList = (U.readVal r.data.toList).1 ∧ b.data.toList = (U.readVal r.data.toList).2 ∧ a.size + b.size ≤ r.size

theorem bare_set : (fun b => !([32, 9, 10, 12, 62] : List UInt8).contains b) = U.bareB := by
  funext b
  rw [Bool.eq_iff_iff]
  simp [U.bareB, U.isSp, and_assoc]
theorem valued_bare {w w' : World} {bp : Nat} {r : ByteArray} {v : Value} {e : Ending} (hq : ∀ b l, r.data.toList = b :: l → ¬ (b = 34 ∨ b = 39)) (h : Took w w' bp r v (fun b => !([32, 9, 10, 12, 62] : List UInt8).contains b) e) : Valued w w' bp r v e := by
  obtain ⟨a, b, he, hR, ha, hb, hs⟩ := h
  rw [bare_set] at ha hb
  refine ⟨a, b, he, hR, ?_, ?_, by omega⟩
  · rw [ha]
    cases hl : r.data.toList with
    | nil => rfl
    | cons c l => unfold U.readVal; simp only [if_neg (hq c l hl)]
  · rw [hb]
    cases hl : r.data.toList with
    | nil => rfl
    | cons c l => unfold U.readVal; simp only [if_neg (hq c l hl)]

set_option maxHeartbeats 4000000 in
set_option maxRecDepth 100000 in
theorem read_value (w : World) (bp : Nat) (r : ByteArray) (v : Value) (h : w.heap[bp]? = some (parBlock r v)) (hr : r.size ≤ 1048576) (hG : Glob w) (hF : Far bp) :
    Calls Tryz.prog 83 #[.pointer (some ⟨bp, 0, none⟩)] w fun e w' => Valued w w' bp r v e := by
  obtain ⟨c0, c1, f0, f1⟩ := par_cells h
  have hu := until_walk (ByteArray.mk #[32, 9, 10, 12, 62]) w bp r v h hr (by decide) (by decide) (by decide)
  have hset : (ByteArray.mk #[32, 9, 10, 12, 62]).data.toList = [32, 9, 10, 12, 62] := rfl
  rw [hset] at hu
  rcases Nat.eq_zero_or_pos r.size with h0 | h0
  · have hem := empty_of h0
    have hq : ∀ b l, r.data.toList = b :: l → ¬ (b = 34 ∨ b = 39) := fun b l e => by
      have := len_list r
      rw [e, List.length_cons] at this
      omega
    have HQ := Lib.hid hq
    clear hq
    go_enter Tryz.func83, Tryz.ntmps83
    go_wp2_with (refine hu.mono ?_; rintro e w2 ⟨a, b, rfl, hR, ha, hb, hs⟩)
    go_ret
    exact valued_bare HQ.out ⟨a, b, rfl, hR, ha, hb, hs⟩
  · have hem := empty_not h0
    have hl := list_one h0
    by_cases hq : r[0] = 34 ∨ r[0] = 39
    · obtain ⟨A, B, f, hcut, hval, hAB⟩ := cut_val (r[0]'h0) (r.data.toList.drop 1) hq
      have hx : (r.extract 0 1).data.toList = [r[0]'h0] := by rw [list_take, hl]; rfl
      rw [← list_drop, ← hx] at hcut
      rw [← hl] at hval
      have hAB2 : A.length + B.length ≤ r.size := by
        rw [List.length_drop, len_list] at hAB
        omega
      have HV := Lib.hid hval
      clear hx hl hAB hval
      rcases hq with hq | hq
      · have b34 : (((r[0]'h0).toNat : Int) != 34) = false := by rw [hq]; rfl
        clear hq
        go_enter Tryz.func83, Tryz.ntmps83
        go_wp2_with (first
          | (refine (take_walk w bp 1 r v h h0).mono ?_; rintro e w2 ⟨rfl, hR⟩; obtain ⟨k0, k1, k2, k3⟩ := par_cells hR.par; obtain ⟨m, hm⟩ := (hG.grown hF hR.grown).max)
          | (refine (Tryz.strings_Cut _ _ m _ (by rw [size_drop]; omega) hm).mono ?_; rintro e w3 ⟨rfl, n, rfl⟩; rw [hcut]; have hR2 := (hR.later (below_drewN (Below.refl _ _) n)); obtain ⟨j0, j1, j2, j3⟩ := par_cells hR2.par; have hR3 := hR2.setRest ⟨B.toArray⟩))
        go_ret
        exact ⟨_, _, rfl, hR3, by rw [HV.out], by rw [HV.out], by rw [size_of_mk, size_of_mk]; omega⟩
      · have b34 : (((r[0]'h0).toNat : Int) != 34) = true := by rw [hq]; rfl
        have b39 : (((r[0]'h0).toNat : Int) != 39) = false := by rw [hq]; rfl
        clear hq
        go_enter Tryz.func83, Tryz.ntmps83
        go_wp2_with (first
          | (refine (take_walk w bp 1 r v h h0).mono ?_; rintro e w2 ⟨rfl, hR⟩; obtain ⟨k0, k1, k2, k3⟩ := par_cells hR.par; obtain ⟨m, hm⟩ := (hG.grown hF hR.grown).max)
          | (refine (Tryz.strings_Cut _ _ m _ (by rw [size_drop]; omega) hm).mono ?_; rintro e w3 ⟨rfl, n, rfl⟩; rw [hcut]; have hR2 := (hR.later (below_drewN (Below.refl _ _) n)); obtain ⟨j0, j1, j2, j3⟩ := par_cells hR2.par; have hR3 := hR2.setRest ⟨B.toArray⟩))
        go_ret
        exact ⟨_, _, rfl, hR3, by rw [HV.out], by rw [HV.out], by rw [size_of_mk, size_of_mk]; omega⟩
    · have HQ : Hid (∀ b l, r.data.toList = b :: l → ¬ (b = 34 ∨ b = 39)) := by
        intro b l e
        rw [hl] at e
        injection e with e _
        rw [← e]; exact hq
      have b34 : (((r[0]'h0).toNat : Int) != 34) = true := bne_yes (fun e => hq (.inl ((byte_eq (k := 34) (by decide)).1 (by omega))))
      have b39 : (((r[0]'h0).toNat : Int) != 39) = true := bne_yes (fun e => hq (.inr ((byte_eq (k := 39) (by decide)).1 (by omega))))
      clear hq hl
      go_enter Tryz.func83, Tryz.ntmps83
      go_wp2_with (refine hu.mono ?_; rintro e w2 ⟨a, b, rfl, hR, ha, hb, hs⟩)
      go_ret
      exact valued_bare HQ.out ⟨a, b, rfl, hR, ha, hb, hs⟩

end Go.Proofs.YtankcnikebcpkaaGreatDoor

namespace Go.Proofs.YtankcnikebcpkaaGreatDoor
open Go.RowKit

/-- while the bytes are lowered: the first k are -/
structure LowW (w wr : World) (s : ByteArray) (k : Nat) : Prop where
  below : Below w.heap.size w wr
  done : ∀ (j : Nat) (b : UInt8), j < k → s.data.toList[j]? = some b → wr.cell? ⟨w.heap.size, j, none⟩ = some (.int .u8 (U.low1 b).toNat)
  todo : ∀ (j : Nat) (b : UInt8), k ≤ j → s.data.toList[j]? = some b → wr.cell? ⟨w.heap.size, j, none⟩ = some (.int .u8 b.toNat)
  warm : ∀ (j : Nat), j < s.size → wr.frozen? ⟨w.heap.size, j, none⟩ = false
theorem LowW.start (w : World) (s : ByteArray) : LowW w (Lib.bytesWorld w 5 s) s 0 := by
  refine ⟨⟨by simp [Lib.bytesWorld, World.freeze, World.alloc, World.drew, -World.alloc_eq, -World.drew_eq], by simp [Lib.bytesWorld, World.freeze, World.alloc, World.drew, -World.alloc_eq, -World.drew_eq], by simp [Lib.bytesWorld, World.freeze, World.alloc, World.drew, -World.alloc_eq, -World.drew_eq], by rw [Lib.bytesWorld_size]; omega, fun k hk => Lib.bytesWorld_at_old w _ s k hk⟩, fun j b hj => by omega, fun j b _ hb => ?_, fun j hj => ?_⟩
  · have hlt : j < s.size := by
      have := (List.getElem?_eq_some_iff.1 hb).1
      rwa [len_list] at this
    rw [Lib.bytesWorld_cell w _ s j hlt, List.getD_eq_getElem?_getD, hb]
    rfl
  · unfold World.frozen?
    rw [Lib.bytesWorld_at_new]
    have : s.size ≤ (Lib.bytesCells w 5 s).size := by
      unfold Lib.bytesCells
      rw [Array.size_append, Array.size_map]
      show s.data.size ≤ _
      omega
    simp only [Bool.and_eq_false_iff, decide_eq_false_iff_not]
    left
    show ¬ (Lib.bytesCells w 5 s).size ≤ j
    omega
theorem LowW.set {w wr : World} {s : ByteArray} {k : Nat} {b : UInt8} (h : LowW w wr s k) (hb : s.data.toList[k]? = some b) : LowW w (wr.setCell ⟨w.heap.size, k, none⟩ (.int .u8 (U.low1 b).toNat)) s (k + 1) := by
  refine ⟨h.below.setCell (p := ⟨w.heap.size, k, none⟩) (Nat.le_refl _) _, fun j c hj hc => ?_, fun j c hj hc => ?_, fun j hj => by rw [World.frozen?_setCell]; exact h.warm j hj⟩
  · by_cases e : j = k
    · subst e
      rw [hb] at hc
      injection hc with hc
      subst hc
      exact World.cell?_setCell_same _ _ _ (h.todo j b (Nat.le_refl _) hb)
    · rw [World.cell?_setCell_other _ _ _ _ (fun e2 => e (by injection e2 with _ e2; exact e2.symm))]
      exact h.done j c (by omega) hc
  · rw [World.cell?_setCell_other _ _ _ _ (fun e2 => by injection e2 with _ e2; omega)]
    exact h.todo j c (by omega) hc
theorem LowW.next {w wr : World} {s : ByteArray} {k : Nat} {b : UInt8} (h : LowW w wr s k) (hb : s.data.toList[k]? = some b) (hl : U.low1 b = b) : LowW w wr s (k + 1) := by
  refine ⟨h.below, fun j c hj hc => ?_, fun j c hj hc => h.todo j c (by omega) hc, h.warm⟩
  by_cases e : j = k
  · subst e
    rw [hb] at hc
    injection hc with hc
    subst hc
    rw [hl]
    exact h.todo j b (Nat.le_refl _) hb
  · exact h.done j c (by omega) hc
theorem LowW.fin {w wr : World} {s : ByteArray} (h : LowW w wr s s.size) (cap : Nat) : (convert 54 9 (.slice (some ⟨w.heap.size, 0, none⟩) s.size cap)).run Tryz.prog wr = .ok (.string ⟨(U.low s.data.toList).toArray⟩) wr := by
  have e : s.size = (U.low s.data.toList).length := by rw [U.low_length, len_list]
  rw [e]
  refine run_convert_bytes_back wr _ _ 5 _ cap (U.low s.data.toList) Tryz.underlying54 Tryz.underlying5 Tryz.underlying9 (fun j hj => ?_)
  have hj2 : j < s.data.toList.length := by rwa [U.low_length] at hj
  have := h.done j _ (by rwa [← e] at hj) (List.getElem?_eq_getElem hj2)
  have e2 : (U.low s.data.toList)[j] = U.low1 (s.data.toList[j]) := by simp [U.low]
  rw [e2, show (⟨w.heap.size, 0, none⟩ : Addr).add j = ⟨w.heap.size, j, none⟩ from by cases j <;> simp [Addr.add]]
  exact this

set_option maxHeartbeats 4000000 in
set_option maxRecDepth 100000 in
theorem lower_walk (s : ByteArray) (w : World) (hs : s.size ≤ 140737488351232) :
    Calls Tryz.prog 56 #[.string s] w fun e w' => e = .returned (.string ⟨(U.low s.data.toList).toArray⟩) ∧ Below w.heap.size w w' := by
  have hcv := Lib.run_convert_string_bytes (P := Tryz.prog) w 9 54 5 s (u := .string) Tryz.underlying9 Tryz.underlying54 Tryz.underlying5
  have h0 := LowW.start w s
  generalize grownCap w s.size 0 5 = cap at *
  generalize Lib.bytesWorld w 5 s = w0 at *
  go_enter Tryz.func56, Tryz.ntmps56
  go_wp2_with fail
  go_loopw [10] (fun i wr => ∃ k : Nat, k ≤ s.size ∧ i = .int .i64 k ∧ LowW w wr s k) (fun i _ => s.size - (intOf i).toNat)
  case atStart => exact ⟨0, Nat.zero_le _, rfl, h0⟩
  case round =>
    obtain ⟨k, hk, rfl, hW⟩ := hrel
    by_cases hlt : k < s.size
    · have hg := byte_get s hlt
      generalize s[k]'hlt = b at hg
      have hb := b.toNat_lt
      have hc := hW.todo k b (Nat.le_refl _) hg
      have hf := hW.warm k hlt
      by_cases hup : 65 ≤ b.toNat ∧ b.toNat ≤ 90
      · have hv : (b.toNat : Int) + 97 - 65 = ((U.low1 b).toNat : Int) := by
          unfold U.low1
          rw [if_pos hup]
          simp
          omega
        have HN := hW.set hg
        obtain ⟨u0, u1⟩ := hup
        clear hg hW
        go_wp2_with fail
        go_roundw
        case rel => exact ⟨k + 1, by omega, by go_num, HN⟩
        case measure => simp [intOf]; omega
      · have hl : U.low1 b = b := by unfold U.low1; rw [if_neg hup]
        have HN := hW.next hg hl
        clear hg hW hl
        rcases Nat.lt_or_ge b.toNat 65 with h1 | h1
        · clear hup
          go_wp2_with fail
          go_roundw
          case rel => exact ⟨k + 1, by omega, by go_num, HN⟩
          case measure => simp [intOf]; omega
        · have h2 : 91 ≤ b.toNat := by omega
          clear hup
          go_wp2_with fail
          go_roundw
          case rel => exact ⟨k + 1, by omega, by go_num, HN⟩
          case measure => simp [intOf]; omega
    · obtain rfl : k = s.size := by omega
      have hfin := hW.fin cap
      have hbl := hW.below
      clear hW
      go_wp2_with fail
      go_ret
      exact ⟨rfl, hbl⟩

end Go.Proofs.YtankcnikebcpkaaGreatDoor

namespace Go.Proofs.YtankcnikebcpkaaGreatDoor
open Go.RowKit

set_option maxHeartbeats 4000000 in
set_option maxRecDepth 100000 in
theorem named_walk (t : ByteArray) (w : World) : Calls Tryz.prog 87 #[.string t] w fun e w' => e = .returned (ptV (U.nameOf t.data.toList)) ∧ Below w.heap.size w w' := by
  have ht := Lib.toList_data t
  by_cases h0 : t.data.toList = [97, 109, 112]
  · have hN : U.nameOf t.data.toList = some 38 := by rw [h0]; rfl
    have HN := Lib.hid hN
    have tt0 : (t.toList == [97, 109, 112]) = true := by rw [ht, h0]; rfl
    clear hN ht h0
    go_enter Tryz.func87, Tryz.ntmps87
    go_wp2
    go_ret2
    rw [HN.out]
    exact ⟨rfl, Below.refl _ _⟩
  have tt0 : (t.toList == [97, 109, 112]) = false := by rw [ht, beq_eq_false_iff_ne]; exact h0
  by_cases h1 : t.data.toList = [108, 116]
  · have hN : U.nameOf t.data.toList = some 60 := by rw [h1]; rfl
    have HN := Lib.hid hN
    have tt1 : (t.toList == [108, 116]) = true := by rw [ht, h1]; rfl
    clear hN ht h1
    go_enter Tryz.func87, Tryz.ntmps87
    go_wp2
    go_ret2
    rw [HN.out]
    exact ⟨rfl, Below.refl _ _⟩
  have tt1 : (t.toList == [108, 116]) = false := by rw [ht, beq_eq_false_iff_ne]; exact h1
  by_cases h2 : t.data.toList = [103, 116]
  · have hN : U.nameOf t.data.toList = some 62 := by rw [h2]; rfl
    have HN := Lib.hid hN
    have tt2 : (t.toList == [103, 116]) = true := by rw [ht, h2]; rfl
    clear hN ht h2
    go_enter Tryz.func87, Tryz.ntmps87
    go_wp2
    go_ret2
    rw [HN.out]
    exact ⟨rfl, Below.refl _ _⟩
  have tt2 : (t.toList == [103, 116]) = false := by rw [ht, beq_eq_false_iff_ne]; exact h2
  by_cases h3 : t.data.toList = [113, 117, 111, 116]
  · have hN : U.nameOf t.data.toList = some 34 := by rw [h3]; rfl
    have HN := Lib.hid hN
    have tt3 : (t.toList == [113, 117, 111, 116]) = true := by rw [ht, h3]; rfl
    clear hN ht h3
    go_enter Tryz.func87, Tryz.ntmps87
    go_wp2
    go_ret2
    rw [HN.out]
    exact ⟨rfl, Below.refl _ _⟩
  have tt3 : (t.toList == [113, 117, 111, 116]) = false := by rw [ht, beq_eq_false_iff_ne]; exact h3
  by_cases h4 : t.data.toList = [110, 98, 115, 112]
  · have hN : U.nameOf t.data.toList = some 160 := by rw [h4]; rfl
    have HN := Lib.hid hN
    have tt4 : (t.toList == [110, 98, 115, 112]) = true := by rw [ht, h4]; rfl
    clear hN ht h4
    go_enter Tryz.func87, Tryz.ntmps87
    go_wp2
    go_ret2
    rw [HN.out]
    exact ⟨rfl, Below.refl _ _⟩
  have tt4 : (t.toList == [110, 98, 115, 112]) = false := by rw [ht, beq_eq_false_iff_ne]; exact h4
  by_cases h5 : t.data.toList = [99, 111, 112, 121]
  · have hN : U.nameOf t.data.toList = some 169 := by rw [h5]; rfl
    have HN := Lib.hid hN
    have tt5 : (t.toList == [99, 111, 112, 121]) = true := by rw [ht, h5]; rfl
    clear hN ht h5
    go_enter Tryz.func87, Tryz.ntmps87
    go_wp2
    go_ret2
    rw [HN.out]
    exact ⟨rfl, Below.refl _ _⟩
  have tt5 : (t.toList == [99, 111, 112, 121]) = false := by rw [ht, beq_eq_false_iff_ne]; exact h5
  have HN := Lib.hid (show U.nameOf t.data.toList = none by
    unfold U.nameOf
    rw [if_neg h0, if_neg h1, if_neg h2, if_neg h3, if_neg h4, if_neg h5])
  clear ht h0 h1 h2 h3 h4 h5
  go_enter Tryz.func87, Tryz.ntmps87
  go_wp2
  go_ret2
  rw [HN.out]
  exact ⟨rfl, Below.refl _ _⟩

/-- what leadingReference answers -/
def leadV (r : List UInt8) (v : Value) : Prop := ∃ (p k : Int) (b : Bool), v = .tuple #[.int .i32 p, .int .i64 k, .bool b] ∧ match U.refTail r with
  | some (n, m) => p = n ∧ k = m ∧ b = true
  | none => b = false

theorem take_min10 (l : List UInt8) : l.take (min l.length 10) = l.take 10 := by
  rcases Nat.le_total l.length 10 with h | h
  · rw [Nat.min_eq_left h, List.take_length, List.take_of_length_le h]
  · rw [Nat.min_eq_right h]

set_option maxHeartbeats 4000000 in
set_option maxRecDepth 1000000 in
theorem leading_walk (s : ByteArray) (r : List UInt8) (hs : s.data.toList = 38 :: r) (hmax : s.size ≤ 140737488351232) (w : World) (hS : ErrS w) :
    Calls Tryz.prog 64 #[.string s] w fun e w' => ∃ v, e = .returned v ∧ leadV r v ∧ Below w.heap.size w w' := by
  have hlen : s.size = r.length + 1 := by rw [← len_list, hs]; rfl
  have hidx : Lib.indexByte (s.extract 0 (min (s.size : Int) 10).toNat).data.toList (Int.toNat 59).toUInt8 = Lib.indexByte ((38 :: r).take 10) 59 := by
    rw [Lib.extract_data, hs, List.drop_zero, hlen, show (min ((r.length + 1 : Nat) : Int) 10).toNat - 0 = min (38 :: r).length 10 by rw [List.length_cons]; omega, take_min10]
    rfl
  have Hidx := Lib.hid hidx
  have Hlen := Lib.hid hlen
  have hpos : 1 ≤ s.size := by omega
  clear hidx hlen
  go_enter Tryz.func64, Tryz.ntmps64
  go_wp2_with fail
  refine (Tryz.strings_IndexByte _ 59 _).mono ?_
  rintro e w1 ⟨rfl, rfl⟩
  rw [Hidx.out]
  rcases U.index_cases r with ⟨e1, hr⟩ | ⟨o, h1, h9, hor, e1, hr⟩
  · rw [e1]
    have Hr := Lib.hid hr
    clear hr e1
    go_wp2_with fail
    go_ret3
    exact ⟨_, rfl, ⟨_, _, _, rfl, by rw [Hr.out]⟩, Below.refl _ _⟩
  · rw [e1]
    have ho : o ≤ s.size := by have := Hlen.out; omega
    have hex : (s.extract 1 o).data.toList = r.take (o - 1) := by
      rw [Lib.extract_data, hs]; rfl
    have hpl : (r.take (o - 1)).length ≤ 8 := by rw [List.length_take]; omega
    clear e1
    by_cases hp : ∃ d, r.take (o - 1) = 35 :: d
    · obtain ⟨d, hd⟩ := hp
      have hx := U.prefix_hash_yes d
      rw [← hd, ← hex] at hx
      have hx1 : Lib.hasPrefix (s.extract 1 o).data.toList (ByteArray.mk #[35]).data.toList = true := hx.1
      have hx2 : Lib.trimPrefix (s.extract 1 o).data.toList (ByteArray.mk #[35]).data.toList = d := hx.2
      have HX1 := Lib.hid hx1
      have HX2 := Lib.hid hx2
      have hdl : d.length ≤ 7 := by rw [hd, List.length_cons] at hpl; omega
      have hds : (ByteArray.mk d.toArray).size ≤ 7 := by show d.toArray.size ≤ 7; simpa using hdl
      have r2 := numbered_walk (ByteArray.mk d.toArray) hds
      rw [show (ByteArray.mk d.toArray).data.toList = d by simp] at r2
      rw [hd] at hr
      clear hx hx1 hx2 hex hpl
      go_wp2_with fail
      refine (Tryz.strings_CutPrefix _ _ _).mono ?_
      rintro e w1 ⟨rfl, rfl⟩
      rw [HX1.out, HX2.out]
      go_wp2_with fail
      cases hN : U.numOf d
      · rw [hN] at r2
        have hl := Lib.hid (show U.refTail r = none by rw [hr, U.body_hash, hN]; rfl)
        simp only [ptV] at r2
        clear hN hr
        refine (r2 _ hS).mono ?_
        rintro e w2 ⟨rfl, b2⟩
        go_wp2_with fail
        go_ret3
        exact ⟨_, rfl, ⟨_, _, _, rfl, by rw [hl.out]⟩, b2⟩
      · rename_i n
        rw [hN] at r2
        have hl := Lib.hid (show U.refTail r = some (n, o + 1) by rw [hr, U.body_hash, hN]; rfl)
        simp only [ptV] at r2
        clear hN hr
        refine (r2 _ hS).mono ?_
        rintro e w2 ⟨rfl, b2⟩
        go_wp2_with fail
        go_ret3
        exact ⟨_, rfl, ⟨_, _, _, rfl, by rw [hl.out]; exact ⟨rfl, by simp, rfl⟩⟩, b2⟩
    · have hnd : ∀ d, r.take (o - 1) ≠ 35 :: d := fun d e => hp ⟨d, e⟩
      have hx := U.prefix_hash_no hnd
      have hb := U.body_name hnd
      rw [← hex] at hx
      have hx1 : Lib.hasPrefix (s.extract 1 o).data.toList (ByteArray.mk #[35]).data.toList = false := hx
      have HX1 := Lib.hid hx1
      have r2 := named_walk (s.extract 1 o)
      rw [hex] at r2
      clear hx hx1 hex hpl hnd hp
      go_wp2_with fail
      refine (Tryz.strings_CutPrefix _ _ _).mono ?_
      rintro e w1 ⟨rfl, rfl⟩
      rw [HX1.out]
      go_wp2_with fail
      cases hN : U.nameOf (r.take (o - 1))
      · rw [hN] at r2
        have hl := Lib.hid (show U.refTail r = none by rw [hr, hb, hN]; rfl)
        simp only [ptV] at r2
        clear hN hr
        refine (r2 _).mono ?_
        rintro e w2 ⟨rfl, b2⟩
        go_wp2_with fail
        go_ret3
        exact ⟨_, rfl, ⟨_, _, _, rfl, by rw [hl.out]⟩, b2⟩
      · rename_i n
        rw [hN] at r2
        have hl := Lib.hid (show U.refTail r = some (n, o + 1) by rw [hr, hb, hN]; rfl)
        simp only [ptV] at r2
        clear hN hr
        refine (r2 _).mono ?_
        rintro e w2 ⟨rfl, b2⟩
        go_wp2_with fail
        go_ret3
        exact ⟨_, rfl, ⟨_, _, _, rfl, by rw [hl.out]; exact ⟨rfl, by simp, rfl⟩⟩, b2⟩

end Go.Proofs.YtankcnikebcpkaaGreatDoor

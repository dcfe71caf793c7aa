/- tok.isLetter, tok.kindAt. -/
import Derived.Test.YtkmjngpgngkalaaDoorProg
import Derived.Test.YtkmjngpgngkalaaDoorToksMath
import Derived.Test.YtkmjngpgngkalaaDoorWords
import Derived.Test.YtkmjngpgngkalaaDoorBytes
import Derived.WalkKit
import Derived.BigCall
import Derived.Below
import Derived.Outline
namespace Go.Proofs.YtkmjngpgngkalaaDoor
open Go.RowKit

set_option maxHeartbeats 1000000 in
set_option maxRecDepth 100000 in
theorem is_letter (b : UInt8) (w : World) : Calls Tryd.prog 19 #[.int .u8 b.toNat] w fun e w' => e = .returned (.bool (U.isAl b)) ∧ w' = w := by
  have hb := b.toNat_lt
  rcases Nat.lt_or_ge b.toNat 65 with h1 | h1
  · have hr : U.isAl b = false := by unfold U.isAl; rw [decide_eq_false (by omega : ¬ 97 ≤ b.toNat), decide_eq_false (by omega : ¬ 65 ≤ b.toNat)]; simp
    rw [hr]
    have d1 : decide (97 ≤ (b.toNat : Int)) = false := decide_eq_false (by omega)
    have d2 : decide (65 ≤ (b.toNat : Int)) = false := decide_eq_false (by omega)
    go_enter Tryd.func19, Tryd.ntmps19
    go_wp2
    go_ret
    exact ⟨rfl, rfl⟩
  rcases Nat.lt_or_ge b.toNat 91 with h2 | h2
  · have hr : U.isAl b = true := by unfold U.isAl; rw [decide_eq_true h1, decide_eq_true (by omega : b.toNat ≤ 90)]; simp
    rw [hr]
    have d1 : decide (97 ≤ (b.toNat : Int)) = false := decide_eq_false (by omega)
    have d2 : decide (65 ≤ (b.toNat : Int)) = true := decide_eq_true (by omega)
    have d3 : decide ((b.toNat : Int) ≤ 90) = true := decide_eq_true (by omega)
    go_enter Tryd.func19, Tryd.ntmps19
    go_wp2
    go_ret
    exact ⟨rfl, rfl⟩
  rcases Nat.lt_or_ge b.toNat 97 with h3 | h3
  · have hr : U.isAl b = false := by unfold U.isAl; rw [decide_eq_false (by omega : ¬ 97 ≤ b.toNat), decide_eq_false (by omega : ¬ b.toNat ≤ 90)]; simp
    rw [hr]
    have d1 : decide (97 ≤ (b.toNat : Int)) = false := decide_eq_false (by omega)
    have d2 : decide (65 ≤ (b.toNat : Int)) = true := decide_eq_true (by omega)
    have d3 : decide ((b.toNat : Int) ≤ 90) = false := decide_eq_false (by omega)
    go_enter Tryd.func19, Tryd.ntmps19
    go_wp2
    go_ret
    exact ⟨rfl, rfl⟩
  rcases Nat.lt_or_ge b.toNat 123 with h4 | h4
  · have hr : U.isAl b = true := by unfold U.isAl; rw [decide_eq_true h3, decide_eq_true (by omega : b.toNat ≤ 122)]; simp
    rw [hr]
    have d1 : decide (97 ≤ (b.toNat : Int)) = true := decide_eq_true (by omega)
    have d2 : decide ((b.toNat : Int) ≤ 122) = true := decide_eq_true (by omega)
    go_enter Tryd.func19, Tryd.ntmps19
    go_wp2
    go_ret
    exact ⟨rfl, rfl⟩
  · have hr : U.isAl b = false := by unfold U.isAl; rw [decide_eq_false (by omega : ¬ b.toNat ≤ 122), decide_eq_false (by omega : ¬ b.toNat ≤ 90)]; simp
    rw [hr]
    have d1 : decide (97 ≤ (b.toNat : Int)) = true := decide_eq_true (by omega)
    have d2 : decide ((b.toNat : Int) ≤ 122) = false := decide_eq_false (by omega)
    have d3 : decide (65 ≤ (b.toNat : Int)) = true := decide_eq_true (by omega)
    have d4 : decide ((b.toNat : Int) ≤ 90) = false := decide_eq_false (by omega)
    go_enter Tryd.func19, Tryd.ntmps19
    go_wp2
    go_ret
    exact ⟨rfl, rfl⟩

theorem list_zero {s : ByteArray} {k : Nat} (h : s.size ≤ k) : s.data.toList.drop k = [] := List.drop_of_length_le (by rw [len_list]; exact h)
theorem list_two {s : ByteArray} (h : 1 < s.size) : s.data.toList = s[0] :: s[1] :: s.data.toList.drop 2 := by
  have h1 := drop_byte (byte_get s (k := 0) (by omega))
  have h2 := drop_byte (byte_get s (k := 1) (by omega))
  rw [List.drop_zero] at h1
  rw [← h2]
  exact h1
theorem byte_ne {b : UInt8} {n : Nat} (hn : n < 256) (h : (b.toNat : Int) ≠ n) : b ≠ UInt8.ofNat n := fun e => h (by rw [e]; simp; omega)
theorem bne_yes {b : UInt8} {n : Int} (h : (b.toNat : Int) ≠ n) : ((b.toNat : Int) != n) = true := by simpa using h
theorem bne_no {b : UInt8} {n : Int} (h : (b.toNat : Int) = n) : ((b.toNat : Int) != n) = false := by rw [h]; simp

set_option maxHeartbeats 4000000 in
set_option maxRecDepth 100000 in
theorem kind_short (s : ByteArray) (w : World) (h2 : s.size < 2) : Calls Tryd.prog 14 #[.string s] w fun e w' => e = .returned (.int .i64 3) ∧ w' = w := by
  go_enter Tryd.func14, Tryd.ntmps14
  go_wp2_with fail
  go_ret
  exact ⟨rfl, rfl⟩
set_option maxHeartbeats 4000000 in
set_option maxRecDepth 100000 in
theorem kind_other (s : ByteArray) (w : World) (h2 : 1 < s.size) (b60 : (((s[0]'(by omega)).toNat : Int) != 60) = true) : Calls Tryd.prog 14 #[.string s] w fun e w' => e = .returned (.int .i64 3) ∧ w' = w := by
  go_enter Tryd.func14, Tryd.ntmps14
  go_wp2_with fail
  go_ret
  exact ⟨rfl, rfl⟩
set_option maxHeartbeats 4000000 in
set_option maxRecDepth 100000 in
theorem kind_start (s : ByteArray) (w : World) (h2 : 1 < s.size) (b60 : (((s[0]'(by omega)).toNat : Int) != 60) = false) (al : U.isAl (s[1]'h2) = true) : Calls Tryd.prog 14 #[.string s] w fun e w' => e = .returned (.int .i64 1) ∧ w' = w := by
  go_enter Tryd.func14, Tryd.ntmps14
  go_wp2_with (refine (is_letter _ _).mono ?_; rintro e w' ⟨rfl, rfl⟩; rw [al])
  go_ret
  exact ⟨rfl, rfl⟩
set_option maxHeartbeats 4000000 in
set_option maxRecDepth 100000 in
theorem kind_33 (s : ByteArray) (w : World) (h2 : 1 < s.size) (b60 : (((s[0]'(by omega)).toNat : Int) != 60) = false) (al : U.isAl (s[1]'h2) = false) (b33 : (((s[1]'h2).toNat : Int) == 33) = true) : Calls Tryd.prog 14 #[.string s] w fun e w' => e = .returned (.int .i64 4) ∧ w' = w := by
  go_enter Tryd.func14, Tryd.ntmps14
  go_wp2_with (refine (is_letter _ _).mono ?_; rintro e w' ⟨rfl, rfl⟩; rw [al])
  go_ret
  exact ⟨rfl, rfl⟩
set_option maxHeartbeats 4000000 in
set_option maxRecDepth 100000 in
theorem kind_63 (s : ByteArray) (w : World) (h2 : 1 < s.size) (b60 : (((s[0]'(by omega)).toNat : Int) != 60) = false) (al : U.isAl (s[1]'h2) = false) (b33 : (((s[1]'h2).toNat : Int) == 33) = false) (b63 : (((s[1]'h2).toNat : Int) == 63) = true) : Calls Tryd.prog 14 #[.string s] w fun e w' => e = .returned (.int .i64 4) ∧ w' = w := by
  go_enter Tryd.func14, Tryd.ntmps14
  go_wp2_with (refine (is_letter _ _).mono ?_; rintro e w' ⟨rfl, rfl⟩; rw [al])
  go_ret
  exact ⟨rfl, rfl⟩
set_option maxHeartbeats 4000000 in
set_option maxRecDepth 100000 in
theorem kind_not47 (s : ByteArray) (w : World) (h2 : 1 < s.size) (b60 : (((s[0]'(by omega)).toNat : Int) != 60) = false) (al : U.isAl (s[1]'h2) = false) (b33 : (((s[1]'h2).toNat : Int) == 33) = false) (b63 : (((s[1]'h2).toNat : Int) == 63) = false) (b47 : (((s[1]'h2).toNat : Int) != 47) = true) : Calls Tryd.prog 14 #[.string s] w fun e w' => e = .returned (.int .i64 3) ∧ w' = w := by
  go_enter Tryd.func14, Tryd.ntmps14
  go_wp2_with (refine (is_letter _ _).mono ?_; rintro e w' ⟨rfl, rfl⟩; rw [al])
  go_ret
  exact ⟨rfl, rfl⟩
set_option maxHeartbeats 4000000 in
set_option maxRecDepth 100000 in
theorem kind_two (s : ByteArray) (w : World) (h2 : 1 < s.size) (b60 : (((s[0]'(by omega)).toNat : Int) != 60) = false) (al : U.isAl (s[1]'h2) = false) (b33 : (((s[1]'h2).toNat : Int) == 33) = false) (b63 : (((s[1]'h2).toNat : Int) == 63) = false) (b47 : (((s[1]'h2).toNat : Int) != 47) = false) (n2 : ((s.size : Int) == 2) = true) : Calls Tryd.prog 14 #[.string s] w fun e w' => e = .returned (.int .i64 3) ∧ w' = w := by
  go_enter Tryd.func14, Tryd.ntmps14
  go_wp2_with (refine (is_letter _ _).mono ?_; rintro e w' ⟨rfl, rfl⟩; rw [al])
  go_ret
  exact ⟨rfl, rfl⟩
set_option maxHeartbeats 4000000 in
set_option maxRecDepth 100000 in
theorem kind_end_true (s : ByteArray) (w : World) (h2 : 1 < s.size) (h3 : 2 < s.size) (b60 : (((s[0]'(by omega)).toNat : Int) != 60) = false) (al : U.isAl (s[1]'h2) = false) (b33 : (((s[1]'h2).toNat : Int) == 33) = false) (b63 : (((s[1]'h2).toNat : Int) == 63) = false) (b47 : (((s[1]'h2).toNat : Int) != 47) = false) (n2 : ((s.size : Int) == 2) = false) (al2 : U.isAl (s[2]'h3) = true) : Calls Tryd.prog 14 #[.string s] w fun e w' => e = .returned (.int .i64 2) ∧ w' = w := by
  go_enter Tryd.func14, Tryd.ntmps14
  go_wp2_with (refine (is_letter _ _).mono ?_; rintro e w' ⟨rfl, rfl⟩; first | rw [al] | rw [al2])
  go_ret
  exact ⟨rfl, rfl⟩
set_option maxHeartbeats 4000000 in
set_option maxRecDepth 100000 in
theorem kind_end_false (s : ByteArray) (w : World) (h2 : 1 < s.size) (h3 : 2 < s.size) (b60 : (((s[0]'(by omega)).toNat : Int) != 60) = false) (al : U.isAl (s[1]'h2) = false) (b33 : (((s[1]'h2).toNat : Int) == 33) = false) (b63 : (((s[1]'h2).toNat : Int) == 63) = false) (b47 : (((s[1]'h2).toNat : Int) != 47) = false) (n2 : ((s.size : Int) == 2) = false) (al2 : U.isAl (s[2]'h3) = false) : Calls Tryd.prog 14 #[.string s] w fun e w' => e = .returned (.int .i64 4) ∧ w' = w := by
  go_enter Tryd.func14, Tryd.ntmps14
  go_wp2_with (refine (is_letter _ _).mono ?_; rintro e w' ⟨rfl, rfl⟩; first | rw [al] | rw [al2])
  go_ret
  exact ⟨rfl, rfl⟩

theorem kind_at (s : ByteArray) (w : World) : Calls Tryd.prog 14 #[.string s] w fun e w' => e = .returned (.int .i64 (U.kindOf s.data.toList : Nat)) ∧ w' = w := by
  rcases Nat.lt_or_ge s.size 2 with h2 | h2
  · have hr : U.kindOf s.data.toList = 3 := by
      have hl := len_list s
      match s.data.toList, hl with
      | [], _ => rfl
      | [a], _ => rfl
      | a :: b :: l, hl => simp only [List.length_cons] at hl; omega
    rw [hr]
    exact kind_short s w h2
  have hl := list_two (s := s) h2
  rw [hl, U.kindOf_cons]
  by_cases h60 : ((s[0]'(by omega)).toNat : Int) = 60
  · rw [if_neg (fun h => h ((byte_eq (k := 60) (by decide)).1 (by omega)))]
    cases hal : U.isAl (s[1]'h2) with
    | true =>
      rw [if_pos rfl]
      exact kind_start s w h2 (bne_no h60) hal
    | false =>
      rw [if_neg (by decide)]
      by_cases h33 : ((s[1]'h2).toNat : Int) = 33
      · rw [if_pos (.inl ((byte_eq (k := 33) (by decide)).1 (by omega)))]
        exact kind_33 s w h2 (bne_no h60) hal (beq_yes h33)
      by_cases h63 : ((s[1]'h2).toNat : Int) = 63
      · rw [if_pos (.inr ((byte_eq (k := 63) (by decide)).1 (by omega)))]
        exact kind_63 s w h2 (bne_no h60) hal (beq_no h33) (beq_yes h63)
      rw [if_neg (by rintro (e | e); exact h33 (by rw [e]; rfl); exact h63 (by rw [e]; rfl))]
      by_cases h47 : ((s[1]'h2).toNat : Int) = 47
      · rw [if_pos (show s[1]'h2 = 47 from (byte_eq (k := 47) (by decide)).1 (by omega))]
        rcases Nat.lt_or_ge 2 s.size with h3 | h3
        · rw [drop_byte (byte_get s (k := 2) h3), U.kindS_cons]
          have n2 : ((s.size : Int) == 2) = false := by rw [beq_eq_false_iff_ne]; omega
          cases hal2 : U.isAl (s[2]'h3) with
          | true => exact kind_end_true s w h2 h3 (bne_no h60) hal (beq_no h33) (beq_no h63) (bne_no h47) n2 hal2
          | false => exact kind_end_false s w h2 h3 (bne_no h60) hal (beq_no h33) (beq_no h63) (bne_no h47) n2 hal2
        · rw [list_zero (by omega)]
          exact kind_two s w h2 (bne_no h60) hal (beq_no h33) (beq_no h63) (bne_no h47) (by rw [beq_iff_eq]; omega)
      · rw [if_neg (fun e => h47 (by rw [e]; rfl))]
        exact kind_not47 s w h2 (bne_no h60) hal (beq_no h33) (beq_no h63) (bne_yes h47)
  · rw [if_pos (fun e => h60 (by rw [e]; rfl))]
    exact kind_other s w h2 (bne_yes h60)

end Go.Proofs.YtkmjngpgngkalaaDoor

/- Picked: the remainder that is not negative. -/
import Derived.Test.YtmfkefcdddoooaaWords
import Derived.Outline
namespace Go.Proofs.Ytmfkefcdddoooaa
open Go.RowKit

theorem picked_facts (a n : Int) (hn : 0 < n) : (a.tmod n < 0 → a.tmod n + n = a % n) ∧ (¬ a.tmod n < 0 → a.tmod n = a % n) ∧ -n < a.tmod n ∧ a.tmod n < n := by
  have h1 := Int.emod_nonneg a (b := n) (by omega)
  have h2 := Int.emod_lt_of_pos a hn
  have h3 := Int.tmod_lt_of_pos a hn
  have h4 : -n < a.tmod n := by
    have := Int.lt_tmod_of_pos a hn
    exact this
  have h5 := Int.mul_tdiv_add_tmod a n
  have h6 := Int.mul_ediv_add_emod a n
  have key : ∀ x y p q : Int, n * x + p = a → n * y + q = a → -n < p - q → p - q < 2 * n → p - q ≠ 0 → p - q ≠ n → False := by
    intro x y p q e1 e2 l1 l2 n1 n2
    have e : p - q = n * (y - x) := by rw [Int.mul_sub]; omega
    rcases Int.lt_trichotomy (y - x) 0 with h | h | h
    · have := Int.mul_le_mul_of_nonneg_left (show y - x ≤ -1 by omega) (Int.le_of_lt hn)
      omega
    · rw [h] at e; omega
    · rcases Int.lt_or_le (y - x) 2 with h' | h'
      · have : y - x = 1 := by omega
        rw [this] at e; omega
      · have := Int.mul_le_mul_of_nonneg_left h' (Int.le_of_lt hn)
        omega
  refine ⟨fun h => ?_, fun h => ?_, h4, h3⟩
  · have k := key (a / n) (a.tdiv n) (a % n) (a.tmod n) h6 h5 (by omega) (by omega)
    by_cases e : a % n - a.tmod n = 0
    · omega
    · by_cases e' : a % n - a.tmod n = n
      · omega
      · exact (k e e').elim
  · have k := key (a / n) (a.tdiv n) (a % n) (a.tmod n) h6 h5 (by omega) (by omega)
    by_cases e : a % n - a.tmod n = 0
    · omega
    · by_cases e' : a % n - a.tmod n = n
      · omega
      · exact (k e e').elim

set_option maxHeartbeats 1000000 in
set_option maxRecDepth 100000 in
theorem picked_walk (a n : Int) (w : World) (hn : 0 < n) (hn2 : n ≤ 2147483647) :
    Calls Try.prog 10 #[.int .i64 a, .int .i64 n] w fun e w' => e = .returned (.int .i64 (a % n)) ∧ w = w' := by
  obtain ⟨f1, f2, f3, f4⟩ := picked_facts a n hn
  by_cases h0 : 0 ≤ a
  · have e1 := Int.emod_nonneg a (b := n) (by omega)
    have e2 := Int.emod_lt_of_pos a hn
    clear f1 f2 f3 f4
    go_enter Try.func10, Try.ntmps10
    go_wp2_with fail
    go_ret
    exact ⟨rfl, rfl⟩
  · by_cases h : a.tmod n < 0
    · have e := Lib.hid (f1 h)
      clear f1 f2
      go_enter Try.func10, Try.ntmps10
      go_wp2_with fail
      go_ret
      rw [← e.out]
      exact ⟨rfl, rfl⟩
    · have e := Lib.hid (f2 h)
      clear f1 f2
      go_enter Try.func10, Try.ntmps10
      go_wp2_with fail
      go_ret
      rw [← e.out]
      exact ⟨rfl, rfl⟩

end Go.Proofs.Ytmfkefcdddoooaa

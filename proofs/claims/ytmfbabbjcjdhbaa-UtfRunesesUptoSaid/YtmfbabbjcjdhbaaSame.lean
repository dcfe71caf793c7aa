/- sameInts: are two lists of numbers the same? (both folders have it) -/
import Derived.Test.YtmfbabbjcjdhbaaWords
import Derived.Outline
namespace Go.Proofs.Ytmfbabbjcjdhbaa
open Go.RowKit

theorem below_drewN {B : Nat} {a w : World} (h : Below B a w) (n : Nat) : Below B a (w.drewN n) := ⟨h.os, h.tape, h.output, h.size, h.block⟩

theorem take_eq_succ {xs ys : List Int} {k : Nat} {x : Int} (h : xs.take k = ys.take k) (hx : xs[k]? = some x) (hy : ys[k]? = some x) : xs.take (k + 1) = ys.take (k + 1) := by
  obtain ⟨h1, e1⟩ := List.getElem?_eq_some_iff.1 hx
  obtain ⟨h2, e2⟩ := List.getElem?_eq_some_iff.1 hy
  rw [List.take_succ_eq_append_getElem h1, List.take_succ_eq_append_getElem h2, h, e1, e2]

set_option maxHeartbeats 1000000 in
set_option maxRecDepth 100000 in
theorem same_keep (ao bo : Option Addr) (ca cb : Nat) (xs ys : List Int) (w : World) (hr : Rd w w.heap.size ao xs) (hq : Rd w w.heap.size bo ys) (hx : xs.length ≤ maxLen) :
    Calls Try.prog 20 #[.slice ao xs.length ca, .slice bo ys.length cb] w fun e w' => e = .returned (.bool (decide (xs = ys))) ∧ Below w.heap.size w w' := by
  unfold maxLen at hx
  have HR := Lib.hid hr
  have HQ := Lib.hid hq
  clear hr hq
  by_cases hl : xs.length = ys.length
  · have HL := Lib.hid hl
    have hl1 : xs.length ≤ ys.length := by omega
    have hl2 : ys.length ≤ xs.length := by omega
    have hne : ((xs.length : Int) != (ys.length : Int)) = false := by rw [hl]; simp
    clear hl
    go_enter Try.func20, Try.ntmps20
    go_wp2_with fail
    go_loopw [5] (fun i wr => ∃ k : Nat, k ≤ xs.length ∧ i = .int .i64 k ∧ Hid (xs.take k = ys.take k) ∧ Below w.heap.size w wr) (fun i _ => xs.length - (intOf i).toNat)
    case atStart => exact ⟨0, Nat.zero_le _, rfl, rfl, Below.refl _ _⟩
    case round =>
      obtain ⟨k, hk, rfl, ht, hbw⟩ := hrel
      by_cases hlt : k < xs.length
      · have hlt2 : k < ys.length := by omega
        obtain ⟨ad, rfl, _, hc⟩ := (HR.out.below hbw) k xs[k] (List.getElem?_eq_getElem hlt)
        obtain ⟨bd, rfl, _, hc'⟩ := (HQ.out.below hbw) k ys[k] (List.getElem?_eq_getElem hlt2)
        have hx1 := Lib.hid (List.getElem?_eq_getElem hlt)
        have hy1 := Lib.hid (List.getElem?_eq_getElem hlt2)
        generalize xs[k] = x at *
        generalize ys[k] = y at *
        have hk0 : (0 : Int) ≤ (k : Int) := Int.natCast_nonneg _
        have hk1 : (k : Int) < (xs.length : Int) := by omega
        have hk2 : (k : Int) < (ys.length : Int) := by omega
        by_cases hxy : x = y
        · subst hxy
          go_wp2_with fail
          go_quiet (fail)
          go_wp2_with fail
          go_roundw
          case rel => exact ⟨k + 1, by omega, by go_num, take_eq_succ ht.out hx1.out hy1.out, below_drewN hbw _⟩
          case measure => simp [intOf]; omega
        · have hne2 : (x != y) = true := by rw [bne_iff_ne]; exact hxy
          have Hxy := Lib.hid hxy
          clear hxy
          go_wp2_with fail
          go_quiet (fail)
          go_wp2_with fail
          go_ret
          have hd : ¬ xs = ys := by
            intro e
            have h1 := hx1.out
            rw [e, hy1.out] at h1
            exact Hxy.out (Option.some.inj h1).symm
          rw [decide_eq_false hd]
          exact ⟨rfl, below_drewN hbw _⟩
      · obtain rfl : k = xs.length := by omega
        have he : xs = ys := by
          have h1 := ht.out
          rwa [List.take_length, List.take_of_length_le hl2] at h1
        have He := Lib.hid he
        clear he
        go_wp2_with fail
        go_ret
        rw [decide_eq_true He.out]
        exact ⟨rfl, hbw⟩
  · have hne : ((xs.length : Int) != (ys.length : Int)) = true := by rw [bne_iff_ne]; omega
    have hd : ¬ xs = ys := fun e => hl (by rw [e])
    have Hd := Lib.hid hd
    clear hl hd
    go_enter Try.func20, Try.ntmps20
    go_wp2_with fail
    go_ret
    rw [decide_eq_false Hd.out]
    exact ⟨rfl, Below.refl _ _⟩

set_option maxHeartbeats 1000000 in
set_option maxRecDepth 100000 in
theorem same_law (ao bo : Option Addr) (ca cb : Nat) (xs ys : List Int) (w : World) (hr : Rd w w.heap.size ao xs) (hq : Rd w w.heap.size bo ys) (hx : xs.length ≤ maxLen) :
    Calls Try.prog 12 #[.slice ao xs.length ca, .slice bo ys.length cb] w fun e w' => e = .returned (.bool (decide (xs = ys))) ∧ Below w.heap.size w w' := by
  unfold maxLen at hx
  have HR := Lib.hid hr
  have HQ := Lib.hid hq
  clear hr hq
  by_cases hl : xs.length = ys.length
  · have HL := Lib.hid hl
    have hl1 : xs.length ≤ ys.length := by omega
    have hl2 : ys.length ≤ xs.length := by omega
    have hne : ((xs.length : Int) != (ys.length : Int)) = false := by rw [hl]; simp
    clear hl
    go_enter Try.func12, Try.ntmps12
    go_wp2_with fail
    go_loopw [5] (fun i wr => ∃ k : Nat, k ≤ xs.length ∧ i = .int .i64 k ∧ Hid (xs.take k = ys.take k) ∧ Below w.heap.size w wr) (fun i _ => xs.length - (intOf i).toNat)
    case atStart => exact ⟨0, Nat.zero_le _, rfl, rfl, Below.refl _ _⟩
    case round =>
      obtain ⟨k, hk, rfl, ht, hbw⟩ := hrel
      by_cases hlt : k < xs.length
      · have hlt2 : k < ys.length := by omega
        obtain ⟨ad, rfl, _, hc⟩ := (HR.out.below hbw) k xs[k] (List.getElem?_eq_getElem hlt)
        obtain ⟨bd, rfl, _, hc'⟩ := (HQ.out.below hbw) k ys[k] (List.getElem?_eq_getElem hlt2)
        have hx1 := Lib.hid (List.getElem?_eq_getElem hlt)
        have hy1 := Lib.hid (List.getElem?_eq_getElem hlt2)
        generalize xs[k] = x at *
        generalize ys[k] = y at *
        have hk0 : (0 : Int) ≤ (k : Int) := Int.natCast_nonneg _
        have hk1 : (k : Int) < (xs.length : Int) := by omega
        have hk2 : (k : Int) < (ys.length : Int) := by omega
        by_cases hxy : x = y
        · subst hxy
          go_wp2_with fail
          go_quiet (fail)
          go_wp2_with fail
          go_roundw
          case rel => exact ⟨k + 1, by omega, by go_num, take_eq_succ ht.out hx1.out hy1.out, below_drewN hbw _⟩
          case measure => simp [intOf]; omega
        · have hne2 : (x != y) = true := by rw [bne_iff_ne]; exact hxy
          have Hxy := Lib.hid hxy
          clear hxy
          go_wp2_with fail
          go_quiet (fail)
          go_wp2_with fail
          go_ret
          have hd : ¬ xs = ys := by
            intro e
            have h1 := hx1.out
            rw [e, hy1.out] at h1
            exact Hxy.out (Option.some.inj h1).symm
          rw [decide_eq_false hd]
          exact ⟨rfl, below_drewN hbw _⟩
      · obtain rfl : k = xs.length := by omega
        have he : xs = ys := by
          have h1 := ht.out
          rwa [List.take_length, List.take_of_length_le hl2] at h1
        have He := Lib.hid he
        clear he
        go_wp2_with fail
        go_ret
        rw [decide_eq_true He.out]
        exact ⟨rfl, hbw⟩
  · have hne : ((xs.length : Int) != (ys.length : Int)) = true := by rw [bne_iff_ne]; omega
    have hd : ¬ xs = ys := fun e => hl (by rw [e])
    have Hd := Lib.hid hd
    clear hl hd
    go_enter Try.func12, Try.ntmps12
    go_wp2_with fail
    go_ret
    rw [decide_eq_false Hd.out]
    exact ⟨rfl, Below.refl _ _⟩

end Go.Proofs.Ytmfbabbjcjdhbaa

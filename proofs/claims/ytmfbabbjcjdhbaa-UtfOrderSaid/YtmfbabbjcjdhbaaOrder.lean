/- UtfOrder: the lexicographic order of encodings is that of the code points. -/
import Derived.Test.YtmfbabbjcjdhbaaBack
import Derived.Test.YtmfbabbjcjdhbaaOrderMath
import Derived.Outline
namespace Go.Proofs.Ytmfbabbjcjdhbaa
open Go.RowKit

set_option maxHeartbeats 4000000 in
set_option maxRecDepth 1000000 in
theorem order_walk (ao bo : Option Addr) (ca cb : Nat) (xs ys : List Int) (w : World) (hx : Rd w w.heap.size ao xs) (hy : Rd w w.heap.size bo ys) :
    Calls Try.prog 9 #[.slice ao xs.length ca, .slice bo ys.length cb] w fun e w' => e = .returned (.bool true) ∧ Below w.heap.size w w' := by
  have q1 := letters_walk ao ca xs 20 w hx (by omega)
  have la := lets_isL 20 xs
  have lb := lets_isL 20 ys
  have na := lets_length 20 xs
  have nb := lets_length 20 ys
  have LA := Lib.hid la
  have LB := Lib.hid lb
  have HY := Lib.hid hy
  clear la lb hx hy
  have q2 : ∀ W, Below w.heap.size w W → _ := fun W hb => letters_walk bo cb ys 20 W ((HY.out.below hb).more hb.size) (by omega)
  generalize lets 20 xs = a at *
  generalize lets 20 ys = b at *
  go_enter Try.func9, Try.ntmps9
  go_wp2_with fail
  refine q1.mono ?_
  rintro e w1 ⟨v1, rfl, o1, b1⟩
  obtain ⟨a1, c1, rfl⟩ := own_form o1
  clear q1
  go_wp2_with fail
  refine (q2 w1 b1).mono ?_
  rintro e w2 ⟨v2, rfl, o2, b2⟩
  obtain ⟨a2, c2, rfl⟩ := own_form o2
  clear q2
  have z1 : (a.map Int.ofNat).length = a.length := List.length_map ..
  have z2 : (b.map Int.ofNat).length = b.length := List.length_map ..
  have o1' := own_below o1 b2
  have t1 := text_walk a1 c1 (a.map Int.ofNat) w2 (Rd.of_own o1') (by rw [z1]; unfold maxLen; omega)
  rw [textR_lets a LA.out (by omega), z1] at t1
  go_wp2_with fail
  refine t1.mono ?_
  rintro e w3 ⟨rfl, b3⟩
  clear t1
  have o2' := own_below o2 b3
  have t2 := text_walk a2 c2 (b.map Int.ofNat) w3 (Rd.of_own o2') (by rw [z2]; unfold maxLen; omega)
  rw [textR_lets b LB.out (by omega), z2] at t2
  go_wp2_with fail
  refine t2.mono ?_
  rintro e w4 ⟨rfl, b4⟩
  clear t2
  have hge := U.encs_length_ge a
  have r5 := runes_walk (ByteArray.mk #[97])
  rw [show U.runes (ByteArray.mk #[97]).data.toList = [97] by decide] at r5
  have hat : Hid (∀ (k x y : Nat), a.take k = b.take k → a[k]? = some x → b[k]? = some y → x ≠ y → Op.bytesLess (U.encs a) (U.encs b) = decide (x < y)) := fun k x y ht h1 h2 hne => U.order_at LA.out LB.out ht h1 h2 hne
  have hend : Hid (∀ k, a.take k = b.take k → ((k = a.length ∧ k ≤ b.length) ∨ (k = b.length ∧ k ≤ a.length)) → Op.bytesLess (U.encs a) (U.encs b) = decide (a.length < b.length)) := fun k ht hk => U.order_end ht hk
  generalize U.encs a = A at *
  generalize U.encs b = B at *
  have bw4 : Below w.heap.size w w4 := b1.trans ((b2.mono b1.size).trans ((b3.mono (Nat.le_trans b1.size b2.size)).trans (b4.mono (Nat.le_trans b1.size (Nat.le_trans b2.size b3.size)))))
  have oa4 := own_below (own_below o1' b3) b4
  have ob4 := own_below o2' b4
  clear o1 o1' o2 o2' b1 b2 b3 b4 z1 z2
  have bs4 := bw4.size
  have hlt0 : decide ((A.length : Int) < (a.length : Int)) = false := decide_eq_false (by omega)
  go_wp2_with fail
  refine (r5 _ (by decide)).mono ?_
  rintro e w5 ⟨v5, rfl, o5, b5⟩
  obtain ⟨a5, c5, rfl⟩ := own_form o5
  have RA := Lib.hid (Rd.of_own (own_below oa4 b5))
  have RB := Lib.hid (Rd.of_own (own_below ob4 b5))
  have bw5 := bw4.trans (b5.mono bs4)
  have bs5 := bw5.size
  clear r5 o5 oa4 ob4 b5
  go_wp2_with fail
  go_loopw [11] (fun i wr => ∃ k : Nat, k ≤ a.length ∧ k ≤ b.length ∧ i = .int .i64 k ∧ Hid (a.take k = b.take k) ∧ Below w5.heap.size w5 wr) (fun i _ => a.length - (intOf i).toNat)
  case atStart => exact ⟨0, Nat.zero_le _, Nat.zero_le _, rfl, rfl, Below.refl _ _⟩
  case round =>
    obtain ⟨k, hka, hkb, rfl, ht, hbw⟩ := hrel
    by_cases hgo : k < a.length ∧ k < b.length
    · obtain ⟨hla, hlb⟩ := hgo
      obtain ⟨ad, rfl, _, hc⟩ := (RA.out.below hbw) k (a[k] : Int) (by simp [hla])
      obtain ⟨bd, rfl, _, hc'⟩ := (RB.out.below hbw) k (b[k] : Int) (by simp [hlb])
      have hx1 := Lib.hid (List.getElem?_eq_getElem hla)
      have hy1 := Lib.hid (List.getElem?_eq_getElem hlb)
      generalize a[k] = x at *
      generalize b[k] = y at *
      have hk0 : (0 : Int) ≤ (k : Int) := Int.natCast_nonneg _
      have hk1 : (k : Int) < (a.length : Int) := by omega
      have hk2 : (k : Int) < (b.length : Int) := by omega
      by_cases hxy : x = y
      · subst hxy
        go_wp2_with fail
        go_quiet (fail)
        go_wp2_with fail
        go_roundw
        case rel =>
          refine ⟨k + 1, by omega, by omega, by go_num, ?_, below_drewN hbw _⟩
          obtain ⟨h1, e1⟩ := List.getElem?_eq_some_iff.1 hx1.out
          obtain ⟨h2, e2⟩ := List.getElem?_eq_some_iff.1 hy1.out
          show _ = _
          rw [List.take_succ_eq_append_getElem h1, List.take_succ_eq_append_getElem h2, ht.out, e1, e2]
        case measure => simp [intOf]; omega
      · have hne2 : ((x : Int) != (y : Int)) = true := by rw [bne_iff_ne]; omega
        have hless := hat.out k x y ht.out hx1.out hy1.out hxy
        clear hxy
        by_cases hlt : x < y
        · rw [decide_eq_true hlt] at hless
          have hd : decide ((x : Int) < (y : Int)) = true := decide_eq_true (by omega)
          go_wp2_with fail
          go_quiet (fail)
          go_wp2_with fail
          go_quiet (fail)
          go_wp2_with fail
          go_ret
          exact ⟨rfl, bw5.trans ((below_drewN (below_drewN hbw _) _).mono bs5)⟩
        · rw [decide_eq_false hlt] at hless
          have hd : decide ((x : Int) < (y : Int)) = false := decide_eq_false (by omega)
          go_wp2_with fail
          go_quiet (fail)
          go_wp2_with fail
          go_quiet (fail)
          go_wp2_with fail
          go_ret
          exact ⟨rfl, bw5.trans ((below_drewN (below_drewN hbw _) _).mono bs5)⟩
    · have hless := hend.out k ht.out (by omega)
      have hcase : k = a.length ∨ (k < a.length ∧ k = b.length) := by omega
      clear hgo
      by_cases hlt : a.length < b.length
      · rw [decide_eq_true hlt] at hless
        have hd : decide ((a.length : Int) < (b.length : Int)) = true := decide_eq_true (by omega)
        have hka2 : a.length ≤ k := by omega
        clear hcase
        go_wp2_with fail
        go_ret
        exact ⟨rfl, bw5.trans (hbw.mono bs5)⟩
      · rw [decide_eq_false hlt] at hless
        have hd : decide ((a.length : Int) < (b.length : Int)) = false := decide_eq_false (by omega)
        have hkb2 : b.length ≤ k := by omega
        by_cases hka2 : a.length ≤ k
        · clear hcase
          go_wp2_with fail
          go_ret
          exact ⟨rfl, bw5.trans (hbw.mono bs5)⟩
        · have hka3 : k < a.length := by omega
          clear hcase hka2
          go_wp2_with fail
          go_ret
          exact ⟨rfl, bw5.trans (hbw.mono bs5)⟩

end Go.Proofs.Ytmfbabbjcjdhbaa

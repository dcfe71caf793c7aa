/- UtfBack: decoding encoded code points returns them, and no encoding is a prefix of another one. -/
import Derived.Test.YtmfbabbjcjdhbaaLetters
import Derived.Test.YtmfbabbjcjdhbaaText
import Derived.Test.YtmfbabbjcjdhbaaWalk1
import Derived.Test.YtmfbabbjcjdhbaaSame
import Derived.Test.YtmfbabbjcjdhbaaRefRunes
import Derived.Test.YtmfbabbjcjdhbaaRows2
import Derived.Outline
namespace Go.Proofs.Ytmfbabbjcjdhbaa
open Go.RowKit

/-- Text of code points, at most 60 of them -/
theorem textR_lets (a : List Nat) (h : ∀ n ∈ a, U.isL n = true) (hl : a.length ≤ 60) : U.textR (a.map Int.ofNat) = (U.encs a, 0) := by
  have h1 : (a.map Int.ofNat).all U.okI = true := by
    rw [List.all_eq_true]
    intro z hz
    obtain ⟨n, hn, rfl⟩ := List.mem_map.1 hz
    exact U.okI_nat.trans (h n hn)
  have h2 := U.encs_length_le a
  rw [U.textR_good h1 (by rw [U.encZ_nats]; omega), U.encZ_nats]

theorem nats_inj (a b : List Nat) : decide (a.map Int.ofNat = b.map Int.ofNat) = decide (a = b) := by
  rw [decide_eq_decide]
  constructor
  · intro h
    have h1 : (a.map Int.ofNat).map Int.toNat = (b.map Int.ofNat).map Int.toNat := by rw [h]
    simpa [List.map_map, Function.comp_def] using h1
  · rintro rfl; rfl

set_option maxHeartbeats 2000000 in
set_option maxRecDepth 100000 in
theorem back_walk (ao bo : Option Addr) (ca cb : Nat) (xs ys : List Int) (w : World) (hx : Rd w w.heap.size ao xs) (hy : Rd w w.heap.size bo ys) :
    Calls Try.prog 6 #[.slice ao xs.length ca, .slice bo ys.length cb] w fun e w' => e = .returned (.bool true) ∧ Below w.heap.size w w' := by
  have q1 := letters_walk ao ca xs 60 w hx (by omega)
  have la := lets_isL 60 xs
  have lb := lets_isL 60 ys
  have na := lets_length 60 xs
  have nb := lets_length 60 ys
  have LA := Lib.hid la
  have LB := Lib.hid lb
  have HY := Lib.hid hy
  clear la lb hx hy
  have q2 : ∀ W, Below w.heap.size w W → _ := fun W hb => letters_walk bo cb ys 60 W ((HY.out.below hb).more hb.size) (by omega)
  generalize lets 60 xs = a at *
  generalize lets 60 ys = b at *
  go_enter Try.func6, Try.ntmps6
  go_wp2_with fail
  refine q1.mono ?_
  rintro e w1 ⟨v1, rfl, o1, b1⟩
  obtain ⟨a1, c1, rfl⟩ := own_form o1
  clear q1
  go_wp2_with fail
  refine (q2 w1 b1).mono ?_
  rintro e w2 ⟨v2, rfl, o2, b2⟩
  obtain ⟨a2, c2, rfl⟩ := own_form o2
  clear q2
  have z1 : (a.map Int.ofNat).length = a.length := List.length_map ..
  have z2 : (b.map Int.ofNat).length = b.length := List.length_map ..
  have o1' := own_below o1 b2
  have t1 := text_walk a1 c1 (a.map Int.ofNat) w2 (Rd.of_own o1') (by rw [z1]; unfold maxLen; omega)
  rw [textR_lets a LA.out na, z1] at t1
  go_wp2_with fail
  refine t1.mono ?_
  rintro e w3 ⟨rfl, b3⟩
  clear t1
  have o2' := own_below o2 b3
  have t2 := text_walk a2 c2 (b.map Int.ofNat) w3 (Rd.of_own o2') (by rw [z2]; unfold maxLen; omega)
  rw [textR_lets b LB.out nb, z2] at t2
  go_wp2_with fail
  refine t2.mono ?_
  rintro e w4 ⟨rfl, b4⟩
  clear t2
  -- what the texts are
  have eA : U.runes (ByteArray.mk (U.encs a).toArray).data.toList = a := by simp; exact U.runes_encs' a LA.out
  have eAB : U.runes (ByteArray.mk (U.encs a).toArray ++ ByteArray.mk (U.encs b).toArray).data.toList = a ++ b := by
    simp
    rw [U.runes_encs a LA.out, U.runes_encs' b LB.out]
  have lA := U.encs_length_le a
  have lB := U.encs_length_le b
  have sA : (ByteArray.mk (U.encs a).toArray).size = (U.encs a).length := by show (U.encs a).toArray.size = _; simp
  have sB : (ByteArray.mk (U.encs b).toArray).size = (U.encs b).length := by show (U.encs b).toArray.size = _; simp
  have r3 := runes_walk (ByteArray.mk (U.encs a).toArray)
  have r4 := runes_walk (ByteArray.mk (U.encs a).toArray ++ ByteArray.mk (U.encs b).toArray)
  have r5 := runes_walk (ByteArray.mk #[97])
  rw [eA, sA] at r3
  rw [eAB, ByteArray.size_append, sA, sB] at r4
  rw [show U.runes (ByteArray.mk #[97]).data.toList = [97] by decide] at r5
  have hinj : U.encs a = U.encs b ↔ a = b := U.encs_inj LA.out LB.out
  have HINJ := Lib.hid hinj
  clear eA eAB hinj sA sB
  generalize U.encs a = A at *
  generalize U.encs b = B at *
  have bw4 : Below w.heap.size w w4 := b1.trans ((b2.mono b1.size).trans ((b3.mono (Nat.le_trans b1.size b2.size)).trans (b4.mono (Nat.le_trans b1.size (Nat.le_trans b2.size b3.size)))))
  have oa4 := own_below (own_below o1' b3) b4
  have ob4 := own_below o2' b4
  clear o1 o1' o2 o2' b1 b2 b3 b4
  have bs4 := bw4.size
  go_wp2_with fail
  refine (r3 _ (by omega)).mono ?_
  rintro e w5 ⟨v5, rfl, o5, b5⟩
  have oa5 := own_below oa4 b5
  have ob5 := own_below ob4 b5
  have bw5 := bw4.trans (b5.mono bs4)
  have bs5 := bw5.size
  obtain ⟨a5, c5, rfl⟩ := own_form o5
  have m5 := same_keep a5 a1 c5 c1 (a.map Int.ofNat) (a.map Int.ofNat) w5 (Rd.of_own o5) (Rd.of_own oa5) (by rw [z1]; unfold maxLen; omega)
  rw [z1, decide_eq_true rfl] at m5
  go_wp2_with fail
  refine m5.mono ?_
  rintro e w6 ⟨rfl, b6⟩
  clear m5
  have oa6 := own_below oa5 b6
  have ob6 := own_below ob5 b6
  have bw6 := bw5.trans (b6.mono bs5)
  have bs6 := bw6.size
  go_wp2_with fail
  refine (r4 _ (by omega)).mono ?_
  rintro e w7 ⟨v7, rfl, o7, b7⟩
  have oa7 := own_below oa6 b7
  have ob7 := own_below ob6 b7
  have bw7 := bw6.trans (b7.mono bs6)
  have bs7 := bw7.size
  have on7 : w7.ownsRow w7.heap.size 3 1 (.slice none 0 0) 0 (ints []) := World.ownsRow_nil _ _ _ _
  obtain ⟨v8, w8, run8, o8, g8⟩ := run_append_rows (n := 0) (m := a.length) w7 on7 oa7 (by omega) (Nat.le_refl _)
  have b8 : Below w7.heap.size w7 w8 := (Below.refl _ _).grown g8 (Nat.le_refl _) (fun k hk => by simp [Value.ownBlock] at hk)
  have ob8 := own_below ob7 b8
  have o78 := own_below o7 b8
  obtain ⟨v9, w9, run9, o9, g9⟩ := run_append_rows (n := 0 + a.length) (m := b.length) w8 o8 ob8 (by omega) b8.size
  have b9 : Below w7.heap.size w8 w9 := (Below.refl _ _).grown g9 b8.size (fun k hk => (o8.lt k hk).1)
  have b79 : Below w7.heap.size w7 w9 := b8.trans b9
  have bw9 : Below w.heap.size w w9 := bw7.trans (b79.mono bs7)
  have bs9 := bw9.size
  have oa9 := own_below oa7 b79
  have ob9 := own_below ob7 b79
  have o79 := own_below o7 b79
  rw [show (0 + a.length + b.length) = (a ++ b).length by rw [List.length_append]; omega, show ([] ++ a ++ b) = a ++ b from rfl] at o9
  clear o8 ob8 o78 on7 b8 b9 g8 g9
  obtain ⟨a7, c7, rfl⟩ := own_form o7
  obtain ⟨a9, c9, rfl⟩ := own_form o9
  have z3 : ((a ++ b).map Int.ofNat).length = (a ++ b).length := List.length_map ..
  have z4 : (a ++ b).length ≤ 120 := by rw [List.length_append]; omega
  have m9 := same_keep a7 a9 c7 c9 ((a ++ b).map Int.ofNat) ((a ++ b).map Int.ofNat) w9 (Rd.of_own o79) (Rd.of_own o9) (by rw [z3]; unfold maxLen; omega)
  rw [z3, decide_eq_true rfl] at m9
  generalize (a ++ b).length = nab at *
  have R8 := Lib.hid run8
  have R9 := Lib.hid run9
  clear run8 run9
  go_wp2_with (first
    | (at_builtin; refine wpList_append_run rfl (.const (.slice none 0 0)) (.tmp 42) _ rfl _ _ rfl rfl R8.out ?_)
    | (at_builtin; refine wpList_append_run rfl (.tmp 43) (.tmp 44) _ rfl _ _ rfl rfl R9.out ?_))
  refine m9.mono ?_
  rintro e w10 ⟨rfl, b10⟩
  have oa10 := own_below oa9 b10
  have ob10 := own_below ob9 b10
  have bw10 := bw9.trans (b10.mono bs9)
  have bs10 := bw10.size
  have m10 := same_keep a1 a2 c1 c2 (a.map Int.ofNat) (b.map Int.ofNat) w10 (Rd.of_own oa10) (Rd.of_own ob10) (by rw [z1]; unfold maxLen; omega)
  rw [z1, z2, nats_inj] at m10
  by_cases hab : a = b
  · have hAB : A = B := HINJ.out.2 hab
    rw [decide_eq_true hab] at m10
    have HAB := Lib.hid hAB
    subst hAB
    clear hab
    go_wp2_with fail
    refine m10.mono ?_
    rintro e w11 ⟨rfl, b11⟩
    go_wp2_with fail
    refine (r5 _ (by decide)).mono ?_
    rintro e w12 ⟨v12, rfl, o12, b12⟩
    obtain ⟨a12, c12, rfl⟩ := own_form o12
    go_wp2_with fail
    go_ret
    exact ⟨rfl, bw10.trans ((b11.mono bs10).trans (b12.mono (Nat.le_trans bs10 b11.size)))⟩
  · have hAB : (A == B) = false := by rw [beq_eq_false_iff_ne]; exact fun e => hab (HINJ.out.1 e)
    rw [decide_eq_false hab] at m10
    clear hab
    go_wp2_with fail
    refine m10.mono ?_
    rintro e w11 ⟨rfl, b11⟩
    go_wp2_with fail
    refine (r5 _ (by decide)).mono ?_
    rintro e w12 ⟨v12, rfl, o12, b12⟩
    obtain ⟨a12, c12, rfl⟩ := own_form o12
    go_wp2_with fail
    go_ret
    exact ⟨rfl, bw10.trans ((b11.mono bs10).trans (b12.mono (Nat.le_trans bs10 b11.size)))⟩

end Go.Proofs.Ytmfbabbjcjdhbaa

/- RefNumbers: the walk. -/
import Derived.Test.YtpgffcfffpmahaaDoorSure
import Derived.Test.YtpgffcfffpmahaaDoorNumMath
import Derived.Test.YtpgffcfffpmahaaDoorLetters
import Derived.Outline
namespace Go.Proofs.YtpgffcfffpmahaaDoor
open Go.RowKit

theorem dec_all : ∀ d : Fin 10, (((ByteArray.mk #[48, 49, 50, 51, 52, 53, 54, 55, 56, 57]).extract d.val 10).extract 0 1).data.toList = [U.chr d.val] := by decide +kernel
theorem dec_letter {x : Nat} : (((ByteArray.mk #[48, 49, 50, 51, 52, 53, 54, 55, 56, 57]).extract (x % 10) 10).extract 0 1).data.toList = [U.chr (x % 10)] := dec_all ⟨x % 10, Nat.mod_lt _ (by decide)⟩
theorem hex_all : ∀ d : Fin 16, (((ByteArray.mk #[48, 49, 50, 51, 52, 53, 54, 55, 56, 57, 97, 98, 99, 100, 101, 102]).extract d.val 16).extract 0 1).data.toList = [U.chr d.val] := by decide +kernel
theorem hex_letter {x : Nat} : (((ByteArray.mk #[48, 49, 50, 51, 52, 53, 54, 55, 56, 57, 97, 98, 99, 100, 101, 102]).extract (x % 16) 16).extract 0 1).data.toList = [U.chr (x % 16)] := hex_all ⟨x % 16, Nat.mod_lt _ (by decide)⟩
theorem inv_put {base l x : Nat} {A T : ByteArray} (hA : A.data.toList = [U.chr (x % base)]) (h : Hid (U.Inv base l x T.data.toList)) (hx : 0 < x) (hb : 0 < base) (hb2 : base ≤ 16) : Hid (U.Inv base l (x / base) (A ++ T).data.toList) := by
  show U.Inv base l (x / base) (A ++ T).data.toList
  rw [ByteArray.data_append, Array.toList_append, hA]
  exact h.out.step hx hb hb2

set_option maxHeartbeats 8000000 in
set_option maxRecDepth 1000000 in
theorem numbers_walk (z : Int) (w : World) (hS : ErrS w) :
    Calls Tryd.prog 6 #[.int .i64 z] w fun e w' => e = .returned (.bool true) ∧ Below w.heap.size w w' := by
  go_enter Tryd.func6, Tryd.ntmps6
  go_wp2_with fail
  have hr : Rd (w.alloc (.cells #[.int .i64 z] 3)) (w.alloc (.cells #[.int .i64 z] 3)).heap.size (some ⟨w.heap.size, 0, none⟩) [z] := by
    intro k x hk
    match k, hk with
    | 0, hk =>
      simp at hk
      subst hk
      refine ⟨_, rfl, by simp, ?_⟩
      simp [Addr.add]
    | k + 1, hk => simp at hk
  refine (letters_walk _ _ [z] 1 _ hr (by omega)).mono ?_
  rintro e w1 ⟨v1, rfl, o1, b1⟩
  have hlz : lets 1 [z] = [letN z] := rfl
  have hL := letN_isL z
  rw [hlz] at o1
  generalize letN z = l at *
  have hB1 : Below w.heap.size w w1 := ((Below.refl _ w).alloc (Nat.le_refl _) _).trans (b1.mono (by simp))
  have hln := (U.isL_iff.1 hL).1
  obtain ⟨g, c1, rfl, hc⟩ : ∃ g c1, v1 = .slice (some ⟨g, 0, none⟩) 1 c1 ∧ w1.cell? ⟨g, 0, none⟩ = some (.int .i64 (l : Int)) := by
    rcases o1.2 with ⟨_, h0⟩ | ⟨g, cap, cur, rfl, _⟩
    · simp at h0
    · have := o1.cells (g := g) rfl 0 (.int .i64 (l : Int)) rfl
      exact ⟨g, cap, rfl, by simpa [Addr.add] using this⟩
  have HL := Lib.hid hL
  clear hlz hL hr b1 o1
  by_cases h0 : l = 0
  · subst h0
    go_wp2_with fail
    refine (sure_walk _ (hS.below hB1)).mono ?_
    rintro e w2 ⟨rfl, b2⟩
    go_wp2_with fail
    go_ret
    exact ⟨rfl, hB1.trans (b2.mono hB1.size)⟩
  · have hz0 : ((l : Int) == 0) = false := by simpa using h0
    go_wp2_with fail
    go_loop [4, 5] (fun t i => ∃ (x : Nat) (T : ByteArray), t = .string T ∧ i = .int .i64 x ∧ x ≤ 1114111 ∧ Hid (U.Inv 10 l x T.data.toList) ∧ T.size ≤ 7) (fun _ i => (intOf i).toNat)
    case atStart => exact ⟨l, ⟨#[]⟩, rfl, rfl, hln, U.Inv.start 10 l, by decide⟩
    case round =>
      obtain ⟨x, T, rfl, rfl, hx, hI, hts⟩ := hrel
      by_cases hpos : 0 < x
      · have HN := inv_put dec_letter hI hpos (by decide) (by decide)
        have hsz := HN.out.len10 hln
        rw [len_list] at hsz
        have HS := Lib.hid hsz
        clear hsz
        go_wp2_with fail
        go_round
        case rel => exact ⟨x / 10, _, rfl, by go_num, by omega, HN, HS.out⟩
        case measure => simp [intOf]; omega
      · obtain rfl : x = 0 := by omega
        clear hpos
        have HD := hI
        have hd := U.unesc_dec hI.out h0 HL.out
        have ho := U.unesc_open hI.out
        clear hI
        go_wp2_with fail
        go_loop [6, 7] (fun t i => ∃ (x : Nat) (X : ByteArray), t = .string X ∧ i = .int .i64 x ∧ x ≤ 1114111 ∧ Hid (U.Inv 16 l x X.data.toList) ∧ X.size ≤ 7) (fun _ i => (intOf i).toNat)
        case atStart => exact ⟨l, ⟨#[]⟩, rfl, rfl, hln, U.Inv.start 16 l, by decide⟩
        case round =>
          obtain ⟨x, X, rfl, rfl, hx, hI, hXs⟩ := hrel
          by_cases hpos : 0 < x
          · have HN := inv_put hex_letter hI hpos (by decide) (by decide)
            have hsz := HN.out.len16 hln
            rw [len_list] at hsz
            have hsz7 := Nat.le_trans hsz (show 6 ≤ 7 by decide)
            have HS := Lib.hid hsz7
            clear hsz hsz7 hd ho
            go_wp2_with fail
            go_round
            case rel => exact ⟨x / 16, _, rfl, by go_num, by omega, HN, HS.out⟩
            case measure => simp [intOf]; omega
          · obtain rfl : x = 0 := by omega
            clear hpos
            have hx1 := U.unesc_hex 120 (.inl rfl) hI.out h0 HL.out
            have hx2 := U.unesc_hex 88 (.inr rfl) hI.out h0 HL.out
            have hE := (U.enc_length l).1
            have r1 := unescape_walk (ByteArray.mk #[38, 35] ++ T ++ ByteArray.mk #[59])
            have r2 := unescape_walk (ByteArray.mk #[38, 35, 120] ++ X ++ ByteArray.mk #[59])
            have r3 := unescape_walk (ByteArray.mk #[38, 35, 88] ++ X ++ ByteArray.mk #[59])
            have r4 := unescape_walk (ByteArray.mk #[38, 35] ++ T)
            have e1 : (ByteArray.mk #[38, 35] ++ T ++ ByteArray.mk #[59]).data.toList = 38 :: 35 :: (T.data.toList ++ [59]) := by simp
            have e2 : (ByteArray.mk #[38, 35, 120] ++ X ++ ByteArray.mk #[59]).data.toList = 38 :: 35 :: 120 :: (X.data.toList ++ [59]) := by simp
            have e3 : (ByteArray.mk #[38, 35, 88] ++ X ++ ByteArray.mk #[59]).data.toList = 38 :: 35 :: 88 :: (X.data.toList ++ [59]) := by simp
            have e4 : (ByteArray.mk #[38, 35] ++ T).data.toList = 38 :: 35 :: T.data.toList := by simp
            have z1 : (ByteArray.mk #[38, 35] ++ T ++ ByteArray.mk #[59]).size ≤ 20 := by rw [ByteArray.size_append, ByteArray.size_append]; show 2 + T.size + 1 ≤ 20; omega
            have z2 : (ByteArray.mk #[38, 35, 120] ++ X ++ ByteArray.mk #[59]).size ≤ 20 := by rw [ByteArray.size_append, ByteArray.size_append]; show 3 + X.size + 1 ≤ 20; omega
            have z3 : (ByteArray.mk #[38, 35, 88] ++ X ++ ByteArray.mk #[59]).size ≤ 20 := by rw [ByteArray.size_append, ByteArray.size_append]; show 3 + X.size + 1 ≤ 20; omega
            have z4 : (ByteArray.mk #[38, 35] ++ T).size ≤ 20 := by rw [ByteArray.size_append]; show 2 + T.size ≤ 20; omega
            rw [e1, hd] at r1
            rw [e2, hx1] at r2
            rw [e3, hx2] at r3
            rw [e4, ho, ← e4, mk_of_list] at r4
            generalize U.enc l = E at *
            have zE := size_of_mk E
            clear e1 e2 e3 e4 hd ho hx1 hx2 hI HD
            go_wp2_with fail
            refine (r1 (Nat.le_trans z1 (by decide)) _ (hS.below hB1)).mono ?_
            rintro e w2 ⟨rfl, b2⟩
            have c2 := hB1.trans (b2.mono hB1.size)
            go_wp2_with fail
            refine (sure_walk _ (hS.below c2)).mono ?_
            rintro e w3 ⟨rfl, b3⟩
            have c3 := c2.trans (b3.mono c2.size)
            go_wp2_with fail
            refine (r2 (Nat.le_trans z2 (by decide)) _ (hS.below c3)).mono ?_
            rintro e w4 ⟨rfl, b4⟩
            have c4 := c3.trans (b4.mono c3.size)
            go_wp2_with fail
            refine (r3 (Nat.le_trans z3 (by decide)) _ (hS.below c4)).mono ?_
            rintro e w5 ⟨rfl, b5⟩
            have c5 := c4.trans (b5.mono c4.size)
            go_wp2_with fail
            refine (r4 (Nat.le_trans z4 (by decide)) _ (hS.below c5)).mono ?_
            rintro e w6 ⟨rfl, b6⟩
            go_wp2_with fail
            go_ret
            exact ⟨rfl, c5.trans (b6.mono c5.size)⟩

end Go.Proofs.YtpgffcfffpmahaaDoor

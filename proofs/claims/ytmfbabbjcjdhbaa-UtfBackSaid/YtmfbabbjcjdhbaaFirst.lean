/- The reference: utfFirst. -/
import Derived.Test.YtmfbabbjcjdhbaaRefBytes
import Derived.Test.YtmfbabbjcjdhbaaRefMath
import Derived.Test.YtmfbabbjcjdhbaaSame
import Derived.Test.YtmfbabbjcjdhbaaText
import Derived.Deep.DeepCutAuto
import Derived.Deep.RegionWith
import Derived.Outline
namespace Go.Proofs.Ytmfbabbjcjdhbaa
open Go.RowKit

theorem at_byte (s : ByteArray) (k : Nat) (h : k < s.size) : U.at' s.data.toList k = (s[k]'h).toNat := by
  have h2 : k < s.data.size := h
  simp only [U.at', List.getD_eq_getElem?_getD, Array.getElem?_toList]
  rw [getElem?_pos s.data k h2]
  rfl

theorem is_letter_no (c : Nat) (w : World) (h : U.isL c = false) : Calls Try.prog 25 #[.int .i64 c] w fun e w' => e = .returned (.bool false) ∧ w' = w :=
  (is_letter c w).mono fun _ _ ⟨h1, h2⟩ => ⟨by rw [h1, U.okI_nat, h], h2.symm⟩
theorem is_letter_yes (c : Nat) (w : World) (h : U.isL c = true) : Calls Try.prog 25 #[.int .i64 c] w fun e w' => e = .returned (.bool true) ∧ w' = w :=
  (is_letter c w).mono fun _ _ ⟨h1, h2⟩ => ⟨by rw [h1, U.okI_nat, h], h2.symm⟩

set_option maxHeartbeats 4000000 in
set_option maxRecDepth 1000000 in
theorem first_walk (s : ByteArray) (w : World) (h0 : 0 < s.size) (hs : s.size ≤ 9223372036854775807) :
    Calls Try.prog 22 #[.string s] w fun e w' => e = .returned (.tuple #[.int .i64 (U.dec s.data.toList).1, .int .i64 (U.dec s.data.toList).2]) ∧ Below w.heap.size w w' := by
  have hb0 : ((s[0]'h0).toNat : Int) ≤ 255 := by have := (s[0]'h0).toNat_lt; omega
  have A0 := Lib.hid (at_byte s 0 h0)
  go_enter Try.func22, Try.ntmps22
  go_wp2_with fail
  go_loopw [4] (fun i wr => ∃ k : Nat, 1 ≤ k ∧ k ≤ 5 ∧ k ≤ s.size + 1 ∧ i = .int .i64 k ∧ Hid (∀ j, 1 ≤ j → j < k → U.fits s.data.toList j = false) ∧ Below w.heap.size w wr) (fun i _ => 5 - (intOf i).toNat)
  case atStart => exact ⟨1, by omega, by omega, by omega, rfl, fun j h1 h2 => by omega, Below.refl _ _⟩
  case round =>
    obtain ⟨k, hk1, hk5, hks, rfl, hno, hbw⟩ := hrel
    have hbs := hbw.size
    by_cases hgo : k ≤ 4 ∧ k ≤ s.size
    · obtain ⟨hk4, hks2⟩ := hgo
      go_upto_if 21 with (fail)
      go_cut [5] (fun n wx => n = .int .i64 (U.cand s.data.toList k) ∧ Below w.heap.size w wx)
      case first =>
        match k, hk1, hk4 with
        | 1, _, _ =>
          go_wp2_with fail
          go_meet
          exact ⟨by rw [show U.cand s.data.toList 1 = U.at' s.data.toList 0 from rfl, A0.out], hbw⟩
        | 2, _, _ =>
          have h1 : 1 < s.size := by omega
          have hb1 : ((s[1]'h1).toNat : Int) ≤ 255 := by have := (s[1]'h1).toNat_lt; omega
          have A1 := Lib.hid (at_byte s 1 h1)
          go_wp2_with fail
          go_quiet (fail)
          go_wp2_with fail
          refine wp_loop_rounds 2 ?_
          rw [rounds_succ]
          go_wp2_with fail
          rw [rounds_succ]
          go_wp2_with fail
          go_meet
          refine ⟨?_, below_drewN hbw _⟩
          rw [show U.cand s.data.toList 2 = U.at' s.data.toList 0 % 32 * 64 + U.at' s.data.toList 1 % 64 from rfl, A0.out, A1.out]
          simp
        | 3, _, _ =>
          have h1 : 1 < s.size := by omega
          have hb1 : ((s[1]'h1).toNat : Int) ≤ 255 := by have := (s[1]'h1).toNat_lt; omega
          have A1 := Lib.hid (at_byte s 1 h1)
          have h2 : 2 < s.size := by omega
          have hb2 : ((s[2]'h2).toNat : Int) ≤ 255 := by have := (s[2]'h2).toNat_lt; omega
          have A2 := Lib.hid (at_byte s 2 h2)
          go_wp2_with fail
          go_quiet (fail)
          go_wp2_with fail
          refine wp_loop_rounds 3 ?_
          rw [rounds_succ]
          go_wp2_with fail
          rw [rounds_succ]
          go_wp2_with fail
          rw [rounds_succ]
          go_wp2_with fail
          go_meet
          refine ⟨?_, below_drewN hbw _⟩
          rw [show U.cand s.data.toList 3 = (U.at' s.data.toList 0 % 16 * 64 + U.at' s.data.toList 1 % 64) * 64 + U.at' s.data.toList 2 % 64 from rfl, A0.out, A1.out, A2.out]
          simp
        | 4, _, _ =>
          have h1 : 1 < s.size := by omega
          have hb1 : ((s[1]'h1).toNat : Int) ≤ 255 := by have := (s[1]'h1).toNat_lt; omega
          have A1 := Lib.hid (at_byte s 1 h1)
          have h2 : 2 < s.size := by omega
          have hb2 : ((s[2]'h2).toNat : Int) ≤ 255 := by have := (s[2]'h2).toNat_lt; omega
          have A2 := Lib.hid (at_byte s 2 h2)
          have h3 : 3 < s.size := by omega
          have hb3 : ((s[3]'h3).toNat : Int) ≤ 255 := by have := (s[3]'h3).toNat_lt; omega
          have A3 := Lib.hid (at_byte s 3 h3)
          go_wp2_with fail
          go_quiet (fail)
          go_wp2_with fail
          refine wp_loop_rounds 4 ?_
          rw [rounds_succ]
          go_wp2_with fail
          rw [rounds_succ]
          go_wp2_with fail
          rw [rounds_succ]
          go_wp2_with fail
          rw [rounds_succ]
          go_wp2_with fail
          go_meet
          refine ⟨?_, below_drewN hbw _⟩
          rw [show U.cand s.data.toList 4 = ((U.at' s.data.toList 0 % 8 * 64 + U.at' s.data.toList 1 % 64) * 64 + U.at' s.data.toList 2 % 64) * 64 + U.at' s.data.toList 3 % 64 from rfl, A0.out, A1.out, A2.out, A3.out]
          simp
      case rest =>
        obtain ⟨rfl, hbx⟩ := hcut
        have hcb := U.cand_bd s.data.toList k
        have hfit : U.fits s.data.toList k = (U.isL (U.cand s.data.toList k) && decide (U.enc (U.cand s.data.toList k) = s.data.toList.take k)) := by
          unfold U.fits
          rw [decide_eq_true (by simpa using hks2)]
          rfl
        have HF := Lib.hid hfit
        clear hfit
        have hdec : U.fits s.data.toList k = true → U.dec s.data.toList = (U.cand s.data.toList k, k) := U.fits_dec
        generalize U.cand s.data.toList k = c at *
        cases hL : U.isL c
        · have hno2 : Hid (∀ j, 1 ≤ j → j < k + 1 → U.fits s.data.toList j = false) := by
            intro j h1 h2
            by_cases e : j = k
            · subst e; rw [HF.out, hL]; rfl
            · exact hno.out j h1 (by omega)
          have HL := Lib.hid hL
          have HD := Lib.hid hdec
          clear hL hdec
          go_upto_region 11 with (fail)
          go_quiet ((go_at_call 25; exact Calls.quiet_of_same (is_letter_no _ _ HL.out)))
          go_wp2_with fail
          go_roundw
          case rel => exact ⟨k + 1, by omega, by omega, by omega, by go_num, hno2, below_drewN hbx _⟩
          case measure => simp [intOf]; omega
        · have HL := Lib.hid hL
          have HD := Lib.hid hdec
          clear hL hdec
          have hc1 : c ≤ 1114111 := (U.isL_iff.1 HL.out).1
          have hex : (s.extract 0 k).data.toList = s.data.toList.take k := by rw [Lib.extract_data, List.drop_zero, Nat.sub_zero]
          have hexl : (s.extract 0 k).toList = s.data.toList.take k := by rw [Lib.toList_data, hex]
          have HX := Lib.hid hexl
          clear hex hexl
          go_upto_region 11 with (fail)
          go_region_with (first
            | (go_at_call 25; refine (is_letter_yes _ _ HL.out).mono ?_; rintro e w' ⟨rfl, rfl⟩)
            | (go_at_call 26; refine (utf_bytes c hc1 _).mono ?_; rintro e w' ⟨v, rfl, ho, hb⟩; have hcv := str_of_row ho))
          go_wp2_with fail
          · have heq : (U.enc c == (s.extract 0 k).toList) = true := by assumption
            rw [HX.out] at heq
            have hfit : U.fits s.data.toList k = true := by rw [HF.out, HL.out, decide_eq_true (by simpa using heq)]; rfl
            go_ret2
            rw [HD.out hfit]
            exact ⟨rfl, hbx.drew.trans (hb.mono hbx.size)⟩
          · have heq : (U.enc c == (s.extract 0 k).toList) = false := by assumption
            rw [HX.out] at heq
            have hfit : U.fits s.data.toList k = false := by rw [HF.out, HL.out, decide_eq_false (by simpa using heq)]; rfl
            have hno2 : Hid (∀ j, 1 ≤ j → j < k + 1 → U.fits s.data.toList j = false) := by
              intro j h1 h2
              by_cases e : j = k
              · subst e; exact hfit
              · exact hno.out j h1 (by omega)
            go_roundw
            case rel => exact ⟨k + 1, by omega, by omega, by omega, by go_num, hno2, hbx.drew.trans (hb.mono hbx.size)⟩
            case measure => simp [intOf]; omega
    · have hall : ∀ j, 1 ≤ j → j ≤ 4 → U.fits s.data.toList j = false := by
        intro j h1 h2
        by_cases e : j < k
        · exact hno.out j h1 e
        · have hz : s.data.toList.length = s.size := by rw [Array.length_toList]; rfl
          unfold U.fits
          rw [hz, decide_eq_false (by omega)]
          rfl
      have hne : s.data.toList ≠ [] := by
        intro e
        have h1 : s.data.toList.length = 0 := by rw [e]; rfl
        rw [Array.length_toList] at h1
        have h2 : s.data.size = s.size := rfl
        omega
      have hd := U.none_dec hne hall
      have HD := Lib.hid hd
      clear hd hall hne
      by_cases h4 : k ≤ 4
      · have h5 : ¬ k ≤ s.size := fun h => hgo ⟨h4, h⟩
        clear hgo
        go_wp2_with fail
        go_ret2
        rw [HD.out]
        exact ⟨rfl, hbw⟩
      · clear hgo
        go_wp2_with fail
        go_ret2
        rw [HD.out]
        exact ⟨rfl, hbw⟩

end Go.Proofs.Ytmfbabbjcjdhbaa

/- UtfTexts: utf.Text answers what the document says. -/
import Derived.Test.YtmfbabbjcjdhbaaRefRunes
import Derived.Test.YtmfbabbjcjdhbaaText
import Derived.Outline
namespace Go.Proofs.Ytmfbabbjcjdhbaa
open Go.RowKit

set_option maxHeartbeats 2000000 in
set_option maxRecDepth 100000 in
/-- the reference's UtfText -/
theorem ref_text (ao : Option Addr) (cap : Nat) (zs : List Int) (w : World) (hr : Rd w w.heap.size ao zs) (hz : zs.length ≤ maxLen) :
    Calls Try.prog 16 #[.slice ao zs.length cap] w fun e w' => e = .returned (.tuple #[.string ⟨(U.textR zs).1.toArray⟩, .int .i64 (U.textR zs).2]) ∧ Below w.heap.size w w' := by
  unfold maxLen at hz
  have HR := Lib.hid hr
  clear hr
  go_enter Try.func16, Try.ntmps16
  go_wp2_with fail
  go_loopw [4, 9] (fun t i wr => ∃ (k : Nat) (T : ByteArray), k ≤ zs.length ∧ i = .int .i64 k ∧ t = .string T ∧ Hid ((zs.take k).all U.okI = true) ∧ Hid (T.size ≤ 600 → T.data.toList = U.encZ (zs.take k)) ∧ Hid (600 < T.size → 600 < (U.encZ zs).length) ∧ T.size ≤ 604 ∧ Below w.heap.size w wr) (fun _ i _ => zs.length - (intOf i).toNat)
  case atStart => exact ⟨0, ⟨#[]⟩, Nat.zero_le _, rfl, rfl, rfl, (fun _ => rfl), (fun h => absurd h (by decide)), by decide, Below.refl _ _⟩
  case round =>
    obtain ⟨k, T, hk, rfl, rfl, hall, hT, hbig, h604, hbw⟩ := hrel
    have hbs := hbw.size
    by_cases hlt : k < zs.length
    · obtain ⟨ad, rfl, hb, hc⟩ := (HR.out.below hbw) k zs[k] (List.getElem?_eq_getElem hlt)
      have Hz := Lib.hid (List.getElem?_eq_getElem hlt)
      generalize zs[k] = z at *
      cases hok : U.okI z
      · have Hok := Lib.hid hok
        clear hok
        go_wp2_with fail
        refine (is_letter z _).mono ?_
        rintro e w' ⟨rfl, rfl⟩
        rw [Hok.out]
        go_wp2_with fail
        go_ret2
        rw [U.textR_bad (U.all_of_bad Hz.out Hok.out)]
        exact ⟨rfl, hbw⟩
      · have hz0 := (U.okI_iff.1 hok).1
        have hz1 := (U.okI_iff.1 hok).2.1
        have Hok := Lib.hid hok
        clear hok
        obtain ⟨n, rfl⟩ := Int.eq_ofNat_of_zero_le hz0
        have hall2 : Hid ((zs.take (k + 1)).all U.okI = true) := by
          show _ = true
          rw [U.all_take_snoc Hz.out, hall.out, Hok.out]; rfl
        by_cases h600 : T.size ≤ 600
        · have hE := (U.enc_length n).2
          have hcat : U.encZ (zs.take (k + 1)) = U.encZ (zs.take k) ++ U.enc n := by
            rw [U.take_snoc Hz.out, U.encZ_append, U.encZ_one]; simp
          have hle := U.encZ_take_le zs (k + 1)
          have Hcat := Lib.hid hcat
          clear hcat
          have ub := utf_bytes n (by omega)
          generalize U.enc n = E at *
          have hEs : (ByteArray.mk E.toArray).size = E.length := by show E.toArray.size = _; simp
          have HEs := Lib.hid hEs
          have hEs1 : (ByteArray.mk E.toArray).size ≤ 4 := by omega
          clear hEs
          go_wp2_with fail
          refine (is_letter _ _).mono ?_
          rintro e w' ⟨rfl, rfl⟩
          rw [Hok.out]
          go_wp2_with fail
          refine (ub _).mono ?_
          rintro e w2 ⟨v, rfl, ho, hb2⟩
          have hcv := str_of_row ho
          go_wp2_with fail
          have hd : (T ++ ByteArray.mk E.toArray).data.toList = U.encZ (zs.take (k + 1)) := by
            rw [Hcat.out, ← hT.out h600]
            simp
          have hsz : (T ++ ByteArray.mk E.toArray).size = (U.encZ (zs.take (k + 1))).length := by rw [← hd, toList_length]
          have hsz2 : (T ++ ByteArray.mk E.toArray).size = T.size + E.length := by rw [ByteArray.size_append, HEs.out]
          go_roundw
          case rel => exact ⟨k + 1, _, by omega, by go_num, rfl, hall2, (fun _ => hd), (fun h => by omega), by omega, hbw.trans (hb2.mono hbs)⟩
          case measure => simp [intOf]; omega
        · go_wp2_with fail
          refine (is_letter _ _).mono ?_
          rintro e w' ⟨rfl, rfl⟩
          rw [Hok.out]
          go_wp2_with fail
          go_roundw
          case rel => exact ⟨k + 1, T, by omega, by go_num, rfl, hall2, (fun h => absurd h h600), hbig, h604, hbw⟩
          case measure => simp [intOf]; omega
    · obtain rfl : k = zs.length := by omega
      have ha := hall.out
      have ht := hT.out
      rw [List.take_length] at ha ht
      have Ha := Lib.hid ha
      have Ht := Lib.hid ht
      clear ha ht
      by_cases h600 : T.size ≤ 600
      · have he := Ht.out h600
        have hl : (U.encZ zs).length = T.size := by rw [← he, toList_length]
        have hR := U.textR_good Ha.out (by omega)
        have hTT : ByteArray.mk (U.encZ zs).toArray = T := by rw [← he]
        have HR2 := Lib.hid hR
        have HTT := Lib.hid hTT
        clear he hl hR hTT
        go_wp2_with fail
        go_ret2
        rw [HR2.out]
        simp only [HTT.out]
        exact ⟨rfl, hbw⟩
      · go_wp2_with fail
        go_ret2
        rw [U.textR_long Ha.out (hbig.out (by omega))]
        exact ⟨rfl, hbw⟩

set_option maxHeartbeats 1000000 in
set_option maxRecDepth 100000 in
theorem texts_walk (ao : Option Addr) (cap : Nat) (zs : List Int) (w : World) (hr : Rd w w.heap.size ao zs) (hz : zs.length ≤ maxLen) :
    Calls Try.prog 4 #[.slice ao zs.length cap] w fun e w' => e = .returned (.bool true) ∧ Below w.heap.size w w' := by
  have r1 := text_walk ao cap zs w hr hz
  have HR := Lib.hid hr
  clear hr
  have r2 : ∀ W, Below w.heap.size w W → _ := fun W hb => ref_text ao cap zs W ((HR.out.below hb).more hb.size) hz
  generalize U.textR zs = q at *
  obtain ⟨q1, q2⟩ := q
  go_enter Try.func4, Try.ntmps4
  go_wp2_with fail
  refine r1.mono ?_
  rintro e w1 ⟨rfl, b1⟩
  go_wp2_with fail
  refine (r2 w1 b1).mono ?_
  rintro e w2 ⟨rfl, b2⟩
  go_wp2_with fail
  go_ret
  exact ⟨rfl, b1.trans (b2.mono b1.size)⟩

end Go.Proofs.Ytmfbabbjcjdhbaa

/- UtfCleans: utf.Clean answers what the document says. -/
import Derived.Test.YtmfbabbjcjdhbaaRefRunes
import Derived.Test.YtmfbabbjcjdhbaaClean
import Derived.Test.YtmfbabbjcjdhbaaCleanMore
import Derived.Outline
namespace Go.Proofs.Ytmfbabbjcjdhbaa
open Go.RowKit

theorem drop_cons {R : List Nat} {k n : Nat} (h : R[k]? = some n) : R.drop k = n :: R.drop (k + 1) := by
  obtain ⟨hk, e⟩ := List.getElem?_eq_some_iff.1 h
  rw [List.drop_eq_getElem_cons hk, e]

theorem nat_get {R : List Nat} {k : Nat} (h : k < R.length) : (R.map Int.ofNat)[k]? = some (R[k] : Int) := by simp [h]

theorem clean1_eq10 : U.clean1 13 false = U.enc 10 := by decide
theorem clean1_enc {n : Nat} (f : Bool) (h0 : n ≠ 0) (h13 : n ≠ 13) : U.clean1 n f = U.enc n := by rw [U.clean1, if_neg h0, if_neg h13]
theorem clean1_enc0 (f : Bool) : U.clean1 0 f = U.enc 65533 := by rw [U.clean1, if_pos rfl]

theorem clean_step {T : ByteArray} {X Y Z : List UInt8} {E : List UInt8} (hT : T.data.toList ++ X = Z) (hX : X = E ++ Y) : (T ++ ByteArray.mk E.toArray).data.toList ++ Y = Z := by
  rw [← hT, hX]
  simp

set_option maxHeartbeats 4000000 in
set_option maxRecDepth 1000000 in
/-- the reference's UtfClean -/
theorem ref_clean (s : ByteArray) (w : World) (hs : s.size ≤ 1048576) :
    Calls Try.prog 18 #[.string s] w fun e w' => e = .returned (.string ⟨(U.clean s.data.toList).toArray⟩) ∧ Below w.heap.size w w' := by
  have hlen := (U.runes_length s.data.toList).1
  rw [toList_length] at hlen
  have hisL := U.runes_isL s.data.toList
  have r1 := ref_runes s
  have hcl : U.clean s.data.toList = U.cleanR (U.runes s.data.toList) := rfl
  rw [hcl]
  clear hcl
  have HI := Lib.hid hisL
  clear hisL
  generalize U.runes s.data.toList = R at *
  go_enter Try.func18, Try.ntmps18
  go_wp2_with fail
  refine (r1 _ (by omega)).mono ?_
  rintro e w1 ⟨v1, rfl, o1, b1⟩
  obtain ⟨a1, c1, rfl⟩ := own_form o1
  have hR := Rd.of_own o1
  have HR := Lib.hid hR
  have bs1 := b1.size
  clear hR r1 o1
  go_wp2_with fail
  go_loopw [3, 11] (fun t i wr => ∃ (k : Nat) (T : ByteArray), k ≤ R.length ∧ i = .int .i64 k ∧ t = .string T ∧ Hid (T.data.toList ++ U.cleanR (R.drop k) = U.cleanR R) ∧ T.size ≤ 4 * k ∧ Below w1.heap.size w1 wr) (fun _ i _ => R.length - (intOf i).toNat)
  case atStart => exact ⟨0, ⟨#[]⟩, Nat.zero_le _, rfl, rfl, rfl, by decide, Below.refl _ _⟩
  case round =>
    obtain ⟨k, T, hk, rfl, rfl, hT, hts, hbw⟩ := hrel
    have hbs := hbw.size
    by_cases hlt : k < R.length
    · obtain ⟨ad, rfl, hb, hc⟩ := (HR.out.below hbw) k (R[k] : Int) (nat_get hlt)
      have Hz := Lib.hid (List.getElem?_eq_getElem hlt)
      have hL := HI.out _ (List.getElem_mem hlt)
      have hn := (U.isL_iff.1 hL).1
      have hnext : k + 1 < R.length → (wr.cell? ⟨ad.block, ad.off + (k + 1), none⟩ = some (.int .i64 (R.getD (k + 1) 0 : Nat))) := fun h => by
        obtain ⟨ad', e, _, h2⟩ := (HR.out.below hbw) (k + 1) (R[k + 1] : Int) (nat_get h)
        injection e with e
        subst e
        rw [List.getD_eq_getElem?_getD, List.getElem?_eq_getElem h]
        have ea : ad.add (k + 1) = ⟨ad.block, ad.off + (k + 1), none⟩ := by simp [Addr.add]
        rw [ea] at h2
        exact h2
      have hhead : ((R.drop (k + 1)).head? == some 10) = (decide (k + 1 < R.length) && R.getD (k + 1) 0 == 10) := by
        rw [List.head?_drop, List.getD_eq_getElem?_getD]
        by_cases h : k + 1 < R.length
        · rw [List.getElem?_eq_getElem h, decide_eq_true h]; rfl
        · rw [List.getElem?_eq_none (by omega), decide_eq_false h]; rfl
      have hcc : U.cleanR (R.drop k) = U.clean1 R[k] ((R.drop (k + 1)).head? == some 10) ++ U.cleanR (R.drop (k + 1)) := by rw [drop_cons Hz.out]; rfl
      generalize R[k] = n at *
      generalize R.getD (k + 1) 0 = m at *
      have Hcc := Lib.hid hcc
      have Hhd := Lib.hid hhead
      clear hcc hhead hL
      by_cases h13 : n = 13
      · subst h13
        by_cases hk1 : k + 1 < R.length
        · have hc1 := hnext hk1
          clear hnext
          by_cases h10 : m = 10
          · have hdrop : Hid (T.data.toList ++ U.cleanR (R.drop (k + 1)) = U.cleanR R) := by
              show _ = _
              rw [← hT.out, Hcc.out, Hhd.out, decide_eq_true hk1, h10]
              rfl
            subst h10
            go_wp2_with fail
            go_roundw
            case rel => exact ⟨k + 1, T, by omega, by go_num, rfl, hdrop, by omega, hbw⟩
            case measure => simp [intOf]; omega
          · have hne : ((m : Int) == 10) = false := by rw [beq_eq_false_iff_ne]; omega
            have h10b : (m == 10) = false := by simpa using h10
            have hE := (U.enc_length 10).2
            have hX : Hid (U.cleanR (R.drop k) = U.enc 10 ++ U.cleanR (R.drop (k + 1))) := by
              show _ = _
              rw [Hcc.out, Hhd.out, h10b, Bool.and_false, clean1_eq10]
            have ub := utf_bytes 10 (by omega)
            generalize U.enc 10 = E at *
            have hEs : (ByteArray.mk E.toArray).size = E.length := by show E.toArray.size = _; simp
            have HEs := Lib.hid hEs
            have hEs1 : (ByteArray.mk E.toArray).size ≤ 4 := by omega
            clear hEs
            go_wp2_with fail
            refine (ub _).mono ?_
            rintro e w2 ⟨v, rfl, ho, hb2⟩
            have hcv := str_of_row ho
            go_wp2_with fail
            go_roundw
            case rel => exact ⟨k + 1, _, by omega, by go_num, rfl, clean_step hT.out hX.out, by rw [ByteArray.size_append]; omega, hbw.trans (hb2.mono hbs)⟩
            case measure => simp [intOf]; omega
        · clear hnext
          have hk2 : R.length ≤ k + 1 := by omega
          have hdk : (decide (k + 1 < R.length)) = false := decide_eq_false hk1
          have Hdk := Lib.hid hdk
          clear hdk hk1
          have hE := (U.enc_length 10).2
          have hX : Hid (U.cleanR (R.drop k) = U.enc 10 ++ U.cleanR (R.drop (k + 1))) := by
            show _ = _
            rw [Hcc.out, Hhd.out, Hdk.out, Bool.false_and, clean1_eq10]
          have ub := utf_bytes 10 (by omega)
          generalize U.enc 10 = E at *
          have hEs : (ByteArray.mk E.toArray).size = E.length := by show E.toArray.size = _; simp
          have HEs := Lib.hid hEs
          have hEs1 : (ByteArray.mk E.toArray).size ≤ 4 := by omega
          clear hEs
          go_wp2_with fail
          refine (ub _).mono ?_
          rintro e w2 ⟨v, rfl, ho, hb2⟩
          have hcv := str_of_row ho
          go_wp2_with fail
          go_roundw
          case rel => exact ⟨k + 1, _, by omega, by go_num, rfl, clean_step hT.out hX.out, by rw [ByteArray.size_append]; omega, hbw.trans (hb2.mono hbs)⟩
          case measure => simp [intOf]; omega
      · clear hnext
        by_cases hz : n = 0
        · subst hz
          have hE := (U.enc_length 65533).2
          have hX : Hid (U.cleanR (R.drop k) = U.enc 65533 ++ U.cleanR (R.drop (k + 1))) := by
            show _ = _
            rw [Hcc.out, clean1_enc0]
          have ub := utf_bytes 65533 (by omega)
          generalize U.enc 65533 = E at *
          have hEs : (ByteArray.mk E.toArray).size = E.length := by show E.toArray.size = _; simp
          have HEs := Lib.hid hEs
          have hEs1 : (ByteArray.mk E.toArray).size ≤ 4 := by omega
          clear hEs
          go_wp2_with fail
          refine (ub _).mono ?_
          rintro e w2 ⟨v, rfl, ho, hb2⟩
          have hcv := str_of_row ho
          go_wp2_with fail
          go_roundw
          case rel => exact ⟨k + 1, _, by omega, by go_num, rfl, clean_step hT.out hX.out, by rw [ByteArray.size_append]; omega, hbw.trans (hb2.mono hbs)⟩
          case measure => simp [intOf]; omega
        · have hne1 : ((n : Int) == 13) = false := by rw [beq_eq_false_iff_ne]; omega
          have hne2 : ((n : Int) == 0) = false := by rw [beq_eq_false_iff_ne]; omega
          have hE := (U.enc_length n).2
          have hX : Hid (U.cleanR (R.drop k) = U.enc n ++ U.cleanR (R.drop (k + 1))) := by
            show _ = _
            rw [Hcc.out, clean1_enc _ hz h13]
          have ub := utf_bytes n (by omega)
          generalize U.enc n = E at *
          have hEs : (ByteArray.mk E.toArray).size = E.length := by show E.toArray.size = _; simp
          have HEs := Lib.hid hEs
          have hEs1 : (ByteArray.mk E.toArray).size ≤ 4 := by omega
          clear hEs
          go_wp2_with fail
          refine (ub _).mono ?_
          rintro e w2 ⟨v, rfl, ho, hb2⟩
          have hcv := str_of_row ho
          go_wp2_with fail
          go_roundw
          case rel => exact ⟨k + 1, _, by omega, by go_num, rfl, clean_step hT.out hX.out, by rw [ByteArray.size_append]; omega, hbw.trans (hb2.mono hbs)⟩
          case measure => simp [intOf]; omega
    · obtain rfl : k = R.length := by omega
      have hfin := hT.out
      rw [List.drop_length] at hfin
      have hTT : ByteArray.mk (U.cleanR R).toArray = T := by
        rw [← hfin]
        cases T
        simp [U.cleanR]
      have HTT := Lib.hid hTT
      clear hfin hTT
      go_wp2_with fail
      go_ret
      rw [HTT.out]
      exact ⟨rfl, b1.trans (hbw.mono bs1)⟩

set_option maxHeartbeats 1000000 in
set_option maxRecDepth 100000 in
theorem cleans_walk (s : ByteArray) (w : World) (hs : s.size ≤ 1048576) :
    Calls Try.prog 5 #[.string s] w fun e w' => e = .returned (.bool true) ∧ Below w.heap.size w w' := by
  have r1 := clean_walk s
  have r2 := ref_clean s
  generalize U.clean s.data.toList = C at *
  go_enter Try.func5, Try.ntmps5
  go_wp2_with fail
  refine (r1 _ (by omega)).mono ?_
  rintro e w1 ⟨rfl, b1⟩
  go_wp2_with fail
  refine (r2 _ (by omega)).mono ?_
  rintro e w2 ⟨rfl, b2⟩
  go_wp2_with fail
  go_ret
  exact ⟨rfl, b1.trans (b2.mono b1.size)⟩

end Go.Proofs.Ytmfbabbjcjdhbaa

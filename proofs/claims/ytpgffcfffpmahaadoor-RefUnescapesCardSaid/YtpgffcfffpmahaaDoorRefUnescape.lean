/- The reference: RefUnescape; RefUnescapes: ref.Unescape answers what the document says. -/
import Derived.Test.YtpgffcfffpmahaaDoorRefAt
import Derived.Test.YtpgffcfffpmahaaDoorStrRow
import Derived.Test.YtpgffcfffpmahaaDoorSure
import Derived.Outline
namespace Go.Proofs.YtpgffcfffpmahaaDoor
open Go.RowKit

theorem grow_enc {T : ByteArray} {E l R : List UInt8} {n k : Nat} (h : Hid (T.data.toList ++ U.unesc l = R)) (hr : U.refAt l = some (n, k)) (hE : E = U.enc n) : Hid ((T ++ ByteArray.mk E.toArray).data.toList ++ U.unesc (l.drop k) = R) := by
  show _ = _
  rw [← h.out, U.unesc_some hr, ← hE]
  simp
theorem grow_one {T A : ByteArray} {l R : List UInt8} {b : UInt8} {r : List UInt8} (h : Hid (T.data.toList ++ U.unesc l = R)) (hr : U.refAt l = none) (hl : l = b :: r) (hA : A.data.toList = [b]) : Hid ((T ++ A).data.toList ++ U.unesc r = R) := by
  show _ = _
  rw [← h.out]
  subst hl
  rw [U.unesc_none hr, ByteArray.data_append, Array.toList_append, hA]
  simp

set_option maxHeartbeats 4000000 in
set_option maxRecDepth 1000000 in
theorem ref_unescape (s : ByteArray) (w : World) (hs : s.size ≤ 140737488351232) :
    Calls Tryd.prog 9 #[.string s] w fun e w' => e = .returned (.string ⟨(U.unesc s.data.toList).toArray⟩) ∧ Below w.heap.size w w' := by
  go_enter Tryd.func9, Tryd.ntmps9
  go_wp2_with fail
  go_loopw [0, 3] (fun v t wr => ∃ r T : ByteArray, v = .string r ∧ t = .string T ∧ Below w.heap.size w wr ∧ Hid (T.data.toList ++ U.unesc r.data.toList = U.unesc s.data.toList) ∧ T.size + r.size ≤ s.size) (fun v _ _ => strSize v)
  case atStart => exact ⟨s, ⟨#[]⟩, rfl, rfl, Below.refl _ _, rfl, by show 0 + s.size ≤ s.size; omega⟩
  case round =>
    obtain ⟨r, T, rfl, rfl, hbw, hacc, hts⟩ := hrel
    have hbs := hbw.size
    have hrl := len_list r
    by_cases hpos : 0 < r.size
    · have ra := ref_at r
      have hcons : r.data.toList = (r[0]'hpos) :: r.data.toList.drop 1 := drop_byte (k := 0) (byte_get r hpos)
      cases hr : U.refAt r.data.toList with
      | none =>
        rw [hr] at ra
        have hx1 : (r.extract 0 1).data.toList = [r[0]'hpos] := by rw [Lib.extract_data, hcons]; rfl
        have hx2 : (r.extract 1 r.size).data.toList = r.data.toList.drop 1 := by
          rw [Lib.extract_data]
          exact List.take_of_length_le (by simp)
        have HN := grow_one hacc hr hcons hx1
        rw [← hx2] at HN
        have hz1 : (T ++ r.extract 0 1).size = T.size + 1 := by rw [ByteArray.size_append, ByteArray.size_extract]; omega
        have hz2 : (r.extract 1 r.size).size = r.size - 1 := by rw [ByteArray.size_extract]; omega
        have HZ1 := Lib.hid hz1
        have HZ2 := Lib.hid hz2
        simp only [refV] at ra
        clear hx1 hx2 hr hcons hz1 hz2
        go_wp2_with fail
        refine (ra _ (by omega)).mono ?_
        rintro e w2 ⟨rfl, b2⟩
        go_wp2_with fail
        go_roundw
        case rel => exact ⟨_, _, rfl, rfl, hbw.trans (b2.mono hbs), HN, by rw [HZ1.out, HZ2.out]; omega⟩
        case measure => simp only [strSize]; rw [HZ2.out]; omega
      | some x =>
        obtain ⟨n, k⟩ := x
        rw [hr] at ra
        obtain ⟨h4, hkl, hL⟩ := U.refAt_bounds hr
        rw [hrl] at hkl
        have hn := (U.isL_iff.1 hL).1
        have hx2 : (r.extract k r.size).data.toList = r.data.toList.drop k := by
          rw [Lib.extract_data]
          exact List.take_of_length_le (by simp)
        have ub := utf_bytes n hn
        have hE := (U.enc_length n).2
        have HN0 := fun E hE => grow_enc (E := E) hacc hr hE
        rw [← hx2] at HN0
        have HN := HN0 _ rfl
        generalize U.enc n = E at *
        have zE := size_of_mk E
        have hz1 : (T ++ ByteArray.mk E.toArray).size = T.size + E.length := by rw [ByteArray.size_append, zE]
        have hz2 : (r.extract k r.size).size = r.size - k := by rw [ByteArray.size_extract]; omega
        have HZ1 := Lib.hid hz1
        have HZ2 := Lib.hid hz2
        have hk0 : ((k : Int) == 0) = false := by rw [beq_eq_false_iff_ne]; omega
        simp only [refV] at ra
        clear hx2 hr hcons hz1 hz2 HN0
        go_wp2_with fail
        refine (ra _ (by omega)).mono ?_
        rintro e w2 ⟨rfl, b2⟩
        have c2 := hbw.trans (b2.mono hbs)
        go_wp2_with fail
        refine (ub _).mono ?_
        rintro e w3 ⟨v, rfl, ho, b3⟩
        have hcv := str_of_row ho
        go_wp2_with fail
        go_roundw
        case rel => exact ⟨_, _, rfl, rfl, c2.trans (b3.mono c2.size), HN, by rw [HZ1.out, HZ2.out]; omega⟩
        case measure => simp only [strSize]; rw [HZ2.out]; omega
    · have h0 : r.data.toList = [] := List.length_eq_zero_iff.1 (by omega)
      have hfin := hacc.out
      rw [h0, U.unesc_nil, List.append_nil] at hfin
      have HF := Lib.hid hfin
      clear hfin h0
      go_wp2_with fail
      go_ret
      rw [← HF.out, mk_of_list]
      exact ⟨rfl, hbw⟩

set_option maxHeartbeats 1000000 in
set_option maxRecDepth 100000 in
theorem unescapes_walk (s : ByteArray) (w : World) (hs : s.size ≤ 140737488351232) (hS : ErrS w) :
    Calls Tryd.prog 3 #[.string s] w fun e w' => e = .returned (.bool true) ∧ Below w.heap.size w w' := by
  have r1 := unescape_walk s
  have r2 := ref_unescape s
  generalize U.unesc s.data.toList = C at *
  go_enter Tryd.func3, Tryd.ntmps3
  go_wp2_with fail
  refine (r1 (by omega) _ hS).mono ?_
  rintro e w1 ⟨rfl, b1⟩
  go_wp2_with fail
  refine (r2 _ (by omega)).mono ?_
  rintro e w2 ⟨rfl, b2⟩
  go_wp2_with fail
  go_ret
  exact ⟨rfl, b1.trans (b2.mono b1.size)⟩

end Go.Proofs.YtpgffcfffpmahaaDoor

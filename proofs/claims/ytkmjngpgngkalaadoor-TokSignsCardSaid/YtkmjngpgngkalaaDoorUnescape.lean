/- ref.Unescape: the walk. -/
import Derived.Test.YtkmjngpgngkalaaDoorNamed
import Derived.Test.YtkmjngpgngkalaaDoorBuilderRune
import Derived.Test.YtkmjngpgngkalaaDoorCleanMath
import Derived.Outline
namespace Go.Proofs.YtkmjngpgngkalaaDoor
open Go.RowKit

namespace U
theorem index_amp (l : List UInt8) : (Lib.indexByte l 38 = -1 ∧ 38 ∉ l) ∨
    ∃ o : Nat, Lib.indexByte l 38 = (o : Int) ∧ o < l.length ∧ 38 ∉ l.take o ∧ l.drop o = 38 :: l.drop (o + 1) := by
  have hge := Lib.indexByte_ge l 38
  by_cases hneg : Lib.indexByte l 38 = -1
  · refine .inl ⟨hneg, fun hm => ?_⟩
    obtain ⟨k, hk⟩ := List.getElem?_of_mem hm
    exact Lib.indexByte_none hneg k hk
  · obtain ⟨o, ho⟩ : ∃ o : Nat, Lib.indexByte l 38 = (o : Int) := Int.eq_ofNat_of_zero_le (by omega)
    obtain ⟨h1, h2⟩ := Lib.indexByte_some ho
    obtain ⟨hlt, e⟩ := List.getElem?_eq_some_iff.1 h1
    refine .inr ⟨o, ho, hlt, fun hm => ?_, by rw [List.drop_eq_getElem_cons hlt, e]⟩
    obtain ⟨k, hk⟩ := List.getElem?_of_mem hm
    have hk2 := (List.getElem?_eq_some_iff.1 hk).1
    rw [List.length_take] at hk2
    rw [List.getElem?_take_of_lt (by omega)] at hk
    exact h2 k (by omega) hk
end U

/-- the text ahead of an & is copied; then a reference, or the & alone -/
theorem unesc_ahead {acc l R : List UInt8} {o : Nat} (h : acc ++ U.unesc l = R) (h1 : 38 ∉ l.take o) (h2 : l.drop o = 38 :: l.drop (o + 1)) : (acc ++ l.take o) ++ U.unesc (38 :: l.drop (o + 1)) = R := by
  rw [← h, ← h2, List.append_assoc, ← U.unesc_pre _ h1, List.take_append_drop]

set_option maxHeartbeats 4000000 in
set_option maxRecDepth 1000000 in
theorem unescape_walk (s : ByteArray) (hmax : s.size ≤ 140737488351232) (w : World) (hS : ErrS w) :
    Calls Tryd.prog 24 #[.string s] w fun e w' => e = .returned (.string ⟨(U.unesc s.data.toList).toArray⟩) ∧ Below w.heap.size w w' := by
  go_enter Tryd.func24, Tryd.ntmps24
  go_wp2
  go_loopw [0] (fun v wr => ∃ (r : ByteArray) (acc : List UInt8), v = .string r ∧ Bld w.heap.size w.heap.size acc wr ∧ Below w.heap.size w wr ∧ Hid (acc ++ U.unesc r.data.toList = U.unesc s.data.toList) ∧ acc.length + r.size ≤ s.size) (fun v _ => strSize v)
  case atStart => exact ⟨s, [], rfl, (Lib.IsBuilderF.of (Lib.fresh_isBuilder 61 5 w)), (Below.refl _ w).alloc (Nat.le_refl _) _, rfl, by simp⟩
  case round =>
    obtain ⟨r, acc, rfl, hI, hbw, hacc, hal⟩ := hrel
    have hbs := hbw.size
    have hrl := len_list r
    go_wp2_with fail
    refine (Tryd.strings_IndexByte _ 38 _).mono ?_
    rintro e w1 ⟨rfl, rfl⟩
    rw [show (Int.toNat 38).toUInt8 = (38 : UInt8) from rfl]
    rcases U.index_amp r.data.toList with ⟨e1, hno⟩ | ⟨o, e1, hlt, hno, hdr⟩
    · rw [e1]
      have hfin := hacc.out
      rw [U.unesc_same hno] at hfin
      have HF := Lib.hid hfin
      clear hfin hno e1
      go_wp2_with fail
      refine (write_string w.heap.size w.heap.size acc r _ hI (by omega) (by omega)).mono ?_
      rintro e w2 ⟨rfl, h1, b1, k1⟩
      go_wp2_with fail
      refine (Tryd.Builder_String_any_k w.heap.size w.heap.size _ _ (.inr h1) (by have := b1.size; omega)).mono ?_
      rintro e w3 ⟨rfl, _, b2, _⟩
      go_wp2_with fail
      go_ret
      rw [HF.out]
      exact ⟨rfl, (hbw.trans b1).trans b2⟩
    · rw [e1]
      have ho : o < r.size := by omega
      have HA := Lib.hid (unesc_ahead hacc.out hno hdr)
      have hx1 : (r.extract 0 o).data.toList = r.data.toList.take o := by rw [Lib.extract_data]; simp
      have hx2 : (r.extract o r.size).data.toList = 38 :: r.data.toList.drop (o + 1) := by
        rw [Lib.extract_data, ← hdr]
        exact List.take_of_length_le (by simp)
      have hs1 : (r.extract 0 o).size = o := by rw [ByteArray.size_extract]; omega
      have hs2 : (r.extract o r.size).size = r.size - o := by rw [ByteArray.size_extract]; omega
      have hl := leading_walk (r.extract o r.size) (r.data.toList.drop (o + 1)) hx2 (by omega)
      have hol : (r.data.toList.take o).length = o := by rw [List.length_take]; omega
      have HX1 := Lib.hid hx1
      have HX2 := Lib.hid hx2
      have HS1 := Lib.hid hs1
      have HS2 := Lib.hid hs2
      clear e1 hno hdr hx1 hx2 hs1 hs2
      go_wp2_with fail
      refine (write_string w.heap.size w.heap.size acc (r.extract 0 o) _ hI (by rw [HS1.out]; omega) (by omega)).mono ?_
      rintro e w2 ⟨rfl, h1, b1, k1⟩
      rw [HX1.out] at h1
      have hbw1 := hbw.trans b1
      have bs1 := hbw1.size
      have hll : (acc ++ r.data.toList.take o).length = acc.length + o := by rw [List.length_append, hol]
      go_wp2_with fail
      refine (hl _ (hS.below hbw1)).mono ?_
      rintro e w3 ⟨v, rfl, hlv, b2⟩
      obtain ⟨p, k, b, rfl, hm⟩ := hlv
      have hbw2 := hbw1.trans (b2.mono bs1)
      have bs2 := hbw2.size
      have h2 := bldAt_below h1 b2
      cases hr : U.refTail (r.data.toList.drop (o + 1)) with
      | none =>
        rw [hr] at hm
        obtain rfl : b = false := hm
        have hA2 := HA.out
        rw [U.unesc_none (by rw [U.refAt_amp]; exact hr)] at hA2
        have hx3 : ((r.extract o r.size).extract 1 (r.size - o)).data.toList = r.data.toList.drop (o + 1) := by
          rw [Lib.extract_data, HX2.out]
          exact List.take_of_length_le (by have := congrArg List.length HX2.out; rw [len_list] at this; simp at this ⊢; omega)
        have hs3 : ((r.extract o r.size).extract 1 (r.size - o)).size = r.size - o - 1 := by rw [ByteArray.size_extract, HS2.out]; omega
        have HX3 := Lib.hid hx3
        have HS3 := Lib.hid hs3
        have HA2 := Lib.hid hA2
        have h1s : 1 ≤ (r.extract o r.size).size := by rw [HS2.out]; omega
        clear hx3 hs3 hA2 hr
        go_wp2_with fail
        refine (write_byte w.heap.size w.heap.size _ 38 (by decide) _ (.inr h2) (by rw [hll]; omega) (by omega)).mono ?_
        rintro e w4 ⟨rfl, h3, b3, k3⟩
        go_wp2_with fail
        go_roundw
        case rel =>
          refine ⟨_, _, rfl, .inr h3, hbw2.trans b3, ?_, ?_⟩
          · show _ = _
            rw [HX3.out, ← HA2.out]
            simp
          · rw [HS3.out, List.length_append, hll, List.length_cons, List.length_nil]
            omega
        case measure =>
          simp only [strSize]
          rw [HS3.out]
          omega
      | some x =>
        obtain ⟨n, m⟩ := x
        rw [hr] at hm
        obtain ⟨rfl, rfl, rfl⟩ := hm
        have hra : U.refAt (38 :: r.data.toList.drop (o + 1)) = some (n, m) := by rw [U.refAt_amp]; exact hr
        obtain ⟨h4, hml, hL⟩ := U.refAt_bounds hra
        rw [List.length_cons, List.length_drop] at hml
        have hA2 := HA.out
        rw [U.unesc_some hra] at hA2
        have hx3 : ((r.extract o r.size).extract m (r.size - o)).data.toList = (38 :: r.data.toList.drop (o + 1)).drop m := by
          rw [Lib.extract_data, HX2.out]
          exact List.take_of_length_le (by have := congrArg List.length HX2.out; rw [len_list] at this; simp at this ⊢; omega)
        have hs3 : ((r.extract o r.size).extract m (r.size - o)).size = r.size - o - m := by rw [ByteArray.size_extract, HS2.out]; omega
        have hen : Lib.encodeRune (n : Int) = U.enc n := U.encodeRune_eq hL
        have hel := (U.enc_length n).2
        have hn := (U.isL_iff.1 hL).1
        have HX3 := Lib.hid hx3
        have HS3 := Lib.hid hs3
        have HA2 := Lib.hid hA2
        have HE := Lib.hid hen
        have h1s : m ≤ (r.extract o r.size).size := by rw [HS2.out]; omega
        clear hx3 hs3 hA2 hr hra hL hen
        go_wp2_with fail
        refine (write_rune w.heap.size w.heap.size _ n (by omega) (by omega) _ (.inr h2) (by rw [hll]; omega) (by omega)).mono ?_
        rintro e w4 ⟨rfl, h3, b3, k3⟩
        rw [HE.out] at h3
        go_wp2_with fail
        go_roundw
        case rel =>
          refine ⟨_, _, rfl, .inr h3, hbw2.trans b3, ?_, ?_⟩
          · show _ = _
            rw [HX3.out, ← HA2.out]
            simp
          · rw [HS3.out, List.length_append, hll]
            omega
        case measure =>
          simp only [strSize]
          rw [HS3.out]
          omega

end Go.Proofs.YtkmjngpgngkalaaDoor

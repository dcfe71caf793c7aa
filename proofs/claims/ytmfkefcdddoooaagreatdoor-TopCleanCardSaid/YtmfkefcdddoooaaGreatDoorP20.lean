/- Several texts in one: Unescape, Attr, WithAttr, Tag. -/
import Derived.Outline
import Derived.Test.YtmfkefcdddoooaaGreatDoorP19
import Derived.Test.YtmfkefcdddoooaaGreatDoorP04
import Derived.Test.YtmfkefcdddoooaaGreatDoorP09
import Derived.Test.YtmfkefcdddoooaaGreatDoorP07
import Derived.Test.YtmfkefcdddoooaaGreatDoorP01
namespace Go.Proofs.YtmfkefcdddoooaaGreatDoor
open Go.RowKit

namespace U
theorem index_amp (l : List UInt8) : (Lib.indexByte l 38 = -1 ∧ 38 ∉ l) ∨
    ∃ o : Nat, Lib.indexByte l 38 = (o : Int) ∧ o < l.length ∧ 38 ∉ l.take o ∧ l.drop o = 38 :: l.drop (o + 1) := by
  have hge := Lib.indexByte_ge l 38
  by_cases hneg : Lib.indexByte l 38 = -1
  · refine .inl ⟨hneg, fun hm => ?_⟩
    obtain ⟨k, hk⟩ := List.getElem?_of_mem hm
    exact Lib.indexByte_none hneg k hk
  · obtain ⟨o, ho⟩ : ∃ o : Nat, Lib.indexByte l 38 = (o : Int) := Int.eq_ofNat_of_zero_le (by omega)
    obtain ⟨h1, h2⟩ := Lib.indexByte_some ho
    obtain ⟨hlt, e⟩ := List.getElem?_eq_some_iff.1 h1
    refine .inr ⟨o, ho, hlt, fun hm => ?_, by rw [List.drop_eq_getElem_cons hlt, e]⟩
    obtain ⟨k, hk⟩ := List.getElem?_of_mem hm
    have hk2 := (List.getElem?_eq_some_iff.1 hk).1
    rw [List.length_take] at hk2
    rw [List.getElem?_take_of_lt (by omega)] at hk
    exact h2 k (by omega) hk
end U

/-- the text ahead of an & is copied; then a reference, or the & alone -/
theorem unesc_ahead {acc l R : List UInt8} {o : Nat} (h : acc ++ U.unesc l = R) (h1 : 38 ∉ l.take o) (h2 : l.drop o = 38 :: l.drop (o + 1)) : (acc ++ l.take o) ++ U.unesc (38 :: l.drop (o + 1)) = R := by
  rw [← h, ← h2, List.append_assoc, ← U.unesc_pre _ h1, List.take_append_drop]

set_option maxHeartbeats 4000000 in
set_option maxRecDepth 1000000 in
theorem unescape_walk (s : ByteArray) (hmax : s.size ≤ 140737488351232) (w : World) (hS : ErrS w) :
    Calls Tryz.prog 58 #[.string s] w fun e w' => e = .returned (.string ⟨(U.unesc s.data.toList).toArray⟩) ∧ Below w.heap.size w w' := by
  go_enter Tryz.func58, Tryz.ntmps58
  go_wp2
  go_loopw [0] (fun v wr => ∃ (r : ByteArray) (acc : List UInt8), v = .string r ∧ Bld w.heap.size w.heap.size acc wr ∧ Below w.heap.size w wr ∧ Hid (acc ++ U.unesc r.data.toList = U.unesc s.data.toList) ∧ acc.length + r.size ≤ s.size) (fun v _ => strSize v)
  case atStart => exact ⟨s, [], rfl, (Lib.IsBuilderF.of (Lib.fresh_isBuilder 58 5 w)), (Below.refl _ w).alloc (Nat.le_refl _) _, rfl, by simp⟩
  case round =>
    obtain ⟨r, acc, rfl, hI, hbw, hacc, hal⟩ := hrel
    have hbs := hbw.size
    have hrl := len_list r
    go_wp2_with fail
    refine (Tryz.strings_IndexByte _ 38 _).mono ?_
    rintro e w1 ⟨rfl, rfl⟩
    rw [show (Int.toNat 38).toUInt8 = (38 : UInt8) from rfl]
    rcases U.index_amp r.data.toList with ⟨e1, hno⟩ | ⟨o, e1, hlt, hno, hdr⟩
    · rw [e1]
      have hfin := hacc.out
      rw [U.unesc_same hno] at hfin
      have HF := Lib.hid hfin
      clear hfin hno e1
      go_wp2_with fail
      refine (write_string w.heap.size w.heap.size acc r _ hI (by omega) (by omega)).mono ?_
      rintro e w2 ⟨rfl, h1, b1, k1⟩
      go_wp2_with fail
      refine (Tryz.Builder_String_any_k w.heap.size w.heap.size _ _ (.inr h1) (by have := b1.size; omega)).mono ?_
      rintro e w3 ⟨rfl, _, b2, _⟩
      go_wp2_with fail
      go_ret
      rw [HF.out]
      exact ⟨rfl, (hbw.trans b1).trans b2⟩
    · rw [e1]
      have ho : o < r.size := by omega
      have HA := Lib.hid (unesc_ahead hacc.out hno hdr)
      have hx1 : (r.extract 0 o).data.toList = r.data.toList.take o := by rw [Lib.extract_data]; simp
      have hx2 : (r.extract o r.size).data.toList = 38 :: r.data.toList.drop (o + 1) := by
        rw [Lib.extract_data, ← hdr]
        exact List.take_of_length_le (by simp)
      have hs1 : (r.extract 0 o).size = o := by rw [ByteArray.size_extract]; omega
      have hs2 : (r.extract o r.size).size = r.size - o := by rw [ByteArray.size_extract]; omega
      have hl := leading_walk (r.extract o r.size) (r.data.toList.drop (o + 1)) hx2 (by omega)
      have hol : (r.data.toList.take o).length = o := by rw [List.length_take]; omega
      have HX1 := Lib.hid hx1
      have HX2 := Lib.hid hx2
      have HS1 := Lib.hid hs1
      have HS2 := Lib.hid hs2
      clear e1 hno hdr hx1 hx2 hs1 hs2
      go_wp2_with fail
      refine (write_string w.heap.size w.heap.size acc (r.extract 0 o) _ hI (by rw [HS1.out]; omega) (by omega)).mono ?_
      rintro e w2 ⟨rfl, h1, b1, k1⟩
      rw [HX1.out] at h1
      have hbw1 := hbw.trans b1
      have bs1 := hbw1.size
      have hll : (acc ++ r.data.toList.take o).length = acc.length + o := by rw [List.length_append, hol]
      go_wp2_with fail
      refine (hl _ (hS.below hbw1)).mono ?_
      rintro e w3 ⟨v, rfl, hlv, b2⟩
      obtain ⟨p, k, b, rfl, hm⟩ := hlv
      have hbw2 := hbw1.trans (b2.mono bs1)
      have bs2 := hbw2.size
      have h2 := bldAt_below h1 b2
      cases hr : U.refTail (r.data.toList.drop (o + 1)) with
      | none =>
        rw [hr] at hm
        obtain rfl : b = false := hm
        have hA2 := HA.out
        rw [U.unesc_none (by rw [U.refAt_amp]; exact hr)] at hA2
        have hx3 : ((r.extract o r.size).extract 1 (r.size - o)).data.toList = r.data.toList.drop (o + 1) := by
          rw [Lib.extract_data, HX2.out]
          exact List.take_of_length_le (by have := congrArg List.length HX2.out; rw [len_list] at this; simp at this ⊢; omega)
        have hs3 : ((r.extract o r.size).extract 1 (r.size - o)).size = r.size - o - 1 := by rw [ByteArray.size_extract, HS2.out]; omega
        have HX3 := Lib.hid hx3
        have HS3 := Lib.hid hs3
        have HA2 := Lib.hid hA2
        have h1s : 1 ≤ (r.extract o r.size).size := by rw [HS2.out]; omega
        clear hx3 hs3 hA2 hr
        go_wp2_with fail
        refine (write_byte w.heap.size w.heap.size _ 38 (by decide) _ (.inr h2) (by rw [hll]; omega) (by omega)).mono ?_
        rintro e w4 ⟨rfl, h3, b3, k3⟩
        go_wp2_with fail
        go_roundw
        case rel =>
          refine ⟨_, _, rfl, .inr h3, hbw2.trans b3, ?_, ?_⟩
          · show _ = _
            rw [HX3.out, ← HA2.out]
            simp
          · rw [HS3.out, List.length_append, hll, List.length_cons, List.length_nil]
            omega
        case measure =>
          simp only [strSize]
          rw [HS3.out]
          omega
      | some x =>
        obtain ⟨n, m⟩ := x
        rw [hr] at hm
        obtain ⟨rfl, rfl, rfl⟩ := hm
        have hra : U.refAt (38 :: r.data.toList.drop (o + 1)) = some (n, m) := by rw [U.refAt_amp]; exact hr
        obtain ⟨h4, hml, hL⟩ := U.refAt_bounds hra
        rw [List.length_cons, List.length_drop] at hml
        have hA2 := HA.out
        rw [U.unesc_some hra] at hA2
        have hx3 : ((r.extract o r.size).extract m (r.size - o)).data.toList = (38 :: r.data.toList.drop (o + 1)).drop m := by
          rw [Lib.extract_data, HX2.out]
          exact List.take_of_length_le (by have := congrArg List.length HX2.out; rw [len_list] at this; simp at this ⊢; omega)
        have hs3 : ((r.extract o r.size).extract m (r.size - o)).size = r.size - o - m := by rw [ByteArray.size_extract, HS2.out]; omega
        have hen : Lib.encodeRune (n : Int) = U.enc n := U.encodeRune_eq hL
        have hel := (U.enc_length n).2
        have hn := (U.isL_iff.1 hL).1
        have HX3 := Lib.hid hx3
        have HS3 := Lib.hid hs3
        have HA2 := Lib.hid hA2
        have HE := Lib.hid hen
        have h1s : m ≤ (r.extract o r.size).size := by rw [HS2.out]; omega
        clear hx3 hs3 hA2 hr hra hL hen
        go_wp2_with fail
        refine (write_rune w.heap.size w.heap.size _ n (by omega) (by omega) _ (.inr h2) (by rw [hll]; omega) (by omega)).mono ?_
        rintro e w4 ⟨rfl, h3, b3, k3⟩
        rw [HE.out] at h3
        go_wp2_with fail
        go_roundw
        case rel =>
          refine ⟨_, _, rfl, .inr h3, hbw2.trans b3, ?_, ?_⟩
          · show _ = _
            rw [HX3.out, ← HA2.out]
            simp
          · rw [HS3.out, List.length_append, hll]
            omega
        case measure =>
          simp only [strSize]
          rw [HS3.out]
          omega

end Go.Proofs.YtmfkefcdddoooaaGreatDoor

namespace Go.Proofs.YtmfkefcdddoooaaGreatDoor
open Go.RowKit

theorem att_set : (fun b => !([32, 9, 10, 12, 47, 62, 61] : List UInt8).contains b) = U.attB := by
  funext b
  rw [Bool.eq_iff_iff]
  simp [U.attB, U.endsName, U.isSp, and_assoc]
theorem sp_set : (fun b => ([32, 9, 10, 12] : List UInt8).contains b) = U.isSp := by
  funext b
  rw [Bool.eq_iff_iff]
  simp [U.isSp, or_assoc]
theorem Took.sp {w w' : World} {bp : Nat} {r : ByteArray} {v : Value} {e : Ending} (h : Took w w' bp r v (fun b => ([32, 9, 10, 12] : List UInt8).contains b) e) : Took w w' bp r v U.isSp e := by rw [← sp_set]; exact h
theorem Took.att {w w' : World} {bp : Nat} {r : ByteArray} {v : Value} {e : Ending} (h : Took w w' bp r v (fun b => !([32, 9, 10, 12, 47, 62, 61] : List UInt8).contains b) e) : Took w w' bp r v U.attB e := by rw [← att_set]; exact h
theorem until_att (w : World) (bp : Nat) (r : ByteArray) (v : Value) (h : w.heap[bp]? = some (parBlock r v)) (hr : r.size ≤ 1048576) :
    Calls Tryz.prog 87 #[.pointer (some ⟨bp, 0, none⟩), .string ⟨#[32, 9, 10, 12, 47, 62, 61]⟩] w fun e w' => Took w w' bp r v U.attB e :=
  (until_walk ⟨#[32, 9, 10, 12, 47, 62, 61]⟩ w bp r v h hr (by decide) (by decide) (by decide)).mono fun _ _ h => Took.att h
theorem skip_sp (w : World) (bp : Nat) (r : ByteArray) (v : Value) (h : w.heap[bp]? = some (parBlock r v)) (hr : r.size ≤ 1048576) :
    Calls Tryz.prog 88 #[.pointer (some ⟨bp, 0, none⟩), .string ⟨#[32, 9, 10, 12]⟩] w fun e w' => Took w w' bp r v U.isSp e :=
  (skip_walk ⟨#[32, 9, 10, 12]⟩ w bp r v h hr (by decide) (by decide)).mono fun _ _ h => Took.sp h

/-- an attribute is read -/
def Atted (w w' : World) (bp : Nat) (r : ByteArray) (v : Value) (b : UInt8) (l : List UInt8) (e : Ending) : Prop :=
  ∃ r' : ByteArray, e = .returned (.agg #[.string ⟨(U.readAtt b l).1.1.toArray⟩, .string ⟨(U.readAtt b l).1.2.toArray⟩]) ∧ Reads w w' bp r' v ∧ r'.data.toList = (U.readAtt b l).2 ∧ r'.size < r.size

set_option maxHeartbeats 8000000 in
set_option maxRecDepth 100000 in
theorem read_attr (w : World) (bp : Nat) (r : ByteArray) (v : Value) (b : UInt8) (l : List UInt8) (hl : r.data.toList = b :: l) (h : w.heap[bp]? = some (parBlock r v)) (hr : r.size ≤ 1048576) (hG : Glob w) (hF : Far bp) :
    Calls Tryz.prog 91 #[.pointer (some ⟨bp, 0, none⟩)] w fun e w' => Atted w w' bp r v b l e := by
  obtain ⟨c0, c1, f0, f1⟩ := par_cells h
  have h0 : 0 < r.size := by rw [← len_list, hl, List.length_cons]; omega
  have hsd := size_drop r 1
  have hst := size_take r 1 h0
  have hRa := (Reads.start h).alloc (.cells #[.string ⟨#[]⟩, .string ⟨#[]⟩] 54 (0, 0))
  have hba : (w.alloc (.cells #[.string ⟨#[]⟩, .string ⟨#[]⟩] 54 (0, 0))).heap[w.heap.size]? = _ := heap_alloc_new w _
  have hne : w.heap.size ≠ bp := Nat.ne_of_gt (lt_of_heap h)
  have HL := Lib.hid hl
  clear hl
  go_enter Tryz.func91, Tryz.ntmps91
  go_wp2_with (first
    | (refine (take_walk _ bp 1 r v hRa.par h0).mono ?_; rintro e w2 ⟨rfl, hR1⟩; have hb1 := hR1.box hba hne)
    | (refine (until_att _ bp _ v hR1.par (by omega)).mono ?_; rintro e w3 ⟨n2, r2, rfl, hR2, hn2, hr2, hs2⟩; have hb2 := hR2.box hb1 hne; have Hn2 := Lib.hid hn2; have Hr2 := Lib.hid hr2; clear hn2 hr2)
    | (refine (lower_walk _ _ (by rw [ByteArray.size_append]; omega)).mono ?_; rintro e w4 ⟨rfl, b4⟩; have hb4 := box_below hb2 b4; have hR4 := (((hRa.trans hR1).trans hR2).later b4); generalize hN : U.low (r.extract 0 1 ++ n2).data.toList = N; have HN := Lib.hid hN; clear hN; have hR5 := hR4.alloc (.cells #[.string ⟨N.toArray⟩, .string ⟨#[]⟩] 54 (0, 0)); have hq5 : (w4.alloc (.cells #[.string ⟨N.toArray⟩, .string ⟨#[]⟩] 54 (0, 0))).heap[w4.heap.size]? = _ := heap_alloc_new w4 _; have hb5 := box_below hb4 ((Below.refl _ w4).alloc (Nat.le_refl _) (.cells #[.string ⟨N.toArray⟩, .string ⟨#[]⟩] 54 (0, 0))); have hnq : w4.heap.size ≠ bp := Nat.ne_of_gt (lt_of_heap hR4.par); have hnq2 : w4.heap.size ≠ w.heap.size := Nat.ne_of_gt (lt_of_heap hb4))
    | (refine (skip_sp _ bp _ v hR5.par (by omega)).mono ?_; rintro e w6 ⟨n6, r6, rfl, hR6, hn6, hr6, hs6⟩; have hq6 := hR6.box hq5 hnq; have hb6 := hR6.box hb5 hne; have Hr6 := Lib.hid hr6; clear hn6 hr6; obtain ⟨k0, k1, k2, k3⟩ := par_cells hR6.par))
  have hRw := hR5
  have hGG := hG.grown hF (hRw.trans hR6).grown
  have hx : (r.extract 1 r.size).data.toList = l := by rw [list_drop, HL.out]; rfl
  have hN2 : N = U.low (b :: l.takeWhile U.attB) := by
    rw [← HN.out, ByteArray.data_append, Array.toList_append, Hn2.out, hx, list_take, HL.out]
    rfl
  have hr6 : r6.data.toList = (l.dropWhile U.attB).dropWhile U.isSp := by rw [Hr6.out, Hr2.out, hx]
  clear hx
  by_cases hp : ∃ u, r6.data.toList = 61 :: u
  · obtain ⟨u, hu⟩ := hp
    have hpre : Lib.hasPrefix r6.data.toList (ByteArray.mk #[61]).data.toList = true := by
      show List.isPrefixOf [61] r6.data.toList = true
      rw [hu]; rfl
    have h60 : 0 < r6.size := by rw [← len_list, hu, List.length_cons]; omega
    have hat : U.readAtt b l = ((N, U.unesc (U.readVal (u.dropWhile U.isSp)).1), (U.readVal (u.dropWhile U.isSp)).2) := by
      unfold U.readAtt
      rw [← hr6, ← hN2, hu]
      rfl
    have HAT := Lib.hid hat
    have HU := Lib.hid hu
    have hsd6 := size_drop r6 1
    clear hat hu hr6 hN2
    refine (Tryz.strings_HasPrefix _ _ _).mono ?_
    rintro e w7 ⟨rfl, rfl⟩
    rw [hpre]
    go_wp2_with (first
      | (refine (take_walk _ bp 1 r6 v hR6.par h60).mono ?_; rintro e w8 ⟨rfl, hR8⟩; have hq8 := hR8.box hq6 hnq; have hb8 := hR8.box hb6 hne)
      | (refine (skip_sp _ bp _ v hR8.par (by omega)).mono ?_; rintro e w9 ⟨n9, r9, rfl, hR9, hn9, hr9, hs9⟩; have hq9 := hR9.box hq8 hnq; have hb9 := hR9.box hb8 hne; have Hr9 := Lib.hid hr9; clear hn9 hr9)
      | (refine (read_value _ bp _ v hR9.par (by omega) (hGG.grown hF (hR8.trans hR9).grown) hF).mono ?_; rintro e w10 ⟨A10, B10, rfl, hR10, hA10, hB10, hs10⟩; have hq10 := hR10.box hq9 hnq; have hb10 := hR10.box hb9 hne; have HA10 := Lib.hid hA10; have HB10 := Lib.hid hB10; clear hA10 hB10; have hG10 := hGG.grown hF ((hR8.trans hR9).trans hR10).grown)
      | (refine (unescape_walk A10 (by omega) _ hG10.err).mono ?_; rintro e w11 ⟨rfl, b11⟩; have hq11 := box_below hq10 b11; have hb11 := box_below hb10 b11; have hR11 := ((((hRw.trans hR6).trans hR8).trans hR9).trans hR10).later b11; obtain ⟨j0, j1, j2⟩ : w11.cell? ⟨w4.heap.size, 0, none⟩ = some (.string ⟨N.toArray⟩) ∧ w11.cell? ⟨w4.heap.size, 1, none⟩ = some (.string ⟨#[]⟩) ∧ w11.frozen? ⟨w4.heap.size, 1, none⟩ = false := ⟨by rw [Lib.cell_of_heap hq11]; rfl, by rw [Lib.cell_of_heap hq11]; rfl, Lib.frozen_of_heap hq11 1⟩; obtain ⟨g0, g1⟩ : w11.cell? ⟨w.heap.size, 0, none⟩ = some (.string ⟨#[]⟩) ∧ w11.frozen? ⟨w.heap.size, 0, none⟩ = false := ⟨by rw [Lib.cell_of_heap hb11]; rfl, Lib.frozen_of_heap hb11 0⟩; obtain ⟨g2, g3⟩ : w11.cell? ⟨w.heap.size, 1, none⟩ = some (.string ⟨#[]⟩) ∧ w11.frozen? ⟨w.heap.size, 1, none⟩ = false := ⟨by rw [Lib.cell_of_heap hb11]; rfl, Lib.frozen_of_heap hb11 1⟩))
    have hx9 : r9.data.toList = u.dropWhile U.isSp := by rw [Hr9.out, list_drop, HU.out]; rfl
    have hA : A10.data.toList = (U.readVal (u.dropWhile U.isSp)).1 := by rw [HA10.out, hx9]
    have hB : B10.data.toList = (U.readVal (u.dropWhile U.isSp)).2 := by rw [HB10.out, hx9]
    have HX := Lib.hid hA
    clear hx9 hA
    generalize hV : U.unesc A10.data.toList = V
    have HV := Lib.hid hV
    clear hV
    have x0 : (((w11.setCell ⟨w4.heap.size, 1, none⟩ (.string ⟨V.toArray⟩)).setCell ⟨w.heap.size, 0, none⟩ (.string ⟨N.toArray⟩)).setCell ⟨w.heap.size, 1, none⟩ (.string ⟨V.toArray⟩)).cell? ⟨w.heap.size, 0, none⟩ = some (.string ⟨N.toArray⟩) := by
      rw [World.cell?_setCell_other _ _ _ _ (by simp)]
      exact World.cell?_setCell_same _ _ _ ((World.cell?_setCell_other _ _ _ _ (by simp)).trans g0)
    have x1 : (((w11.setCell ⟨w4.heap.size, 1, none⟩ (.string ⟨V.toArray⟩)).setCell ⟨w.heap.size, 0, none⟩ (.string ⟨N.toArray⟩)).setCell ⟨w.heap.size, 1, none⟩ (.string ⟨V.toArray⟩)).cell? ⟨w.heap.size, 1, none⟩ = some (.string ⟨V.toArray⟩) :=
      World.cell?_setCell_same _ _ _ ((World.cell?_setCell_other _ _ _ _ (by simp)).trans ((World.cell?_setCell_other _ _ _ _ (by simp)).trans g2))
    have hRf := ((hR11.other (Nat.le_of_lt (lt_of_heap hb4)) hnq 1 (.string ⟨V.toArray⟩)).other (Nat.le_refl _) hne 0 (.string ⟨N.toArray⟩)).other (Nat.le_refl _) hne 1 (.string ⟨V.toArray⟩)
    generalize ((w11.setCell ⟨w4.heap.size, 1, none⟩ (.string ⟨V.toArray⟩)).setCell ⟨w.heap.size, 0, none⟩ (.string ⟨N.toArray⟩)).setCell ⟨w.heap.size, 1, none⟩ (.string ⟨V.toArray⟩) = wf at *
    refine bodyPost_ret (v := .agg #[.string ⟨N.toArray⟩, .string ⟨V.toArray⟩]) (by simp [results, Tryz.results91, go_sem, x0, x1]) rfl ?_
    exact ⟨B10, by rw [HAT.out, ← HV.out, ← HX.out], hRf, by rw [HAT.out, hB], by omega⟩
  · have hpre : Lib.hasPrefix r6.data.toList (ByteArray.mk #[61]).data.toList = false := by
      show List.isPrefixOf [61] r6.data.toList = false
      cases hl : r6.data.toList with
      | nil => rfl
      | cons c u =>
        have : c ≠ 61 := fun e => hp ⟨u, by rw [hl, e]⟩
        simp [List.isPrefixOf, Ne.symm this]
    have hat : U.readAtt b l = ((N, []), r6.data.toList) := by
      unfold U.readAtt
      rw [← hr6, ← hN2]
      split
      · rename_i u hu; exact absurd ⟨u, hu⟩ hp
      · rfl
    have HAT := Lib.hid hat
    clear hat hp hr6 hN2
    obtain ⟨j0, j1⟩ : w6.cell? ⟨w4.heap.size, 0, none⟩ = some (.string ⟨N.toArray⟩) ∧ w6.cell? ⟨w4.heap.size, 1, none⟩ = some (.string ⟨#[]⟩) := ⟨by rw [Lib.cell_of_heap hq6]; rfl, by rw [Lib.cell_of_heap hq6]; rfl⟩
    obtain ⟨g0, g1⟩ : w6.cell? ⟨w.heap.size, 0, none⟩ = some (.string ⟨#[]⟩) ∧ w6.frozen? ⟨w.heap.size, 0, none⟩ = false := ⟨by rw [Lib.cell_of_heap hb6]; rfl, Lib.frozen_of_heap hb6 0⟩
    obtain ⟨g2, g3⟩ : w6.cell? ⟨w.heap.size, 1, none⟩ = some (.string ⟨#[]⟩) ∧ w6.frozen? ⟨w.heap.size, 1, none⟩ = false := ⟨by rw [Lib.cell_of_heap hb6]; rfl, Lib.frozen_of_heap hb6 1⟩
    refine (Tryz.strings_HasPrefix _ _ _).mono ?_
    rintro e w7 ⟨rfl, rfl⟩
    rw [hpre]
    go_wp2_with fail
    refine bodyPost_ret (v := .agg #[.string ⟨N.toArray⟩, .string ⟨#[]⟩]) (by simp [results, Tryz.results91, go_sem, g0, g2]) rfl ?_
    refine ⟨r6, by rw [HAT.out], ((hRw.trans hR6).other (Nat.le_refl _) hne 0 _).other (Nat.le_refl _) hne 1 _, by rw [HAT.out], by omega⟩

end Go.Proofs.YtmfkefcdddoooaaGreatDoor

namespace Go.Proofs.YtmfkefcdddoooaaGreatDoor
open Go.RowKit

set_option maxHeartbeats 4000000 in
set_option maxRecDepth 100000 in
theorem with_attr (w : World) (B : Nat) (v : Value) (al : List U.Att) (x : U.Att) (h : w.ownsRow B 54 2 v al.length (attCells al)) (hB : B ≤ w.heap.size) (hl : al.length ≤ 1048576) :
    Calls Tryz.prog 90 #[v, .agg #[.string ⟨x.1.toArray⟩, .string ⟨x.2.toArray⟩]] w fun e w' => ∃ v', e = .returned v' ∧ w'.ownsRow B 54 2 v' (U.withAtt al x).length (attCells (U.withAtt al x)) ∧ w.grownBy w' v.ownBlock := by
  obtain ⟨iA, hiA, hA0, hA1, hA2⟩ := info_parts infoAttr
  obtain ⟨ao, cap, rfl⟩ := own_form h
  have h1 := own_keep h ((Below.refl _ w).alloc (Nat.le_refl _) (.cells #[.string ⟨x.1.toArray⟩, .string ⟨x.2.toArray⟩] 54 (0, 0)))
  go_enter Tryz.func90, Tryz.ntmps90
  go_wp2_with fail
  go_loopw [9] (fun i wr => ∃ k : Nat, k ≤ al.length ∧ i = .int .i64 k ∧ wr.ownsRow B 54 2 (.slice ao al.length cap) al.length (attCells al) ∧ Hid ((al.take k).all (fun c => c.1 != x.1) = true) ∧ w.heap.size < wr.heap.size ∧ wr.heap[w.heap.size]? = some (.cells #[.string ⟨x.1.toArray⟩, .string ⟨x.2.toArray⟩] 54 (0, 0)) ∧ Below w.heap.size w wr) (fun i _ => al.length - (intOf i).toNat)
  case atStart => exact ⟨0, Nat.zero_le _, rfl, h1, rfl, by simp, heap_alloc_new _ _, (Below.refl _ w).alloc (Nat.le_refl _) _⟩
  case round =>
    obtain ⟨k, hk, rfl, hW, hall, hsz, hbx, hbw⟩ := hrel
    by_cases hlt : k < al.length
    · obtain ⟨g, c2, e2, d1, d2⟩ := row_att hW (List.getElem?_eq_getElem hlt)
      injection e2 with e2 _ e3
      subst e2
      subst e3
      have hy := Lib.hid (List.getElem?_eq_getElem hlt)
      generalize al[k]'hlt = y at *
      have hx0 : wr.cell? ⟨w.heap.size, 0, none⟩ = some (.string ⟨x.1.toArray⟩) := by rw [Lib.cell_of_heap hbx]; rfl
      have k4 := (cell_alloc_old wr (.cells #[.string ⟨y.1.toArray⟩, .string ⟨y.2.toArray⟩] 54 (0, 0)) ⟨w.heap.size, 0, none⟩ hsz).trans hx0
      have hbN := hbw.alloc (Nat.le_of_lt hsz) (.cells #[.string ⟨y.1.toArray⟩, .string ⟨y.2.toArray⟩] 54 (0, 0))
      have hWN := own_keep hW ((Below.refl _ wr).alloc (Nat.le_refl _) (.cells #[.string ⟨y.1.toArray⟩, .string ⟨y.2.toArray⟩] 54 (0, 0)))
      have hbxN : (wr.alloc (.cells #[.string ⟨y.1.toArray⟩, .string ⟨y.2.toArray⟩] 54 (0, 0))).heap[w.heap.size]? = _ := (Lib.alloc_old _ _ _ hsz).trans hbx
      by_cases he : y.1 = x.1
      · have hw : U.withAtt al x = al := by
          unfold U.withAtt
          rw [if_neg]
          intro hh
          have := List.all_eq_true.1 hh y (List.mem_of_getElem? hy.out)
          simp [he] at this
        have HW := Lib.hid hw
        have hbe : (y.1 == x.1) = true := beq_iff_eq.2 he
        clear hw hbx hall he
        go_wp2_with fail
        go_ret
        refine ⟨_, rfl, ?_, grown_below hbN _⟩
        rw [HW.out]
        exact hWN
      · have hs : Hid ((al.take (k + 1)).all (fun c => c.1 != x.1) = true) := by
          show _ = _
          rw [all_take _ hy.out, hall.out]
          simpa using he
        have hbe : (y.1 == x.1) = false := beq_eq_false_iff_ne.2 he
        clear hbx hall he
        go_wp2_with fail
        go_roundw
        case rel => exact ⟨k + 1, by omega, by go_num, hWN, hs, by simp; omega, hbxN, hbN⟩
        case measure => simp [intOf]; omega
    · obtain rfl : k = al.length := by omega
      have hw : U.withAtt al x = al ++ [x] := by
        unfold U.withAtt
        rw [if_pos]
        have := hall.out
        rwa [List.take_length] at this
      have HW := Lib.hid hw
      have hx0 : wr.cell? ⟨w.heap.size, 0, none⟩ = some (.string ⟨x.1.toArray⟩) := by rw [Lib.cell_of_heap hbx]; rfl
      have hx1 : wr.cell? ⟨w.heap.size, 1, none⟩ = some (.string ⟨x.2.toArray⟩) := by rw [Lib.cell_of_heap hbx]; rfl
      clear hw hall
      have hbz := hbw.size
      have hWN := own_keep hW ((Below.refl _ wr).alloc (Nat.le_refl _) (.cells #[.string ⟨x.1.toArray⟩, .string ⟨x.2.toArray⟩] 54 (0, 0)))
      have hgN := grown_below (hbw.alloc (Nat.le_of_lt hsz) (.cells #[.string ⟨x.1.toArray⟩, .string ⟨x.2.toArray⟩] 54 (0, 0))) ((Value.slice ao al.length cap).ownBlock)
      have ca0 : (wr.alloc (.cells #[.string ⟨x.1.toArray⟩, .string ⟨x.2.toArray⟩] 54 (0, 0))).cell? ⟨wr.heap.size, 0, none⟩ = some (str x.1) := by rw [Lib.cell_of_heap (heap_alloc_new wr _)]; rfl
      have ca1 : (wr.alloc (.cells #[.string ⟨x.1.toArray⟩, .string ⟨x.2.toArray⟩] 54 (0, 0))).cell? ⟨wr.heap.size, 1, none⟩ = some (str x.2) := by rw [Lib.cell_of_heap (heap_alloc_new wr _)]; rfl
      clear hbx h h1
      go_wp2_with (at_builtin; refine wpList_append_own _ rfl _ _ 31 rfl B 54 iA _ 2 32 Tryz.underlying31 hiA hA0 hA1 hA2 rfl (by decide) _ _ _ rfl hWN ⟨_, 0, none⟩ 1 1 [str x.1, str x.2] rfl rfl ?c1 ?c2 ?c3 ?c4 ?c5 ?_)
      case c1 =>
        intro j u hj
        match j, hj with
        | 0, hj => simp at hj; subst hj; simpa [Addr.add] using ca0
        | 1, hj => simp at hj; subst hj; simpa [Addr.add] using ca1
        | (j + 2), hj => simp at hj
      case c2 => first | exact ⟨rfl, rfl⟩ | (intro u hu; simp at hu; rcases hu with rfl | rfl <;> rfl)
      case c3 => unfold maxLen; omega
      case c4 => omega
      case c5 => first | omega | (simp; omega)
      intro v7 w7 hown7 hgrow7 _
      obtain ⟨ao7, cap7, rfl⟩ := own_form hown7
      go_wp2_with fail
      go_ret
      refine ⟨_, rfl, ?_, grown_trans hgN hgrow7⟩
      rw [HW.out, List.length_append, attCells_append]
      exact hown7

end Go.Proofs.YtmfkefcdddoooaaGreatDoor

namespace Go.Proofs.YtmfkefcdddoooaaGreatDoor
open Go.RowKit

theorem name_set : (fun b => !([32, 9, 10, 12, 47, 62] : List UInt8).contains b) = U.nameB := by
  funext b
  rw [Bool.eq_iff_iff]
  simp [U.nameB, U.endsName, U.isSp, and_assoc]
theorem gap_set : (fun b => ([32, 9, 10, 12, 47] : List UInt8).contains b) = U.gapB := by
  funext b
  rw [Bool.eq_iff_iff]
  simp [U.gapB, U.isSp, or_assoc]
theorem Took.name {w w' : World} {bp : Nat} {r : ByteArray} {v : Value} {e : Ending} (h : Took w w' bp r v (fun b => !([32, 9, 10, 12, 47, 62] : List UInt8).contains b) e) : Took w w' bp r v U.nameB e := by rw [← name_set]; exact h
theorem Took.gap {w w' : World} {bp : Nat} {r : ByteArray} {v : Value} {e : Ending} (h : Took w w' bp r v (fun b => ([32, 9, 10, 12, 47] : List UInt8).contains b) e) : Took w w' bp r v U.gapB e := by rw [← gap_set]; exact h
theorem until_name (w : World) (bp : Nat) (r : ByteArray) (v : Value) (h : w.heap[bp]? = some (parBlock r v)) (hr : r.size ≤ 1048576) :
    Calls Tryz.prog 87 #[.pointer (some ⟨bp, 0, none⟩), .string ⟨#[32, 9, 10, 12, 47, 62]⟩] w fun e w' => Took w w' bp r v U.nameB e :=
  (until_walk ⟨#[32, 9, 10, 12, 47, 62]⟩ w bp r v h hr (by decide) (by decide) (by decide)).mono fun _ _ h => Took.name h
theorem skip_gap (w : World) (bp : Nat) (r : ByteArray) (v : Value) (h : w.heap[bp]? = some (parBlock r v)) (hr : r.size ≤ 1048576) :
    Calls Tryz.prog 88 #[.pointer (some ⟨bp, 0, none⟩), .string ⟨#[32, 9, 10, 12, 47]⟩] w fun e w' => Took w w' bp r v U.gapB e :=
  (skip_walk ⟨#[32, 9, 10, 12, 47]⟩ w bp r v h hr (by decide) (by decide)).mono fun _ _ h => Took.gap h

/-- a token's block -/
abbrev tokCells5 (n : List UInt8) (av : Value) (sl : Bool) : Obj := .cells #[.int .i64 0, .string ⟨n.toArray⟩, av, .bool sl, .string ⟨#[]⟩] 33 (0, 0)
/-- a tag is read, or it does not end -/
def Tagged (w w' : World) (bp : Nat) (r : ByteArray) (v : Value) (e : Ending) : Prop := match U.runM U.st0 r.data.toList with
  | none => ∃ r' : ByteArray, e = .returned (.tuple #[.agg #[.int .i64 0, .string ⟨#[]⟩, .slice none 0 0, .bool false, .string ⟨#[]⟩], .bool false]) ∧ Reads w w' bp r' v ∧ r'.size = 0
  | some (s, t) => ∃ (av : Value) (r' : ByteArray), e = .returned (.tuple #[.agg #[.int .i64 0, .string ⟨(U.low s.tname).toArray⟩, av, .bool s.slash, .string ⟨#[]⟩], .bool true]) ∧ Reads w w' bp r' v ∧ r'.data.toList = t ∧
      w'.ownsRow w.heap.size 54 2 av (U.firsts [] s.all).length (attCells (U.firsts [] s.all)) ∧ (U.firsts [] s.all).length ≤ r.size

/-- while the tag is read -/
structure TagL (w wr : World) (bp q : Nat) (r1 : ByteArray) (v : Value) (N : List UInt8) (av : Value) (al : List U.Att) : Prop where
  reads : Reads w wr bp r1 v
  tok : wr.heap[q]? = some (tokCells5 N av false)
  res : wr.heap[w.heap.size]? = some (tokCells5 [] (.slice none 0 0) false)
  row : wr.ownsRow (q + 1) 54 2 av al.length (attCells al)
  q0 : w.heap.size < q
  bp0 : bp < w.heap.size
  size : q + 1 ≤ wr.heap.size
theorem TagL.step {w wr w2 : World} {bp q : Nat} {r1 r2 : ByteArray} {v : Value} {N : List UInt8} {av : Value} {al : List U.Att} (h : TagL w wr bp q r1 v N av al) (hR : Reads wr w2 bp r2 v) : TagL w w2 bp q r2 v N av al := by
  have h1 := h.q0
  have h2 := h.bp0
  refine ⟨h.reads.trans hR, hR.box h.tok (by omega), hR.box h.res (by omega), h.row.kept (row := some bp) hR.grown ?_, h1, h2, Nat.le_trans h.size hR.grown.size⟩
  cases hv : av.ownBlock with
  | none => exact .inl rfl
  | some g =>
    right
    intro e
    have := (h.row.lt g hv).1
    injection e with e
    omega
theorem TagL.later {w wr w2 : World} {bp q : Nat} {r1 : ByteArray} {v : Value} {N : List UInt8} {av : Value} {al : List U.Att} (h : TagL w wr bp q r1 v N av al) (hb : Below wr.heap.size wr w2) : TagL w w2 bp q r1 v N av al :=
  h.step ((Reads.start h.reads.par).later hb)
theorem TagL.cells {w wr : World} {bp q : Nat} {r1 : ByteArray} {v : Value} {N : List UInt8} {av : Value} {al : List U.Att} (h : TagL w wr bp q r1 v N av al) :
    wr.cell? ⟨q, 0, none⟩ = some (.int .i64 0) ∧ wr.cell? ⟨q, 1, none⟩ = some (.string ⟨N.toArray⟩) ∧ wr.cell? ⟨q, 2, none⟩ = some av ∧ wr.cell? ⟨q, 3, none⟩ = some (.bool false) ∧ wr.cell? ⟨q, 4, none⟩ = some (.string ⟨#[]⟩) ∧ wr.frozen? ⟨q, 2, none⟩ = false ∧ wr.frozen? ⟨q, 3, none⟩ = false :=
  ⟨by rw [Lib.cell_of_heap h.tok]; rfl, by rw [Lib.cell_of_heap h.tok]; rfl, by rw [Lib.cell_of_heap h.tok]; rfl, by rw [Lib.cell_of_heap h.tok]; rfl, by rw [Lib.cell_of_heap h.tok]; rfl, Lib.frozen_of_heap h.tok 2, Lib.frozen_of_heap h.tok 3⟩
theorem res_cells {w : World} {n : Nat} {N : List UInt8} {av : Value} {sl : Bool} (h : w.heap[n]? = some (tokCells5 N av sl)) :
    w.cell? ⟨n, 0, none⟩ = some (.int .i64 0) ∧ w.cell? ⟨n, 1, none⟩ = some (.string ⟨N.toArray⟩) ∧ w.cell? ⟨n, 2, none⟩ = some av ∧ w.cell? ⟨n, 3, none⟩ = some (.bool sl) ∧ w.cell? ⟨n, 4, none⟩ = some (.string ⟨#[]⟩) ∧
      w.frozen? ⟨n, 0, none⟩ = false ∧ w.frozen? ⟨n, 1, none⟩ = false ∧ w.frozen? ⟨n, 2, none⟩ = false ∧ w.frozen? ⟨n, 3, none⟩ = false ∧ w.frozen? ⟨n, 4, none⟩ = false :=
  ⟨by rw [Lib.cell_of_heap h]; rfl, by rw [Lib.cell_of_heap h]; rfl, by rw [Lib.cell_of_heap h]; rfl, by rw [Lib.cell_of_heap h]; rfl, by rw [Lib.cell_of_heap h]; rfl, Lib.frozen_of_heap h 0, Lib.frozen_of_heap h 1, Lib.frozen_of_heap h 2, Lib.frozen_of_heap h 3, Lib.frozen_of_heap h 4⟩
/-- a token is laid into a variable -/
abbrev fill5 (w : World) (n : Nat) (N : List UInt8) (av : Value) (sl : Bool) : World := ((((w.setCell ⟨n, 0, none⟩ (.int .i64 0)).setCell ⟨n, 1, none⟩ (.string ⟨N.toArray⟩)).setCell ⟨n, 2, none⟩ av).setCell ⟨n, 3, none⟩ (.bool sl)).setCell ⟨n, 4, none⟩ (.string ⟨#[]⟩)
theorem fill5_heap {w : World} {n : Nat} {N0 : List UInt8} {av0 : Value} {sl0 : Bool} (h : w.heap[n]? = some (tokCells5 N0 av0 sl0)) (N : List UInt8) (av : Value) (sl : Bool) : (fill5 w n N av sl).heap[n]? = some (tokCells5 N av sl) := by
  simp [fill5, World.setCell, Array.getElem?_modify, h, tokCells5]
theorem fill5_reads {z w : World} {bp n : Nat} {r : ByteArray} {v : Value} (h : Reads z w bp r v) (hz : z.heap.size ≤ n) (hne : n ≠ bp) (N : List UInt8) (av : Value) (sl : Bool) : Reads z (fill5 w n N av sl) bp r v :=
  ((((h.other hz hne 0 _).other hz hne 1 _).other hz hne 2 _).other hz hne 3 _).other hz hne 4 _
theorem fill5_row {w : World} {B n : Nat} {e : TypeId} {z k : Nat} {u : Value} {xs : List Value} (h : w.ownsRow B e z u k xs) (hn : n < B) (N : List UInt8) (av : Value) (sl : Bool) : (fill5 w n N av sl).ownsRow B e z u k xs :=
  ownsRow_setCell_below (ownsRow_setCell_below (ownsRow_setCell_below (ownsRow_setCell_below (ownsRow_setCell_below h (a := ⟨n, 0, none⟩) hn _) (a := ⟨n, 1, none⟩) hn _) (a := ⟨n, 2, none⟩) hn _) (a := ⟨n, 3, none⟩) hn _) (a := ⟨n, 4, none⟩) hn _
/-- an attribute more -/
theorem TagL.put {w wr w2 : World} {bp q : Nat} {r1 : ByteArray} {v : Value} {N : List UInt8} {av v2 : Value} {al al2 : List U.Att} (h : TagL w wr bp q r1 v N av al) (ho : w2.ownsRow (q + 1) 54 2 v2 al2.length (attCells al2)) (hg : wr.grownBy w2 av.ownBlock) :
    TagL w (w2.setCell ⟨q, 2, none⟩ v2) bp q r1 v N v2 al2 ∧ w2.cell? ⟨q, 2, none⟩ = some av ∧ w2.frozen? ⟨q, 2, none⟩ = false := by
  have h1 := h.q0
  have h2 := h.bp0
  have h3 := h.size
  have hlt : ∀ k, av.ownBlock = some k → q + 1 ≤ k := fun k hk => (h.row.lt k hk).1
  have hR := h.reads
  have hpar := (hg.block bp (lt_of_heap hR.par) (fun e => by have := hlt _ e.symm; omega)).trans hR.par
  have htok := (hg.block q (lt_of_heap h.tok) (fun e => by have := hlt _ e.symm; omega)).trans h.tok
  have hres := (hg.block w.heap.size (lt_of_heap h.res) (fun e => by have := hlt _ e.symm; omega)).trans h.res
  refine ⟨⟨⟨(Below.heap_setCell _ _ _ _ (by show bp ≠ q; omega)).trans hpar, ?_⟩, ?_, (Below.heap_setCell _ _ _ _ (by show w.heap.size ≠ q; omega)).trans hres, ownsRow_setCell_below ho (a := ⟨q, 2, none⟩) (Nat.lt_succ_self _) _, h1, h2, ?_⟩, by rw [Lib.cell_of_heap htok]; rfl, Lib.frozen_of_heap htok 2⟩
  · have hq := hR.grown
    have hs := hg.size
    have hs2 := hq.size
    exact ⟨hg.os.trans hq.os, hg.tape.trans hq.tape, hg.output.trans hq.output, by simp [World.setCell]; omega, fun j hj hj2 => (Below.heap_setCell _ _ _ _ (by show j ≠ q; omega)).trans ((hg.block j (by omega) (fun e => by have := hlt _ e.symm; omega)).trans (hq.block j hj hj2))⟩
  · simp [World.setCell, Array.getElem?_modify, htok]
  · have := hg.size
    simp [World.setCell]
    omega

set_option maxHeartbeats 8000000 in
set_option maxRecDepth 100000 in
theorem read_tag (w : World) (bp : Nat) (r : ByteArray) (v : Value) (h : w.heap[bp]? = some (parBlock r v)) (hr : r.size ≤ 1048576) (hG : Glob w) (hF : Far bp) :
    Calls Tryz.prog 55 #[.pointer (some ⟨bp, 0, none⟩)] w fun e w' => Tagged w w' bp r v e := by
  obtain ⟨c0, c1, f0, f1⟩ := par_cells h
  have hRa := (Reads.start h).alloc (tokCells5 [] (.slice none 0 0) false)
  have hba : (w.alloc (tokCells5 [] (.slice none 0 0) false)).heap[w.heap.size]? = _ := heap_alloc_new w _
  have hne : w.heap.size ≠ bp := Nat.ne_of_gt (lt_of_heap h)
  go_enter Tryz.func55, Tryz.ntmps55
  go_wp2_with (first
    | (refine (until_name _ bp _ v hRa.par (by omega)).mono ?_; rintro e w3 ⟨n2, r2, rfl, hR2, hn2, hr2, hs2⟩; have hb2 := hR2.box hba hne; have Hn2 := Lib.hid hn2; have Hr2 := Lib.hid hr2; clear hn2 hr2)
    | (refine (lower_walk _ _ (by omega)).mono ?_; rintro e w4 ⟨rfl, b4⟩; have hb4 := box_below hb2 b4; have hR4 := ((hRa.trans hR2).later b4); generalize hN : U.low n2.data.toList = N; have HN := Lib.hid hN; clear hN))
  have hT0 : TagL w (w4.alloc (tokCells5 N (.slice none 0 0) false)) bp w4.heap.size r2 v N (.slice none 0 0) [] := by
    have hlw := lt_of_heap hb4
    exact ⟨hR4.alloc _, heap_alloc_new w4 _, (Lib.alloc_old _ _ _ hlw).trans hb4, World.ownsRow_nil _ _ _ _, hlw, lt_of_heap h, by simp⟩
  have hq0 := hT0.q0
  generalize w4.alloc (tokCells5 N (.slice none 0 0) false) = w5 at *
  generalize w4.heap.size = q at *
  have hrun0 : U.runM U.st0 r.data.toList = U.runM ⟨1, n2.data.toList, [], [], 0, false, []⟩ r2.data.toList := by
    rw [Hr2.out, Hn2.out]
    exact U.run_name _ _ _ _ _ _ _
  have HR0 := Lib.hid hrun0
  clear hrun0 hb2 hb4 hR2 hRa hba hR4 b4
  go_loopw [5] (fun _ wr => ∃ (r1 : ByteArray) (av : Value) (all : List U.Att) (nm vl : List UInt8) (qu : UInt8), TagL w wr bp q r1 v N av (U.firsts [] all) ∧ Hid (U.runM U.st0 r.data.toList = U.runM ⟨1, n2.data.toList, nm, vl, qu, false, all⟩ r1.data.toList) ∧ all.length + r1.size ≤ r.size) (fun _ wr => strSize ((wr.cell? ⟨bp, 0, none⟩).getD undef))
  case atStart => exact ⟨r2, _, [], [], [], 0, hT0, HR0.out, by simp; omega⟩
  case round =>
    obtain ⟨r1, av, all, nm, vl, qu, hT, hrun, hlen⟩ := hrel
    have hfl := firsts_le all []
    rw [List.length_nil, Nat.zero_add] at hfl
    obtain ⟨ao, cap, rfl⟩ := own_form hT.row
    cases hd : r1.data.toList.dropWhile U.gapB with
    | nil =>
      have HD := Lib.hid hd
      clear hd
      have hnone : U.runM U.st0 r.data.toList = none := by rw [hrun.out, U.run_gap, HD.out]; rfl
      have HNO := Lib.hid hnone
      clear hnone hrun HR0
      go_wp2_with (refine (skip_gap _ bp _ v hT.reads.par (by omega)).mono ?_; rintro e w6 ⟨n6, r6, rfl, hR6, hn6, hr6, hs6⟩; have hT6 := hT.step hR6; have h60 : r6.size = 0 := (by rw [← len_list, hr6, HD.out]; rfl); clear hn6 hr6; obtain ⟨k0, k1, k2, k3⟩ := par_cells hT6.reads.par; have hem := empty_of h60; have hr0 := res_cells hT6.res; obtain ⟨x0, x1, x2, x3, x4, y0, y1, y2, y3, y4⟩ := hr0)
      have hff := fill5_heap hT6.res [] (.slice none 0 0) false
      have hRf := fill5_reads hT6.reads (Nat.le_refl _) hne [] (.slice none 0 0) false
      obtain ⟨z0, z1, z2, z3, z4, _⟩ := res_cells hff
      change bodyPost _ _ _ _ _ (fill5 w6 w.heap.size [] (.slice none 0 0) false)
      generalize fill5 w6 w.heap.size [] (.slice none 0 0) false = wf at *
      refine bodyPost_ret (v := .tuple #[.agg #[.int .i64 0, .string ⟨#[]⟩, .slice none 0 0, .bool false, .string ⟨#[]⟩], .bool false]) (by simp [results, Tryz.results55, go_sem, z0, z1, z2, z3, z4]) rfl ?_
      unfold Tagged
      rw [HNO.out]
      exact ⟨r6, rfl, hRf, h60⟩
    | cons b l =>
      have hg := U.drop_not _ _ hd
      by_cases h62 : b = 62
      · subst h62
        have HD := Lib.hid hd
        clear hd
        have hsome : U.runM U.st0 r.data.toList = some (⟨1, n2.data.toList, nm, vl, qu, U.slashOf false (r1.data.toList.takeWhile U.gapB), all⟩, l) := by rw [hrun.out, U.run_gap, HD.out, U.run_close]
        have HSO := Lib.hid hsome
        clear hsome hrun HR0 hg
        go_wp2_with (first
          | (refine (skip_gap _ bp _ v hT.reads.par (by omega)).mono ?_; rintro e w6 ⟨n6, r6, rfl, hR6, hn6, hr6, hs6⟩; have hT6 := hT.step hR6; have Hn6 := Lib.hid hn6; have Hr6 := Lib.hid (hr6.trans HD.out); clear hn6 hr6; have h60 : 0 < r6.size := (by rw [← len_list, Hr6.out, List.length_cons]; omega); obtain ⟨k0, k1, k2, k3⟩ := par_cells hT6.reads.par; have hem := empty_not h60; have e62 : (((r6[0]'h60).toNat : Int) == 62) = true := beq_yes (by have := list_one h60; rw [Hr6.out] at this; injection this with this _; rw [← this]; rfl))
          | (refine (take_walk _ bp 1 r6 v hT6.reads.par h60).mono ?_; rintro e w7 ⟨rfl, hR7⟩; have hT7 := hT6.step hR7; obtain ⟨t0, t1, t2, t3, t4, t5, t6⟩ := hT7.cells; obtain ⟨x0, x1, x2, x3, x4, y0, y1, y2, y3, y4⟩ := res_cells hT7.res)
          | (refine (Tryz.strings_HasSuffix _ _ _ (by omega)).mono ?_; rintro e w8 ⟨rfl, rfl⟩))
        have HQ : w8.heap[q]? = some (tokCells5 N (.slice ao (U.firsts [] all).length cap) false) := hT7.tok
        have hSl : (Lib.hasSuffix n6.data.toList [47]) = U.slashOf false (r1.data.toList.takeWhile U.gapB) := by rw [Hn6.out, U.slashOf_suffix]; rfl
        have HSL := Lib.hid hSl
        clear hSl
        generalize Lib.hasSuffix n6.data.toList [47] = sl at *
        have hqn : q ≠ w.heap.size := Nat.ne_of_gt hq0
        have hres9 : (w8.setCell ⟨q, 3, none⟩ (.bool sl)).heap[w.heap.size]? = some (tokCells5 [] (.slice none 0 0) false) := (Below.heap_setCell _ _ _ _ (by show w.heap.size ≠ q; omega)).trans hT7.res
        have hff := fill5_heap hres9 N (.slice ao (U.firsts [] all).length cap) sl
        have hRf := fill5_reads (hT7.reads.other (Nat.le_of_lt hq0) (by have := hT7.bp0; omega) 3 (.bool sl)) (Nat.le_refl _) hne N (.slice ao (U.firsts [] all).length cap) sl
        have hrow := fill5_row (ownsRow_setCell_below hT7.row (a := ⟨q, 3, none⟩) (Nat.lt_succ_self _) (.bool sl)) (Nat.lt_succ_of_lt hq0) N (.slice ao (U.firsts [] all).length cap) sl
        obtain ⟨z0, z1, z2, z3, z4, _⟩ := res_cells hff
        change bodyPost _ _ _ _ _ (fill5 (w8.setCell ⟨q, 3, none⟩ (.bool sl)) w.heap.size N (.slice ao (U.firsts [] all).length cap) sl)
        generalize fill5 (w8.setCell ⟨q, 3, none⟩ (.bool sl)) w.heap.size N (.slice ao (U.firsts [] all).length cap) sl = wf at *
        refine bodyPost_ret (v := .tuple #[.agg #[.int .i64 0, .string ⟨N.toArray⟩, .slice ao (U.firsts [] all).length cap, .bool sl, .string ⟨#[]⟩], .bool true]) (by simp [results, Tryz.results55, go_sem, z0, z1, z2, z3, z4]) rfl ?_
        unfold Tagged
        rw [HSO.out]
        exact ⟨_, _, by rw [← HN.out, ← HSL.out], hRf, by rw [list_drop, Hr6.out]; rfl, own_base hrow (Nat.le_succ_of_le (Nat.le_of_lt hq0)), Nat.le_trans hfl (by omega)⟩
      · obtain ⟨nm2, vl2, qu2, hra⟩ := U.run_readAtt b l n2.data.toList nm vl qu (U.slashOf false (r1.data.toList.takeWhile U.gapB)) all hg h62
        have hrun2 : U.runM U.st0 r.data.toList = U.runM ⟨1, n2.data.toList, nm2, vl2, qu2, false, all ++ [(U.readAtt b l).1]⟩ (U.readAtt b l).2 := by rw [hrun.out, U.run_gap, hd, hra]
        have HRU := Lib.hid hrun2
        have hf2 := firsts_append all [(U.readAtt b l).1] []
        have hf3 : U.firsts [] (all ++ [(U.readAtt b l).1]) = U.withAtt (U.firsts [] all) (U.readAtt b l).1 := U.firsts_snoc all [] _
        have HF3 := Lib.hid hf3
        have HD := Lib.hid hd
        have hb62 : ∀ c : UInt8, c = b → ((c.toNat : Int) == 62) = false := fun c hc => beq_no (fun e => h62 (by rw [← hc]; exact (byte_eq (k := 62) (by decide)).1 (by omega)))
        clear hd hrun HR0 hg hra hrun2 hf2 hf3
        go_wp2_with (refine (skip_gap _ bp _ v hT.reads.par (by omega)).mono ?_; rintro e w6 ⟨n6, r6, rfl, hR6, hn6, hr6, hs6⟩; have hT6 := hT.step hR6; have hl6 := hr6.trans HD.out; have Hl6 := Lib.hid hl6; clear hn6 hr6; have h60 : 0 < r6.size := (by rw [← len_list, hl6, List.length_cons]; omega); obtain ⟨k0, k1, k2, k3⟩ := par_cells hT6.reads.par; have hem := empty_not h60; have e62 : (((r6[0]'h60).toNat : Int) == 62) = false := hb62 _ (by have := list_one h60; rw [hl6] at this; injection this with this _; exact this.symm); clear hl6; obtain ⟨t0, t1, t2, t3, t4, t5, t6⟩ := hT6.cells)
        have hTd := hT6.later (below_drewN (Below.refl w6.heap.size w6) 1)
        have hGd : Glob (w6.drewN 1) := hG.grown hF hTd.reads.grown
        go_region_law (first
          | (refine step_call1 91 rfl _ _ rfl (.pointer (some ⟨bp, 0, none⟩)) (by rfl) (enters_of Tryz.func91 (by kernel_rfl) rfl) ((read_attr _ bp r6 v b l Hl6.out hTd.reads.par (by omega) hGd hF).mono ?_); rintro e w7 ⟨r7, rfl, hR7, hr7, hs7⟩; refine ⟨_, rfl, ?_⟩; have hT7 := hTd.step hR7; have Hr7 := Lib.hid hr7; clear hr7; obtain ⟨i0, i1, i2, i3, i4, i5, i6⟩ := hT7.cells; generalize hX : (U.readAtt b l).1 = X)
          | (refine step_call2 90 rfl _ _ _ rfl (.slice ao (U.firsts [] all).length cap) (.agg #[.string ⟨X.1.toArray⟩, .string ⟨X.2.toArray⟩]) (by rfl) (by rfl) (enters_of Tryz.func90 (by kernel_rfl) rfl) ((with_attr _ (q + 1) (.slice ao (U.firsts [] all).length cap) (U.firsts [] all) X hT7.row hT7.size (by omega)).mono ?_); rintro e w8 ⟨v8, rfl, hown8, hg8⟩; refine ⟨_, rfl, ?_⟩; obtain ⟨hTput, p1, p2⟩ := hT7.put hown8 hg8; obtain ⟨ao8, cap8, rfl⟩ := own_form hown8))
        all_goals
          have hc7 := (par_cells hTput.reads.par).1
          have hc1 := (par_cells hT.reads.par).1
          go_wp2_with fail
          go_roundw
          case rel => exact ⟨r7, _, all ++ [X], nm2, vl2, qu2, by rw [← hX, HF3.out, hX]; exact hTput, Lib.hid (by rw [HRU.out, Hr7.out, hX]), by rw [List.length_append, List.length_singleton]; omega⟩
          case measure => rw [hc7, hc1]; show r7.size < r1.size; omega

end Go.Proofs.YtmfkefcdddoooaaGreatDoor

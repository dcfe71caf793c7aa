/- tok's parser: readAttr. -/
import Derived.Test.YtkmjngpgngkalaaDoorValue
import Derived.Test.YtkmjngpgngkalaaDoorLower
import Derived.Test.YtkmjngpgngkalaaDoorUnescape
import Derived.Outline
namespace Go.Proofs.YtkmjngpgngkalaaDoor
open Go.RowKit

theorem att_set : (fun b => !([32, 9, 10, 12, 47, 62, 61] : List UInt8).contains b) = U.attB := by
  funext b
  rw [Bool.eq_iff_iff]
  simp [U.attB, U.endsName, U.isSp, and_assoc]
theorem sp_set : (fun b => ([32, 9, 10, 12] : List UInt8).contains b) = U.isSp := by
  funext b
  rw [Bool.eq_iff_iff]
  simp [U.isSp, or_assoc]
theorem Took.sp {w w' : World} {bp : Nat} {r : ByteArray} {v : Value} {e : Ending} (h : Took w w' bp r v (fun b => ([32, 9, 10, 12] : List UInt8).contains b) e) : Took w w' bp r v U.isSp e := by rw [← sp_set]; exact h
theorem Took.att {w w' : World} {bp : Nat} {r : ByteArray} {v : Value} {e : Ending} (h : Took w w' bp r v (fun b => !([32, 9, 10, 12, 47, 62, 61] : List UInt8).contains b) e) : Took w w' bp r v U.attB e := by rw [← att_set]; exact h
theorem until_att (w : World) (bp : Nat) (r : ByteArray) (v : Value) (h : w.heap[bp]? = some (parBlock r v)) (hr : r.size ≤ 1048576) :
    Calls Tryd.prog 29 #[.pointer (some ⟨bp, 0, none⟩), .string ⟨#[32, 9, 10, 12, 47, 62, 61]⟩] w fun e w' => Took w w' bp r v U.attB e :=
  (until_walk ⟨#[32, 9, 10, 12, 47, 62, 61]⟩ w bp r v h hr (by decide) (by decide) (by decide)).mono fun _ _ h => Took.att h
theorem skip_sp (w : World) (bp : Nat) (r : ByteArray) (v : Value) (h : w.heap[bp]? = some (parBlock r v)) (hr : r.size ≤ 1048576) :
    Calls Tryd.prog 30 #[.pointer (some ⟨bp, 0, none⟩), .string ⟨#[32, 9, 10, 12]⟩] w fun e w' => Took w w' bp r v U.isSp e :=
  (skip_walk ⟨#[32, 9, 10, 12]⟩ w bp r v h hr (by decide) (by decide)).mono fun _ _ h => Took.sp h

/-- an attribute is read -/
def Atted (w w' : World) (bp : Nat) (r : ByteArray) (v : Value) (b : UInt8) (l : List UInt8) (e : Ending) : Prop :=
  ∃ r' : ByteArray, e = .returned (.agg #[.string ⟨(U.readAtt b l).1.1.toArray⟩, .string ⟨(U.readAtt b l).1.2.toArray⟩]) ∧ Reads w w' bp r' v ∧ r'.data.toList = (U.readAtt b l).2 ∧ r'.size < r.size

set_option maxHeartbeats 8000000 in
set_option maxRecDepth 100000 in
theorem read_attr (w : World) (bp : Nat) (r : ByteArray) (v : Value) (b : UInt8) (l : List UInt8) (hl : r.data.toList = b :: l) (h : w.heap[bp]? = some (parBlock r v)) (hr : r.size ≤ 1048576) (hG : Glob w) (hF : Far bp) :
    Calls Tryd.prog 33 #[.pointer (some ⟨bp, 0, none⟩)] w fun e w' => Atted w w' bp r v b l e := by
  obtain ⟨c0, c1, f0, f1⟩ := par_cells h
  have h0 : 0 < r.size := by rw [← len_list, hl, List.length_cons]; omega
  have hsd := size_drop r 1
  have hst := size_take r 1 h0
  have hRa := (Reads.start h).alloc (.cells #[.string ⟨#[]⟩, .string ⟨#[]⟩] 42 (0, 0))
  have hba : (w.alloc (.cells #[.string ⟨#[]⟩, .string ⟨#[]⟩] 42 (0, 0))).heap[w.heap.size]? = _ := heap_alloc_new w _
  have hne : w.heap.size ≠ bp := Nat.ne_of_gt (lt_of_heap h)
  have HL := Lib.hid hl
  clear hl
  go_enter Tryd.func33, Tryd.ntmps33
  go_wp2_with (first
    | (refine (take_walk _ bp 1 r v hRa.par h0).mono ?_; rintro e w2 ⟨rfl, hR1⟩; have hb1 := hR1.box hba hne)
    | (refine (until_att _ bp _ v hR1.par (by omega)).mono ?_; rintro e w3 ⟨n2, r2, rfl, hR2, hn2, hr2, hs2⟩; have hb2 := hR2.box hb1 hne; have Hn2 := Lib.hid hn2; have Hr2 := Lib.hid hr2; clear hn2 hr2)
    | (refine (lower_walk _ _ (by rw [ByteArray.size_append]; omega)).mono ?_; rintro e w4 ⟨rfl, b4⟩; have hb4 := box_below hb2 b4; have hR4 := (((hRa.trans hR1).trans hR2).later b4); generalize hN : U.low (r.extract 0 1 ++ n2).data.toList = N; have HN := Lib.hid hN; clear hN; have hR5 := hR4.alloc (.cells #[.string ⟨N.toArray⟩, .string ⟨#[]⟩] 42 (0, 0)); have hq5 : (w4.alloc (.cells #[.string ⟨N.toArray⟩, .string ⟨#[]⟩] 42 (0, 0))).heap[w4.heap.size]? = _ := heap_alloc_new w4 _; have hb5 := box_below hb4 ((Below.refl _ w4).alloc (Nat.le_refl _) (.cells #[.string ⟨N.toArray⟩, .string ⟨#[]⟩] 42 (0, 0))); have hnq : w4.heap.size ≠ bp := Nat.ne_of_gt (lt_of_heap hR4.par); have hnq2 : w4.heap.size ≠ w.heap.size := Nat.ne_of_gt (lt_of_heap hb4))
    | (refine (skip_sp _ bp _ v hR5.par (by omega)).mono ?_; rintro e w6 ⟨n6, r6, rfl, hR6, hn6, hr6, hs6⟩; have hq6 := hR6.box hq5 hnq; have hb6 := hR6.box hb5 hne; have Hr6 := Lib.hid hr6; clear hn6 hr6; obtain ⟨k0, k1, k2, k3⟩ := par_cells hR6.par))
  have hRw := hR5
  have hGG := hG.grown hF (hRw.trans hR6).grown
  have hx : (r.extract 1 r.size).data.toList = l := by rw [list_drop, HL.out]; rfl
  have hN2 : N = U.low (b :: l.takeWhile U.attB) := by
    rw [← HN.out, ByteArray.data_append, Array.toList_append, Hn2.out, hx, list_take, HL.out]
    rfl
  have hr6 : r6.data.toList = (l.dropWhile U.attB).dropWhile U.isSp := by rw [Hr6.out, Hr2.out, hx]
  clear hx
  by_cases hp : ∃ u, r6.data.toList = 61 :: u
  · obtain ⟨u, hu⟩ := hp
    have hpre : Lib.hasPrefix r6.data.toList (ByteArray.mk #[61]).data.toList = true := by
      show List.isPrefixOf [61] r6.data.toList = true
      rw [hu]; rfl
    have h60 : 0 < r6.size := by rw [← len_list, hu, List.length_cons]; omega
    have hat : U.readAtt b l = ((N, U.unesc (U.readVal (u.dropWhile U.isSp)).1), (U.readVal (u.dropWhile U.isSp)).2) := by
      unfold U.readAtt
      rw [← hr6, ← hN2, hu]
      rfl
    have HAT := Lib.hid hat
    have HU := Lib.hid hu
    have hsd6 := size_drop r6 1
    clear hat hu hr6 hN2
    refine (Tryd.strings_HasPrefix _ _ _).mono ?_
    rintro e w7 ⟨rfl, rfl⟩
    rw [hpre]
    go_wp2_with (first
      | (refine (take_walk _ bp 1 r6 v hR6.par h60).mono ?_; rintro e w8 ⟨rfl, hR8⟩; have hq8 := hR8.box hq6 hnq; have hb8 := hR8.box hb6 hne)
      | (refine (skip_sp _ bp _ v hR8.par (by omega)).mono ?_; rintro e w9 ⟨n9, r9, rfl, hR9, hn9, hr9, hs9⟩; have hq9 := hR9.box hq8 hnq; have hb9 := hR9.box hb8 hne; have Hr9 := Lib.hid hr9; clear hn9 hr9)
      | (refine (read_value _ bp _ v hR9.par (by omega) (hGG.grown hF (hR8.trans hR9).grown) hF).mono ?_; rintro e w10 ⟨A10, B10, rfl, hR10, hA10, hB10, hs10⟩; have hq10 := hR10.box hq9 hnq; have hb10 := hR10.box hb9 hne; have HA10 := Lib.hid hA10; have HB10 := Lib.hid hB10; clear hA10 hB10; have hG10 := hGG.grown hF ((hR8.trans hR9).trans hR10).grown)
      | (refine (unescape_walk A10 (by omega) _ hG10.err).mono ?_; rintro e w11 ⟨rfl, b11⟩; have hq11 := box_below hq10 b11; have hb11 := box_below hb10 b11; have hR11 := ((((hRw.trans hR6).trans hR8).trans hR9).trans hR10).later b11; obtain ⟨j0, j1, j2⟩ : w11.cell? ⟨w4.heap.size, 0, none⟩ = some (.string ⟨N.toArray⟩) ∧ w11.cell? ⟨w4.heap.size, 1, none⟩ = some (.string ⟨#[]⟩) ∧ w11.frozen? ⟨w4.heap.size, 1, none⟩ = false := ⟨by rw [Lib.cell_of_heap hq11]; rfl, by rw [Lib.cell_of_heap hq11]; rfl, Lib.frozen_of_heap hq11 1⟩; obtain ⟨g0, g1⟩ : w11.cell? ⟨w.heap.size, 0, none⟩ = some (.string ⟨#[]⟩) ∧ w11.frozen? ⟨w.heap.size, 0, none⟩ = false := ⟨by rw [Lib.cell_of_heap hb11]; rfl, Lib.frozen_of_heap hb11 0⟩; obtain ⟨g2, g3⟩ : w11.cell? ⟨w.heap.size, 1, none⟩ = some (.string ⟨#[]⟩) ∧ w11.frozen? ⟨w.heap.size, 1, none⟩ = false := ⟨by rw [Lib.cell_of_heap hb11]; rfl, Lib.frozen_of_heap hb11 1⟩))
    have hx9 : r9.data.toList = u.dropWhile U.isSp := by rw [Hr9.out, list_drop, HU.out]; rfl
    have hA : A10.data.toList = (U.readVal (u.dropWhile U.isSp)).1 := by rw [HA10.out, hx9]
    have hB : B10.data.toList = (U.readVal (u.dropWhile U.isSp)).2 := by rw [HB10.out, hx9]
    have HX := Lib.hid hA
    clear hx9 hA
    generalize hV : U.unesc A10.data.toList = V
    have HV := Lib.hid hV
    clear hV
    have x0 : (((w11.setCell ⟨w4.heap.size, 1, none⟩ (.string ⟨V.toArray⟩)).setCell ⟨w.heap.size, 0, none⟩ (.string ⟨N.toArray⟩)).setCell ⟨w.heap.size, 1, none⟩ (.string ⟨V.toArray⟩)).cell? ⟨w.heap.size, 0, none⟩ = some (.string ⟨N.toArray⟩) := by
      rw [World.cell?_setCell_other _ _ _ _ (by simp)]
      exact World.cell?_setCell_same _ _ _ ((World.cell?_setCell_other _ _ _ _ (by simp)).trans g0)
    have x1 : (((w11.setCell ⟨w4.heap.size, 1, none⟩ (.string ⟨V.toArray⟩)).setCell ⟨w.heap.size, 0, none⟩ (.string ⟨N.toArray⟩)).setCell ⟨w.heap.size, 1, none⟩ (.string ⟨V.toArray⟩)).cell? ⟨w.heap.size, 1, none⟩ = some (.string ⟨V.toArray⟩) :=
      World.cell?_setCell_same _ _ _ ((World.cell?_setCell_other _ _ _ _ (by simp)).trans ((World.cell?_setCell_other _ _ _ _ (by simp)).trans g2))
    have hRf := ((hR11.other (Nat.le_of_lt (lt_of_heap hb4)) hnq 1 (.string ⟨V.toArray⟩)).other (Nat.le_refl _) hne 0 (.string ⟨N.toArray⟩)).other (Nat.le_refl _) hne 1 (.string ⟨V.toArray⟩)
    generalize ((w11.setCell ⟨w4.heap.size, 1, none⟩ (.string ⟨V.toArray⟩)).setCell ⟨w.heap.size, 0, none⟩ (.string ⟨N.toArray⟩)).setCell ⟨w.heap.size, 1, none⟩ (.string ⟨V.toArray⟩) = wf at *
    refine bodyPost_ret (v := .agg #[.string ⟨N.toArray⟩, .string ⟨V.toArray⟩]) (by simp [results, Tryd.results33, go_sem, x0, x1]) rfl ?_
    exact ⟨B10, by rw [HAT.out, ← HV.out, ← HX.out], hRf, by rw [HAT.out, hB], by omega⟩
  · have hpre : Lib.hasPrefix r6.data.toList (ByteArray.mk #[61]).data.toList = false := by
      show List.isPrefixOf [61] r6.data.toList = false
      cases hl : r6.data.toList with
      | nil => rfl
      | cons c u =>
        have : c ≠ 61 := fun e => hp ⟨u, by rw [hl, e]⟩
        simp [List.isPrefixOf, Ne.symm this]
    have hat : U.readAtt b l = ((N, []), r6.data.toList) := by
      unfold U.readAtt
      rw [← hr6, ← hN2]
      split
      · rename_i u hu; exact absurd ⟨u, hu⟩ hp
      · rfl
    have HAT := Lib.hid hat
    clear hat hp hr6 hN2
    obtain ⟨j0, j1⟩ : w6.cell? ⟨w4.heap.size, 0, none⟩ = some (.string ⟨N.toArray⟩) ∧ w6.cell? ⟨w4.heap.size, 1, none⟩ = some (.string ⟨#[]⟩) := ⟨by rw [Lib.cell_of_heap hq6]; rfl, by rw [Lib.cell_of_heap hq6]; rfl⟩
    obtain ⟨g0, g1⟩ : w6.cell? ⟨w.heap.size, 0, none⟩ = some (.string ⟨#[]⟩) ∧ w6.frozen? ⟨w.heap.size, 0, none⟩ = false := ⟨by rw [Lib.cell_of_heap hb6]; rfl, Lib.frozen_of_heap hb6 0⟩
    obtain ⟨g2, g3⟩ : w6.cell? ⟨w.heap.size, 1, none⟩ = some (.string ⟨#[]⟩) ∧ w6.frozen? ⟨w.heap.size, 1, none⟩ = false := ⟨by rw [Lib.cell_of_heap hb6]; rfl, Lib.frozen_of_heap hb6 1⟩
    refine (Tryd.strings_HasPrefix _ _ _).mono ?_
    rintro e w7 ⟨rfl, rfl⟩
    rw [hpre]
    go_wp2_with fail
    refine bodyPost_ret (v := .agg #[.string ⟨N.toArray⟩, .string ⟨#[]⟩]) (by simp [results, Tryd.results33, go_sem, g0, g2]) rfl ?_
    refine ⟨r6, by rw [HAT.out], ((hRw.trans hR6).other (Nat.le_refl _) hne 0 _).other (Nat.le_refl _) hne 1 _, by rw [HAT.out], by omega⟩

end Go.Proofs.YtkmjngpgngkalaaDoor

/- (*builder).processStart, where the element is made. -/
import Derived.Deep.DeepCutAuto
import Derived.Deep.RegionLaw
import Derived.Handy
import Derived.Test.YtmfkefcdddoooaaGreatDoorP25
namespace Go.Proofs.YtmfkefcdddoooaaGreatDoor
open Go.RowKit

theorem TxOk.closeBefore {s : U.Bst} (h : TxOk s) (name : List UInt8) : TxOk (s.closeBefore name) := by
  unfold U.Bst.closeBefore U.Bst.closePar
  split
  · split
    · exact (h.closeLast _).closeLast _
    · exact h.closeLast _
  · split
    · exact h.closeLast _
    · exact h
/-- attributes of old memory, later -/
theorem RdA.later {w w' : World} {N : Nat} {v : Value} {al : List U.Att} (h : RdA w N v al) (hb : Below N w w') : RdA w' N v al := h.keep fun _ hp => hb.cell hp
theorem drew_below (w : World) (B : Nat) : Below B w w.drew := (Below.refl B w).drew

theorem set4_block {w : World} {b : Nat} {x0 x1 x2 x3 y0 y1 y2 y3 : Value} {t : TypeId} (h : w.heap[b]? = some (.cells #[x0, x1, x2, x3] t (0, 0))) : (set4 w b 0 y0 y1 y2 y3).heap[b]? = some (.cells #[y0, y1, y2, y3] t (0, 0)) := by
  simp [set4, World.setCell, Array.getElem?_modify, h]
theorem set4_below {a w : World} {B b o : Nat} {y0 y1 y2 y3 : Value} (h : Below B a w) (hb : B ≤ b) : Below B a (set4 w b o y0 y1 y2 y3) := (((h.setCell (p := ⟨b, o, none⟩) hb _).setCell (p := ⟨b, o + 1, none⟩) hb _).setCell (p := ⟨b, o + 2, none⟩) hb _).setCell (p := ⟨b, o + 3, none⟩) hb _
theorem set4_own {w : World} {N b o size n : Nat} {e t : TypeId} {v : Value} {xs : List Value} {y0 y1 y2 y3 : Value} {cs : Array Value} (h : w.ownsRow N e size v n xs) (hb : w.heap[b]? = some (.cells cs t (0, 0))) (hne : e ≠ t) : (set4 w b o y0 y1 y2 y3).ownsRow N e size v n xs := by
  refine own_of_block h fun k hk => ?_
  have : k ≠ b := fun e0 => own_ne_blk h hb hne (by rw [hk, e0])
  unfold set4
  rw [Below.heap_setCell _ _ _ _ this, Below.heap_setCell _ _ _ _ this, Below.heap_setCell _ _ _ _ this, Below.heap_setCell _ _ _ _ this]

set_option maxHeartbeats 8000000 in
set_option maxRecDepth 1000000 in
theorem start_more (N : Nat) (w : World) (bp : Nat) (s : U.Bst) (ov pv tv : Value) (outl opl : List NV) (h : TBld N w bp s ov pv tv outl opl) (hb : s.bulk ≤ 1048575) (ht : TxOk s) (hop : s.op.length ≤ 1048576) (hcnt : s.cnt ≤ 1048576)
    (kind : Int) (name : List UInt8) (ao : Option Addr) (n cap : Nat) (self : Bool) (text : List UInt8) (attrs : List U.Att) (hA : RdA w N (.slice ao n cap) attrs) (hal : attrs.length ≤ 1048576)
    (hd : (U.Bst.closeBefore ⟨s.out, s.op, s.tx, s.cnt, []⟩ name).op.length ≠ 10) :
    Calls Tryz.prog 71 #[.pointer (some ⟨bp, 0, none⟩), .agg #[.int .i64 kind, .string ⟨name.toArray⟩, .slice ao n cap, .bool self, .string ⟨text.toArray⟩]] w fun e w' => e = .returned (.tuple #[]) ∧ Became N bp w (mine ov pv tv opl) w' (s.start name attrs self) := by
  obtain ⟨_, _, _, _, c4⟩ := h.cells
  obtain ⟨_, _, _, _, f4⟩ := h.unfrozen
  have hlt := h.lt
  have k4 := fun O => (cell_alloc_old w O ⟨bp, 4, none⟩ hlt).trans c4
  obtain ⟨hB0, hF0⟩ := h.set_hid []
  have hbl := (Below.refl (w.setCell ⟨bp, 4, none⟩ (.string ⟨#[]⟩)).heap.size (w.setCell ⟨bp, 4, none⟩ (.string ⟨#[]⟩))).alloc (Nat.le_refl _) (.cells #[.int .i64 kind, .string ⟨name.toArray⟩, .slice ao n cap, .bool self, .string ⟨text.toArray⟩] 33 (0, 0))
  have hB1 := hB0.later hbl
  have hz := U.Bst.closeBefore_le ⟨s.out, s.op, s.tx, s.cnt, []⟩ name
  have hzt : TxOk (U.Bst.closeBefore ⟨s.out, s.op, s.tx, s.cnt, []⟩ name) := TxOk.closeBefore (s := ⟨s.out, s.op, s.tx, s.cnt, []⟩) ht name
  have hz1 : (U.Bst.closeBefore ⟨s.out, s.op, s.tx, s.cnt, []⟩ name).bulk ≤ 1048575 := Nat.le_trans hz.1 hb
  have hz2 : (U.Bst.closeBefore ⟨s.out, s.op, s.tx, s.cnt, []⟩ name).cnt = s.cnt := hz.2.1
  have hz4 : (U.Bst.closeBefore ⟨s.out, s.op, s.tx, s.cnt, []⟩ name).op.length ≤ s.op.length := hz.2.2.2
  have HC := Lib.hid (close_before N _ bp _ ov pv tv outl opl hB1 (Nat.le_trans hb (by decide)) ht hop name)
  have HF := Lib.hid (hF0.trans (Fr.later (M := mine ov pv tv opl) hbl))
  have hbx := heap_alloc_new (w.setCell ⟨bp, 4, none⟩ (.string ⟨#[]⟩)) (.cells #[.int .i64 kind, .string ⟨name.toArray⟩, .slice ao n cap, .bool self, .string ⟨text.toArray⟩] 33 (0, 0))
  rw [setCell_size] at hbx
  have hfree := hB0.fresh (w' := (w.setCell ⟨bp, 4, none⟩ (.string ⟨#[]⟩)).alloc (.cells #[.int .i64 kind, .string ⟨name.toArray⟩, .slice ao n cap, .bool self, .string ⟨text.toArray⟩] 33 (0, 0))) (k := w.heap.size) (by rw [setCell_size]; exact Nat.le_refl _) (lt_of_heap2 hbx)
  have HX := Lib.hid (And.intro hbx hfree)
  have HV := Lib.hid (fun W => void_walk name W)
  have HZ1 := Lib.hid hz1
  have HZ4 := Lib.hid (show (U.Bst.closeBefore ⟨s.out, s.op, s.tx, s.cnt, []⟩ name).op.length ≤ 1048576 from Nat.le_trans hz4 hop)
  have hN0 := h.base
  have HA := Lib.hid hA
  have HW := Lib.hid h
  have hs0 : s.start name attrs self = U.Bst.start2 (U.Bst.closeBefore ⟨s.out, s.op, s.tx, s.cnt, []⟩ name) name attrs self := by
    unfold U.Bst.start U.Bst.start1
    rw [if_neg hd]
  have HS0 := Lib.hid hs0
  have HD := Lib.hid hd
  clear hB0 hF0 hbl hB1 hbx hfree c4 hz hd hs0 h hA
  generalize U.Bst.closeBefore ⟨s.out, s.op, s.tx, s.cnt, []⟩ name = z at *
  go_enter Tryz.func71, Tryz.ntmps71
  go_wp2_with fail
  refine HC.out.mono ?_
  rintro e w2 ⟨rfl, hK⟩
  obtain ⟨ov2, pv2, tv2, outl2, opl2, hB2, hF2⟩ := hK
  obtain ⟨hbx, hfree⟩ := HX.out
  obtain ⟨b1, fr2⟩ := hF2.block _ hfree
  have hbx2 := b1.trans hbx
  have hol := hB2.op_len
  obtain ⟨po, pcap, rfl⟩ := own_form hB2.op
  obtain ⟨_, d1, _, _, _⟩ := hB2.cells
  rw [hol] at d1
  have hne : ((z.op.length : Int) == 10) = false := by have := HD.out; simp; omega
  have HT := Lib.hid (end_text N w2 bp z ov2 _ tv2 outl2 opl2 hB2 (Nat.le_trans hz1 (by decide)) hzt)
  have HF2 := Lib.hid (HF.out.trans hF2)
  have HX2 := Lib.hid (And.intro hbx2 fr2)
  clear hbx hfree b1 hbx2 fr2 hB2 hF2 HF HX HC hol
  go_wp2_with fail
  refine HT.out.mono ?_
  rintro e w3 ⟨rfl, hK⟩
  obtain ⟨ov3, pv3, tv3, outl3, opl3, hB3, hF3⟩ := hK
  obtain ⟨hbx2, fr2⟩ := HX2.out
  obtain ⟨b1, fr3⟩ := hF3.block _ fr2
  have hbx3 := b1.trans hbx2
  obtain ⟨_, _, _, e3, _⟩ := hB3.cells
  obtain ⟨_, _, _, g3, _⟩ := hB3.unfrozen
  have hc3 : z.endText.cnt = s.cnt := (U.Bst.endText_cnt z).trans hz2
  have hB4F := hB3.set_cnt (z.endText.cnt + 1)
  rw [show ((z.endText.cnt + 1 : Nat) : Int) = (s.cnt : Int) + 1 by rw [hc3]; omega] at hB4F
  rw [hc3] at e3
  obtain ⟨hB4, hF4⟩ := hB4F
  have hbx4 : (w3.setCell ⟨bp, 3, none⟩ (.int .i64 ((s.cnt : Int) + 1))).heap[w.heap.size]? = _ := (Below.heap_setCell _ _ _ _ (show w.heap.size ≠ bp by omega)).trans hbx3
  have hbw3 := hB3.lt
  have hltb := lt_of_heap2 hbx4
  have hBN : Below N w (w3.setCell ⟨bp, 3, none⟩ (.int .i64 ((s.cnt : Int) + 1))) := HW.out.below ((HF2.out.trans hF3).trans hF4)
  have hA4 := Lib.hid (HA.out.later hBN)
  have HF4 := Lib.hid ((HF2.out.trans hF3).trans hF4)
  have HB4 := Lib.hid hB4
  have HFR := Lib.hid (hF4.block _ fr3)
  have hC3 := Lib.hid hc3
  go_wp2_with fail
  clear hbx2 fr2 b1 hbx3 hB3 hF3 hB4 hF4 hBN HX2 HT HA fr3 hc3 e3 g3 k4 f4 d1 hz1 hz2 hz4 hzt hne
  generalize w3.setCell ⟨bp, 3, none⟩ (.int .i64 ((s.cnt : Int) + 1)) = W at *
  go_cut [4] (fun s4 wx => ∃ (nb : Nat) (ao7 : Option Addr) (cap7 : Nat), s4 = .pointer (some ⟨nb, 0, none⟩) ∧ W.heap.size ≤ nb ∧ Hid (Below W.heap.size W wx ∧ wx.heap[nb]? = some (.cells #[.string ⟨name.toArray⟩, .slice ao7 attrs.length cap7, .string ⟨#[]⟩, .slice none 0 0] 46 (0, 0)) ∧ wx.ownsRow W.heap.size 54 2 (.slice ao7 attrs.length cap7) attrs.length (attCells attrs)))
  case first =>
    have x1 : W.cell? ⟨w.heap.size, 1, none⟩ = some (.string ⟨name.toArray⟩) := by rw [Lib.cell_of_heap hbx4]; rfl
    have x2 : W.cell? ⟨w.heap.size, 2, none⟩ = some (.slice ao n cap) := by rw [Lib.cell_of_heap hbx4]; rfl
    have y1 := fun O => (cell_alloc_old W O ⟨w.heap.size, 1, none⟩ hltb).trans x1
    have y2 := fun O => (cell_alloc_old W O ⟨w.heap.size, 2, none⟩ hltb).trans x2
    have hap1 := app_atts W.drew N ao n cap attrs (hA4.out.later (drew_below W N)) hal
    obtain ⟨v1, w7, r1, o1, g1⟩ := hap1
    obtain ⟨ao7, cap7, rfl⟩ := own_form o1
    have z1 : w7.cell? ⟨w.heap.size, 1, none⟩ = some (.string ⟨name.toArray⟩) := g1.cell (a := ⟨w.heap.size, 1, none⟩) x1 (by simp)
    have zz1 := fun O => (cell_alloc_old w7 O ⟨w.heap.size, 1, none⟩ (Nat.lt_of_lt_of_le hltb g1.size)).trans z1
    have hap2 := app_atts (W.alloc (.cells #[.string ⟨#[]⟩, .slice none 0 0, .string ⟨#[]⟩, .slice none 0 0] 46 (0, 0))).drew N ao n cap attrs (hA4.out.later (((Below.refl W.heap.size W).alloc (Nat.le_refl _) _).drew.mono (by omega))) hal
    obtain ⟨v2, w8, r2, o2, g2⟩ := hap2
    obtain ⟨ao8, cap8, rfl⟩ := own_form o2
    have z2 : w8.cell? ⟨w.heap.size, 1, none⟩ = some (.string ⟨name.toArray⟩) := g2.cell (a := ⟨w.heap.size, 1, none⟩) (y1 _) (by simp)
    have hnb : w8.heap[W.heap.size]? = some (.cells #[.string ⟨#[]⟩, .slice none 0 0, .string ⟨#[]⟩, .slice none 0 0] 46 (0, 0)) := (g2.block W.heap.size (by simp) (by simp)).trans (heap_alloc_new W _)
    have q0 : w8.cell? ⟨W.heap.size, 0, none⟩ = some (.string ⟨#[]⟩) := by rw [Lib.cell_of_heap hnb]; rfl
    have q1 : w8.cell? ⟨W.heap.size, 1, none⟩ = some (.slice none 0 0) := by rw [Lib.cell_of_heap hnb]; rfl
    have q2 : w8.cell? ⟨W.heap.size, 2, none⟩ = some (.string ⟨#[]⟩) := by rw [Lib.cell_of_heap hnb]; rfl
    have q3 : w8.cell? ⟨W.heap.size, 3, none⟩ = some (.slice none 0 0) := by rw [Lib.cell_of_heap hnb]; rfl
    have p0 : w8.frozen? ⟨W.heap.size, 0, none⟩ = false := Lib.frozen_of_heap hnb 0
    have p1 : w8.frozen? ⟨W.heap.size, 1, none⟩ = false := Lib.frozen_of_heap hnb 1
    have p2 : w8.frozen? ⟨W.heap.size, 2, none⟩ = false := Lib.frozen_of_heap hnb 2
    have p3 : w8.frozen? ⟨W.heap.size, 3, none⟩ = false := Lib.frozen_of_heap hnb 3
    have hE1 := Lib.hid (show Below W.heap.size W (w7.alloc (.cells #[.string ⟨name.toArray⟩, .slice ao7 attrs.length cap7, .string ⟨#[]⟩, .slice none 0 0] 46 (0, 0))) ∧ (w7.alloc (.cells #[.string ⟨name.toArray⟩, .slice ao7 attrs.length cap7, .string ⟨#[]⟩, .slice none 0 0] 46 (0, 0))).heap[w7.heap.size]? = some (.cells #[.string ⟨name.toArray⟩, .slice ao7 attrs.length cap7, .string ⟨#[]⟩, .slice none 0 0] 46 (0, 0)) ∧
        (w7.alloc (.cells #[.string ⟨name.toArray⟩, .slice ao7 attrs.length cap7, .string ⟨#[]⟩, .slice none 0 0] 46 (0, 0))).ownsRow W.heap.size 54 2 (.slice ao7 attrs.length cap7) attrs.length (attCells attrs) from
      ⟨((drew_below W W.heap.size).grown g1 (Nat.le_refl _) (fun k hk => by cases hk)).alloc g1.size _, heap_alloc_new w7 _, o1.alloc _⟩)
    have hE2 := Lib.hid (show Below W.heap.size W (set4 w8 W.heap.size 0 (.string ⟨name.toArray⟩) (.slice ao8 attrs.length cap8) (.string ⟨#[]⟩) (.slice none 0 0)) ∧ (set4 w8 W.heap.size 0 (.string ⟨name.toArray⟩) (.slice ao8 attrs.length cap8) (.string ⟨#[]⟩) (.slice none 0 0)).heap[W.heap.size]? = some (.cells #[.string ⟨name.toArray⟩, .slice ao8 attrs.length cap8, .string ⟨#[]⟩, .slice none 0 0] 46 (0, 0)) ∧
        (set4 w8 W.heap.size 0 (.string ⟨name.toArray⟩) (.slice ao8 attrs.length cap8) (.string ⟨#[]⟩) (.slice none 0 0)).ownsRow W.heap.size 54 2 (.slice ao8 attrs.length cap8) attrs.length (attCells attrs) from
      ⟨set4_below ((((Below.refl W.heap.size W).alloc (Nat.le_refl _) _).drew).grown g2 (by simp) (fun k hk => by cases hk)) (Nat.le_refl _), set4_block hnb, set4_own (own_base o2 (by simp)) hnb (by decide)⟩)
    have hs7 := g1.size
    have HS7 := Lib.hid (show W.heap.size ≤ w7.heap.size from hs7)
    clear o1 g1 o2 g2 hs7 hnb
    go_region_law (first
      | refine step_append_by rfl _ _ 31 rfl _ _ rfl rfl r1 ?_
      | refine step_append_by rfl _ _ 31 rfl _ _ rfl rfl r2 ?_)
    all_goals
      go_wp2_with fail
      go_meet
      first
        | exact ⟨_, _, _, rfl, HS7.out, hE1⟩
        | exact ⟨_, _, _, rfl, Nat.le_refl _, hE2⟩
  case rest =>
    obtain ⟨nb, ao7, cap7, rfl, hnb, hH⟩ := hcut
    obtain ⟨hbl, hn, hrow⟩ := hH.out
    have hB5 : TBld N wc bp z.endText.more ov3 pv3 tv3 outl3 opl3 := HB4.out.later hbl
    have HF5 := Lib.hid (HF4.out.trans (Fr.later hbl))
    have hbx5 := (hbl.block _ hltb).trans hbx4
    have x1 : wc.cell? ⟨w.heap.size, 1, none⟩ = some (.string ⟨name.toArray⟩) := by rw [Lib.cell_of_heap hbx5]; rfl
    have x3 : wc.cell? ⟨w.heap.size, 3, none⟩ = some (.bool self) := by rw [Lib.cell_of_heap hbx5]; rfl
    have n0 : wc.cell? ⟨nb, 0, none⟩ = some (.string ⟨name.toArray⟩) := by rw [Lib.cell_of_heap hn]; rfl
    have n1 : wc.cell? ⟨nb, 1, none⟩ = some (.slice ao7 attrs.length cap7) := by rw [Lib.cell_of_heap hn]; rfl
    have n2 : wc.cell? ⟨nb, 2, none⟩ = some (.string ⟨#[]⟩) := by rw [Lib.cell_of_heap hn]; rfl
    have n3 : wc.cell? ⟨nb, 3, none⟩ = some (.slice none 0 0) := by rw [Lib.cell_of_heap hn]; rfl
    have hra : RdAS wc (Free wc bp (mine ov3 pv3 tv3 opl3)) (.slice ao7 attrs.length cap7) attrs := RdAS.of_own hrow (fun g hg => HB4.out.fresh (hrow.lt g hg).1 (hrow.lt g hg).2)
    have hbu : z.endText.more.bulk ≤ 1048576 := by
      have h1 : z.endText.more.bulk = z.endText.bulk := rfl
      rw [h1, U.Bst.endText_bulk]
      exact Nat.le_trans HZ1.out (by decide)
    have HA2 := Lib.hid (add_walk N wc bp _ _ _ _ _ _ hB5 (.mk name attrs [] [], .slice ao7 attrs.length cap7, .slice none 0 0) ⟨hra, RdNs.nil _ _⟩ hbu)
    have HB5 := Lib.hid hB5
    have HRA := Lib.hid hra
    have hsz5 := hB5.base
    have hnlt := lt_of_heap2 hn
    have hlt5 := hB5.lt
    clear hbl hn hrow hH hB5 hbx5 hbx4 hra hltb hbw3 hnb
    cases self with
    | true =>
      have HS := Lib.hid (show s.start name attrs true = z.endText.more.add (.mk name attrs [] []) by rw [HS0.out]; unfold U.Bst.start2; rw [if_pos (.inl rfl)])
      go_wp2_with fail
      refine HA2.out.mono ?_
      rintro e w9 ⟨rfl, hK⟩
      have HK := Lib.hid (show Became N bp w (mine ov pv tv opl) w9 (s.start name attrs true) by
        obtain ⟨ov9, pv9, tv9, outl9, opl9, hB9, hF9⟩ := hK
        rw [HS.out]
        exact ⟨_, _, _, _, _, hB9, HF5.out.trans hF9⟩)
      clear hK
      go_wp2_with fail
      first | go_end0 | refine bodyPost_ret (results_none rfl _ _ _) rfl ?_
      exact ⟨rfl, HK.out⟩
    | false =>
      cases hv : U.isVoid name with
      | true =>
        rw [hv] at HV
        have HS := Lib.hid (show s.start name attrs false = z.endText.more.add (.mk name attrs [] []) by rw [HS0.out]; unfold U.Bst.start2; rw [if_pos (.inr hv)])
        clear hv
        go_wp2_with fail
        refine (HV.out _).mono ?_
        rintro e w5 ⟨rfl, rfl⟩
        go_wp2_with fail
        refine HA2.out.mono ?_
        rintro e w9 ⟨rfl, hK⟩
        have HK := Lib.hid (show Became N bp w (mine ov pv tv opl) w9 (s.start name attrs false) by
          obtain ⟨ov9, pv9, tv9, outl9, opl9, hB9, hF9⟩ := hK
          rw [HS.out]
          exact ⟨_, _, _, _, _, hB9, HF5.out.trans hF9⟩)
        clear hK
        go_wp2_with fail
        first | go_end0 | refine bodyPost_ret (results_none rfl _ _ _) rfl ?_
        exact ⟨rfl, HK.out⟩
      | false =>
        rw [hv] at HV
        have HS := Lib.hid (show s.start name attrs false = z.endText.more.withOp (.mk name attrs [] [] :: z.endText.op) by
          rw [HS0.out]
          unfold U.Bst.start2
          rw [if_neg (by rw [hv]; rintro (e | e) <;> cases e)])
        clear hv
        go_wp2_with fail
        refine (HV.out _).mono ?_
        rintro e w5 ⟨rfl, rfl⟩
        have hB5 := HB5.out
        obtain ⟨po3, pcap3, rfl⟩ := own_form hB5.op
        obtain ⟨_, m1, _, _, _⟩ := hB5.cells
        obtain ⟨_, l1, _, _, _⟩ := hB5.unfrozen
        have hol3 := hB5.op_len
        have hopl : opl3.length ≤ 1048576 := by
          have h1 := U.Bst.endText_op z
          have h2 : z.endText.more.op.length = z.endText.op.length := rfl
          have h3 := HZ4.out
          omega
        have hd5 := hB5.later (drew_below wc wc.heap.size)
        have hne5 := hB5.rows_ne (.slice po3 opl3.length pcap3) (by simp [mine])
        have hb7 : ∀ {O : Obj} {w7 : World}, (wc.alloc O).drew.grownBy w7 (Value.slice po3 opl3.length pcap3).ownBlock → w7.cell? ⟨bp, 1, none⟩ = some (.slice po3 opl3.length pcap3) ∧ w7.frozen? ⟨bp, 1, none⟩ = false := fun {O w7} hg => by
          have hb : w7.heap[bp]? = wc.heap[bp]? := (hg.block bp (by simp; omega) (fun e => hne5 e.symm)).trans (Lib.alloc_old wc O _ hlt5)
          exact ⟨(World.cell?_of_block hb).trans m1, (World.frozen?_of_block hb).trans l1⟩
        have hi : (opl3.length : Int) < (opl3.length : Int) + 1 := by omega
        obtain ⟨iT, hiT, hT0, hT1, hT2⟩ := info_parts infoNode
        have nn0 := fun O => (cell_alloc_old wc O ⟨nb, 0, none⟩ hnlt).trans n0
        have nn1 := fun O => (cell_alloc_old wc O ⟨nb, 1, none⟩ hnlt).trans n1
        have nn2 := fun O => (cell_alloc_old wc O ⟨nb, 2, none⟩ hnlt).trans n2
        have nn3 := fun O => (cell_alloc_old wc O ⟨nb, 3, none⟩ hnlt).trans n3
        have mm1 := fun O => (cell_alloc_old wc O ⟨bp, 1, none⟩ hlt5).trans m1
        clear hB5 l1 x1 x3 hol3
        go_wp2_with fail
        go_region_law (
              (refine step_append_lies _ (by rfl) _ _ _ (by rfl) N 46 iT _ 4 80 Tryz.underlying36 hiT hT0 hT1 hT2 rfl (by omega) (.slice po3 opl3.length pcap3) opl3.length (ndCells opl3) (by rfl) (hd5.op.alloc _)
                  ⟨wc.heap.size, 0, none⟩ 1 1 [.string ⟨#[]⟩, .slice none 0 0, .string ⟨#[]⟩, .slice none 0 0] (by rfl) (by rfl) (World.news_of_block (cs := #[.string ⟨#[]⟩, .slice none 0 0, .string ⟨#[]⟩, .slice none 0 0]) (t := 46) (fr := (0, 0)) (heap_alloc_new wc _)) (by simp [Value.oneCell'])
                  (by omega) (by unfold maxLen; omega) (by omega) (by simp; omega) (wc.heap.size + 1) (by simp) ?_; intro gg cap9 w9 hown7 hgrow7 hat7 hlt7; obtain ⟨z0, z1, z2, z3, y0, y1, y2, y3⟩ := last_cells hown7; have hgb : gg ≠ bp := (by rintro rfl; rcases hat7 with h5 | h5; exact hne5 h5; omega); have hgb2 : bp ≠ gg := fun e => hgb e.symm; obtain ⟨q0, q1⟩ := hb7 hgrow7))
        all_goals
          have HE := Lib.hid (fun wz hz => (show Became N bp w (mine ov pv tv opl) wz (s.start name attrs false) by
            have hK := push_end (n := .mk name attrs [] []) HB5.out HRA.out rfl (((Below.refl wc.heap.size wc).alloc (Nat.le_refl _) (.cells #[.string ⟨#[]⟩, .slice none 0 0, .string ⟨#[]⟩, .slice none 0 0] 46 (0, 0))).drew) hgrow7 hown7 (hat7.imp id (by omega)) hgb wz hz
            obtain ⟨ov9, pv9, tv9, outl9, opl9, hB9, hF9⟩ := hK
            rw [HS.out]
            exact ⟨_, _, _, _, _, hB9, HF5.out.trans hF9⟩))
          clear hown7 hgrow7 hat7 hlt7 hb7 hd5 q0 q1 z0 z1 z2 z3 y0 y1 y2 y3
          go_wp2_with fail
          go_end0
          refine ⟨rfl, HE.out _ ?_⟩
          dsimp only [set4, U.Nd.name, U.Nd.text]
          first | (left; with_reducible rfl) | (right; with_reducible rfl)

end Go.Proofs.YtmfkefcdddoooaaGreatDoor

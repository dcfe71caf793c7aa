/- (*builder).processStart. -/
import Derived.Test.YtankcnikebcpkaaGreatDoorP11
namespace Go.Proofs.YtankcnikebcpkaaGreatDoor
open Go.RowKit

theorem lt_of_heap2 {w : World} {b : Nat} {o : Obj} (h : w.heap[b]? = some o) : b < w.heap.size := (Array.getElem?_eq_some_iff.1 h).1
def U.Bst.withHid (s : U.Bst) (x : List UInt8) : U.Bst := ⟨s.out, s.op, s.tx, s.cnt, x⟩
theorem setCell_size (w : World) (p : Addr) (v : Value) : (w.setCell p v).heap.size = w.heap.size := by simp [World.setCell]

set_option maxHeartbeats 8000000 in
set_option maxRecDepth 1000000 in
theorem start_deep (N : Nat) (w : World) (bp : Nat) (s : U.Bst) (ov pv tv : Value) (outl opl : List NV) (h : TBld N w bp s ov pv tv outl opl) (hb : s.bulk ≤ 1048576) (ht : TxOk s) (hop : s.op.length ≤ 1048576)
    (kind : Int) (name : List UInt8) (ao : Option Addr) (n cap : Nat) (self : Bool) (text : List UInt8) (attrs : List U.Att)
    (hd : (U.Bst.closeBefore ⟨s.out, s.op, s.tx, s.cnt, []⟩ name).op.length = 10) :
    Calls Tryz.prog 69 #[.pointer (some ⟨bp, 0, none⟩), .agg #[.int .i64 kind, .string ⟨name.toArray⟩, .slice ao n cap, .bool self, .string ⟨text.toArray⟩]] w fun e w' => e = .returned (.tuple #[]) ∧ Became N bp w (mine ov pv tv opl) w' (s.start name attrs self) := by
  obtain ⟨_, _, _, _, c4⟩ := h.cells
  obtain ⟨_, _, _, _, f4⟩ := h.unfrozen
  have hlt := h.lt
  have k4 := fun O => (cell_alloc_old w O ⟨bp, 4, none⟩ hlt).trans c4
  obtain ⟨hB0, hF0⟩ := h.set_hid []
  have hbl := (Below.refl (w.setCell ⟨bp, 4, none⟩ (.string ⟨#[]⟩)).heap.size (w.setCell ⟨bp, 4, none⟩ (.string ⟨#[]⟩))).alloc (Nat.le_refl _) (.cells #[.int .i64 kind, .string ⟨name.toArray⟩, .slice ao n cap, .bool self, .string ⟨text.toArray⟩] 33 (0, 0))
  have hB1 := hB0.later hbl
  have HC := Lib.hid (close_before N _ bp _ ov pv tv outl opl hB1 hb ht hop name)
  have HF := Lib.hid (hF0.trans (Fr.later (M := mine ov pv tv opl) hbl))
  have hbx := heap_alloc_new (w.setCell ⟨bp, 4, none⟩ (.string ⟨#[]⟩)) (.cells #[.int .i64 kind, .string ⟨name.toArray⟩, .slice ao n cap, .bool self, .string ⟨text.toArray⟩] 33 (0, 0))
  rw [setCell_size] at hbx
  have hfree := hB0.fresh (w' := (w.setCell ⟨bp, 4, none⟩ (.string ⟨#[]⟩)).alloc (.cells #[.int .i64 kind, .string ⟨name.toArray⟩, .slice ao n cap, .bool self, .string ⟨text.toArray⟩] 33 (0, 0))) (k := w.heap.size) (by rw [setCell_size]; exact Nat.le_refl _) (lt_of_heap2 hbx)
  have HX := Lib.hid (And.intro hbx hfree)
  have HH := Lib.hid (fun W => hides_walk name W)
  clear hB0 hF0 hbl hB1 hbx hfree c4
  go_enter Tryz.func69, Tryz.ntmps69
  go_wp2_with fail
  refine HC.out.mono ?_
  rintro e w2 ⟨rfl, hK⟩
  obtain ⟨ov2, pv2, tv2, outl2, opl2, hB2, hF2⟩ := hK
  obtain ⟨hbx, hfree⟩ := HX.out
  obtain ⟨b1, _⟩ := hF2.block _ hfree
  have hbx2 := b1.trans hbx
  have x1 : w2.cell? ⟨w.heap.size, 1, none⟩ = some (.string ⟨name.toArray⟩) := by rw [Lib.cell_of_heap hbx2]; rfl
  have x3 : w2.cell? ⟨w.heap.size, 3, none⟩ = some (.bool self) := by rw [Lib.cell_of_heap hbx2]; rfl
  have hol := hB2.op_len
  rw [hd] at hol
  obtain ⟨po, pcap, rfl⟩ := own_form hB2.op
  obtain ⟨_, d1, _, _, d4⟩ := hB2.cells
  obtain ⟨_, _, _, _, g4⟩ := hB2.unfrozen
  rw [hol] at d1
  have hs0 : s.start name attrs self = if U.hides name = true ∧ self = false then U.Bst.withHid (U.Bst.closeBefore ⟨s.out, s.op, s.tx, s.cnt, []⟩ name) name else U.Bst.closeBefore ⟨s.out, s.op, s.tx, s.cnt, []⟩ name := by
    unfold U.Bst.start U.Bst.start1
    rw [if_pos hd]
    rfl
  clear hbx hfree b1 hbx2
  cases hh : U.hides name with
  | false =>
    have HE := Lib.hid (show Became N bp w (mine ov pv tv opl) w2 (s.start name attrs self) by
      rw [hs0, if_neg (by rw [hh]; rintro ⟨e, _⟩; cases e)]
      exact ⟨_, _, _, _, _, hB2, HF.out.trans hF2⟩)
    rw [hh] at HH
    clear hs0 hB2 hF2 hh hd
    go_wp2_with fail
    refine (HH.out _).mono ?_
    rintro e w3 ⟨rfl, rfl⟩
    go_wp2_with fail
    refine bodyPost_ret (results_none rfl _ _ _) rfl ?_
    exact ⟨rfl, HE.out⟩
  | true =>
    rw [hh] at HH
    cases self with
    | true =>
      have HE := Lib.hid (show Became N bp w (mine ov pv tv opl) w2 (s.start name attrs true) by
        rw [hs0, if_neg (by rintro ⟨_, e⟩; cases e)]
        exact ⟨_, _, _, _, _, hB2, HF.out.trans hF2⟩)
      clear hs0 hB2 hF2 hh hd
      go_wp2_with fail
      refine (HH.out _).mono ?_
      rintro e w3 ⟨rfl, rfl⟩
      go_wp2_with fail
      refine bodyPost_ret (results_none rfl _ _ _) rfl ?_
      exact ⟨rfl, HE.out⟩
    | false =>
      obtain ⟨hB3, hF3⟩ := hB2.set_hid name
      have HE := Lib.hid (show Became N bp w (mine ov pv tv opl) (w2.setCell ⟨bp, 4, none⟩ (.string ⟨name.toArray⟩)) (s.start name attrs false) by
        rw [hs0, if_pos ⟨hh, rfl⟩]
        exact ⟨_, _, _, _, _, hB3, (HF.out.trans hF2).trans hF3⟩)
      clear hs0 hB2 hF2 hh hd hB3 hF3
      go_wp2_with fail
      refine (HH.out _).mono ?_
      rintro e w3 ⟨rfl, rfl⟩
      go_wp2_with fail
      refine bodyPost_ret (results_none rfl _ _ _) rfl ?_
      exact ⟨rfl, HE.out⟩

end Go.Proofs.YtankcnikebcpkaaGreatDoor

/- Several texts in one: EndsT, Start, AppAtts. -/
import Derived.Test.YtmfkefcdddoooaaGreatDoorP24
namespace Go.Proofs.YtmfkefcdddoooaaGreatDoor
open Go.RowKit

theorem infoStr : (Tryz.prog.info? 9).map (fun i => (i.zero, i.size, i.bytes)) = some (some (.string .empty), 1, 16) := by kernel_rfl

set_option maxHeartbeats 8000000 in
set_option maxRecDepth 1000000 in
theorem process_end (N : Nat) (w : World) (bp : Nat) (s : U.Bst) (ov pv tv : Value) (outl opl : List NV) (h : TBld N w bp s ov pv tv outl opl) (hb : s.bulk ≤ 1048576) (ht : TxOk s) (hop : s.op.length ≤ 1048576) (name : List UInt8) :
    Calls Tryz.prog 72 #[.pointer (some ⟨bp, 0, none⟩), .string ⟨name.toArray⟩] w fun e w' => e = .returned (.tuple #[]) ∧ Became N bp w (mine ov pv tv opl) w' (s.ends name) := by
  obtain ⟨_, _, _, _, c4⟩ := h.cells
  obtain ⟨_, _, _, _, f4⟩ := h.unfrozen
  by_cases he : s.hid = name
  · obtain ⟨hB, hF⟩ := h.set_hid []
    have HC := Lib.hid (close_last N _ bp _ ov pv tv outl opl hB hb ht hop name)
    have HS := Lib.hid (show s.ends name = U.Bst.closeLast ⟨s.out, s.op, s.tx, s.cnt, []⟩ name by unfold U.Bst.ends; rw [if_pos he])
    have HF := Lib.hid hF
    rw [he] at c4
    clear he hB hF h
    go_enter Tryz.func72, Tryz.ntmps72
    go_wp2_with fail
    refine HC.out.mono ?_
    rintro e w2 ⟨rfl, hK⟩
    obtain ⟨ov9, pv9, tv9, outl9, opl9, hB9, hF9⟩ := hK
    have HK := Lib.hid (show Became N bp w (mine ov pv tv opl) w2 (s.ends name) by rw [HS.out]; exact ⟨_, _, _, _, _, hB9, HF.out.trans hF9⟩)
    clear hB9 hF9
    go_wp2_with fail
    go_end0
    exact ⟨rfl, HK.out⟩
  · have HC := Lib.hid (close_last N _ bp _ ov pv tv outl opl h hb ht hop name)
    have HS := Lib.hid (show s.ends name = s.closeLast name by unfold U.Bst.ends; rw [if_neg he])
    have hbe : (s.hid == name) = false := by simpa using he
    clear he h
    go_enter Tryz.func72, Tryz.ntmps72
    go_wp2_with fail
    refine HC.out.mono ?_
    rintro e w2 ⟨rfl, hK⟩
    rw [← HS.out] at hK
    have HK := Lib.hid hK
    clear hK
    go_wp2_with fail
    go_end0
    exact ⟨rfl, HK.out⟩

set_option maxHeartbeats 8000000 in
set_option maxRecDepth 1000000 in
theorem process_chars (N : Nat) (w : World) (bp : Nat) (s : U.Bst) (ov pv tv : Value) (outl opl : List NV) (h : TBld N w bp s ov pv tv outl opl) (ht : s.tx.length ≤ 1023) (hop : s.op.length ≤ 1048576) (hcnt : s.cnt ≤ 1048576) (text : List UInt8) :
    Calls Tryz.prog 73 #[.pointer (some ⟨bp, 0, none⟩), .string ⟨text.toArray⟩] w fun e w' => e = .returned (.tuple #[]) ∧ Became N bp w (mine ov pv tv opl) w' (s.chars text) := by
  obtain ⟨iS, hiS, hS0, hS1, hS2⟩ := info_parts infoStr
  obtain ⟨_, _, c2, c3, c4⟩ := h.cells
  obtain ⟨_, _, f2, f3, _⟩ := h.unfrozen
  by_cases h1 : text = []
  · have HE := Lib.hid (show Became N bp w (mine ov pv tv opl) w (s.chars text) by unfold U.Bst.chars; rw [if_pos (.inl h1)]; exact Became.refl h)
    subst h1
    clear h
    go_enter Tryz.func73, Tryz.ntmps73
    go_wp2_with fail
    refine bodyPost_ret (results_none rfl _ _ _) rfl ?_
    exact ⟨rfl, HE.out⟩
  have b1 : text.isEmpty = false := by simpa using h1
  by_cases h2 : ¬ s.hid = []
  · have HE := Lib.hid (show Became N bp w (mine ov pv tv opl) w (s.chars text) by unfold U.Bst.chars; rw [if_pos (.inr (.inl h2))]; exact Became.refl h)
    have b2 : s.hid.isEmpty = false := by simpa using h2
    clear h h1 h2
    go_enter Tryz.func73, Tryz.ntmps73
    go_wp2_with fail
    refine bodyPost_ret (results_none rfl _ _ _) rfl ?_
    exact ⟨rfl, HE.out⟩
  have h2 : s.hid = [] := Decidable.not_not.1 h2
  have HM := Lib.hid (text_hidden N w bp s ov pv tv outl opl h hop)
  cases hm : s.muted with
  | true =>
    have HE := Lib.hid (fun w' (hb : Below w.heap.size w w') => (show Became N bp w (mine ov pv tv opl) w' (s.chars text) by unfold U.Bst.chars; rw [if_pos (.inr (.inr hm))]; exact (Became.refl h).later hb))
    rw [hm] at HM
    rw [h2] at c4
    clear h h1 h2 hm
    go_enter Tryz.func73, Tryz.ntmps73
    go_wp2_with fail
    refine HM.out.mono ?_
    rintro e w1 ⟨rfl, hb⟩
    have HK := Lib.hid (HE.out w1 hb)
    clear hb
    go_wp2_with fail
    refine bodyPost_ret (results_none rfl _ _ _) rfl ?_
    exact ⟨rfl, HK.out⟩
  | false =>
    rw [hm] at HM
    rw [h2] at c4
    have HS := Lib.hid (show s.chars text = ⟨s.out, s.op, s.tx ++ [text], if s.tx = [] then s.cnt + 1 else s.cnt, s.hid⟩ by
      unfold U.Bst.chars
      rw [if_neg (by rw [hm]; rintro (e | e | e); exact h1 e; exact e h2; cases e)])
    obtain ⟨to, tcap, rfl⟩ := own_form h.tx
    have HB := Lib.hid h
    have hN := h.base
    clear hm h1 h2 f2 f3 h
    by_cases hs : s.tx = []
    · obtain ⟨so, sop, stx, sc, sh⟩ := s
      obtain rfl : stx = [] := hs
      have HS2 := Lib.hid (show U.Bst.chars ⟨so, sop, [], sc, sh⟩ text = ⟨so, sop, [] ++ [text], sc + 1, sh⟩ from HS.out)
      have hcnt2 : sc ≤ 1048576 := hcnt
      clear HS hcnt ht
      go_enter Tryz.func73, Tryz.ntmps73
      go_wp2_with fail
      refine HM.out.mono ?_
      rintro e w1 ⟨rfl, hb⟩
      have hB1 := HB.out.later hb
      obtain ⟨_, _, _, e3, _⟩ := hB1.cells
      obtain ⟨_, _, _, g3, _⟩ := hB1.unfrozen
      have hB2F := hB1.set_cnt (sc + 1)
      rw [show ((sc + 1 : Nat) : Int) = (sc : Int) + 1 by omega] at hB2F
      obtain ⟨hB2, hF2⟩ := hB2F
      have HF2 := Lib.hid hF2
      obtain ⟨_, _, d2, d3, _⟩ := hB2.cells
      obtain ⟨_, _, f2, f3, _⟩ := hB2.unfrozen
      have hlt := hB2.lt
      have hne2 := hB2.rows_ne (.slice to 0 tcap) (by simp [mine])
      have k2 := fun O => (cell_alloc_old (w1.setCell ⟨bp, 3, none⟩ (.int .i64 ((sc : Int) + 1))) O ⟨bp, 2, none⟩ hlt).trans d2
      have HX := Lib.hid hB2
      have hw2 : (w1.setCell ⟨bp, 3, none⟩ (.int .i64 ((sc : Int) + 1))).heap.size = w1.heap.size := by simp [World.setCell]
      have HW2 := Lib.hid hw2
      clear hw2
      have hsz : N ≤ w1.heap.size := by have := hB1.lt; omega
      clear hB1 hB2 hF2
      go_wp2_with (at_builtin; refine wpList_append_lies _ rfl _ _ 51 rfl N 9 iS _ 1 16 Tryz.underlying51 hiS hS0 hS1 hS2 rfl (by decide) (.slice to 0 tcap) 0 [] rfl (HX.out.tx.alloc _) ⟨_, 0, none⟩ 1 1 [.string ⟨text.toArray⟩] rfl rfl ?c1 ?c2 ?c3 ?c4 ?c5 ?c6 _ rfl ?_)
      case c1 =>
        intro j u hj
        match j, hj with
        | 0, hj =>
          simp at hj
          subst hj
          have h9 := heap_alloc_new ((w1.setCell ⟨bp, 3, none⟩ (.int .i64 ((sc : Int) + 1)))) (.cells #[.string ⟨text.toArray⟩] 9 (0, 0))
          rw [HW2.out] at h9
          rw [show (⟨w1.heap.size, 0, none⟩ : Addr).add 0 = ⟨w1.heap.size, 0, none⟩ by simp [Addr.add], Lib.cell_of_heap h9]
          rfl
        | (j + 1), hj => simp at hj
      case c2 => intro u hu; simp at hu; subst hu; rfl
      case c3 => omega
      case c4 => unfold maxLen; omega
      case c5 => omega
      case c6 => simp; omega
      intro g7 cap7 w7 hown7 hgrow7 hat7 _
      have hk7 : w7.cell? ⟨bp, 2, none⟩ = some (.slice to 0 tcap) ∧ w7.frozen? ⟨bp, 2, none⟩ = false := by
        have hb9 := (hgrow7.block bp (by have := HW2.out; simp at hlt ⊢; omega) (fun e => hne2 e.symm)).trans (Lib.alloc_old (w1.setCell ⟨bp, 3, none⟩ (.int .i64 ((sc : Int) + 1))) _ _ hlt)
        exact ⟨(World.cell?_of_block hb9).trans d2, (World.frozen?_of_block hb9).trans f2⟩
      obtain ⟨k7, l7⟩ := hk7
      have HK := Lib.hid (HX.out.more_text (t := text) ((Below.refl _ _).alloc (Nat.le_refl _) _) hgrow7 hown7 (hat7.imp id (fun e => by have := HW2.out; omega)))
      clear hown7 hgrow7 hat7
      go_wp2_with fail
      go_end0
      refine ⟨rfl, ?_⟩
      rw [HS2.out]
      obtain ⟨ov9, pv9, tv9, outl9, opl9, hB9, hF9⟩ := HK.out
      exact ⟨_, _, _, _, _, hB9, ((Fr.later hb).trans HF2.out).trans hF9⟩
    · have hpos : 0 < s.tx.length := List.length_pos_iff.2 hs
      have HS2 := Lib.hid (show s.chars text = ⟨s.out, s.op, s.tx ++ [text], s.cnt, s.hid⟩ by rw [HS.out, if_neg hs])
      have hne : ¬ (s.tx.length : Int) = 0 := by omega
      clear hs
      go_enter Tryz.func73, Tryz.ntmps73
      go_wp2_with fail
      refine HM.out.mono ?_
      rintro e w1 ⟨rfl, hb⟩
      have hB1 := HB.out.later hb
      obtain ⟨_, _, d2, d3, _⟩ := hB1.cells
      obtain ⟨_, _, f2, f3, _⟩ := hB1.unfrozen
      have hlt := hB1.lt
      have hne2 := hB1.rows_ne (.slice to s.tx.length tcap) (by simp [mine])
      have k2 := fun O => (cell_alloc_old w1 O ⟨bp, 2, none⟩ hlt).trans d2
      have HX := Lib.hid hB1
      have hsz : N ≤ w1.heap.size := by have := hB1.lt; omega
      clear hB1
      go_wp2_with (at_builtin; refine wpList_append_lies _ rfl _ _ 51 rfl N 9 iS _ 1 16 Tryz.underlying51 hiS hS0 hS1 hS2 rfl (by decide) _ _ _ rfl (HX.out.tx.alloc _) ⟨_, 0, none⟩ 1 1 [.string ⟨text.toArray⟩] rfl rfl ?c1 ?c2 ?c3 ?c4 ?c5 ?c6 _ rfl ?_)
      case c1 =>
        intro j u hj
        match j, hj with
        | 0, hj =>
          simp at hj
          subst hj
          have h9 := heap_alloc_new (w1) (.cells #[.string ⟨text.toArray⟩] 9 (0, 0))
          rw [show (⟨(w1).heap.size, 0, none⟩ : Addr).add 0 = ⟨(w1).heap.size, 0, none⟩ by simp [Addr.add], Lib.cell_of_heap h9]
          rfl
        | (j + 1), hj => simp at hj
      case c2 => intro u hu; simp at hu; subst hu; rfl
      case c3 => omega
      case c4 => unfold maxLen; omega
      case c5 => omega
      case c6 => simp; omega
      intro g7 cap7 w7 hown7 hgrow7 hat7 _
      have hk7 : w7.cell? ⟨bp, 2, none⟩ = some (.slice to s.tx.length tcap) ∧ w7.frozen? ⟨bp, 2, none⟩ = false := by
        have hb9 := (hgrow7.block bp (by simp; omega) (fun e => hne2 e.symm)).trans (Lib.alloc_old w1 _ _ hlt)
        exact ⟨(World.cell?_of_block hb9).trans d2, (World.frozen?_of_block hb9).trans f2⟩
      obtain ⟨k7, l7⟩ := hk7
      have HK := Lib.hid (HX.out.more_text (t := text) ((Below.refl _ _).alloc (Nat.le_refl _) _) hgrow7 hown7 (hat7.imp id (fun e => by first | omega | (simp at e; omega))))
      clear hown7 hgrow7 hat7
      go_wp2_with fail
      go_end0
      refine ⟨rfl, ?_⟩
      rw [HS2.out]
      obtain ⟨ov9, pv9, tv9, outl9, opl9, hB9, hF9⟩ := HK.out
      exact ⟨_, _, _, _, _, hB9, (Fr.later hb).trans hF9⟩

end Go.Proofs.YtmfkefcdddoooaaGreatDoor

namespace Go.Proofs.YtmfkefcdddoooaaGreatDoor
open Go.RowKit

theorem lt_of_heap2 {w : World} {b : Nat} {o : Obj} (h : w.heap[b]? = some o) : b < w.heap.size := (Array.getElem?_eq_some_iff.1 h).1
def U.Bst.withHid (s : U.Bst) (x : List UInt8) : U.Bst := ⟨s.out, s.op, s.tx, s.cnt, x⟩
theorem setCell_size (w : World) (p : Addr) (v : Value) : (w.setCell p v).heap.size = w.heap.size := by simp [World.setCell]

set_option maxHeartbeats 8000000 in
set_option maxRecDepth 1000000 in
theorem start_deep (N : Nat) (w : World) (bp : Nat) (s : U.Bst) (ov pv tv : Value) (outl opl : List NV) (h : TBld N w bp s ov pv tv outl opl) (hb : s.bulk ≤ 1048576) (ht : TxOk s) (hop : s.op.length ≤ 1048576)
    (kind : Int) (name : List UInt8) (ao : Option Addr) (n cap : Nat) (self : Bool) (text : List UInt8) (attrs : List U.Att)
    (hd : (U.Bst.closeBefore ⟨s.out, s.op, s.tx, s.cnt, []⟩ name).op.length = 10) :
    Calls Tryz.prog 71 #[.pointer (some ⟨bp, 0, none⟩), .agg #[.int .i64 kind, .string ⟨name.toArray⟩, .slice ao n cap, .bool self, .string ⟨text.toArray⟩]] w fun e w' => e = .returned (.tuple #[]) ∧ Became N bp w (mine ov pv tv opl) w' (s.start name attrs self) := by
  obtain ⟨_, _, _, _, c4⟩ := h.cells
  obtain ⟨_, _, _, _, f4⟩ := h.unfrozen
  have hlt := h.lt
  have k4 := fun O => (cell_alloc_old w O ⟨bp, 4, none⟩ hlt).trans c4
  obtain ⟨hB0, hF0⟩ := h.set_hid []
  have hbl := (Below.refl (w.setCell ⟨bp, 4, none⟩ (.string ⟨#[]⟩)).heap.size (w.setCell ⟨bp, 4, none⟩ (.string ⟨#[]⟩))).alloc (Nat.le_refl _) (.cells #[.int .i64 kind, .string ⟨name.toArray⟩, .slice ao n cap, .bool self, .string ⟨text.toArray⟩] 33 (0, 0))
  have hB1 := hB0.later hbl
  have HC := Lib.hid (close_before N _ bp _ ov pv tv outl opl hB1 hb ht hop name)
  have HF := Lib.hid (hF0.trans (Fr.later (M := mine ov pv tv opl) hbl))
  have hbx := heap_alloc_new (w.setCell ⟨bp, 4, none⟩ (.string ⟨#[]⟩)) (.cells #[.int .i64 kind, .string ⟨name.toArray⟩, .slice ao n cap, .bool self, .string ⟨text.toArray⟩] 33 (0, 0))
  rw [setCell_size] at hbx
  have hfree := hB0.fresh (w' := (w.setCell ⟨bp, 4, none⟩ (.string ⟨#[]⟩)).alloc (.cells #[.int .i64 kind, .string ⟨name.toArray⟩, .slice ao n cap, .bool self, .string ⟨text.toArray⟩] 33 (0, 0))) (k := w.heap.size) (by rw [setCell_size]; exact Nat.le_refl _) (lt_of_heap2 hbx)
  have HX := Lib.hid (And.intro hbx hfree)
  have HH := Lib.hid (fun W => hides_walk name W)
  clear hB0 hF0 hbl hB1 hbx hfree c4
  go_enter Tryz.func71, Tryz.ntmps71
  go_wp2_with fail
  refine HC.out.mono ?_
  rintro e w2 ⟨rfl, hK⟩
  obtain ⟨ov2, pv2, tv2, outl2, opl2, hB2, hF2⟩ := hK
  obtain ⟨hbx, hfree⟩ := HX.out
  obtain ⟨b1, _⟩ := hF2.block _ hfree
  have hbx2 := b1.trans hbx
  have x1 : w2.cell? ⟨w.heap.size, 1, none⟩ = some (.string ⟨name.toArray⟩) := by rw [Lib.cell_of_heap hbx2]; rfl
  have x3 : w2.cell? ⟨w.heap.size, 3, none⟩ = some (.bool self) := by rw [Lib.cell_of_heap hbx2]; rfl
  have hol := hB2.op_len
  rw [hd] at hol
  obtain ⟨po, pcap, rfl⟩ := own_form hB2.op
  obtain ⟨_, d1, _, _, d4⟩ := hB2.cells
  obtain ⟨_, _, _, _, g4⟩ := hB2.unfrozen
  rw [hol] at d1
  have hs0 : s.start name attrs self = if U.hides name = true ∧ self = false then U.Bst.withHid (U.Bst.closeBefore ⟨s.out, s.op, s.tx, s.cnt, []⟩ name) name else U.Bst.closeBefore ⟨s.out, s.op, s.tx, s.cnt, []⟩ name := by
    unfold U.Bst.start U.Bst.start1
    rw [if_pos hd]
    rfl
  clear hbx hfree b1 hbx2
  cases hh : U.hides name with
  | false =>
    have HE := Lib.hid (show Became N bp w (mine ov pv tv opl) w2 (s.start name attrs self) by
      rw [hs0, if_neg (by rw [hh]; rintro ⟨e, _⟩; cases e)]
      exact ⟨_, _, _, _, _, hB2, HF.out.trans hF2⟩)
    rw [hh] at HH
    clear hs0 hB2 hF2 hh hd
    go_wp2_with fail
    refine (HH.out _).mono ?_
    rintro e w3 ⟨rfl, rfl⟩
    go_wp2_with fail
    refine bodyPost_ret (results_none rfl _ _ _) rfl ?_
    exact ⟨rfl, HE.out⟩
  | true =>
    rw [hh] at HH
    cases self with
    | true =>
      have HE := Lib.hid (show Became N bp w (mine ov pv tv opl) w2 (s.start name attrs true) by
        rw [hs0, if_neg (by rintro ⟨_, e⟩; cases e)]
        exact ⟨_, _, _, _, _, hB2, HF.out.trans hF2⟩)
      clear hs0 hB2 hF2 hh hd
      go_wp2_with fail
      refine (HH.out _).mono ?_
      rintro e w3 ⟨rfl, rfl⟩
      go_wp2_with fail
      refine bodyPost_ret (results_none rfl _ _ _) rfl ?_
      exact ⟨rfl, HE.out⟩
    | false =>
      obtain ⟨hB3, hF3⟩ := hB2.set_hid name
      have HE := Lib.hid (show Became N bp w (mine ov pv tv opl) (w2.setCell ⟨bp, 4, none⟩ (.string ⟨name.toArray⟩)) (s.start name attrs false) by
        rw [hs0, if_pos ⟨hh, rfl⟩]
        exact ⟨_, _, _, _, _, hB3, (HF.out.trans hF2).trans hF3⟩)
      clear hs0 hB2 hF2 hh hd hB3 hF3
      go_wp2_with fail
      refine (HH.out _).mono ?_
      rintro e w3 ⟨rfl, rfl⟩
      go_wp2_with fail
      refine bodyPost_ret (results_none rfl _ _ _) rfl ?_
      exact ⟨rfl, HE.out⟩

end Go.Proofs.YtmfkefcdddoooaaGreatDoor

namespace Go.Proofs.YtmfkefcdddoooaaGreatDoor
open Go.RowKit

/-- an append by its own run, as one step of a region that draws its order -/
theorem step_append_by {P : Program} {ops : Array Oper} {o : Oper} {a : Act} {w : World} {K : Act → World → Prop} {Q : Exit → Act → World → Prop} {E : Prop} (hgd : o.guard = none) (s x : Operand) (t : TypeId)
    (ho : o.op = .call { callee := .builtin .append, args := #[s, x], argTypes := #[t, t] }) (v u : Value) (hs : a.eval s = v) (hx : a.eval x = u) {v' : Value} {w' : World}
    (hrun : (Builtin.append_ #[t, t] o.type #[v, u]).run P w = .ok v' w') (h : K (a.put o.dst v') w') : if Region.wanted o (yielded ops a.tmps) = true then Oper.wp P o a w K Q else E := by
  rw [if_pos (by simp [Region.wanted, hgd])]
  unfold Oper.wp execOp
  simp only [ho, resolve, invoke, builtin, Sem.run_bind, Sem.run_pure, Result.andThen_ok, List.map_toArray, List.map_cons, List.map_nil, hs, hx, hrun]
  exact h
theorem att_cells_at {W : World} {N : Nat} {g o n cap : Nat} {al : List U.Att} (h : RdA W N (.slice (some ⟨g, o, none⟩) n cap) al) : ∀ (j : Nat) u, (attCells al)[j]? = some u → W.cell? ((⟨g, o, none⟩ : Addr).add j) = some u := by
  obtain ⟨ao, c, e, hc⟩ := h
  injection e with e1 e2 e3
  subst e1
  have hg : ∀ (l : List U.Att) (k : Nat) (u : Value), (attCells l)[k]? = some u → ∃ i x, l[i]? = some x ∧ ((k = i * 2 ∧ u = .string ⟨x.1.toArray⟩) ∨ (k = i * 2 + 1 ∧ u = .string ⟨x.2.toArray⟩)) := by
    intro l
    induction l with
    | nil => intro k u hu; simp [attCells] at hu
    | cons a l ih =>
      intro k u hu
      have e : attCells (a :: l) = str a.1 :: str a.2 :: attCells l := rfl
      rw [e] at hu
      match k, hu with
      | 0, hu => simp at hu; exact ⟨0, a, rfl, .inl ⟨rfl, hu.symm⟩⟩
      | 1, hu => simp at hu; exact ⟨0, a, rfl, .inr ⟨rfl, hu.symm⟩⟩
      | k + 2, hu =>
        obtain ⟨i, x, hx, h⟩ := ih k u (by simpa using hu)
        refine ⟨i + 1, x, by simpa using hx, ?_⟩
        rcases h with ⟨h1, h2⟩ | ⟨h1, h2⟩
        · exact .inl ⟨by omega, h2⟩
        · exact .inr ⟨by omega, h2⟩
  intro j u hu
  obtain ⟨i, x, hx, h⟩ := hg al j u hu
  obtain ⟨g2, o2, e4, _, c1, c2⟩ := hc i x hx
  injection e4 with e4
  injection e4 with e5 e6 _
  subst e5
  subst e6
  have ea : (⟨g, o, none⟩ : Addr).add j = ⟨g, o + j, none⟩ := by cases j <;> simp [Addr.add]
  rw [ea]
  rcases h with ⟨rfl, rfl⟩ | ⟨rfl, rfl⟩
  · exact c1
  · rw [← Nat.add_assoc]; exact c2
theorem app_atts (W : World) (N : Nat) (ao : Option Addr) (n cap : Nat) (al : List U.Att) (hA : RdA W N (.slice ao n cap) al) (hl : al.length ≤ 1048576) :
    ∃ (v' : Value) (w' : World), (Builtin.append_ #[31, 31] 31 #[.slice none 0 0, .slice ao n cap]).run Tryz.prog W = .ok v' w' ∧ w'.ownsRow W.heap.size 54 2 v' al.length (attCells al) ∧ W.grownBy w' none := by
  obtain ⟨iA, hiA, hA0, hA1, hA2⟩ := info_parts infoAttr
  have hn : n = al.length := by obtain ⟨_, _, e, _⟩ := hA; injection e
  subst hn
  cases hal : al with
  | nil =>
    refine ⟨.slice none 0 0, W, ?_, World.ownsRow_nil _ _ _ _, World.grownBy.refl _ _⟩
    cases ao with
    | none => simp [Builtin.append_, run_underlying Tryz.underlying31, sizeOf, typeInfo, hiA, Builtin.lenOf, Builtin.firstCells]
    | some a => simp [Builtin.append_, run_underlying Tryz.underlying31, sizeOf, typeInfo, hiA, Builtin.lenOf, Builtin.firstCells, loadCells, loadCellsFrom]
  | cons a r =>
    rw [← hal]
    obtain ⟨g, o, e, _⟩ : ∃ g o, ao = some ⟨g, o, none⟩ ∧ True := by
      obtain ⟨ao2, c, e, hc⟩ := hA
      injection e with e1 _ _
      subst e1
      obtain ⟨g, o, e, _⟩ := hc 0 a (by rw [hal]; rfl)
      exact ⟨g, o, e, trivial⟩
    subst e
    obtain ⟨v', w', r1, r2, r3, _⟩ := run_append_own (P := Tryz.prog) W W.heap.size 31 31 54 iA _ 2 32 Tryz.underlying31 hiA hA0 hA1 hA2 rfl (by decide) (.slice none 0 0) 0 [] (World.ownsRow_nil _ _ _ _) ⟨g, o, none⟩ al.length cap (attCells al) (attCells_length al) (att_cells_at hA)
      (by
        intro u hu
        obtain ⟨x, _, hx⟩ := List.mem_flatMap.1 hu
        rcases List.mem_cons.1 hx with rfl | hx
        · rfl
        rcases List.mem_cons.1 hx with rfl | hx
        · rfl
        cases hx) (by unfold maxLen; omega) (by omega) (Nat.le_refl _)
    rw [Nat.zero_add, List.nil_append] at r2
    exact ⟨v', w', r1, r2, r3⟩

end Go.Proofs.YtmfkefcdddoooaaGreatDoor

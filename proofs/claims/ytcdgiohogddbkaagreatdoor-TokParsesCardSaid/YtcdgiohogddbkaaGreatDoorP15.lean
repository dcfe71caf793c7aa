/- Several texts in one: RefUnesc, TagW, Place, TokW. -/
import Derived.Outline
import Derived.Laws.OwnMore
import Derived.Lib.Builder
import Derived.Test.YtcdgiohogddbkaaGreatDoorRefAt
import Derived.Test.YtcdgiohogddbkaaGreatDoorP11
import Derived.Test.YtcdgiohogddbkaaGreatDoorP03
import Derived.Test.YtcdgiohogddbkaaGreatDoorP13
import Derived.Test.YtcdgiohogddbkaaGreatDoorAtts
namespace Go.Proofs.YtcdgiohogddbkaaGreatDoor
open Go.RowKit

theorem grow_enc {T : ByteArray} {E l R : List UInt8} {n k : Nat} (h : Hid (T.data.toList ++ U.unesc l = R)) (hr : U.refAt l = some (n, k)) (hE : E = U.enc n) : Hid ((T ++ ByteArray.mk E.toArray).data.toList ++ U.unesc (l.drop k) = R) := by
  show _ = _
  rw [← h.out, U.unesc_some hr, ← hE]
  simp
theorem grow_one {T A : ByteArray} {l R : List UInt8} {b : UInt8} {r : List UInt8} (h : Hid (T.data.toList ++ U.unesc l = R)) (hr : U.refAt l = none) (hl : l = b :: r) (hA : A.data.toList = [b]) : Hid ((T ++ A).data.toList ++ U.unesc r = R) := by
  show _ = _
  rw [← h.out]
  subst hl
  rw [U.unesc_none hr, ByteArray.data_append, Array.toList_append, hA]
  simp

set_option maxHeartbeats 4000000 in
set_option maxRecDepth 1000000 in
theorem ref_unescape (s : ByteArray) (w : World) (hs : s.size ≤ 140737488351232) :
    Calls Tryz.prog 24 #[.string s] w fun e w' => e = .returned (.string ⟨(U.unesc s.data.toList).toArray⟩) ∧ Below w.heap.size w w' := by
  go_enter Tryz.func24, Tryz.ntmps24
  go_wp2_with fail
  go_loopw [0, 3] (fun v t wr => ∃ r T : ByteArray, v = .string r ∧ t = .string T ∧ Below w.heap.size w wr ∧ Hid (T.data.toList ++ U.unesc r.data.toList = U.unesc s.data.toList) ∧ T.size + r.size ≤ s.size) (fun v _ _ => strSize v)
  case atStart => exact ⟨s, ⟨#[]⟩, rfl, rfl, Below.refl _ _, rfl, by show 0 + s.size ≤ s.size; omega⟩
  case round =>
    obtain ⟨r, T, rfl, rfl, hbw, hacc, hts⟩ := hrel
    have hbs := hbw.size
    have hrl := len_list r
    by_cases hpos : 0 < r.size
    · have ra := ref_at r
      have hcons : r.data.toList = (r[0]'hpos) :: r.data.toList.drop 1 := drop_byte (k := 0) (byte_get r hpos)
      cases hr : U.refAt r.data.toList with
      | none =>
        rw [hr] at ra
        have hx1 : (r.extract 0 1).data.toList = [r[0]'hpos] := by rw [Lib.extract_data, hcons]; rfl
        have hx2 : (r.extract 1 r.size).data.toList = r.data.toList.drop 1 := by
          rw [Lib.extract_data]
          exact List.take_of_length_le (by simp)
        have HN := grow_one hacc hr hcons hx1
        rw [← hx2] at HN
        have hz1 : (T ++ r.extract 0 1).size = T.size + 1 := by rw [ByteArray.size_append, ByteArray.size_extract]; omega
        have hz2 : (r.extract 1 r.size).size = r.size - 1 := by rw [ByteArray.size_extract]; omega
        have HZ1 := Lib.hid hz1
        have HZ2 := Lib.hid hz2
        simp only [refV] at ra
        clear hx1 hx2 hr hcons hz1 hz2
        go_wp2_with fail
        refine (ra _ (by omega)).mono ?_
        rintro e w2 ⟨rfl, b2⟩
        go_wp2_with fail
        go_roundw
        case rel => exact ⟨_, _, rfl, rfl, hbw.trans (b2.mono hbs), HN, by rw [HZ1.out, HZ2.out]; omega⟩
        case measure => simp only [strSize]; rw [HZ2.out]; omega
      | some x =>
        obtain ⟨n, k⟩ := x
        rw [hr] at ra
        obtain ⟨h4, hkl, hL⟩ := U.refAt_bounds hr
        rw [hrl] at hkl
        have hn := (U.isL_iff.1 hL).1
        have hx2 : (r.extract k r.size).data.toList = r.data.toList.drop k := by
          rw [Lib.extract_data]
          exact List.take_of_length_le (by simp)
        have ub := utf_bytes n hn
        have hE := (U.enc_length n).2
        have HN0 := fun E hE => grow_enc (E := E) hacc hr hE
        rw [← hx2] at HN0
        have HN := HN0 _ rfl
        generalize U.enc n = E at *
        have zE := size_of_mk E
        have hz1 : (T ++ ByteArray.mk E.toArray).size = T.size + E.length := by rw [ByteArray.size_append, zE]
        have hz2 : (r.extract k r.size).size = r.size - k := by rw [ByteArray.size_extract]; omega
        have HZ1 := Lib.hid hz1
        have HZ2 := Lib.hid hz2
        have hk0 : ((k : Int) == 0) = false := by rw [beq_eq_false_iff_ne]; omega
        simp only [refV] at ra
        clear hx2 hr hcons hz1 hz2 HN0
        go_wp2_with fail
        refine (ra _ (by omega)).mono ?_
        rintro e w2 ⟨rfl, b2⟩
        have c2 := hbw.trans (b2.mono hbs)
        go_wp2_with fail
        refine (ub _).mono ?_
        rintro e w3 ⟨v, rfl, ho, b3⟩
        have hcv := str_of_row ho
        go_wp2_with fail
        go_roundw
        case rel => exact ⟨_, _, rfl, rfl, c2.trans (b3.mono c2.size), HN, by rw [HZ1.out, HZ2.out]; omega⟩
        case measure => simp only [strSize]; rw [HZ2.out]; omega
    · have h0 : r.data.toList = [] := List.length_eq_zero_iff.1 (by omega)
      have hfin := hacc.out
      rw [h0, U.unesc_nil, List.append_nil] at hfin
      have HF := Lib.hid hfin
      clear hfin h0
      go_wp2_with fail
      go_ret
      rw [← HF.out, mk_of_list]
      exact ⟨rfl, hbw⟩

end Go.Proofs.YtcdgiohogddbkaaGreatDoor

namespace Go.Proofs.YtcdgiohogddbkaaGreatDoor
open Go.RowKit

/-- while the tag is read: the two variables of type Token, and the attributes -/
structure TagW (w wr : World) (v : Value) (n : List UInt8) (al : List U.Att) : Prop where
  own : wr.ownsRow (w.heap.size + 2) 52 2 v al.length (attCells al)
  res : wr.heap[w.heap.size]? = some (tokBlock [])
  tag : wr.heap[w.heap.size + 1]? = some (tokBlock n)
  below : Below w.heap.size w wr
  size : w.heap.size + 2 ≤ wr.heap.size

theorem TagW.later {w wr w2 : World} {v : Value} {n : List UInt8} {al : List U.Att} (h : TagW w wr v n al) (hb : Below wr.heap.size wr w2) : TagW w w2 v n al := by
  have hs := h.size
  exact ⟨own_keep h.own hb, (hb.block _ (by omega)).trans h.res, (hb.block _ (by omega)).trans h.tag, h.below.trans (hb.mono (by omega)), Nat.le_trans hs hb.size⟩
theorem TagW.alloc {w wr : World} {v : Value} {n : List UInt8} {al : List U.Att} (h : TagW w wr v n al) (o : Obj) : TagW w (wr.alloc o) v n al :=
  h.later ((Below.refl _ _).alloc (Nat.le_refl _) _)

theorem TagW.cell {w wr : World} {v : Value} {n : List UInt8} {al : List U.Att} (h : TagW w wr v n al) : wr.cell? ⟨w.heap.size + 1, 1, none⟩ = some (.string ⟨n.toArray⟩) := by
  rw [Lib.cell_of_heap h.tag]; rfl
theorem TagW.frozen {w wr : World} {v : Value} {n : List UInt8} {al : List U.Att} (h : TagW w wr v n al) (j : Nat) : wr.frozen? ⟨w.heap.size + 1, j, none⟩ = false := Lib.frozen_of_heap h.tag j
theorem TagW.setName {w wr : World} {v : Value} {n : List UInt8} {al : List U.Att} (h : TagW w wr v n al) (n' : List UInt8) : TagW w (wr.setCell ⟨w.heap.size + 1, 1, none⟩ (.string ⟨n'.toArray⟩)) v n' al := by
  refine ⟨ownsRow_setCell_below h.own (a := ⟨w.heap.size + 1, 1, none⟩) (Nat.lt_succ_self _) _, ?_, ?_, h.below.setCell (p := ⟨w.heap.size + 1, 1, none⟩) (Nat.le_succ _) _, by simpa [World.setCell] using h.size⟩
  · rw [Below.heap_setCell _ _ _ _ (by simp)]; exact h.res
  · have := h.tag
    simp [World.setCell, Array.getElem?_modify, this, tokBlock, str]
theorem TagW.grown {w wr w2 : World} {v v2 : Value} {n : List UInt8} {al : List U.Att} (h : TagW w wr v n al) (x : U.Att) (ho : w2.ownsRow (w.heap.size + 2) 52 2 v2 (al.length + 1) (attCells al ++ [str x.1, str x.2])) (hg : wr.grownBy w2 v.ownBlock) : TagW w w2 v2 n (al ++ [x]) := by
  have hs := h.size
  have hlt : ∀ k, v.ownBlock = some k → w.heap.size + 2 ≤ k := fun k hk => (h.own.lt k hk).1
  refine ⟨?_, ?_, ?_, h.below.grown hg (by omega) (fun k hk => by have := hlt k hk; omega), Nat.le_trans hs hg.size⟩
  · rw [List.length_append, attCells_append]
    exact ho
  · exact (hg.block _ (by omega) (fun e => by have := hlt _ e.symm; omega)).trans h.res
  · exact (hg.block _ (by omega) (fun e => by have := hlt _ e.symm; omega)).trans h.tag
theorem TagW.start (w : World) : TagW w ((w.alloc (tokBlock [])).alloc (tokBlock [])) (.slice none 0 0) [] [] := by
  refine ⟨World.ownsRow_nil _ _ _ _, ?_, ?_, ((Below.refl _ w).alloc (Nat.le_refl _) _).alloc (by simp) _, by simp⟩
  · rw [Lib.alloc_old _ _ _ (by simp)]; exact heap_alloc_new w _
  · have := heap_alloc_new (w.alloc (tokBlock [])) (tokBlock [])
    simpa using this

/-! ### the attributes, of which the first ones are kept -/
structure DedW (w wr : World) (D : Nat) (v : Value) (nm : List UInt8) (al : List U.Att) (av : Value) (fs : List U.Att) : Prop where
  rowA : wr.ownsRow (w.heap.size + 2) 52 2 v al.length (attCells al)
  oldA : ∀ g, v.ownBlock = some g → g < D
  rowF : wr.ownsRow D 52 2 av fs.length (attCells fs)
  res : wr.heap[w.heap.size]? = some (tokBlock [])
  tag : wr.heap[w.heap.size + 1]? = some (.cells #[.int .i64 0, .string ⟨nm.toArray⟩, av, .bool false, .string ⟨#[]⟩] 34 (0, 0))
  below : Below w.heap.size w wr
  base : w.heap.size + 2 ≤ D
  size : D ≤ wr.heap.size
theorem DedW.later {w wr w2 : World} {D : Nat} {v av : Value} {nm : List UInt8} {al fs : List U.Att} (h : DedW w wr D v nm al av fs) (hb : Below wr.heap.size wr w2) : DedW w w2 D v nm al av fs := by
  have h1 := h.base
  have h2 := h.size
  exact ⟨own_keep h.rowA hb, h.oldA, own_keep h.rowF hb, (hb.block _ (by omega)).trans h.res, (hb.block _ (by omega)).trans h.tag, h.below.trans (hb.mono (by omega)), h1, Nat.le_trans h2 hb.size⟩
theorem DedW.alloc {w wr : World} {D : Nat} {v av : Value} {nm : List UInt8} {al fs : List U.Att} (h : DedW w wr D v nm al av fs) (o : Obj) : DedW w (wr.alloc o) D v nm al av fs :=
  h.later ((Below.refl _ _).alloc (Nat.le_refl _) _)
theorem DedW.start {w wr : World} {v : Value} {nm : List UInt8} {al : List U.Att} (h : TagW w wr v nm al) : DedW w wr wr.heap.size v nm al (.slice none 0 0) [] :=
  ⟨h.own, fun g hg => (h.own.lt g hg).2, World.ownsRow_nil _ _ _ _, h.res, h.tag, h.below, h.size, Nat.le_refl _⟩
theorem DedW.name {w wr : World} {D : Nat} {v av : Value} {nm : List UInt8} {al fs : List U.Att} (h : DedW w wr D v nm al av fs) : wr.cell? ⟨w.heap.size + 1, 1, none⟩ = some (.string ⟨nm.toArray⟩) := by rw [Lib.cell_of_heap h.tag]; rfl
theorem DedW.attrs {w wr : World} {D : Nat} {v av : Value} {nm : List UInt8} {al fs : List U.Att} (h : DedW w wr D v nm al av fs) : wr.cell? ⟨w.heap.size + 1, 2, none⟩ = some av := by rw [Lib.cell_of_heap h.tag]; rfl
theorem DedW.frozen {w wr : World} {D : Nat} {v av : Value} {nm : List UInt8} {al fs : List U.Att} (h : DedW w wr D v nm al av fs) (j : Nat) : wr.frozen? ⟨w.heap.size + 1, j, none⟩ = false := Lib.frozen_of_heap h.tag j
theorem DedW.tag_grown {w wr w2 : World} {D : Nat} {v av : Value} {nm : List UInt8} {al fs : List U.Att} (h : DedW w wr D v nm al av fs) (hg : wr.grownBy w2 av.ownBlock) : w2.heap[w.heap.size + 1]? = some (.cells #[.int .i64 0, .string ⟨nm.toArray⟩, av, .bool false, .string ⟨#[]⟩] 34 (0, 0)) := by
  have h1 := h.base
  have h2 := h.size
  exact (hg.block _ (by omega) (fun e => by have := (h.rowF.lt _ e.symm).1; omega)).trans h.tag
theorem DedW.tagCells {w wr : World} {D : Nat} {v av : Value} {nm : List UInt8} {al fs : List U.Att} (h : DedW w wr D v nm al av fs) : wr.cell? ⟨w.heap.size + 1, 0, none⟩ = some (.int .i64 0) ∧ wr.cell? ⟨w.heap.size + 1, 1, none⟩ = some (.string ⟨nm.toArray⟩) ∧ wr.cell? ⟨w.heap.size + 1, 2, none⟩ = some av ∧ wr.cell? ⟨w.heap.size + 1, 3, none⟩ = some (.bool false) ∧ wr.cell? ⟨w.heap.size + 1, 4, none⟩ = some (.string ⟨#[]⟩) := by
  refine ⟨?_, ?_, ?_, ?_, ?_⟩ <;> (rw [Lib.cell_of_heap h.tag]; rfl)
theorem DedW.resCells {w wr : World} {D : Nat} {v av : Value} {nm : List UInt8} {al fs : List U.Att} (h : DedW w wr D v nm al av fs) : wr.cell? ⟨w.heap.size, 0, none⟩ = some (.int .i64 0) ∧ wr.cell? ⟨w.heap.size, 1, none⟩ = some (.string ⟨#[]⟩) ∧ wr.cell? ⟨w.heap.size, 2, none⟩ = some (.slice none 0 0) ∧ wr.cell? ⟨w.heap.size, 3, none⟩ = some (.bool false) ∧ wr.cell? ⟨w.heap.size, 4, none⟩ = some (.string ⟨#[]⟩) := by
  have := h.res
  unfold tokBlock at this
  refine ⟨?_, ?_, ?_, ?_, ?_⟩ <;> (rw [Lib.cell_of_heap this]; rfl)
theorem DedW.resFrozen {w wr : World} {D : Nat} {v av : Value} {nm : List UInt8} {al fs : List U.Att} (h : DedW w wr D v nm al av fs) (j : Nat) : wr.frozen? ⟨w.heap.size, j, none⟩ = false := by
  have := h.res
  unfold tokBlock at this
  exact Lib.frozen_of_heap this j
/-- behind 'append', the new row laid into the token -/
theorem DedW.put {w wr w2 : World} {D : Nat} {v av v2 : Value} {nm : List UInt8} {al fs : List U.Att} (h : DedW w wr D v nm al av fs) (x : U.Att) (ho : w2.ownsRow D 52 2 v2 (fs.length + 1) (attCells fs ++ [str x.1, str x.2])) (hg : wr.grownBy w2 av.ownBlock) :
    DedW w (w2.setCell ⟨w.heap.size + 1, 2, none⟩ v2) D v nm al v2 (fs ++ [x]) := by
  have h1 := h.base
  have h2 := h.size
  have hlt : ∀ k, av.ownBlock = some k → D ≤ k := fun k hk => (h.rowF.lt k hk).1
  have hA : w2.ownsRow (w.heap.size + 2) 52 2 v al.length (attCells al) := h.rowA.kept (row := av.ownBlock) hg (by
    cases hv : v.ownBlock with
    | none => exact .inl rfl
    | some g =>
      right
      intro e
      have e1 := h.oldA g hv
      have e2 := hlt g e.symm
      omega)
  have htag : w2.heap[w.heap.size + 1]? = some (.cells #[.int .i64 0, .string ⟨nm.toArray⟩, av, .bool false, .string ⟨#[]⟩] 34 (0, 0)) :=
    (hg.block _ (by omega) (fun e => by have := hlt _ e.symm; omega)).trans h.tag
  refine ⟨ownsRow_setCell_below hA (a := ⟨w.heap.size + 1, 2, none⟩) (Nat.lt_succ_self _) _, h.oldA, ?_, ?_, ?_, (h.below.grown hg (by omega) (fun k hk => by have := hlt k hk; omega)).setCell (p := ⟨w.heap.size + 1, 2, none⟩) (Nat.le_succ _) _, h1, ?_⟩
  · rw [List.length_append, attCells_append]
    exact ownsRow_setCell_below ho (a := ⟨w.heap.size + 1, 2, none⟩) (by show w.heap.size + 1 < D; omega) _
  · rw [Below.heap_setCell _ _ _ _ (by simp)]
    exact (hg.block _ (by omega) (fun e => by have := hlt _ e.symm; omega)).trans h.res
  · simp [World.setCell, Array.getElem?_modify, htag]
  · have := hg.size
    simp [World.setCell]
    omega
/-- the token is laid into the result's variable -/
abbrev finalW (wr : World) (B : Nat) (nm : List UInt8) (av : Value) (sl : Bool) : World :=
  ((((((wr.setCell ⟨B + 1, 3, none⟩ (.bool sl)).setCell ⟨B, 0, none⟩ (.int .i64 0)).setCell ⟨B, 1, none⟩ (.string ⟨nm.toArray⟩)).setCell ⟨B, 2, none⟩ av).setCell ⟨B, 3, none⟩ (.bool sl)).setCell ⟨B, 4, none⟩ (.string ⟨#[]⟩))
theorem DedW.final {w wr : World} {D : Nat} {v av : Value} {nm : List UInt8} {al fs : List U.Att} (h : DedW w wr D v nm al av fs) (sl : Bool) :
    (finalW wr w.heap.size nm av sl).heap[w.heap.size]? = some (.cells #[.int .i64 0, .string ⟨nm.toArray⟩, av, .bool sl, .string ⟨#[]⟩] 34 (0, 0)) ∧
    (finalW wr w.heap.size nm av sl).ownsRow w.heap.size 52 2 av fs.length (attCells fs) ∧ Below w.heap.size w (finalW wr w.heap.size nm av sl) := by
  have h1 := h.base
  have hr := h.res
  refine ⟨?_, ?_, ?_⟩
  · have e : (wr.setCell ⟨w.heap.size + 1, 3, none⟩ (.bool sl)).heap[w.heap.size]? = some (tokBlock []) := by rw [Below.heap_setCell _ _ _ _ (by simp)]; exact hr
    simp [finalW, World.setCell, Array.getElem?_modify, hr, tokBlock]
  · refine own_base ?_ (show w.heap.size ≤ D by omega)
    iterate 5 refine ownsRow_setCell_below ?_ (by show w.heap.size < D; omega) _
    exact ownsRow_setCell_below h.rowF (by show w.heap.size + 1 < D; omega) _
  · exact (((((h.below.setCell (p := ⟨w.heap.size + 1, 3, none⟩) (Nat.le_succ _) _).setCell (p := ⟨w.heap.size, 0, none⟩) (Nat.le_refl _) _).setCell (p := ⟨w.heap.size, 1, none⟩) (Nat.le_refl _) _).setCell (p := ⟨w.heap.size, 2, none⟩) (Nat.le_refl _) _).setCell (p := ⟨w.heap.size, 3, none⟩) (Nat.le_refl _) _).setCell (p := ⟨w.heap.size, 4, none⟩) (Nat.le_refl _) _

/-- nothing is laid into the result's variable -/
abbrev zeroW (wr : World) (B : Nat) : World :=
  (((((wr.setCell ⟨B, 0, none⟩ (.int .i64 0)).setCell ⟨B, 1, none⟩ (.string ⟨#[]⟩)).setCell ⟨B, 2, none⟩ (.slice none 0 0)).setCell ⟨B, 3, none⟩ (.bool false)).setCell ⟨B, 4, none⟩ (.string ⟨#[]⟩))
theorem TagW.final0 {w wr : World} {v : Value} {n : List UInt8} {al : List U.Att} (h : TagW w wr v n al) :
    (zeroW wr w.heap.size).heap[w.heap.size]? = some (.cells #[.int .i64 0, .string ⟨#[]⟩, .slice none 0 0, .bool false, .string ⟨#[]⟩] 34 (0, 0)) ∧ Below w.heap.size w (zeroW wr w.heap.size) := by
  have hr := h.res
  refine ⟨by simp [zeroW, World.setCell, Array.getElem?_modify, hr, tokBlock], ?_⟩
  exact (((((h.below).setCell (p := ⟨w.heap.size, 0, none⟩) (Nat.le_refl _) _).setCell (p := ⟨w.heap.size, 1, none⟩) (Nat.le_refl _) _).setCell (p := ⟨w.heap.size, 2, none⟩) (Nat.le_refl _) _).setCell (p := ⟨w.heap.size, 3, none⟩) (Nat.le_refl _) _).setCell (p := ⟨w.heap.size, 4, none⟩) (Nat.le_refl _) _
/-- what tagAt answers -/
def tagV (L : List UInt8) (a B : Nat) (w' : World) (v : Value) : Prop := match U.runM U.st0 (L.drop a) with
  | none => v = .tuple #[.agg #[.int .i64 0, .string ⟨#[]⟩, .slice none 0 0, .bool false, .string ⟨#[]⟩], .int .i64 0, .bool false]
  | some (st, rest) => ∃ (av : Value) (p : Nat), v = .tuple #[.agg #[.int .i64 0, .string ⟨(U.low st.tname).toArray⟩, av, .bool st.slash, .string ⟨#[]⟩], .int .i64 p, .bool true] ∧ rest = L.drop p ∧ a < p ∧ p ≤ L.length ∧
    w'.ownsRow B 52 2 av (U.firsts [] st.all).length (attCells (U.firsts [] st.all))

end Go.Proofs.YtcdgiohogddbkaaGreatDoor

namespace Go.Proofs.YtcdgiohogddbkaaGreatDoor
open Go.RowKit

namespace U
theorem placeOf_some {find l : List UInt8} {k : Nat} (hf : find ≠ []) (h1 : (l.drop k).take find.length = find) (h2 : ∀ j, j < k → (l.drop j).take find.length ≠ find) : placeOf find l = some k := by
  induction l generalizing k with
  | nil =>
    simp at h1
    exact absurd h1 hf
  | cons b r ih =>
    rw [placeOf]
    cases k with
    | zero =>
      rw [List.drop_zero] at h1
      rw [if_pos h1]
    | succ k =>
      have := h2 0 (by omega)
      rw [List.drop_zero] at this
      rw [if_neg this, ih (k := k) (by simpa using h1) (fun j hj => by have := h2 (j + 1) (by omega); simpa using this)]
      rfl
theorem placeOf_none {find l : List UInt8} (hf : find ≠ []) (h2 : ∀ j, j + find.length ≤ l.length → (l.drop j).take find.length ≠ find) : placeOf find l = none := by
  induction l with
  | nil => rw [placeOf, if_neg hf]
  | cons b r ih =>
    rw [placeOf]
    have h0 : ¬ (b :: r).take find.length = find := by
      intro e
      have hl := congrArg List.length e
      rw [List.length_take] at hl
      exact h2 0 (by omega) (by rw [List.drop_zero]; exact e)
    rw [if_neg h0, ih (fun j hj => by have := h2 (j + 1) (by rw [List.length_cons]; omega); simpa using this)]
    rfl
end U

/-- the place, or -1 -/
def placeV (o : Option Nat) (a : Nat) : Value := match o with
  | some k => .int .i64 ((a : Int) + k)
  | none => .int .i64 (-1)

set_option maxHeartbeats 1000000 in
set_option maxRecDepth 100000 in
theorem place_of (s f : ByteArray) (a : Nat) (w : World) (hs : s.size ≤ 1048576) (hf : f.size ≤ 100) (hf0 : 0 < f.size) (ha : a ≤ s.size) :
    Calls Tryz.prog 26 #[.string s, .string f, .int .i64 a] w fun e w' => e = .returned (placeV (U.placeOf f.data.toList (s.data.toList.drop a)) a) ∧ w = w' := by
  have hl := len_list s
  have hfl := len_list f
  have hne : f.data.toList ≠ [] := fun e => by rw [e] at hfl; simp at hfl; omega
  go_enter Tryz.func26, Tryz.ntmps26
  go_wp2_with fail
  go_loop [7] (fun i => ∃ k : Nat, a ≤ k ∧ k ≤ s.size + 1 ∧ i = .int .i64 k ∧ Hid (∀ j, j < k - a → ((s.data.toList.drop a).drop j).take f.data.toList.length ≠ f.data.toList)) (fun i => s.size + 1 - (intOf i).toNat)
  case atStart => exact ⟨a, Nat.le_refl _, by omega, rfl, fun j hj => by omega⟩
  case round =>
    obtain ⟨k, hak, hk, rfl, hno⟩ := hrel
    by_cases hlt : k + f.size ≤ s.size
    · have hex : (s.extract k (k + f.size)).toList = ((s.data.toList.drop a).drop (k - a)).take f.data.toList.length := by
        rw [Lib.toList_data, Lib.extract_data, List.drop_drop, show a + (k - a) = k by omega, show k + f.size - k = f.size by omega, hfl]
      by_cases hit : ((s.data.toList.drop a).drop (k - a)).take f.data.toList.length = f.data.toList
      · have t1 : ((s.extract k (k + f.size)).toList == f.toList) = true := by rw [hex, hit, Lib.toList_data]; simp
        have HP := Lib.hid (U.placeOf_some hne hit hno.out)
        clear hex hit hno
        go_wp2_with fail
        go_ret
        rw [HP.out]
        have hka : (a : Int) + ((k - a : Nat) : Int) = (k : Int) := by omega
        refine ⟨?_, rfl⟩
        simp only [placeV]
        rw [hka]
        rfl
      · have t1 : ((s.extract k (k + f.size)).toList == f.toList) = false := by rw [hex, beq_eq_false_iff_ne, Lib.toList_data]; exact hit
        have HN : Hid (∀ j, j < k + 1 - a → ((s.data.toList.drop a).drop j).take f.data.toList.length ≠ f.data.toList) := by
          intro j hj
          by_cases e : j = k - a
          · subst e; exact hit
          · exact hno.out j (by omega)
        clear hex hit hno
        go_wp2_with fail
        go_round
        case rel => exact ⟨k + 1, by omega, by omega, by go_num, HN⟩
        case measure => simp [intOf]; omega
    · have HP := Lib.hid (U.placeOf_none (l := s.data.toList.drop a) hne (fun j hj => hno.out j (by rw [List.length_drop] at hj; omega)))
      clear hno
      go_wp2_with fail
      go_ret
      rw [HP.out]
      exact ⟨rfl, rfl⟩

end Go.Proofs.YtcdgiohogddbkaaGreatDoor

namespace Go.Proofs.YtcdgiohogddbkaaGreatDoor
open Go.RowKit

/-- while a text is read: the text gathered (block bt), the tokens (block bo) -/
structure TokW (w z wr : World) (B bt bo : Nat) (v : Value) (txt : List UInt8) (l : List (U.Tok × Value)) : Prop where
  text : wr.heap[bt]? = some (.cells #[.string ⟨txt.toArray⟩] 9 (0, 0))
  out : wr.heap[bo]? = some (.cells #[v] 22 (0, 0))
  row : wr.ownsRow B 34 5 v l.length (tokCells l)
  atts : ∀ x ∈ l, wr.ownsRow w.heap.size 52 2 x.2 x.1.attrs.length (attCells x.1.attrs)
  below : Below w.heap.size w wr
  bt0 : w.heap.size ≤ bt
  bo0 : w.heap.size ≤ bo
  btB : bt < B
  boB : bo < B
  apart : bt ≠ bo
  size : B ≤ wr.heap.size
  fix : ∀ k, k < B → k ≠ bt → k ≠ bo → wr.heap[k]? = z.heap[k]?
theorem TokW.later {w z wr w2 : World} {B bt bo : Nat} {v : Value} {txt : List UInt8} {l : List (U.Tok × Value)} (h : TokW w z wr B bt bo v txt l) (hb : Below wr.heap.size wr w2) : TokW w z w2 B bt bo v txt l := by
  have h1 := h.btB
  have h2 := h.boB
  have h3 := h.size
  have h4 := h.bt0
  exact ⟨(hb.block _ (by omega)).trans h.text, (hb.block _ (by omega)).trans h.out, own_keep h.row hb, fun x hx => own_keep (h.atts x hx) hb, h.below.trans (hb.mono (by omega)), h.bt0, h.bo0, h.btB, h.boB, h.apart, Nat.le_trans h3 hb.size, fun k hk h5 h6 => (hb.block k (by omega)).trans (h.fix k hk h5 h6)⟩
theorem TokW.alloc {w z wr : World} {B bt bo : Nat} {v : Value} {txt : List UInt8} {l : List (U.Tok × Value)} (h : TokW w z wr B bt bo v txt l) (o : Obj) : TokW w z (wr.alloc o) B bt bo v txt l :=
  h.later ((Below.refl _ _).alloc (Nat.le_refl _) _)
/-- the text is written -/
theorem TokW.setText {w z wr : World} {B bt bo : Nat} {v : Value} {txt : List UInt8} {l : List (U.Tok × Value)} (h : TokW w z wr B bt bo v txt l) (txt' : List UInt8) : TokW w z (wr.setCell ⟨bt, 0, none⟩ (.string ⟨txt'.toArray⟩)) B bt bo v txt' l := by
  have h1 := h.btB
  have h2 := h.boB
  have ht := h.text
  have hne := h.apart
  refine ⟨?_, ?_, ownsRow_setCell_below h.row (a := ⟨bt, 0, none⟩) h1 _, fun x hx => ?_, h.below.setCell (p := ⟨bt, 0, none⟩) h.bt0 _, h.bt0, h.bo0, h1, h2, hne, by simpa [World.setCell] using h.size, fun k hk h5 h6 => (Below.heap_setCell _ _ _ _ h5).trans (h.fix k hk h5 h6)⟩
  · simp [World.setCell, Array.getElem?_modify, ht]
  · rw [Below.heap_setCell _ _ _ _ (fun e => hne e.symm)]; exact h.out
  · refine (h.atts x hx).kept (row := some bt) ⟨rfl, rfl, rfl, by simp [World.setCell], fun k _ hk => Below.heap_setCell _ _ _ _ (fun e => hk (by simp [e]))⟩ ?_
    rcases (h.atts x hx).2 with ⟨e, _⟩ | ⟨g, cap, cur, e, _, hg, _⟩
    · rw [e]; exact .inl rfl
    · rw [e]
      right
      intro e0
      have : g = bt := by simpa [Value.ownBlock] using e0
      subst this
      rw [ht] at hg
      injection hg with hg
      injection hg with _ h2 _
      exact absurd h2 (by decide)
/-- a token more, the new row laid into its variable -/
theorem TokW.put {w z wr w2 : World} {B bt bo : Nat} {v v2 : Value} {txt : List UInt8} {l : List (U.Tok × Value)} (h : TokW w z wr B bt bo v txt l) (x : U.Tok) (av : Value) (hx : wr.ownsRow w.heap.size 52 2 av x.attrs.length (attCells x.attrs))
    (ho : w2.ownsRow B 34 5 v2 (l.length + 1) (tokCells l ++ [.int .i64 (x.kind : Nat), .string ⟨x.name.toArray⟩, av, .bool x.self, .string ⟨x.text.toArray⟩])) (hg : wr.grownBy w2 v.ownBlock) :
    TokW w z (w2.setCell ⟨bo, 0, none⟩ v2) B bt bo v2 txt (l ++ [(x, av)]) := by
  have h1 := h.btB
  have h2 := h.boB
  have h3 := h.size
  have h4 := h.bo0
  have hlt : ∀ k, v.ownBlock = some k → B ≤ k := fun k hk => (h.row.lt k hk).1
  have hout : w2.heap[bo]? = some (.cells #[v] 22 (0, 0)) := (hg.block _ (by omega) (fun e => by have := hlt _ e.symm; omega)).trans h.out
  have htext : w2.heap[bt]? = some (.cells #[.string ⟨txt.toArray⟩] 9 (0, 0)) := (hg.block _ (by omega) (fun e => by have := hlt _ e.symm; omega)).trans h.text
  have hatt : ∀ (y : Value) (al : List U.Att), wr.ownsRow w.heap.size 52 2 y al.length (attCells al) → (w2.setCell ⟨bo, 0, none⟩ v2).ownsRow w.heap.size 52 2 y al.length (attCells al) := by
    intro y al hy
    have hy2 : w2.ownsRow w.heap.size 52 2 y al.length (attCells al) := hy.kept (row := v.ownBlock) hg (own_apart hy h.row (by decide))
    refine hy2.kept (row := some bo) ⟨rfl, rfl, rfl, by simp [World.setCell], fun k _ hk => Below.heap_setCell _ _ _ _ (fun e => hk (by simp [e]))⟩ ?_
    rcases hy2.2 with ⟨e, _⟩ | ⟨g, cap, cur, e, _, hg', _⟩
    · rw [e]; exact .inl rfl
    · rw [e]
      right
      intro e0
      have : g = bo := by simpa [Value.ownBlock] using e0
      subst this
      rw [hout] at hg'
      injection hg' with hg'
      injection hg' with _ h5 _
      exact absurd h5 (by decide)
  refine ⟨?_, ?_, ?_, ?_, ((h.below.grown hg (by omega) (fun k hk => by have := hlt k hk; omega)).setCell (p := ⟨bo, 0, none⟩) h.bo0 _), h.bt0, h.bo0, h1, h2, h.apart, ?_, fun k hk h5 h6 => (Below.heap_setCell _ _ _ _ h6).trans ((hg.block k (by omega) (fun e => by have := hlt _ e.symm; omega)).trans (h.fix k hk h5 h6))⟩
  · rw [Below.heap_setCell _ _ _ _ (fun e => h.apart e)]; exact htext
  · simp [World.setCell, Array.getElem?_modify, hout]
  · rw [List.length_append, tokCells_append]
    exact ownsRow_setCell_below ho (a := ⟨bo, 0, none⟩) h2 _
  · intro y hy
    rcases List.mem_append.1 hy with hy | hy
    · exact hatt _ _ (h.atts y hy)
    · obtain rfl := List.mem_singleton.1 hy
      exact hatt _ _ hx
  · have := hg.size
    simp [World.setCell]
    omega

end Go.Proofs.YtcdgiohogddbkaaGreatDoor

/- Several texts in one: IndexAny2, Parser, Steps. -/
import Derived.Test.YtankcnikebcpkaaGreatDoorProg
import Derived.WalkKit
import Derived.BigCall
import Derived.Below
import Derived.OwnWalk
import Derived.Lib.FrozenHead2
import Derived.Outline
import Derived.Deep.RegionLaw
import Derived.Test.YtankcnikebcpkaaGreatDoorIndexAny
import Derived.Test.YtankcnikebcpkaaGreatDoorP05
namespace Go.Proofs.YtankcnikebcpkaaGreatDoor
open Go.RowKit

theorem no_any_more {s chars : List UInt8} {i n : Nat} (h : Lib.NoAny s chars i) (h2 : ∀ (j : Nat) c, i ≤ j → j < i + n → s[j]? = some c → chars.contains c = false) : Lib.NoAny s chars (i + n) := by
  intro j b hj hb
  by_cases e : j < i
  · exact h j b e hb
  · exact h2 j b (by omega) hj hb

set_option maxHeartbeats 8000000 in
set_option maxRecDepth 1000000 in
theorem index_any_short (s chars : ByteArray) (w : World) (h5 : 5 ≤ chars.size) (hcs : chars.size ≤ 100) (h8 : s.size ≤ 8) (ha : ∀ b ∈ chars.data.toList, b.toNat < 128) :
    Calls Tryz.prog 80 #[.string s, .string chars] w fun e w' => e = .returned (.int .i64 (Lib.indexAny s.data.toList chars.data.toList)) ∧ Below w.heap.size w w' := by
  have hemp : chars.toList.isEmpty = false := by
    rw [Lib.toList_data]
    cases h : chars.data.toList with
    | nil => have := Lib.size_eq chars; rw [h, List.length_nil] at this; omega
    | cons _ _ => rfl
  have hn1 : ((chars.size : Int) == 1) = false := beq_eq_false_iff_ne.2 (by omega)
  have h8z : decide ((8 : Int) < (s.size : Int)) = false := decide_eq_false (by omega)
  have HA := Lib.hid ha
  clear ha
  go_enter Tryz.func80, Tryz.ntmps80
  go_wp2_with (refine (Tryz.strings_shouldUseASCIISet _ _).mono ?_; rintro e w' ⟨rfl, rfl⟩; rw [h8z])
  go_loopw [4] (fun v wr => ∃ pos : Nat, v = .int .i64 0 ∧ wr.heap[w'.heap.size]? = some (.stringIter s pos) ∧ pos ≤ s.size ∧ Below w'.heap.size w' wr ∧ Hid (Lib.NoAny s.data.toList chars.data.toList pos)) (fun _ wr => s.size - wr.iterPos w'.heap.size)
  case atStart => exact ⟨0, rfl, World.iter_heap _ _ _, Nat.zero_le _, (Below.refl _ _).alloc (Nat.le_refl _) _, Lib.NoAny.zero _ _⟩
  case round =>
    obtain ⟨pos, rfl, hit, hp, hbw, hno⟩ := hrel
    have hlk := iter_lt hit
    by_cases hlt : pos < s.size
    · have hxl := byte_get s hlt
      by_cases hb : (s[pos]'hlt).toNat < 128
      · have hnx : ∀ ty, (Instr.next (.pointer (some ⟨w'.heap.size, 0, none⟩)) true ty).run Tryz.prog wr = _ := fun ty => Lib.run_next_ascii_at wr w'.heap.size s pos ty hit hlt hb
        have hit2 := Lib.iterAt_heap wr w'.heap.size s pos (pos + 1) hit
        have hbw2 := Lib.below_iterAt hbw (k := w'.heap.size) (Nat.le_refl _) s (pos + 1)
        have hIR := fun w2 => Tryz.strings_IndexRune_ascii chars ((s[pos]'hlt).toNat : Int) w2 (by omega) (by omega)
        have hbk : (((s[pos]'hlt).toNat : Int)).toNat.toUInt8 = s[pos]'hlt := by simp
        rw [hbk] at hIR
        have hcon := Lib.contains_iff_indexByte chars.data.toList (s[pos]'hlt)
        cases hin : chars.data.toList.contains (s[pos]'hlt) with
        | false =>
          rw [hin] at hcon
          have hneg : ¬ ((0 : Int) ≤ Lib.indexByte chars.data.toList (s[pos]'hlt)) := of_decide_eq_false hcon.symm
          have HN := Lib.hid (hno.out.succ hxl hin)
          clear hcon hno hxl
          generalize Lib.indexByte chars.data.toList (s[pos]'hlt) = ix at *
          go_wp2_with (refine (hIR _).mono ?_; rintro e w2 ⟨rfl, rfl⟩)
          go_roundw
          case rel => exact ⟨pos + 1, rfl, hit2, by omega, hbw2, HN.out⟩
          case measure => simp only [World.iterPos, hit, hit2]; omega
        | true =>
          rw [hin] at hcon
          have hge : (0 : Int) ≤ Lib.indexByte chars.data.toList (s[pos]'hlt) := of_decide_eq_true hcon.symm
          have HN := Lib.hid (Lib.indexAny_hit hno.out hxl hin)
          clear hcon hno hxl
          generalize Lib.indexByte chars.data.toList (s[pos]'hlt) = ix at *
          go_wp2_with (refine (hIR _).mono ?_; rintro e w2 ⟨rfl, rfl⟩)
          go_ret
          exact ⟨by rw [HN.out]; rfl, hbw2⟩
      · have hnx : ∀ ty, (Instr.next (.pointer (some ⟨w'.heap.size, 0, none⟩)) true ty).run Tryz.prog wr = _ := fun ty => Lib.run_next_any_at wr w'.heap.size s pos ty hit hlt
        have hd := U.decode_eq s pos hlt
        have hdr := drop_byte hxl
        obtain ⟨g1, g2, g3⟩ := U.dec_high hdr (by omega)
        have hne : s.data.toList.drop pos ≠ [] := by rw [hdr]; simp
        have hw := U.dec_width _ hne
        rw [← hd] at g1 g2 g3 hw
        have hwl : pos + (Utf8.decode s pos).2 ≤ s.size := by
          have := hw.2.2
          simp at this
          omega
        have HN := Lib.hid (no_any_more (n := (Utf8.decode s pos).2) hno.out (fun j c h1 h2 h3 => asc_contains HA.out (g3 (j - pos) c (by omega) (by rw [List.getElem?_drop, show pos + (j - pos) = j by omega]; exact h3))))
        have hw1 := hw.1
        clear hd hdr g3 hne hw hno hxl
        generalize Utf8.decode s pos = d at *
        obtain ⟨c, n⟩ := d
        simp only at *
        have hit2 := Lib.iterAt_heap wr w'.heap.size s pos (pos + n) hit
        have hbw2 := Lib.below_iterAt hbw (k := w'.heap.size) (Nat.le_refl _) s (pos + n)
        have hIR : ∀ w2, Calls Tryz.prog 97 #[.string chars, .int .i32 c] w2 fun e w3 => e = .returned (.int .i64 (-1)) ∧ Below w2.heap.size w2 w3 := by
          intro w2
          by_cases hc : c = 65533
          · subst hc; exact index_rune_bad chars w2 HA.out
          · exact index_rune_high chars c w2 g1 g2 hc h5 hcs HA.out
        clear g1 g2
        have hz2 := Lib.iterAt_size wr w'.heap.size s (pos + n)
        go_wp2_with (refine (hIR _).mono ?_; rintro e w2 ⟨rfl, b2⟩)
        have hit3 := (b2.block _ (by rw [hz2]; exact hlk)).trans hit2
        have hbw3 := hbw2.trans (b2.mono (by rw [hz2]; omega))
        go_roundw
        case rel => exact ⟨pos + n, rfl, hit3, by omega, hbw3, HN.out⟩
        case measure => simp only [World.iterPos, hit, hit3]; omega
    · have hnx : ∀ ty, (Instr.next (.pointer (some ⟨w'.heap.size, 0, none⟩)) true ty).run Tryz.prog wr = _ := fun ty => Lib.run_next_end_at wr w'.heap.size s pos ty hit hlt
      obtain rfl : pos = s.size := by omega
      have HN := Lib.hid (Lib.indexAny_none (by rw [← Lib.size_eq]; exact hno.out))
      clear hno
      go_wp2_with fail
      go_ret
      exact ⟨by rw [HN.out]; rfl, hbw⟩

theorem index_any (s chars : ByteArray) (w : World) (h5 : 5 ≤ chars.size) (hcs : chars.size ≤ 100) (hs : s.size ≤ 1048576) (ha : ∀ b ∈ chars.data.toList, b.toNat < 128) :
    Calls Tryz.prog 80 #[.string s, .string chars] w fun e w' => e = .returned (.int .i64 (Lib.indexAny s.data.toList chars.data.toList)) ∧ Below w.heap.size w w' := by
  rcases Nat.lt_or_ge 8 s.size with h8 | h8
  · refine (Tryz.strings_IndexAny_long (zero_of_info (n := 256) (by kernel_rfl)).1 s chars w (by omega) h8 (by omega) (by omega) (fun j b hb => ha b (List.mem_of_getElem? hb))).mono ?_
    rintro e w' ⟨rfl, rfl⟩
    exact ⟨rfl, ((Below.refl _ _).alloc (Nat.le_refl _) _).alloc (by simp) _⟩
  · exact index_any_short s chars w h5 hcs h8 ha

end Go.Proofs.YtankcnikebcpkaaGreatDoor

namespace Go.Proofs.YtankcnikebcpkaaGreatDoor
open Go.RowKit

/-- the parser's block: what is not read yet, and the slice of tokens -/
def parBlock (r : ByteArray) (v : Value) : Obj := .cells #[.string r, v] 62 (0, 0)
theorem grown_trans {a b c : World} {row : Option Nat} (h1 : a.grownBy b row) (h2 : b.grownBy c row) : a.grownBy c row :=
  ⟨h2.os.trans h1.os, h2.tape.trans h1.tape, h2.output.trans h1.output, Nat.le_trans h1.size h2.size, fun k hk hne => (h2.block k (Nat.lt_of_lt_of_le hk h1.size) hne).trans (h1.block k hk hne)⟩
theorem grown_below {w w' : World} (hb : Below w.heap.size w w') (row : Option Nat) : w.grownBy w' row :=
  ⟨hb.os, hb.tape, hb.output, hb.size, fun k hk _ => hb.block k hk⟩
/-- from world z to world w nothing old but the parser's block has changed -/
structure Reads (z w : World) (bp : Nat) (r : ByteArray) (v : Value) : Prop where
  par : w.heap[bp]? = some (parBlock r v)
  grown : z.grownBy w (some bp)
theorem Reads.start {w : World} {bp : Nat} {r : ByteArray} {v : Value} (h : w.heap[bp]? = some (parBlock r v)) : Reads w w bp r v := ⟨h, World.grownBy.refl _ _⟩
theorem lt_of_heap {w : World} {b : Nat} {o : Obj} (h : w.heap[b]? = some o) : b < w.heap.size := (Array.getElem?_eq_some_iff.1 h).1
theorem Reads.later {z w w2 : World} {bp : Nat} {r : ByteArray} {v : Value} (h : Reads z w bp r v) (hb : Below w.heap.size w w2) : Reads z w2 bp r v :=
  ⟨(hb.block _ (lt_of_heap h.par)).trans h.par, grown_trans h.grown (grown_below hb _)⟩
theorem Reads.trans {z w w2 : World} {bp : Nat} {r r2 : ByteArray} {v v2 : Value} (h : Reads z w bp r v) (h2 : Reads w w2 bp r2 v2) : Reads z w2 bp r2 v2 := ⟨h2.par, grown_trans h.grown h2.grown⟩
theorem Reads.alloc {z w : World} {bp : Nat} {r : ByteArray} {v : Value} (h : Reads z w bp r v) (o : Obj) : Reads z (w.alloc o) bp r v := h.later ((Below.refl _ _).alloc (Nat.le_refl _) _)
theorem Reads.box {z w : World} {bp k : Nat} {r : ByteArray} {v : Value} {o : Obj} (h : Reads z w bp r v) (hk : z.heap[k]? = some o) (hne : k ≠ bp) : w.heap[k]? = some o := (h.grown.block k (lt_of_heap hk) (by simpa using hne)).trans hk
theorem box_below {z w : World} {k : Nat} {o : Obj} (hk : z.heap[k]? = some o) (hb : Below z.heap.size z w) : w.heap[k]? = some o := (hb.block k (lt_of_heap hk)).trans hk
/-- a block of the call's own is written -/
theorem Reads.other {z w : World} {bp k : Nat} {r : ByteArray} {v : Value} (h : Reads z w bp r v) (hz : z.heap.size ≤ k) (hne : k ≠ bp) (o : Nat) (u : Value) : Reads z (w.setCell ⟨k, o, none⟩ u) bp r v := by
  refine ⟨(Below.heap_setCell _ _ _ _ (fun e => hne e.symm)).trans h.par, ?_⟩
  have hg := h.grown
  exact ⟨hg.os, hg.tape, hg.output, by simpa [World.setCell] using hg.size, fun j hj hj2 => (Below.heap_setCell _ _ _ _ (by show j ≠ k; omega)).trans (hg.block j hj hj2)⟩
theorem par_cells {w : World} {bp : Nat} {r : ByteArray} {v : Value} (h : w.heap[bp]? = some (parBlock r v)) : w.cell? ⟨bp, 0, none⟩ = some (.string r) ∧ w.cell? ⟨bp, 1, none⟩ = some v ∧ w.frozen? ⟨bp, 0, none⟩ = false ∧ w.frozen? ⟨bp, 1, none⟩ = false := by
  unfold parBlock at h
  exact ⟨by rw [Lib.cell_of_heap h]; rfl, by rw [Lib.cell_of_heap h]; rfl, Lib.frozen_of_heap h 0, Lib.frozen_of_heap h 1⟩
theorem grown_setCell (w : World) (b o : Nat) (v : Value) : w.grownBy (w.setCell ⟨b, o, none⟩ v) (some b) :=
  ⟨rfl, rfl, rfl, by simp [World.setCell], fun k _ hk => Below.heap_setCell _ _ _ _ (fun e => hk (by simp [e]))⟩
theorem Reads.setRest {z w : World} {bp : Nat} {r : ByteArray} {v : Value} (h : Reads z w bp r v) (r' : ByteArray) : Reads z (w.setCell ⟨bp, 0, none⟩ (.string r')) bp r' v := by
  have hp := h.par
  unfold parBlock at hp
  refine ⟨?_, grown_trans h.grown (grown_setCell _ _ _ _)⟩
  simp [World.setCell, Array.getElem?_modify, hp, parBlock]

set_option maxHeartbeats 1000000 in
set_option maxRecDepth 100000 in
theorem take_walk (w : World) (bp n : Nat) (r : ByteArray) (v : Value) (h : w.heap[bp]? = some (parBlock r v)) (hn : n ≤ r.size) :
    Calls Tryz.prog 36 #[.pointer (some ⟨bp, 0, none⟩), .int .i64 n] w fun e w' => e = .returned (.string (r.extract 0 n)) ∧ Reads w w' bp (r.extract n r.size) v := by
  obtain ⟨c0, c1, f0, f1⟩ := par_cells h
  have HR := (Reads.start h).setRest (r.extract n r.size)
  go_enter Tryz.func36, Tryz.ntmps36
  go_wp2_with fail
  go_ret
  exact ⟨rfl, HR⟩

end Go.Proofs.YtankcnikebcpkaaGreatDoor

namespace Go.Proofs.YtankcnikebcpkaaGreatDoor
open Go.RowKit

set_option maxHeartbeats 4000000 in
set_option maxRecDepth 1000000 in
theorem step_call1 (f : FuncId) {ops : Array Oper} {o : Oper} {a : Act} {w : World} {K : Act → World → Prop} {Q : Exit → Act → World → Prop} {E : Prop} (hg : o.guard = none) (x : Tmp) (ty : Array TypeId)
    (ho : o.op = Op.call { callee := Callee.value (Operand.func f), args := #[.tmp x], argTypes := ty }) (u : Value) (hx : a.eval (.tmp x) = u) (hf : ∀ args w, (callFunc f args).run Tryz.prog w = .ok (.enter f args) w)
    (h : Calls Tryz.prog f #[u] w fun e w' => ∃ r, e = .returned r ∧ K (a.put o.dst r) w') :
    if Region.wanted o (yielded ops a.tmps) = true then Oper.wp Tryz.prog o a w K Q else E := by
  have hw : Region.wanted o (yielded ops a.tmps) = true := by simp [Region.wanted, hg]
  rw [if_pos hw]
  obtain ⟨dst, op, type, pos, after, guard⟩ := o
  simp only at ho hg h ⊢
  subst ho
  subst hg
  unfold Oper.wp execOp
  go_simp
  unfold Act.eval at hx
  simp only [Array.getD_eq_getD_getElem?] at hx
  rw [hx]
  refine h.mono ?_
  rintro e w' ⟨r, rfl, hk⟩
  exact hk

set_option maxHeartbeats 4000000 in
set_option maxRecDepth 1000000 in
theorem step_call2 (f : FuncId) {ops : Array Oper} {o : Oper} {a : Act} {w : World} {K : Act → World → Prop} {Q : Exit → Act → World → Prop} {E : Prop} (hg : o.guard = none) (x y : Tmp) (ty : Array TypeId)
    (ho : o.op = Op.call { callee := Callee.value (Operand.func f), args := #[.tmp x, .tmp y], argTypes := ty }) (u v : Value) (hx : a.eval (.tmp x) = u) (hy : a.eval (.tmp y) = v) (hf : ∀ args w, (callFunc f args).run Tryz.prog w = .ok (.enter f args) w)
    (h : Calls Tryz.prog f #[u, v] w fun e w' => ∃ r, e = .returned r ∧ K (a.put o.dst r) w') :
    if Region.wanted o (yielded ops a.tmps) = true then Oper.wp Tryz.prog o a w K Q else E := by
  have hw : Region.wanted o (yielded ops a.tmps) = true := by simp [Region.wanted, hg]
  rw [if_pos hw]
  obtain ⟨dst, op, type, pos, after, guard⟩ := o
  simp only at ho hg h ⊢
  subst ho
  subst hg
  unfold Oper.wp execOp
  go_simp
  unfold Act.eval at hx hy
  simp only [Array.getD_eq_getD_getElem?] at hx hy
  rw [hx, hy]
  refine h.mono ?_
  rintro e w' ⟨r, rfl, hk⟩
  exact hk

end Go.Proofs.YtankcnikebcpkaaGreatDoor

/- Several texts in one: IndexAny2, Parser, Steps, Until. -/
import Derived.Test.YtfockedeikdbjaaGreatDoorProg
import Derived.WalkKit
import Derived.BigCall
import Derived.Below
import Derived.OwnWalk
import Derived.Lib.FrozenHead2
import Derived.Outline
import Derived.Deep.RegionLaw
import Derived.Test.YtfockedeikdbjaaGreatDoorIndexAny
import Derived.Test.YtfockedeikdbjaaGreatDoorP05
import Derived.Test.YtfockedeikdbjaaGreatDoorP01
namespace Go.Proofs.YtfockedeikdbjaaGreatDoor
open Go.RowKit

theorem no_any_more {s chars : List UInt8} {i n : Nat} (h : Lib.NoAny s chars i) (h2 : ∀ (j : Nat) c, i ≤ j → j < i + n → s[j]? = some c → chars.contains c = false) : Lib.NoAny s chars (i + n) := by
  intro j b hj hb
  by_cases e : j < i
  · exact h j b e hb
  · exact h2 j b (by omega) hj hb

set_option maxHeartbeats 8000000 in
set_option maxRecDepth 1000000 in
theorem index_any_short (s chars : ByteArray) (w : World) (h5 : 5 ≤ chars.size) (hcs : chars.size ≤ 100) (h8 : s.size ≤ 8) (ha : ∀ b ∈ chars.data.toList, b.toNat < 128) :
    Calls Tryz.prog 65 #[.string s, .string chars] w fun e w' => e = .returned (.int .i64 (Lib.indexAny s.data.toList chars.data.toList)) ∧ Below w.heap.size w w' := by
  have hemp : chars.toList.isEmpty = false := by
    rw [Lib.toList_data]
    cases h : chars.data.toList with
    | nil => have := Lib.size_eq chars; rw [h, List.length_nil] at this; omega
    | cons _ _ => rfl
  have hn1 : ((chars.size : Int) == 1) = false := beq_eq_false_iff_ne.2 (by omega)
  have h8z : decide ((8 : Int) < (s.size : Int)) = false := decide_eq_false (by omega)
  have HA := Lib.hid ha
  clear ha
  go_enter Tryz.func65, Tryz.ntmps65
  go_wp2_with (refine (Tryz.strings_shouldUseASCIISet _ _).mono ?_; rintro e w' ⟨rfl, rfl⟩; rw [h8z])
  go_loopw [4] (fun v wr => ∃ pos : Nat, v = .int .i64 0 ∧ wr.heap[w'.heap.size]? = some (.stringIter s pos) ∧ pos ≤ s.size ∧ Below w'.heap.size w' wr ∧ Hid (Lib.NoAny s.data.toList chars.data.toList pos)) (fun _ wr => s.size - wr.iterPos w'.heap.size)
  case atStart => exact ⟨0, rfl, World.iter_heap _ _ _, Nat.zero_le _, (Below.refl _ _).alloc (Nat.le_refl _) _, Lib.NoAny.zero _ _⟩
  case round =>
    obtain ⟨pos, rfl, hit, hp, hbw, hno⟩ := hrel
    have hlk := iter_lt hit
    by_cases hlt : pos < s.size
    · have hxl := byte_get s hlt
      by_cases hb : (s[pos]'hlt).toNat < 128
      · have hnx : ∀ ty, (Instr.next (.pointer (some ⟨w'.heap.size, 0, none⟩)) true ty).run Tryz.prog wr = _ := fun ty => Lib.run_next_ascii_at wr w'.heap.size s pos ty hit hlt hb
        have hit2 := Lib.iterAt_heap wr w'.heap.size s pos (pos + 1) hit
        have hbw2 := Lib.below_iterAt hbw (k := w'.heap.size) (Nat.le_refl _) s (pos + 1)
        have hIR := fun w2 => Tryz.strings_IndexRune_ascii chars ((s[pos]'hlt).toNat : Int) w2 (by omega) (by omega)
        have hbk : (((s[pos]'hlt).toNat : Int)).toNat.toUInt8 = s[pos]'hlt := by simp
        rw [hbk] at hIR
        have hcon := Lib.contains_iff_indexByte chars.data.toList (s[pos]'hlt)
        cases hin : chars.data.toList.contains (s[pos]'hlt) with
        | false =>
          rw [hin] at hcon
          have hneg : ¬ ((0 : Int) ≤ Lib.indexByte chars.data.toList (s[pos]'hlt)) := of_decide_eq_false hcon.symm
          have HN := Lib.hid (hno.out.succ hxl hin)
          clear hcon hno hxl
          generalize Lib.indexByte chars.data.toList (s[pos]'hlt) = ix at *
          go_wp2_with (refine (hIR _).mono ?_; rintro e w2 ⟨rfl, rfl⟩)
          go_roundw
          case rel => exact ⟨pos + 1, rfl, hit2, by omega, hbw2, HN.out⟩
          case measure => simp only [World.iterPos, hit, hit2]; omega
        | true =>
          rw [hin] at hcon
          have hge : (0 : Int) ≤ Lib.indexByte chars.data.toList (s[pos]'hlt) := of_decide_eq_true hcon.symm
          have HN := Lib.hid (Lib.indexAny_hit hno.out hxl hin)
          clear hcon hno hxl
          generalize Lib.indexByte chars.data.toList (s[pos]'hlt) = ix at *
          go_wp2_with (refine (hIR _).mono ?_; rintro e w2 ⟨rfl, rfl⟩)
          go_ret
          exact ⟨by rw [HN.out]; rfl, hbw2⟩
      · have hnx : ∀ ty, (Instr.next (.pointer (some ⟨w'.heap.size, 0, none⟩)) true ty).run Tryz.prog wr = _ := fun ty => Lib.run_next_any_at wr w'.heap.size s pos ty hit hlt
        have hd := U.decode_eq s pos hlt
        have hdr := drop_byte hxl
        obtain ⟨g1, g2, g3⟩ := U.dec_high hdr (by omega)
        have hne : s.data.toList.drop pos ≠ [] := by rw [hdr]; simp
        have hw := U.dec_width _ hne
        rw [← hd] at g1 g2 g3 hw
        have hwl : pos + (Utf8.decode s pos).2 ≤ s.size := by
          have := hw.2.2
          simp at this
          omega
        have HN := Lib.hid (no_any_more (n := (Utf8.decode s pos).2) hno.out (fun j c h1 h2 h3 => asc_contains HA.out (g3 (j - pos) c (by omega) (by rw [List.getElem?_drop, show pos + (j - pos) = j by omega]; exact h3))))
        have hw1 := hw.1
        clear hd hdr g3 hne hw hno hxl
        generalize Utf8.decode s pos = d at *
        obtain ⟨c, n⟩ := d
        simp only at *
        have hit2 := Lib.iterAt_heap wr w'.heap.size s pos (pos + n) hit
        have hbw2 := Lib.below_iterAt hbw (k := w'.heap.size) (Nat.le_refl _) s (pos + n)
        have hIR : ∀ w2, Calls Tryz.prog 76 #[.string chars, .int .i32 c] w2 fun e w3 => e = .returned (.int .i64 (-1)) ∧ Below w2.heap.size w2 w3 := by
          intro w2
          by_cases hc : c = 65533
          · subst hc; exact index_rune_bad chars w2 HA.out
          · exact index_rune_high chars c w2 g1 g2 hc h5 hcs HA.out
        clear g1 g2
        have hz2 := Lib.iterAt_size wr w'.heap.size s (pos + n)
        go_wp2_with (refine (hIR _).mono ?_; rintro e w2 ⟨rfl, b2⟩)
        have hit3 := (b2.block _ (by rw [hz2]; exact hlk)).trans hit2
        have hbw3 := hbw2.trans (b2.mono (by rw [hz2]; omega))
        go_roundw
        case rel => exact ⟨pos + n, rfl, hit3, by omega, hbw3, HN.out⟩
        case measure => simp only [World.iterPos, hit, hit3]; omega
    · have hnx : ∀ ty, (Instr.next (.pointer (some ⟨w'.heap.size, 0, none⟩)) true ty).run Tryz.prog wr = _ := fun ty => Lib.run_next_end_at wr w'.heap.size s pos ty hit hlt
      obtain rfl : pos = s.size := by omega
      have HN := Lib.hid (Lib.indexAny_none (by rw [← Lib.size_eq]; exact hno.out))
      clear hno
      go_wp2_with fail
      go_ret
      exact ⟨by rw [HN.out]; rfl, hbw⟩

theorem index_any (s chars : ByteArray) (w : World) (h5 : 5 ≤ chars.size) (hcs : chars.size ≤ 100) (hs : s.size ≤ 1048576) (ha : ∀ b ∈ chars.data.toList, b.toNat < 128) :
    Calls Tryz.prog 65 #[.string s, .string chars] w fun e w' => e = .returned (.int .i64 (Lib.indexAny s.data.toList chars.data.toList)) ∧ Below w.heap.size w w' := by
  rcases Nat.lt_or_ge 8 s.size with h8 | h8
  · refine (Tryz.strings_IndexAny_long (zero_of_info (n := 256) (by kernel_rfl)).1 s chars w (by omega) h8 (by omega) (by omega) (fun j b hb => ha b (List.mem_of_getElem? hb))).mono ?_
    rintro e w' ⟨rfl, rfl⟩
    exact ⟨rfl, ((Below.refl _ _).alloc (Nat.le_refl _) _).alloc (by simp) _⟩
  · exact index_any_short s chars w h5 hcs h8 ha

end Go.Proofs.YtfockedeikdbjaaGreatDoor

namespace Go.Proofs.YtfockedeikdbjaaGreatDoor
open Go.RowKit

/-- the parser's block: what is not read yet, and the slice of tokens -/
def parBlock (r : ByteArray) (v : Value) : Obj := .cells #[.string r, v] 53 (0, 0)
theorem grown_trans {a b c : World} {row : Option Nat} (h1 : a.grownBy b row) (h2 : b.grownBy c row) : a.grownBy c row :=
  ⟨h2.os.trans h1.os, h2.tape.trans h1.tape, h2.output.trans h1.output, Nat.le_trans h1.size h2.size, fun k hk hne => (h2.block k (Nat.lt_of_lt_of_le hk h1.size) hne).trans (h1.block k hk hne)⟩
theorem grown_below {w w' : World} (hb : Below w.heap.size w w') (row : Option Nat) : w.grownBy w' row :=
  ⟨hb.os, hb.tape, hb.output, hb.size, fun k hk _ => hb.block k hk⟩
/-- from world z to world w nothing old but the parser's block has changed -/
structure Reads (z w : World) (bp : Nat) (r : ByteArray) (v : Value) : Prop where
  par : w.heap[bp]? = some (parBlock r v)
  grown : z.grownBy w (some bp)
theorem Reads.start {w : World} {bp : Nat} {r : ByteArray} {v : Value} (h : w.heap[bp]? = some (parBlock r v)) : Reads w w bp r v := ⟨h, World.grownBy.refl _ _⟩
theorem lt_of_heap {w : World} {b : Nat} {o : Obj} (h : w.heap[b]? = some o) : b < w.heap.size := (Array.getElem?_eq_some_iff.1 h).1
theorem Reads.later {z w w2 : World} {bp : Nat} {r : ByteArray} {v : Value} (h : Reads z w bp r v) (hb : Below w.heap.size w w2) : Reads z w2 bp r v :=
  ⟨(hb.block _ (lt_of_heap h.par)).trans h.par, grown_trans h.grown (grown_below hb _)⟩
theorem Reads.trans {z w w2 : World} {bp : Nat} {r r2 : ByteArray} {v v2 : Value} (h : Reads z w bp r v) (h2 : Reads w w2 bp r2 v2) : Reads z w2 bp r2 v2 := ⟨h2.par, grown_trans h.grown h2.grown⟩
theorem Reads.alloc {z w : World} {bp : Nat} {r : ByteArray} {v : Value} (h : Reads z w bp r v) (o : Obj) : Reads z (w.alloc o) bp r v := h.later ((Below.refl _ _).alloc (Nat.le_refl _) _)
theorem Reads.box {z w : World} {bp k : Nat} {r : ByteArray} {v : Value} {o : Obj} (h : Reads z w bp r v) (hk : z.heap[k]? = some o) (hne : k ≠ bp) : w.heap[k]? = some o := (h.grown.block k (lt_of_heap hk) (by simpa using hne)).trans hk
theorem box_below {z w : World} {k : Nat} {o : Obj} (hk : z.heap[k]? = some o) (hb : Below z.heap.size z w) : w.heap[k]? = some o := (hb.block k (lt_of_heap hk)).trans hk
/-- a block of the call's own is written -/
theorem Reads.other {z w : World} {bp k : Nat} {r : ByteArray} {v : Value} (h : Reads z w bp r v) (hz : z.heap.size ≤ k) (hne : k ≠ bp) (o : Nat) (u : Value) : Reads z (w.setCell ⟨k, o, none⟩ u) bp r v := by
  refine ⟨(Below.heap_setCell _ _ _ _ (fun e => hne e.symm)).trans h.par, ?_⟩
  have hg := h.grown
  exact ⟨hg.os, hg.tape, hg.output, by simpa [World.setCell] using hg.size, fun j hj hj2 => (Below.heap_setCell _ _ _ _ (by show j ≠ k; omega)).trans (hg.block j hj hj2)⟩
theorem par_cells {w : World} {bp : Nat} {r : ByteArray} {v : Value} (h : w.heap[bp]? = some (parBlock r v)) : w.cell? ⟨bp, 0, none⟩ = some (.string r) ∧ w.cell? ⟨bp, 1, none⟩ = some v ∧ w.frozen? ⟨bp, 0, none⟩ = false ∧ w.frozen? ⟨bp, 1, none⟩ = false := by
  unfold parBlock at h
  exact ⟨by rw [Lib.cell_of_heap h]; rfl, by rw [Lib.cell_of_heap h]; rfl, Lib.frozen_of_heap h 0, Lib.frozen_of_heap h 1⟩
theorem grown_setCell (w : World) (b o : Nat) (v : Value) : w.grownBy (w.setCell ⟨b, o, none⟩ v) (some b) :=
  ⟨rfl, rfl, rfl, by simp [World.setCell], fun k _ hk => Below.heap_setCell _ _ _ _ (fun e => hk (by simp [e]))⟩
theorem Reads.setRest {z w : World} {bp : Nat} {r : ByteArray} {v : Value} (h : Reads z w bp r v) (r' : ByteArray) : Reads z (w.setCell ⟨bp, 0, none⟩ (.string r')) bp r' v := by
  have hp := h.par
  unfold parBlock at hp
  refine ⟨?_, grown_trans h.grown (grown_setCell _ _ _ _)⟩
  simp [World.setCell, Array.getElem?_modify, hp, parBlock]

set_option maxHeartbeats 1000000 in
set_option maxRecDepth 100000 in
theorem take_walk (w : World) (bp n : Nat) (r : ByteArray) (v : Value) (h : w.heap[bp]? = some (parBlock r v)) (hn : n ≤ r.size) :
    Calls Tryz.prog 29 #[.pointer (some ⟨bp, 0, none⟩), .int .i64 n] w fun e w' => e = .returned (.string (r.extract 0 n)) ∧ Reads w w' bp (r.extract n r.size) v := by
  obtain ⟨c0, c1, f0, f1⟩ := par_cells h
  have HR := (Reads.start h).setRest (r.extract n r.size)
  go_enter Tryz.func29, Tryz.ntmps29
  go_wp2_with fail
  go_ret
  exact ⟨rfl, HR⟩

end Go.Proofs.YtfockedeikdbjaaGreatDoor

namespace Go.Proofs.YtfockedeikdbjaaGreatDoor
open Go.RowKit

set_option maxHeartbeats 4000000 in
set_option maxRecDepth 1000000 in
theorem step_call1 (f : FuncId) {ops : Array Oper} {o : Oper} {a : Act} {w : World} {K : Act → World → Prop} {Q : Exit → Act → World → Prop} {E : Prop} (hg : o.guard = none) (x : Tmp) (ty : Array TypeId)
    (ho : o.op = Op.call { callee := Callee.value (Operand.func f), args := #[.tmp x], argTypes := ty }) (u : Value) (hx : a.eval (.tmp x) = u) (hf : ∀ args w, (callFunc f args).run Tryz.prog w = .ok (.enter f args) w)
    (h : Calls Tryz.prog f #[u] w fun e w' => ∃ r, e = .returned r ∧ K (a.put o.dst r) w') :
    if Region.wanted o (yielded ops a.tmps) = true then Oper.wp Tryz.prog o a w K Q else E := by
  have hw : Region.wanted o (yielded ops a.tmps) = true := by simp [Region.wanted, hg]
  rw [if_pos hw]
  obtain ⟨dst, op, type, pos, after, guard⟩ := o
  simp only at ho hg h ⊢
  subst ho
  subst hg
  unfold Oper.wp execOp
  go_simp
  unfold Act.eval at hx
  simp only [Array.getD_eq_getD_getElem?] at hx
  rw [hx]
  refine h.mono ?_
  rintro e w' ⟨r, rfl, hk⟩
  exact hk

set_option maxHeartbeats 4000000 in
set_option maxRecDepth 1000000 in
theorem step_call2 (f : FuncId) {ops : Array Oper} {o : Oper} {a : Act} {w : World} {K : Act → World → Prop} {Q : Exit → Act → World → Prop} {E : Prop} (hg : o.guard = none) (x y : Tmp) (ty : Array TypeId)
    (ho : o.op = Op.call { callee := Callee.value (Operand.func f), args := #[.tmp x, .tmp y], argTypes := ty }) (u v : Value) (hx : a.eval (.tmp x) = u) (hy : a.eval (.tmp y) = v) (hf : ∀ args w, (callFunc f args).run Tryz.prog w = .ok (.enter f args) w)
    (h : Calls Tryz.prog f #[u, v] w fun e w' => ∃ r, e = .returned r ∧ K (a.put o.dst r) w') :
    if Region.wanted o (yielded ops a.tmps) = true then Oper.wp Tryz.prog o a w K Q else E := by
  have hw : Region.wanted o (yielded ops a.tmps) = true := by simp [Region.wanted, hg]
  rw [if_pos hw]
  obtain ⟨dst, op, type, pos, after, guard⟩ := o
  simp only at ho hg h ⊢
  subst ho
  subst hg
  unfold Oper.wp execOp
  go_simp
  unfold Act.eval at hx hy
  simp only [Array.getD_eq_getD_getElem?] at hx hy
  rw [hx, hy]
  refine h.mono ?_
  rintro e w' ⟨r, rfl, hk⟩
  exact hk

end Go.Proofs.YtfockedeikdbjaaGreatDoor

namespace Go.Proofs.YtfockedeikdbjaaGreatDoor
open Go.RowKit

namespace U
theorem take_while (p : UInt8 → Bool) : ∀ l : List UInt8, l.take (l.takeWhile p).length = l.takeWhile p ∧ l.drop (l.takeWhile p).length = l.dropWhile p
  | [] => ⟨rfl, rfl⟩
  | b :: l => by
    by_cases h : p b = true
    · rw [List.takeWhile_cons_of_pos h, List.dropWhile_cons_of_pos h, List.length_cons, List.take_succ_cons, List.drop_succ_cons, (take_while p l).1, (take_while p l).2]
      exact ⟨rfl, rfl⟩
    · rw [List.takeWhile_cons_of_neg h, List.dropWhile_cons_of_neg h]
      exact ⟨rfl, rfl⟩
theorem take_while_le (p : UInt8 → Bool) (l : List UInt8) : (l.takeWhile p).length ≤ l.length := (List.takeWhile_sublist p).length_le
theorem any_while (chars : List UInt8) : ∀ l : List UInt8, (Lib.indexAny l chars = -1 ∧ (l.takeWhile fun b => !chars.contains b).length = l.length) ∨ Lib.indexAny l chars = ((l.takeWhile fun b => !chars.contains b).length : Nat)
  | [] => .inl ⟨rfl, rfl⟩
  | b :: l => by
    rw [Lib.indexAny]
    by_cases h : chars.contains b = true
    · rw [if_pos h, List.takeWhile_cons_of_neg (by rw [h]; decide)]
      exact .inr rfl
    · rw [if_neg h, List.takeWhile_cons_of_pos (by simpa using h), List.length_cons]
      rcases any_while chars l with ⟨h1, h2⟩ | h1
      · rw [h1, if_pos (by decide), h2]
        exact .inl ⟨rfl, rfl⟩
      · rw [h1, if_neg (by simp only [beq_iff_eq]; omega)]
        exact .inr (by omega)
end U
theorem list_take (r : ByteArray) (n : Nat) : (r.extract 0 n).data.toList = r.data.toList.take n := by rw [Lib.extract_data]; simp
theorem list_drop (r : ByteArray) (n : Nat) : (r.extract n r.size).data.toList = r.data.toList.drop n := by
  rw [Lib.extract_data, List.take_of_length_le (by rw [List.length_drop, len_list]; exact Nat.le_refl _)]
theorem extract_all (r : ByteArray) : r.extract 0 r.size = r := by
  apply ByteArray.ext
  simp
theorem size_take (r : ByteArray) (n : Nat) (h : n ≤ r.size) : (r.extract 0 n).size = n := by rw [← len_list, list_take, List.length_take, len_list]; omega
theorem size_drop (r : ByteArray) (n : Nat) : (r.extract n r.size).size = r.size - n := by rw [← len_list, list_drop, List.length_drop, len_list]

/-- what is read, and what is left -/
def Took (w w' : World) (bp : Nat) (r : ByteArray) (v : Value) (p : UInt8 → Bool) (e : Ending) : Prop :=
  ∃ a b : ByteArray, e = .returned (.string a) ∧ Reads w w' bp b v ∧ a.data.toList = r.data.toList.takeWhile p ∧ b.data.toList = r.data.toList.dropWhile p ∧ a.size + b.size = r.size
theorem took_at {w w' : World} {bp n : Nat} {r : ByteArray} {v : Value} {p : UInt8 → Bool} (hn : n = (r.data.toList.takeWhile p).length) (h : Reads w w' bp (r.extract n r.size) v) : Took w w' bp r v p (.returned (.string (r.extract 0 n))) := by
  have hle : n ≤ r.size := by
    have := U.take_while_le p r.data.toList
    rw [len_list] at this
    omega
  refine ⟨_, _, rfl, h, ?_, ?_, ?_⟩
  · rw [list_take, hn]; exact (U.take_while p _).1
  · rw [list_drop, hn]; exact (U.take_while p _).2
  · rw [size_take _ _ hle, size_drop]; omega

set_option maxHeartbeats 2000000 in
set_option maxRecDepth 100000 in
theorem until_walk (chars : ByteArray) (w : World) (bp : Nat) (r : ByteArray) (v : Value) (h : w.heap[bp]? = some (parBlock r v)) (hr : r.size ≤ 1048576) (h5 : 5 ≤ chars.size) (hcs : chars.size ≤ 100) (ha : ∀ b ∈ chars.data.toList, b.toNat < 128) :
    Calls Tryz.prog 47 #[.pointer (some ⟨bp, 0, none⟩), .string chars] w fun e w' => Took w w' bp r v (fun b => !chars.data.toList.contains b) e := by
  obtain ⟨c0, c1, f0, f1⟩ := par_cells h
  have hany := index_any r chars w h5 hcs hr ha
  rcases U.any_while chars.data.toList r.data.toList with ⟨e1, e2⟩ | e1
  · rw [e1] at hany
    have HN := Lib.hid e2
    clear e1 e2 ha
    go_enter Tryz.func47, Tryz.ntmps47
    go_wp2_with (first
      | (refine hany.mono ?_; rintro e w2 ⟨rfl, b2⟩; have hR := (Reads.start h).later b2; obtain ⟨k0, k1, k2, k3⟩ := par_cells hR.par)
      | (refine (take_walk _ bp r.size r v hR.par (Nat.le_refl _)).mono ?_; rintro e w3 ⟨rfl, h3⟩))
    go_ret
    have HT := took_at (p := fun b => !chars.data.toList.contains b) (by rw [HN.out, len_list]) (hR.trans h3)
    rw [extract_all] at HT
    exact HT
  · rw [e1] at hany
    have hle := U.take_while_le (fun b => !chars.data.toList.contains b) r.data.toList
    rw [len_list] at hle
    obtain ⟨n, hn⟩ : ∃ n, n = (r.data.toList.takeWhile fun b => !chars.data.toList.contains b).length := ⟨_, rfl⟩
    rw [← hn] at hany hle
    have HN := Lib.hid hn
    clear e1 hn ha
    go_enter Tryz.func47, Tryz.ntmps47
    go_wp2_with (first
      | (refine hany.mono ?_; rintro e w2 ⟨rfl, b2⟩; have hR := (Reads.start h).later b2; obtain ⟨k0, k1, k2, k3⟩ := par_cells hR.par)
      | (refine (take_walk _ bp n r v hR.par hle).mono ?_; rintro e w3 ⟨rfl, h3⟩))
    go_ret
    exact took_at HN.out (hR.trans h3)

theorem trim_left (r chars : ByteArray) (w : World) (hcs : chars.size ≤ 100) (ha : ∀ b ∈ chars.data.toList, b.toNat < 128) :
    Calls Tryz.prog 66 #[.string r, .string chars] w fun e w' => e = .returned (.string ⟨(r.data.toList.dropWhile fun b => chars.data.toList.contains b).toArray⟩) ∧ Below w.heap.size w w' :=
  Any.strings_TrimLeft_laid Tryz.lays161 (by kernel_rfl) r chars w (by omega) (fun j b hb => ha b (List.mem_of_getElem? hb))

set_option maxHeartbeats 2000000 in
set_option maxRecDepth 100000 in
theorem skip_walk (chars : ByteArray) (w : World) (bp : Nat) (r : ByteArray) (v : Value) (h : w.heap[bp]? = some (parBlock r v)) (hr : r.size ≤ 1048576) (hcs : chars.size ≤ 100) (ha : ∀ b ∈ chars.data.toList, b.toNat < 128) :
    Calls Tryz.prog 48 #[.pointer (some ⟨bp, 0, none⟩), .string chars] w fun e w' => Took w w' bp r v (fun b => chars.data.toList.contains b) e := by
  obtain ⟨c0, c1, f0, f1⟩ := par_cells h
  have htl : ∀ w2, Calls Tryz.prog 66 #[.string r, .string chars] w2 fun e w' => e = .returned (.string ⟨(r.data.toList.dropWhile fun b => chars.data.toList.contains b).toArray⟩) ∧ Below w2.heap.size w2 w' := fun w2 => trim_left r chars w2 hcs ha
  obtain ⟨n, hn⟩ : ∃ n, n = (r.data.toList.takeWhile fun b => chars.data.toList.contains b).length := ⟨_, rfl⟩
  obtain ⟨t, ht⟩ : ∃ t, t = ByteArray.mk (r.data.toList.dropWhile fun b => chars.data.toList.contains b).toArray := ⟨_, rfl⟩
  have hle := U.take_while_le (fun b => chars.data.toList.contains b) r.data.toList
  rw [len_list, ← hn] at hle
  have hz : (r.size : Int) - (t.size : Int) = (n : Int) := by
    have : t.size = r.size - n := by rw [ht, size_of_mk, ← (U.take_while _ _).2, List.length_drop, len_list, ← hn]
    omega
  have hz2 : t.size ≤ r.size := by omega
  have hwn : IntKind.i64.wrap (n : Int) = (n : Int) := wrap_small _ (by omega) (by omega)
  rw [← ht] at htl
  have HN := Lib.hid hn
  clear hn ht ha
  go_enter Tryz.func48, Tryz.ntmps48
  go_wp2_with fail
  go_region_law (first
    | (refine step_call2 66 rfl _ _ _ rfl (.string r) (.string chars) (by rfl) (by rfl) (enters_of Tryz.func66 (by kernel_rfl) rfl) ((htl _).mono ?_); rintro e w2 ⟨rfl, b2⟩; refine ⟨_, rfl, ?_⟩; have hR := ((Reads.start h).later (below_drewN (Below.refl w.heap.size w) 1)).later b2; obtain ⟨k0, k1, k2, k3⟩ := par_cells hR.par)
    | (refine step_call2 29 rfl _ _ _ rfl (.pointer (some ⟨bp, 0, none⟩)) (.int .i64 n) (by rfl) (by first | rfl | (simp [Act.eval, Act.put, hz, hwn]; done)) (enters_of Tryz.func29 (by kernel_rfl) rfl) ((take_walk _ bp n r v hR.par hle).mono ?_); rintro e w3 ⟨rfl, h3⟩; refine ⟨_, rfl, ?_⟩))
  all_goals go_wp2_with fail
  all_goals go_ret
  all_goals exact took_at HN.out (hR.trans h3)

end Go.Proofs.YtfockedeikdbjaaGreatDoor

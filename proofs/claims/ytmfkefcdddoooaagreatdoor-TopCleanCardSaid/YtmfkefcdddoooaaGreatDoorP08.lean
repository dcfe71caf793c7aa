/- Several texts in one: Steps, Until, Builder, Parse. -/
import Derived.Test.YtmfkefcdddoooaaGreatDoorProg
import Derived.Deep.RegionLaw
import Derived.Below
import Derived.Outline
import Derived.Lib.FrozenHead2
import Derived.Test.YtmfkefcdddoooaaGreatDoorShelf
import Derived.Lib.ConvBytes
import Derived.Lib.AtoiErrMem
import Derived.Deep.RegionWith
import Derived.Test.YtmfkefcdddoooaaGreatDoorP07
import Derived.Test.YtmfkefcdddoooaaGreatDoorP01
import Derived.Test.YtmfkefcdddoooaaGreatDoorP06
namespace Go.Proofs.YtmfkefcdddoooaaGreatDoor
open Go.RowKit

set_option maxHeartbeats 4000000 in
set_option maxRecDepth 1000000 in
theorem step_call1 (f : FuncId) {ops : Array Oper} {o : Oper} {a : Act} {w : World} {K : Act → World → Prop} {Q : Exit → Act → World → Prop} {E : Prop} (hg : o.guard = none) (x : Tmp) (ty : Array TypeId)
    (ho : o.op = Op.call { callee := Callee.value (Operand.func f), args := #[.tmp x], argTypes := ty }) (u : Value) (hx : a.eval (.tmp x) = u) (hf : ∀ args w, (callFunc f args).run Tryz.prog w = .ok (.enter f args) w)
    (h : Calls Tryz.prog f #[u] w fun e w' => ∃ r, e = .returned r ∧ K (a.put o.dst r) w') :
    if Region.wanted o (yielded ops a.tmps) = true then Oper.wp Tryz.prog o a w K Q else E := by
  have hw : Region.wanted o (yielded ops a.tmps) = true := by simp [Region.wanted, hg]
  rw [if_pos hw]
  obtain ⟨dst, op, type, pos, after, guard⟩ := o
  simp only at ho hg h ⊢
  subst ho
  subst hg
  unfold Oper.wp execOp
  go_simp
  unfold Act.eval at hx
  simp only [Array.getD_eq_getD_getElem?] at hx
  rw [hx]
  refine h.mono ?_
  rintro e w' ⟨r, rfl, hk⟩
  exact hk

set_option maxHeartbeats 4000000 in
set_option maxRecDepth 1000000 in
theorem step_call2 (f : FuncId) {ops : Array Oper} {o : Oper} {a : Act} {w : World} {K : Act → World → Prop} {Q : Exit → Act → World → Prop} {E : Prop} (hg : o.guard = none) (x y : Tmp) (ty : Array TypeId)
    (ho : o.op = Op.call { callee := Callee.value (Operand.func f), args := #[.tmp x, .tmp y], argTypes := ty }) (u v : Value) (hx : a.eval (.tmp x) = u) (hy : a.eval (.tmp y) = v) (hf : ∀ args w, (callFunc f args).run Tryz.prog w = .ok (.enter f args) w)
    (h : Calls Tryz.prog f #[u, v] w fun e w' => ∃ r, e = .returned r ∧ K (a.put o.dst r) w') :
    if Region.wanted o (yielded ops a.tmps) = true then Oper.wp Tryz.prog o a w K Q else E := by
  have hw : Region.wanted o (yielded ops a.tmps) = true := by simp [Region.wanted, hg]
  rw [if_pos hw]
  obtain ⟨dst, op, type, pos, after, guard⟩ := o
  simp only at ho hg h ⊢
  subst ho
  subst hg
  unfold Oper.wp execOp
  go_simp
  unfold Act.eval at hx hy
  simp only [Array.getD_eq_getD_getElem?] at hx hy
  rw [hx, hy]
  refine h.mono ?_
  rintro e w' ⟨r, rfl, hk⟩
  exact hk

end Go.Proofs.YtmfkefcdddoooaaGreatDoor

namespace Go.Proofs.YtmfkefcdddoooaaGreatDoor
open Go.RowKit

namespace U
theorem take_while (p : UInt8 → Bool) : ∀ l : List UInt8, l.take (l.takeWhile p).length = l.takeWhile p ∧ l.drop (l.takeWhile p).length = l.dropWhile p
  | [] => ⟨rfl, rfl⟩
  | b :: l => by
    by_cases h : p b = true
    · rw [List.takeWhile_cons_of_pos h, List.dropWhile_cons_of_pos h, List.length_cons, List.take_succ_cons, List.drop_succ_cons, (take_while p l).1, (take_while p l).2]
      exact ⟨rfl, rfl⟩
    · rw [List.takeWhile_cons_of_neg h, List.dropWhile_cons_of_neg h]
      exact ⟨rfl, rfl⟩
theorem take_while_le (p : UInt8 → Bool) (l : List UInt8) : (l.takeWhile p).length ≤ l.length := (List.takeWhile_sublist p).length_le
theorem any_while (chars : List UInt8) : ∀ l : List UInt8, (Lib.indexAny l chars = -1 ∧ (l.takeWhile fun b => !chars.contains b).length = l.length) ∨ Lib.indexAny l chars = ((l.takeWhile fun b => !chars.contains b).length : Nat)
  | [] => .inl ⟨rfl, rfl⟩
  | b :: l => by
    rw [Lib.indexAny]
    by_cases h : chars.contains b = true
    · rw [if_pos h, List.takeWhile_cons_of_neg (by rw [h]; decide)]
      exact .inr rfl
    · rw [if_neg h, List.takeWhile_cons_of_pos (by simpa using h), List.length_cons]
      rcases any_while chars l with ⟨h1, h2⟩ | h1
      · rw [h1, if_pos (by decide), h2]
        exact .inl ⟨rfl, rfl⟩
      · rw [h1, if_neg (by simp only [beq_iff_eq]; omega)]
        exact .inr (by omega)
end U
theorem list_take (r : ByteArray) (n : Nat) : (r.extract 0 n).data.toList = r.data.toList.take n := by rw [Lib.extract_data]; simp
theorem list_drop (r : ByteArray) (n : Nat) : (r.extract n r.size).data.toList = r.data.toList.drop n := by
  rw [Lib.extract_data, List.take_of_length_le (by rw [List.length_drop, len_list]; exact Nat.le_refl _)]
theorem extract_all (r : ByteArray) : r.extract 0 r.size = r := by
  apply ByteArray.ext
  simp
theorem size_take (r : ByteArray) (n : Nat) (h : n ≤ r.size) : (r.extract 0 n).size = n := by rw [← len_list, list_take, List.length_take, len_list]; omega
theorem size_drop (r : ByteArray) (n : Nat) : (r.extract n r.size).size = r.size - n := by rw [← len_list, list_drop, List.length_drop, len_list]

/-- what is read, and what is left -/
def Took (w w' : World) (bp : Nat) (r : ByteArray) (v : Value) (p : UInt8 → Bool) (e : Ending) : Prop :=
  ∃ a b : ByteArray, e = .returned (.string a) ∧ Reads w w' bp b v ∧ a.data.toList = r.data.toList.takeWhile p ∧ b.data.toList = r.data.toList.dropWhile p ∧ a.size + b.size = r.size
theorem took_at {w w' : World} {bp n : Nat} {r : ByteArray} {v : Value} {p : UInt8 → Bool} (hn : n = (r.data.toList.takeWhile p).length) (h : Reads w w' bp (r.extract n r.size) v) : Took w w' bp r v p (.returned (.string (r.extract 0 n))) := by
  have hle : n ≤ r.size := by
    have := U.take_while_le p r.data.toList
    rw [len_list] at this
    omega
  refine ⟨_, _, rfl, h, ?_, ?_, ?_⟩
  · rw [list_take, hn]; exact (U.take_while p _).1
  · rw [list_drop, hn]; exact (U.take_while p _).2
  · rw [size_take _ _ hle, size_drop]; omega

set_option maxHeartbeats 2000000 in
set_option maxRecDepth 100000 in
theorem until_walk (chars : ByteArray) (w : World) (bp : Nat) (r : ByteArray) (v : Value) (h : w.heap[bp]? = some (parBlock r v)) (hr : r.size ≤ 1048576) (h5 : 5 ≤ chars.size) (hcs : chars.size ≤ 100) (ha : ∀ b ∈ chars.data.toList, b.toNat < 128) :
    Calls Tryz.prog 87 #[.pointer (some ⟨bp, 0, none⟩), .string chars] w fun e w' => Took w w' bp r v (fun b => !chars.data.toList.contains b) e := by
  obtain ⟨c0, c1, f0, f1⟩ := par_cells h
  have hany := index_any r chars w h5 hcs hr ha
  rcases U.any_while chars.data.toList r.data.toList with ⟨e1, e2⟩ | e1
  · rw [e1] at hany
    have HN := Lib.hid e2
    clear e1 e2 ha
    go_enter Tryz.func87, Tryz.ntmps87
    go_wp2_with (first
      | (refine hany.mono ?_; rintro e w2 ⟨rfl, b2⟩; have hR := (Reads.start h).later b2; obtain ⟨k0, k1, k2, k3⟩ := par_cells hR.par)
      | (refine (take_walk _ bp r.size r v hR.par (Nat.le_refl _)).mono ?_; rintro e w3 ⟨rfl, h3⟩))
    go_ret
    have HT := took_at (p := fun b => !chars.data.toList.contains b) (by rw [HN.out, len_list]) (hR.trans h3)
    rw [extract_all] at HT
    exact HT
  · rw [e1] at hany
    have hle := U.take_while_le (fun b => !chars.data.toList.contains b) r.data.toList
    rw [len_list] at hle
    obtain ⟨n, hn⟩ : ∃ n, n = (r.data.toList.takeWhile fun b => !chars.data.toList.contains b).length := ⟨_, rfl⟩
    rw [← hn] at hany hle
    have HN := Lib.hid hn
    clear e1 hn ha
    go_enter Tryz.func87, Tryz.ntmps87
    go_wp2_with (first
      | (refine hany.mono ?_; rintro e w2 ⟨rfl, b2⟩; have hR := (Reads.start h).later b2; obtain ⟨k0, k1, k2, k3⟩ := par_cells hR.par)
      | (refine (take_walk _ bp n r v hR.par hle).mono ?_; rintro e w3 ⟨rfl, h3⟩))
    go_ret
    exact took_at HN.out (hR.trans h3)

theorem trim_left (r chars : ByteArray) (w : World) (hcs : chars.size ≤ 100) (ha : ∀ b ∈ chars.data.toList, b.toNat < 128) :
    Calls Tryz.prog 118 #[.string r, .string chars] w fun e w' => e = .returned (.string ⟨(r.data.toList.dropWhile fun b => chars.data.toList.contains b).toArray⟩) ∧ Below w.heap.size w w' :=
  Any.strings_TrimLeft_laid Tryz.lays161 (by kernel_rfl) r chars w (by omega) (fun j b hb => ha b (List.mem_of_getElem? hb))

set_option maxHeartbeats 2000000 in
set_option maxRecDepth 100000 in
theorem skip_walk (chars : ByteArray) (w : World) (bp : Nat) (r : ByteArray) (v : Value) (h : w.heap[bp]? = some (parBlock r v)) (hr : r.size ≤ 1048576) (hcs : chars.size ≤ 100) (ha : ∀ b ∈ chars.data.toList, b.toNat < 128) :
    Calls Tryz.prog 88 #[.pointer (some ⟨bp, 0, none⟩), .string chars] w fun e w' => Took w w' bp r v (fun b => chars.data.toList.contains b) e := by
  obtain ⟨c0, c1, f0, f1⟩ := par_cells h
  have htl : ∀ w2, Calls Tryz.prog 118 #[.string r, .string chars] w2 fun e w' => e = .returned (.string ⟨(r.data.toList.dropWhile fun b => chars.data.toList.contains b).toArray⟩) ∧ Below w2.heap.size w2 w' := fun w2 => trim_left r chars w2 hcs ha
  obtain ⟨n, hn⟩ : ∃ n, n = (r.data.toList.takeWhile fun b => chars.data.toList.contains b).length := ⟨_, rfl⟩
  obtain ⟨t, ht⟩ : ∃ t, t = ByteArray.mk (r.data.toList.dropWhile fun b => chars.data.toList.contains b).toArray := ⟨_, rfl⟩
  have hle := U.take_while_le (fun b => chars.data.toList.contains b) r.data.toList
  rw [len_list, ← hn] at hle
  have hz : (r.size : Int) - (t.size : Int) = (n : Int) := by
    have : t.size = r.size - n := by rw [ht, size_of_mk, ← (U.take_while _ _).2, List.length_drop, len_list, ← hn]
    omega
  have hz2 : t.size ≤ r.size := by omega
  have hwn : IntKind.i64.wrap (n : Int) = (n : Int) := wrap_small _ (by omega) (by omega)
  rw [← ht] at htl
  have HN := Lib.hid hn
  clear hn ht ha
  go_enter Tryz.func88, Tryz.ntmps88
  go_wp2_with fail
  go_region_law (first
    | (refine step_call2 118 rfl _ _ _ rfl (.string r) (.string chars) (by rfl) (by rfl) (enters_of Tryz.func118 (by kernel_rfl) rfl) ((htl _).mono ?_); rintro e w2 ⟨rfl, b2⟩; refine ⟨_, rfl, ?_⟩; have hR := ((Reads.start h).later (below_drewN (Below.refl w.heap.size w) 1)).later b2; obtain ⟨k0, k1, k2, k3⟩ := par_cells hR.par)
    | (refine step_call2 54 rfl _ _ _ rfl (.pointer (some ⟨bp, 0, none⟩)) (.int .i64 n) (by rfl) (by first | rfl | (simp [Act.eval, Act.put, hz, hwn]; done)) (enters_of Tryz.func54 (by kernel_rfl) rfl) ((take_walk _ bp n r v hR.par hle).mono ?_); rintro e w3 ⟨rfl, h3⟩; refine ⟨_, rfl, ?_⟩))
  all_goals go_wp2_with fail
  all_goals go_ret
  all_goals exact took_at HN.out (hR.trans h3)

end Go.Proofs.YtmfkefcdddoooaaGreatDoor

namespace Go.Proofs.YtmfkefcdddoooaaGreatDoor
open Go.RowKit

theorem infoB : (Tryz.prog.info? 58).map (·.size) = some 2 := by kernel_rfl
theorem liesB : liesAt Tryz.prog Tryz.prog.depth 58 (2 / Tryz.prog.cellsOf 58) 0 58 1 = true := by kernel_rfl

/-- a builder in block b that holds these bytes -/
abbrev Bld (B b : Nat) (l : List UInt8) (w : World) : Prop := Lib.IsBuilderF 58 5 B b (Lib.byteCells l) w
/-- the same, and it knows its own address -/
abbrev BldAt (B b : Nat) (l : List UInt8) (w : World) : Prop := Lib.BuilderAtF 58 5 B b (.pointer (some ⟨b, 0, none⟩)) (Lib.byteCells l) w
abbrev Kept (b : Nat) (w w' : World) : Prop := Lib.OthersKept 5 (some b) w w'

set_option maxHeartbeats 1000000 in
set_option maxRecDepth 100000 in
theorem check_used (b : Nat) (w : World) (h0 : w.cell? ⟨b, 0, none⟩ = some (.pointer (some ⟨b, 0, none⟩))) :
    Calls Tryz.prog 76 #[.pointer (some ⟨b, 0, none⟩)] w fun e w' => e = .returned (.tuple #[]) ∧ w = w' := by
  obtain ⟨j, hj, _⟩ := Option.map_eq_some_iff.1 infoB
  have hne := Lib.run_neq_ptr_same w (⟨b, 0, none⟩ : Addr) Tryz.underlying55 hj
  go_enter Tryz.func76, Tryz.ntmps76
  go_wp2
  go_end0
  exact ⟨rfl, rfl⟩

set_option maxHeartbeats 1000000 in
set_option maxRecDepth 100000 in
theorem check_fresh (b : Nat) (w : World) (h0 : w.cell? ⟨b, 0, none⟩ = some (.pointer none)) (hsh : w.shape? b = some (58, 2)) (hfz : w.frozen? ⟨b, 0, none⟩ = false) :
    Calls Tryz.prog 76 #[.pointer (some ⟨b, 0, none⟩)] w fun e w' => e = .returned (.tuple #[]) ∧ w' = w.setCell ⟨b, 0, none⟩ (.pointer (some ⟨b, 0, none⟩)) := by
  obtain ⟨j, hj, hjs⟩ := Option.map_eq_some_iff.1 infoB
  have e1 := Lib.run_to_unsafe (cells := 2) w (⟨b, 0, none⟩ : Addr) Tryz.underlying55 Tryz.underlying126 hj (by rw [hjs]; decide) hsh (Nat.zero_lt_succ 1)
  have e2 : (callFunc 110 #[.pointer (some ⟨b, 0, none⟩)]).run Tryz.prog w = .ok (.value (.pointer (some ⟨b, 0, none⟩))) w :=
    (run_callFunc_extern Tryz.func110 (by kernel_rfl) (by kernel_rfl) (by kernel_rfl) (e := Extern.AbiNoEscape.same) (by kernel_rfl) _ w).trans (by rw [Lib.run_noEscape]; rfl)
  have e3 := Lib.run_from_unsafe (cells := 2) w (⟨b, 0, none⟩ : Addr) Tryz.underlying126 Tryz.underlying55 hj hsh liesB
  go_enter Tryz.func76, Tryz.ntmps76
  go_wp2
  go_end0
  exact ⟨rfl, rfl⟩

/-- copyCheck: behind it the builder knows its own address. -/
theorem check_any (B b : Nat) (l : List UInt8) (w : World) (h : Bld B b l w) :
    Calls Tryz.prog 76 #[.pointer (some ⟨b, 0, none⟩)] w fun e w' => e = .returned (.tuple #[]) ∧ BldAt B b l w' ∧ Below B w w' ∧ Kept b w w' := by
  rcases h with h | h
  · refine (check_fresh b w h.cell0 h.shape h.frozen0).mono ?_
    rintro e w' ⟨rfl, rfl⟩
    exact ⟨rfl, h.used _, (Below.refl B w).setCell (p := ⟨b, 0, none⟩) h.1 _, (Lib.OthersKept.refl _ _ w).setCell ⟨b, 0, none⟩ rfl _⟩
  · refine (check_used b w h.cell0).mono ?_
    rintro e w' ⟨rfl, rfl⟩
    exact ⟨rfl, h, Below.refl B _, Lib.OthersKept.refl _ _ _⟩

/-- a builder, behind what leaves all the elder blocks alone -/
theorem bldAt_below {B b : Nat} {l : List UInt8} {w w' : World} (h : BldAt B b l w) (hb : Below w.heap.size w w') : BldAt B b l w' := by
  have hlt := h.lt
  obtain ⟨hB, v, hbk, hown, hne⟩ := h
  exact ⟨hB, v, (hb.block b hlt).trans hbk, hown.kept (row := none) ⟨hb.os, hb.tape, hb.output, hb.size, fun i hi _ => hb.block i hi⟩ (by
    rcases v.ownBlock with _ | b
    · exact .inl rfl
    · right; simp), hne⟩

theorem Bld_slice {B b : Nat} {l : List UInt8} {w : World} (h : BldAt B b l w) :
    ∃ ao cap, w.heap[b]? = some (.cells #[.pointer (some ⟨b, 0, none⟩), .slice ao l.length cap] 58 (0, 0)) ∧ w.ownsRowF B 5 1 (.slice ao l.length cap) l.length (Lib.byteCells l) ∧
      (Value.slice ao l.length cap).ownBlock ≠ some b ∧ B ≤ b ∧ b < w.heap.size := by
  have hlt := h.lt
  obtain ⟨hB, v, hbk, hown, hne⟩ := h
  rw [Lib.byteCells_length] at hown
  rcases hown.2 with ⟨rfl, h0⟩ | ⟨g, cap, cur, fz, rfl, _⟩
  · rw [h0] at hown ⊢
    exact ⟨none, 0, hbk, hown, hne, hB, hlt⟩
  · exact ⟨_, _, hbk, hown, hne, hB, hlt⟩

set_option maxHeartbeats 2000000 in
set_option maxRecDepth 100000 in
/-- WriteByte: one byte more. -/
theorem write_byte (B b : Nat) (l : List UInt8) (c : Nat) (hc : c < 256) (w : World) (h : Bld B b l w) (hlen : l.length + 1 ≤ 140737488355328) (hBw : B ≤ w.heap.size) :
    Calls Tryz.prog 47 #[.pointer (some ⟨b, 0, none⟩), .int .u8 c] w fun e w' => e = .returned .nilIface ∧ BldAt B b (l ++ [UInt8.ofNat c]) w' ∧ Below B w w' ∧ Kept b w w' := by
  obtain ⟨i0, hi, hz0, hz1, hz2⟩ := info_parts info5
  have ec : Lib.byteCells (l ++ [UInt8.ofNat c]) = Lib.byteCells l ++ [.int .u8 c] := by
    rw [Lib.byteCells_append]
    simp [Lib.byteCells]
    omega
  go_enter Tryz.func47, Tryz.ntmps47
  go_wp2_with fail
  refine (check_any B b l _ h).mono ?_
  rintro e w1 ⟨rfl, h1, hb1, hk1⟩
  obtain ⟨ao, cap, hbk, hown, hne, hB, hlt⟩ := Bld_slice h1
  have c0 : w1.cell? ⟨b, 0, none⟩ = some (.pointer (some ⟨b, 0, none⟩)) := by rw [Lib.cell_of_heap hbk]; rfl
  have c1 : w1.cell? ⟨b, 1, none⟩ = some (.slice ao l.length cap) := by rw [Lib.cell_of_heap hbk]; rfl
  have hbs := hb1.size
  go_wp2_with (at_builtin; refine wpList_append_ownF _ rfl _ _ 56 rfl B 5 i0 (.int .u8 0) 1 1 Tryz.underlying56 hi hz0 hz1 hz2 rfl (by decide) _ _ _ rfl (hown.alloc _) ⟨w1.heap.size, 0, none⟩ 1 1 [.int .u8 c] rfl rfl ?c1 ?c2 ?c3 ?c4 ?c5 ?_)
  case c1 =>
    intro j u hj
    match j, hj with
    | 0, hj => simp at hj; subst hj; simp [Addr.add]
    | (j + 1), hj => simp at hj
  case c2 => intro u hu; simp at hu; subst hu; rfl
  case c3 => unfold maxLen; omega
  case c4 => omega
  case c5 => simp; omega
  intro v' w2 hown' hgrow _
  have hb2 : w2.heap[b]? = some (.cells #[.pointer (some ⟨b, 0, none⟩), .slice ao l.length cap] 58 (0, 0)) := by
    rw [hgrow.block b (by simp; omega) (fun e => hne e.symm), Lib.alloc_old w1 _ b hlt]
    exact hbk
  have d0 : w2.cell? ⟨b, 0, none⟩ = some (.pointer (some ⟨b, 0, none⟩)) := by rw [Lib.cell_of_heap hb2]; rfl
  have d1 : w2.cell? ⟨b, 1, none⟩ = some (.slice ao l.length cap) := by rw [Lib.cell_of_heap hb2]; rfl
  have f1 : w2.frozen? ⟨b, 1, none⟩ = false := Lib.frozen_of_heap hb2 1
  obtain ⟨g, cap', rfl⟩ : ∃ g cap', v' = .slice (some ⟨g, 0, none⟩) (l.length + 1) cap' := by
    rcases hown'.2 with ⟨_, h0⟩ | ⟨g, cap', cur, fz, hv, _⟩
    · omega
    · exact ⟨g, cap', hv⟩
  go_wp2
  go_ret
  refine ⟨rfl, ?_, ?_, ((hk1.alloc _).grown hgrow (Lib.ownsRowF_kind (hown.alloc _))).setCell ⟨b, 1, none⟩ rfl _⟩
  · refine Lib.BuilderAtF.put (T := 58) (e := 5) hB hb2 ?_ (by decide)
    rw [ec]
    simpa [Lib.byteCells_length] using hown'
  · exact ((hb1.alloc (by omega) _).grown hgrow (by simp; omega) (fun k hk => (hown.lt k hk).1)).setCell (p := ⟨b, 1, none⟩) hB _

set_option maxHeartbeats 2000000 in
set_option maxRecDepth 100000 in
/-- WriteString: its bytes more. -/
theorem write_string (B b : Nat) (l : List UInt8) (s : ByteArray) (w : World) (h : Bld B b l w) (hlen : l.length + s.size ≤ 140737488355328) (hBw : B ≤ w.heap.size) :
    Calls Tryz.prog 48 #[.pointer (some ⟨b, 0, none⟩), .string s] w fun e w' => e = .returned (.tuple #[.int .i64 s.size, .nilIface]) ∧ BldAt B b (l ++ s.data.toList) w' ∧ Below B w w' ∧ Kept b w w' := by
  obtain ⟨i0, hi, hz0, hz1, hz2⟩ := info_parts info5
  have ec : Lib.byteCells (l ++ s.data.toList) = Lib.byteCells l ++ Lib.strCells s := by
    rw [Lib.byteCells_append, Lib.strCells_eq]
  go_enter Tryz.func48, Tryz.ntmps48
  go_wp2_with fail
  refine (check_any B b l _ h).mono ?_
  rintro e w1 ⟨rfl, h1, hb1, hk1⟩
  obtain ⟨ao, cap, hbk, hown, hne, hB, hlt⟩ := Bld_slice h1
  have c0 : w1.cell? ⟨b, 0, none⟩ = some (.pointer (some ⟨b, 0, none⟩)) := by rw [Lib.cell_of_heap hbk]; rfl
  have c1 : w1.cell? ⟨b, 1, none⟩ = some (.slice ao l.length cap) := by rw [Lib.cell_of_heap hbk]; rfl
  have hbs := hb1.size
  go_wp2_with (at_builtin; refine Lib.wpList_append_own_stringF _ rfl _ _ 56 9 rfl B 5 i0 Tryz.underlying56 Tryz.underlying9 hi hz0 hz1 hz2 _ _ _ rfl hown s rfl ?c3 ?c4 ?c5 ?_)
  case c3 => unfold maxLen; omega
  case c4 => omega
  case c5 => omega
  intro v' w2 hown' hgrow _
  have hb2 : w2.heap[b]? = some (.cells #[.pointer (some ⟨b, 0, none⟩), .slice ao l.length cap] 58 (0, 0)) := by
    rw [hgrow.block b hlt (fun e => hne e.symm)]
    exact hbk
  have d0 : w2.cell? ⟨b, 0, none⟩ = some (.pointer (some ⟨b, 0, none⟩)) := by rw [Lib.cell_of_heap hb2]; rfl
  have d1 : w2.cell? ⟨b, 1, none⟩ = some (.slice ao l.length cap) := by rw [Lib.cell_of_heap hb2]; rfl
  have f1 : w2.frozen? ⟨b, 1, none⟩ = false := Lib.frozen_of_heap hb2 1
  obtain ⟨ao', n', cap', rfl⟩ : ∃ ao n cap, v' = .slice ao n cap := by
    rcases hown'.2 with ⟨hv, _⟩ | ⟨g, cap, cur, fz, hv, _⟩
    · exact ⟨_, _, _, hv⟩
    · exact ⟨_, _, _, hv⟩
  go_wp2
  go_ret2
  refine ⟨rfl, ?_, ?_, (hk1.grown hgrow (Lib.ownsRowF_kind hown)).setCell ⟨b, 1, none⟩ rfl _⟩
  · refine Lib.BuilderAtF.put (T := 58) (e := 5) hB hb2 ?_ (by decide)
    rw [ec]
    simpa [Lib.byteCells_length, Lib.strCells_length] using hown'
  · exact (hb1.grown hgrow (by omega) (fun k hk => (hown.lt k hk).1)).setCell (p := ⟨b, 1, none⟩) hB _

end Go.Proofs.YtmfkefcdddoooaaGreatDoor

namespace Go.Proofs.YtmfkefcdddoooaaGreatDoor
open Go.RowKit

/-- what ParseUint answers -/
def parsed (e : TypeId) (base : Nat) (d : List UInt8) : Value := if (decide (d ≠ []) && U.allDig base d) = true then .tuple #[.int .u64 (U.val base 0 d : Nat), .nilIface] else .tuple #[.int .u64 0, .iface e (.int .i64 2)]
theorem parsed_bad {e : TypeId} {base : Nat} {d : List UInt8} (h : U.allDig base d = false) : parsed e base d = .tuple #[.int .u64 0, .iface e (.int .i64 2)] := by
  unfold parsed; rw [if_neg (by rw [h]; simp)]
theorem parsed_good {e : TypeId} {base : Nat} {d : List UInt8} (h0 : d ≠ []) (h : U.allDig base d = true) : parsed e base d = .tuple #[.int .u64 (U.val base 0 d : Nat), .nilIface] := by
  unfold parsed; rw [if_pos (by rw [h]; simpa using h0)]

set_option maxHeartbeats 8000000 in
set_option maxRecDepth 1000000 in
theorem parse10 (t : ByteArray) (hne : t.size ≠ 0) (hmax : t.size ≤ 7) (w : World) :
    Calls Tryz.prog 155 #[.string t, .int .i64 10, .int .i64 32] w fun e w' => e = .returned (parsed 165 10 t.data.toList) ∧ Below w.heap.size w w' := by
  have hemp : t.toList.isEmpty = false := by
    rw [← decide_eq_emptyBytes]
    exact decide_eq_false (fun h => hne (by rw [h]; rfl))
  have hcv := Lib.run_convert_string_bytes (P := Tryz.prog) w 9 56 5 t (u := .string) Tryz.underlying9 Tryz.underlying56 Tryz.underlying5
  have hB : ∀ j, j < t.size → (Lib.bytesWorld w 5 t).cell? ⟨w.heap.size, j, none⟩ = some (.int .u8 (t.data.toList.getD j 0).toNat) := fun j hj => Lib.bytesWorld_cell w 5 t j hj
  have hbw := Lib.bytesWorld_below w 5 t
  obtain ⟨W1, hW1⟩ : ∃ W1, W1 = Lib.bytesWorld w 5 t := ⟨_, rfl⟩
  rw [← hW1] at hcv hB hbw
  clear hW1
  have hlen := len_list t
  go_enter Tryz.func155, Tryz.ntmps155
  go_wp2
  go_loop [12, 13, 101] (fun vu vn vi => ∃ (k : Nat) (a : Int), vu = .bool false ∧ vn = .int .u64 a ∧ vi = .int .i64 k ∧ k ≤ t.size ∧ Hid (U.allDig 10 (t.data.toList.take k) = true ∧ a = (U.val 10 0 (t.data.toList.take k) : Nat)))
    (fun _ _ vi => t.size - (intOf vi).toNat)
  case atStart => exact ⟨0, 0, rfl, rfl, rfl, by omega, rfl, rfl⟩
  case round =>
    obtain ⟨k, a, rfl, rfl, rfl, hk, hh⟩ := hrel
    obtain ⟨hall, hav⟩ := hh.out
    clear hh
    have has := U.val_small hall (by decide) (by rw [List.length_take]; omega)
    have a0 : 0 ≤ a := by omega
    have a1 : a < 268435456 := by omega
    clear has
    by_cases hkn : k < t.size
    · have hc := hB k hkn
      have hg : t.data.toList[k]? = some (t.data.toList.getD k 0) := by
        rw [List.getD_eq_getElem?_getD, List.getElem?_eq_getElem (by omega)]; rfl
      have Hget := Lib.hid hg
      clear hg hB
      generalize t.data.toList.getD k 0 = c at *
      have hc256 : c.toNat < 256 := c.toNat_lt
      by_cases h09 : 48 ≤ c.toNat ∧ c.toNat ≤ 57
      · obtain ⟨hd0, hd1⟩ := h09
        have hd := U.dig_09 hd0 hd1
        obtain ⟨ha1, hv1⟩ := U.dig_more (base := 10) Hget.out hall (by omega)
        have hsm := U.val_small ha1 (by decide) (by rw [List.length_take]; omega)
        have HN : Hid (U.allDig 10 (t.data.toList.take (k + 1)) = true ∧ a * 10 + ((c.toNat : Int) - 48) = (U.val 10 0 (t.data.toList.take (k + 1)) : Nat)) := Lib.hid ⟨ha1, by rw [hv1, hd]; omega⟩
        have hup : a * 10 + ((c.toNat : Int) - 48) < 268435456 := by rw [HN.out.2]; omega
        clear ha1 hv1 hd hsm hall hav
        go_wp2_with (go_at_call_of 159 (Value.int IntKind.u8 (c.toNat : Int)); refine (Tryz.internal_strconv_lower _ _).mono ?_; rintro e w' ⟨rfl, rfl⟩)
        go_round
        case rel => exact ⟨k + 1, a * 10 + ((c.toNat : Int) - 48), rfl, (by first | rfl | (congr 1; omega)), (by first | rfl | (congr 1; omega)), by omega, HN⟩
        case measure => simp [intOf]; omega
      by_cases hlc : 97 ≤ c.toNat ∧ c.toNat ≤ 122
      · obtain ⟨hd0, hd1⟩ := hlc
        have hnd : ¬ U.dig c < 10 := by
          by_cases haf : 97 ≤ c.toNat ∧ c.toNat ≤ 102
          · rw [U.dig_af haf.1 haf.2]; omega
          by_cases hAF : 65 ≤ c.toNat ∧ c.toNat ≤ 70
          · rw [U.dig_AF hAF.1 hAF.2]; omega
          · rw [U.dig_no h09 haf hAF]; omega
        have HF := Lib.hid (U.dig_bad Hget.out hnd)
        have hlow := U.lower_at hc256 c.toNat (by rw [if_neg (by omega)])
        clear hnd h09  hall hav
        go_wp2_with (go_at_call_of 159 (Value.int IntKind.u8 (c.toNat : Int)); refine (Tryz.internal_strconv_lower _ _).mono ?_; rintro e w' ⟨rfl, rfl⟩)
        all_goals go_ret2
        all_goals exact ⟨(congrArg Ending.returned (parsed_bad HF.out)).symm, hbw⟩
      by_cases huc : 65 ≤ c.toNat ∧ c.toNat ≤ 90
      · obtain ⟨hd0, hd1⟩ := huc
        have hnd : ¬ U.dig c < 10 := by
          by_cases haf : 97 ≤ c.toNat ∧ c.toNat ≤ 102
          · rw [U.dig_af haf.1 haf.2]; omega
          by_cases hAF : 65 ≤ c.toNat ∧ c.toNat ≤ 70
          · rw [U.dig_AF hAF.1 hAF.2]; omega
          · rw [U.dig_no h09 haf hAF]; omega
        have HF := Lib.hid (U.dig_bad Hget.out hnd)
        have hlow0 := U.lower_at hc256 (c.toNat + 32) (by rw [if_pos (by omega)])
        have hlow : bits .or .u8 (c.toNat : Int) 32 = (c.toNat : Int) + 32 := by rw [hlow0]; simp
        clear hlow0
        clear hnd h09  hall hav
        go_wp2_with (go_at_call_of 159 (Value.int IntKind.u8 (c.toNat : Int)); refine (Tryz.internal_strconv_lower _ _).mono ?_; rintro e w' ⟨rfl, rfl⟩)
        all_goals go_ret2
        all_goals exact ⟨(congrArg Ending.returned (parsed_bad HF.out)).symm, hbw⟩
      · have hnd : ¬ U.dig c < 10 := by
          by_cases haf : 97 ≤ c.toNat ∧ c.toNat ≤ 102
          · rw [U.dig_af haf.1 haf.2]; omega
          by_cases hAF : 65 ≤ c.toNat ∧ c.toNat ≤ 70
          · rw [U.dig_AF hAF.1 hAF.2]; omega
          · rw [U.dig_no h09 haf hAF]; omega
        have HF := Lib.hid (U.dig_bad Hget.out hnd)
        have hlow := U.lower_eq hc256
        have hno : (if c.toNat / 32 % 2 = 0 then c.toNat + 32 else c.toNat) < 97 ∨ 122 < (if c.toNat / 32 % 2 = 0 then c.toNat + 32 else c.toNat) := by split <;> omega
        generalize (if c.toNat / 32 % 2 = 0 then c.toNat + 32 else c.toNat) = v at hlow hno
        have hdig : ¬ (48 ≤ c.toNat ∧ c.toNat ≤ 57) := h09
        clear hnd  hall hav hlc huc
        rcases hno with hno | hno
        · rcases Nat.lt_or_ge c.toNat 48 with hlt | hge
          · clear hdig h09
            go_wp2_with (go_at_call_of 159 (Value.int IntKind.u8 (c.toNat : Int)); refine (Tryz.internal_strconv_lower _ _).mono ?_; rintro e w' ⟨rfl, rfl⟩)
            all_goals go_ret2
            all_goals exact ⟨(congrArg Ending.returned (parsed_bad HF.out)).symm, hbw⟩
          · have hgt : 58 ≤ c.toNat := by omega
            have hlu : bits .or .u8 95 32 = 127 := by decide
            clear hdig h09 hge
            go_wp2_with (first | (go_at_call_of 159 (Value.int IntKind.u8 (c.toNat : Int)); refine (Tryz.internal_strconv_lower _ _).mono ?_; rintro e w' ⟨rfl, rfl⟩) | (go_at_call_of 159 (Value.int IntKind.u8 95); refine (Tryz.internal_strconv_lower _ _).mono ?_; rintro e w' ⟨rfl, rfl⟩))
            all_goals go_ret2
            all_goals exact ⟨(congrArg Ending.returned (parsed_bad HF.out)).symm, hbw⟩
        · rcases Nat.lt_or_ge c.toNat 48 with hlt | hge
          · clear hdig h09
            go_wp2_with (go_at_call_of 159 (Value.int IntKind.u8 (c.toNat : Int)); refine (Tryz.internal_strconv_lower _ _).mono ?_; rintro e w' ⟨rfl, rfl⟩)
            all_goals go_ret2
            all_goals exact ⟨(congrArg Ending.returned (parsed_bad HF.out)).symm, hbw⟩
          · have hgt : 58 ≤ c.toNat := by omega
            have hlu : bits .or .u8 95 32 = 127 := by decide
            clear hdig h09 hge
            go_wp2_with (first | (go_at_call_of 159 (Value.int IntKind.u8 (c.toNat : Int)); refine (Tryz.internal_strconv_lower _ _).mono ?_; rintro e w' ⟨rfl, rfl⟩) | (go_at_call_of 159 (Value.int IntKind.u8 95); refine (Tryz.internal_strconv_lower _ _).mono ?_; rintro e w' ⟨rfl, rfl⟩))
            all_goals go_ret2
            all_goals exact ⟨(congrArg Ending.returned (parsed_bad HF.out)).symm, hbw⟩
    · obtain rfl : k = t.size := by omega
      rw [List.take_of_length_le (by omega)] at hall hav
      have HF := Lib.hid (parsed_good (e := 165) (fun e => hne (by rw [← hlen, e]; rfl)) hall)
      subst hav
      clear hall
      go_wp2
      go_ret2
      exact ⟨(congrArg Ending.returned HF.out).symm, hbw⟩

set_option maxHeartbeats 8000000 in
set_option maxRecDepth 1000000 in
theorem parse16 (t : ByteArray) (hne : t.size ≠ 0) (hmax : t.size ≤ 7) (w : World) :
    Calls Tryz.prog 155 #[.string t, .int .i64 16, .int .i64 32] w fun e w' => e = .returned (parsed 165 16 t.data.toList) ∧ Below w.heap.size w w' := by
  have hemp : t.toList.isEmpty = false := by
    rw [← decide_eq_emptyBytes]
    exact decide_eq_false (fun h => hne (by rw [h]; rfl))
  have hcv := Lib.run_convert_string_bytes (P := Tryz.prog) w 9 56 5 t (u := .string) Tryz.underlying9 Tryz.underlying56 Tryz.underlying5
  have hB : ∀ j, j < t.size → (Lib.bytesWorld w 5 t).cell? ⟨w.heap.size, j, none⟩ = some (.int .u8 (t.data.toList.getD j 0).toNat) := fun j hj => Lib.bytesWorld_cell w 5 t j hj
  have hbw := Lib.bytesWorld_below w 5 t
  obtain ⟨W1, hW1⟩ : ∃ W1, W1 = Lib.bytesWorld w 5 t := ⟨_, rfl⟩
  rw [← hW1] at hcv hB hbw
  clear hW1
  have hlen := len_list t
  go_enter Tryz.func155, Tryz.ntmps155
  go_wp2
  go_loop [12, 13, 101] (fun vu vn vi => ∃ (k : Nat) (a : Int), vu = .bool false ∧ vn = .int .u64 a ∧ vi = .int .i64 k ∧ k ≤ t.size ∧ Hid (U.allDig 16 (t.data.toList.take k) = true ∧ a = (U.val 16 0 (t.data.toList.take k) : Nat)))
    (fun _ _ vi => t.size - (intOf vi).toNat)
  case atStart => exact ⟨0, 0, rfl, rfl, rfl, by omega, rfl, rfl⟩
  case round =>
    obtain ⟨k, a, rfl, rfl, rfl, hk, hh⟩ := hrel
    obtain ⟨hall, hav⟩ := hh.out
    clear hh
    have has := U.val_small hall (by decide) (by rw [List.length_take]; omega)
    have a0 : 0 ≤ a := by omega
    have a1 : a < 268435456 := by omega
    clear has
    by_cases hkn : k < t.size
    · have hc := hB k hkn
      have hg : t.data.toList[k]? = some (t.data.toList.getD k 0) := by
        rw [List.getD_eq_getElem?_getD, List.getElem?_eq_getElem (by omega)]; rfl
      have Hget := Lib.hid hg
      clear hg hB
      generalize t.data.toList.getD k 0 = c at *
      have hc256 : c.toNat < 256 := c.toNat_lt
      by_cases h09 : 48 ≤ c.toNat ∧ c.toNat ≤ 57
      · obtain ⟨hd0, hd1⟩ := h09
        have hd := U.dig_09 hd0 hd1
        obtain ⟨ha1, hv1⟩ := U.dig_more (base := 16) Hget.out hall (by omega)
        have hsm := U.val_small ha1 (by decide) (by rw [List.length_take]; omega)
        have HN : Hid (U.allDig 16 (t.data.toList.take (k + 1)) = true ∧ a * 16 + ((c.toNat : Int) - 48) = (U.val 16 0 (t.data.toList.take (k + 1)) : Nat)) := Lib.hid ⟨ha1, by rw [hv1, hd]; omega⟩
        have hup : a * 16 + ((c.toNat : Int) - 48) < 268435456 := by rw [HN.out.2]; omega
        clear ha1 hv1 hd hsm hall hav
        go_wp2_with (go_at_call_of 159 (Value.int IntKind.u8 (c.toNat : Int)); refine (Tryz.internal_strconv_lower _ _).mono ?_; rintro e w' ⟨rfl, rfl⟩)
        go_round
        case rel => exact ⟨k + 1, a * 16 + ((c.toNat : Int) - 48), rfl, (by first | rfl | (congr 1; omega)), (by first | rfl | (congr 1; omega)), by omega, HN⟩
        case measure => simp [intOf]; omega
      by_cases haf : 97 ≤ c.toNat ∧ c.toNat ≤ 102
      · obtain ⟨hd0, hd1⟩ := haf
        have hd := U.dig_af hd0 hd1
        obtain ⟨ha1, hv1⟩ := U.dig_more (base := 16) Hget.out hall (by omega)
        have hsm := U.val_small ha1 (by decide) (by rw [List.length_take]; omega)
        have HN : Hid (U.allDig 16 (t.data.toList.take (k + 1)) = true ∧ a * 16 + ((c.toNat : Int) - 87) = (U.val 16 0 (t.data.toList.take (k + 1)) : Nat)) := Lib.hid ⟨ha1, by rw [hv1, hd]; omega⟩
        have hup : a * 16 + ((c.toNat : Int) - 87) < 268435456 := by rw [HN.out.2]; omega
        have hlow := U.lower_at hc256 (c.toNat) (by rw [if_neg (by omega)])
        clear ha1 hv1 hd hsm hall hav
        go_wp2_with (go_at_call_of 159 (Value.int IntKind.u8 (c.toNat : Int)); refine (Tryz.internal_strconv_lower _ _).mono ?_; rintro e w' ⟨rfl, rfl⟩)
        go_round
        case rel => exact ⟨k + 1, a * 16 + ((c.toNat : Int) - 87), rfl, (by first | rfl | (congr 1; omega)), (by first | rfl | (congr 1; omega)), by omega, HN⟩
        case measure => simp [intOf]; omega
      by_cases hAF : 65 ≤ c.toNat ∧ c.toNat ≤ 70
      · obtain ⟨hd0, hd1⟩ := hAF
        have hd := U.dig_AF hd0 hd1
        obtain ⟨ha1, hv1⟩ := U.dig_more (base := 16) Hget.out hall (by omega)
        have hsm := U.val_small ha1 (by decide) (by rw [List.length_take]; omega)
        have HN : Hid (U.allDig 16 (t.data.toList.take (k + 1)) = true ∧ a * 16 + ((c.toNat : Int) - 55) = (U.val 16 0 (t.data.toList.take (k + 1)) : Nat)) := Lib.hid ⟨ha1, by rw [hv1, hd]; omega⟩
        have hup : a * 16 + ((c.toNat : Int) - 55) < 268435456 := by rw [HN.out.2]; omega
        have hlow0 := U.lower_at hc256 (c.toNat + 32) (by rw [if_pos (by omega)])
        have hlow : bits .or .u8 (c.toNat : Int) 32 = (c.toNat : Int) + 32 := by rw [hlow0]; simp
        clear hlow0
        clear ha1 hv1 hd hsm hall hav
        go_wp2_with (go_at_call_of 159 (Value.int IntKind.u8 (c.toNat : Int)); refine (Tryz.internal_strconv_lower _ _).mono ?_; rintro e w' ⟨rfl, rfl⟩)
        go_round
        case rel => exact ⟨k + 1, a * 16 + ((c.toNat : Int) - 55), rfl, (by first | rfl | (congr 1; omega)), (by first | rfl | (congr 1; omega)), by omega, HN⟩
        case measure => simp [intOf]; omega
      by_cases hlc : 97 ≤ c.toNat ∧ c.toNat ≤ 122
      · obtain ⟨hd0, hd1⟩ := hlc
        have hnd : ¬ U.dig c < 16 := by
          rw [U.dig_no h09 haf hAF]; omega
        have HF := Lib.hid (U.dig_bad Hget.out hnd)
        have hd2 : 103 ≤ c.toNat := by omega
        have hlow := U.lower_at hc256 c.toNat (by rw [if_neg (by omega)])
        clear hnd h09 haf hAF hall hav
        go_wp2_with (go_at_call_of 159 (Value.int IntKind.u8 (c.toNat : Int)); refine (Tryz.internal_strconv_lower _ _).mono ?_; rintro e w' ⟨rfl, rfl⟩)
        all_goals go_ret2
        all_goals exact ⟨(congrArg Ending.returned (parsed_bad HF.out)).symm, hbw⟩
      by_cases huc : 65 ≤ c.toNat ∧ c.toNat ≤ 90
      · obtain ⟨hd0, hd1⟩ := huc
        have hnd : ¬ U.dig c < 16 := by
          rw [U.dig_no h09 haf hAF]; omega
        have HF := Lib.hid (U.dig_bad Hget.out hnd)
        have hd2 : 71 ≤ c.toNat := by omega
        have hlow0 := U.lower_at hc256 (c.toNat + 32) (by rw [if_pos (by omega)])
        have hlow : bits .or .u8 (c.toNat : Int) 32 = (c.toNat : Int) + 32 := by rw [hlow0]; simp
        clear hlow0
        clear hnd h09 haf hAF hall hav
        go_wp2_with (go_at_call_of 159 (Value.int IntKind.u8 (c.toNat : Int)); refine (Tryz.internal_strconv_lower _ _).mono ?_; rintro e w' ⟨rfl, rfl⟩)
        all_goals go_ret2
        all_goals exact ⟨(congrArg Ending.returned (parsed_bad HF.out)).symm, hbw⟩
      · have hnd : ¬ U.dig c < 16 := by
          rw [U.dig_no h09 haf hAF]; omega
        have HF := Lib.hid (U.dig_bad Hget.out hnd)
        have hlow := U.lower_eq hc256
        have hno : (if c.toNat / 32 % 2 = 0 then c.toNat + 32 else c.toNat) < 97 ∨ 122 < (if c.toNat / 32 % 2 = 0 then c.toNat + 32 else c.toNat) := by split <;> omega
        generalize (if c.toNat / 32 % 2 = 0 then c.toNat + 32 else c.toNat) = v at hlow hno
        have hdig : ¬ (48 ≤ c.toNat ∧ c.toNat ≤ 57) := h09
        clear hnd haf hAF hall hav hlc huc
        rcases hno with hno | hno
        · rcases Nat.lt_or_ge c.toNat 48 with hlt | hge
          · clear hdig h09
            go_wp2_with (go_at_call_of 159 (Value.int IntKind.u8 (c.toNat : Int)); refine (Tryz.internal_strconv_lower _ _).mono ?_; rintro e w' ⟨rfl, rfl⟩)
            all_goals go_ret2
            all_goals exact ⟨(congrArg Ending.returned (parsed_bad HF.out)).symm, hbw⟩
          · have hgt : 58 ≤ c.toNat := by omega
            have hlu : bits .or .u8 95 32 = 127 := by decide
            clear hdig h09 hge
            go_wp2_with (first | (go_at_call_of 159 (Value.int IntKind.u8 (c.toNat : Int)); refine (Tryz.internal_strconv_lower _ _).mono ?_; rintro e w' ⟨rfl, rfl⟩) | (go_at_call_of 159 (Value.int IntKind.u8 95); refine (Tryz.internal_strconv_lower _ _).mono ?_; rintro e w' ⟨rfl, rfl⟩))
            all_goals go_ret2
            all_goals exact ⟨(congrArg Ending.returned (parsed_bad HF.out)).symm, hbw⟩
        · rcases Nat.lt_or_ge c.toNat 48 with hlt | hge
          · clear hdig h09
            go_wp2_with (go_at_call_of 159 (Value.int IntKind.u8 (c.toNat : Int)); refine (Tryz.internal_strconv_lower _ _).mono ?_; rintro e w' ⟨rfl, rfl⟩)
            all_goals go_ret2
            all_goals exact ⟨(congrArg Ending.returned (parsed_bad HF.out)).symm, hbw⟩
          · have hgt : 58 ≤ c.toNat := by omega
            have hlu : bits .or .u8 95 32 = 127 := by decide
            clear hdig h09 hge
            go_wp2_with (first | (go_at_call_of 159 (Value.int IntKind.u8 (c.toNat : Int)); refine (Tryz.internal_strconv_lower _ _).mono ?_; rintro e w' ⟨rfl, rfl⟩) | (go_at_call_of 159 (Value.int IntKind.u8 95); refine (Tryz.internal_strconv_lower _ _).mono ?_; rintro e w' ⟨rfl, rfl⟩))
            all_goals go_ret2
            all_goals exact ⟨(congrArg Ending.returned (parsed_bad HF.out)).symm, hbw⟩
    · obtain rfl : k = t.size := by omega
      rw [List.take_of_length_le (by omega)] at hall hav
      have HF := Lib.hid (parsed_good (e := 165) (fun e => hne (by rw [← hlen, e]; rfl)) hall)
      subst hav
      clear hall
      go_wp2
      go_ret2
      exact ⟨(congrArg Ending.returned HF.out).symm, hbw⟩

end Go.Proofs.YtmfkefcdddoooaaGreatDoor

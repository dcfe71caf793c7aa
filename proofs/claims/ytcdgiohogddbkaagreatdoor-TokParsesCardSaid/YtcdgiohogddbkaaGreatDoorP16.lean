/- Several texts in one: StepCall, Flush, Remark, TagBody. -/
import Derived.Deep.RegionLaw
import Derived.Outline
import Derived.Deep.RegionHeld3
import Derived.Deep.RegionWith
import Derived.Deep.AppendLies
import Derived.Handy
import Derived.Test.YtcdgiohogddbkaaGreatDoorP15
import Derived.Test.YtcdgiohogddbkaaGreatDoorP02
import Derived.Test.YtcdgiohogddbkaaGreatDoorP01
namespace Go.Proofs.YtcdgiohogddbkaaGreatDoor
open Go.RowKit

set_option maxHeartbeats 4000000 in
set_option maxRecDepth 1000000 in
theorem step_unescape {ops : Array Oper} {o : Oper} {a : Act} {w : World} {K : Act → World → Prop} {Q : Exit → Act → World → Prop} {E : Prop} (hg : o.guard = none) (x : Tmp) (ty : Array TypeId)
    (ho : o.op = Op.call { callee := Callee.value (Operand.func 24), args := #[.tmp x], argTypes := ty }) (t : ByteArray) (hx : a.eval (.tmp x) = .string t)
    (h : Calls Tryz.prog 24 #[.string t] w fun e w' => ∃ r, e = .returned r ∧ K (a.put o.dst r) w') :
    if Region.wanted o (yielded ops a.tmps) = true then Oper.wp Tryz.prog o a w K Q else E := by
  have hw : Region.wanted o (yielded ops a.tmps) = true := by simp [Region.wanted, hg]
  rw [if_pos hw]
  obtain ⟨dst, op, type, pos, after, guard⟩ := o
  simp only at ho hg h ⊢
  subst ho
  subst hg
  unfold Oper.wp execOp
  go_simp
  unfold Act.eval at hx
  simp only [Array.getD_eq_getD_getElem?] at hx
  rw [hx]
  refine h.mono ?_
  rintro e w' ⟨r, rfl, hk⟩
  exact hk

end Go.Proofs.YtcdgiohogddbkaaGreatDoor

namespace Go.Proofs.YtcdgiohogddbkaaGreatDoor
open Go.RowKit

theorem TokW.textCell {w z wr : World} {B bt bo : Nat} {v : Value} {txt : List UInt8} {l : List (U.Tok × Value)} (h : TokW w z wr B bt bo v txt l) : wr.cell? ⟨bt, 0, none⟩ = some (.string ⟨txt.toArray⟩) ∧ wr.frozen? ⟨bt, 0, none⟩ = false := ⟨by rw [Lib.cell_of_heap h.text]; rfl, Lib.frozen_of_heap h.text 0⟩
theorem TokW.outCell {w z wr : World} {B bt bo : Nat} {v : Value} {txt : List UInt8} {l : List (U.Tok × Value)} (h : TokW w z wr B bt bo v txt l) : wr.cell? ⟨bo, 0, none⟩ = some v ∧ wr.frozen? ⟨bo, 0, none⟩ = false := ⟨by rw [Lib.cell_of_heap h.out]; rfl, Lib.frozen_of_heap h.out 0⟩
theorem TokW.outGrown {w z wr w2 : World} {B bt bo : Nat} {v : Value} {txt : List UInt8} {l : List (U.Tok × Value)} (h : TokW w z wr B bt bo v txt l) (hg : wr.grownBy w2 v.ownBlock) : w2.cell? ⟨bo, 0, none⟩ = some v ∧ w2.frozen? ⟨bo, 0, none⟩ = false := by
  have h2 := h.boB
  have h3 := h.size
  have hb : w2.heap[bo]? = some (.cells #[v] 22 (0, 0)) := (hg.block _ (by omega) (fun e => by have := (h.row.lt _ e.symm).1; omega)).trans h.out
  exact ⟨by rw [Lib.cell_of_heap hb]; rfl, Lib.frozen_of_heap hb 0⟩

theorem TokW.textGrown {w z wr w2 : World} {B bt bo : Nat} {v : Value} {txt : List UInt8} {l : List (U.Tok × Value)} (h : TokW w z wr B bt bo v txt l) (hg : wr.grownBy w2 v.ownBlock) : w2.cell? ⟨bt, 0, none⟩ = some (.string ⟨txt.toArray⟩) ∧ w2.frozen? ⟨bt, 0, none⟩ = false := by
  have h2 := h.btB
  have h3 := h.size
  have hb : w2.heap[bt]? = some (.cells #[.string ⟨txt.toArray⟩] 9 (0, 0)) := (hg.block _ (by omega) (fun e => by have := (h.row.lt _ e.symm).1; omega)).trans h.text
  exact ⟨by rw [Lib.cell_of_heap hb]; rfl, Lib.frozen_of_heap hb 0⟩

set_option maxHeartbeats 4000000 in
set_option maxRecDepth 1000000 in
theorem flush_walk (w z wr : World) (B bt bo : Nat) (v : Value) (txt : List UInt8) (l : List (U.Tok × Value)) (h : TokW w z wr B bt bo v txt l) (ht : txt.length ≤ 1048576) (hl : l.length ≤ 1048576) :
    Calls Tryz.prog 23 #[.pointer (some ⟨bt, 0, none⟩), .pointer (some ⟨bo, 0, none⟩)] wr fun e w' => e = .returned (.tuple #[]) ∧ ∃ v2 l2, TokW w z w' B bt bo v2 [] l2 ∧ l2.map (·.1) = l.map (·.1) ++ U.chars txt ∧ l2.length ≤ l.length + 1 ∧ ∀ k, B ≤ k → k < wr.heap.size → some k ≠ v.ownBlock → w'.heap[k]? = wr.heap[k]? ∧ some k ≠ v2.ownBlock := by
  obtain ⟨iT, hiT, hT0, hT1, hT2⟩ := info_parts infoTok
  obtain ⟨t0, t1⟩ := h.textCell
  obtain ⟨o0, o1⟩ := h.outCell
  have hs0 := h.size
  have hB1 := h.btB
  have hB2 := h.boB
  have hne := h.apart
  obtain ⟨ao, cap, rfl⟩ := own_form h.row
  by_cases he : txt = []
  · subst he
    go_enter Tryz.func23, Tryz.ntmps23
    go_wp2_with fail
    go_end0
    exact ⟨rfl, _, l, h, by simp [U.chars], by omega, fun _ _ _ h3 => ⟨rfl, h3⟩⟩
  · have hem : txt.isEmpty = false := by simpa using he
    have hz := size_of_mk txt
    have ru := ref_unescape (ByteArray.mk txt.toArray)
    rw [list_of_mk, size_of_mk] at ru
    go_enter Tryz.func23, Tryz.ntmps23
    have hd := h.later (below_drewN (Below.refl wr.heap.size wr) 1)
    go_wp2_with fail
    go_region_law (first
        | (refine step_unescape rfl _ _ rfl ⟨txt.toArray⟩ (by rfl) ((ru _ (by omega)).mono ?_); rintro e w2 ⟨rfl, b2⟩; refine ⟨_, rfl, ?_⟩; have k1 := (b2.cell (p := ⟨bo, 0, none⟩) (by show bo < wr.heap.size; omega)).trans o0; have k2 := (b2.cell (p := ⟨bt, 0, none⟩) (by show bt < wr.heap.size; omega)).trans t0; have hd2 := hd.later b2; have k3 := hd2.size; have k4 := (cell_alloc_old w2 (.cells #[.int .i64 3, .string ⟨#[]⟩, .slice none 0 0, .bool false, .string ⟨(U.unesc txt).toArray⟩] 34) ⟨bo, 0, none⟩ (by show bo < w2.heap.size; omega)).trans k1)
        | (refine step_append_lies _ (by rfl) _ _ _ (by rfl) B 34 iT _ 5 72 Tryz.underlying22 hiT hT0 hT1 hT2 rfl (by omega) (.slice ao l.length cap) l.length (tokCells l) (by rfl) (hd2.row.alloc _)
            ⟨w2.heap.size, 0, none⟩ 1 1 [.int .i64 3, .string ⟨#[]⟩, .slice none 0 0, .bool false, .string ⟨(U.unesc txt).toArray⟩] (by rfl) (by rfl) (World.news_of_block (cs := #[.int .i64 3, .string ⟨#[]⟩, .slice none 0 0, .bool false, .string ⟨(U.unesc txt).toArray⟩]) (t := 34) (fr := (0, 0)) (heap_alloc_new w2 _)) (by simp [Value.oneCell'])
            (by omega) (by unfold maxLen; omega) (by omega) (by have := hd2.size; simp; omega) (w2.heap.size + 1) (by simp) ?_; intro gg cap7 w7 hown7 hgrow7 hat7 hlt7; obtain ⟨q1, q2⟩ := (hd2.alloc _).outGrown hgrow7; obtain ⟨q3, q4⟩ := (hd2.alloc _).textGrown hgrow7))
    all_goals
      have HP := (hd2.alloc _).put ⟨3, [], [], false, U.unesc txt⟩ (.slice none 0 0) (World.ownsRow_nil _ _ _ _) hown7 hgrow7
      obtain ⟨r0, r1⟩ := HP.textCell
      obtain ⟨r2, r3⟩ := HP.outCell
      have HQ := HP.setText []
      have hoth : ∀ k, B ≤ k → k < wr.heap.size → some k ≠ (Value.slice ao l.length cap).ownBlock → w7.heap[k]? = wr.heap[k]? := fun k h1 h2 h3 =>
        (hgrow7.block k (by have := b2.size; simp at this ⊢; omega) h3).trans ((Lib.alloc_old _ _ _ (by have := b2.size; simp at this; omega)).trans (b2.block k (by simp; omega)))
      have HOTH := Lib.hid hoth
      have hat : ∀ k, k < wr.heap.size → some k ≠ (Value.slice ao l.length cap).ownBlock → some k ≠ some gg := fun k h1 h3 e => by
        injection e with e
        subst e
        rcases hat7 with h4 | h4
        · exact h3 h4.symm
        · have := b2.size; simp at this; omega
      have HAT := Lib.hid hat
      clear hat
      clear hown7 hgrow7 hd2 hd hoth
      go_wp2_with fail
      go_end0
      exact ⟨rfl, _, _, HQ, by simp [U.chars, he], by simp, fun k h1 h2 h3 => ⟨(Below.heap_setCell _ _ _ _ (show k ≠ bt by omega)).trans ((Below.heap_setCell _ _ _ _ (show k ≠ bo by omega)).trans (HOTH.out k h1 h2 h3)), HAT.out k h2 h3⟩⟩

end Go.Proofs.YtcdgiohogddbkaaGreatDoor

namespace Go.Proofs.YtcdgiohogddbkaaGreatDoor
open Go.RowKit

theorem TokW.fixed {w z wr : World} {B bt bo : Nat} {v : Value} {txt : List UInt8} {l : List (U.Tok × Value)} (h : TokW w z wr B bt bo v txt l) {k : Nat} {c : Value} {t : TypeId} (hz : z.heap[k]? = some (.cells #[c] t (0, 0))) (hk : k < B) (h1 : k ≠ bt) (h2 : k ≠ bo) :
    wr.cell? ⟨k, 0, none⟩ = some c ∧ wr.frozen? ⟨k, 0, none⟩ = false := by
  have hb := (h.fix k hk h1 h2).trans hz
  exact ⟨by rw [Lib.cell_of_heap hb]; rfl, Lib.frozen_of_heap hb 0⟩
theorem extract_mk (s : ByteArray) (a b : Nat) : s.extract a b = ⟨((s.data.toList.drop a).take (b - a)).toArray⟩ := by
  apply ByteArray.ext
  apply Array.toList_inj.1
  rw [Lib.extract_data]

/-- the cells that the closures know -/
structure Shut (s : ByteArray) (z : World) (B bt bo bs bf : Nat) : Prop where
  text : z.heap[bs]? = some (.cells #[.string s] 9 (0, 0))
  fn : z.heap[bf]? = some (.cells #[.func (.func 23) #[] #[.pointer (some ⟨bt, 0, none⟩), .pointer (some ⟨bo, 0, none⟩)]] 1 (0, 0))
  s1 : bs < B
  s2 : bs ≠ bt
  s3 : bs ≠ bo
  f1 : bf < B
  f2 : bf ≠ bt
  f3 : bf ≠ bo

set_option maxHeartbeats 4000000 in
set_option maxRecDepth 1000000 in
theorem remark_walk (s f : ByteArray) (a : Nat) (hs : s.size ≤ 1048576) (hf : f.size ≤ 100) (hf0 : 0 < f.size) (ha : a ≤ s.size) (w z wr : World) (B bt bo bs bf : Nat) (hz : Shut s z B bt bo bs bf) (v : Value) (txt : List UInt8) (l : List (U.Tok × Value)) (h : TokW w z wr B bt bo v txt l) (ht : txt.length ≤ 1048576) (hl : l.length ≤ 1048570) :
    Calls Tryz.prog 25 #[.int .i64 a, .string f, .pointer (some ⟨bf, 0, none⟩), .pointer (some ⟨bs, 0, none⟩), .pointer (some ⟨bo, 0, none⟩)] wr fun e w' =>
      ∃ q : Nat, e = .returned (.int .i64 q) ∧ q ≤ s.size ∧ a < q + 1 ∧ s.data.toList.drop q = (U.remark f.data.toList (s.data.toList.drop a)).2 ∧
        ∃ v2 l2, TokW w z w' B bt bo v2 [] l2 ∧ l2.map (·.1) = l.map (·.1) ++ (U.chars txt ++ [(U.remark f.data.toList (s.data.toList.drop a)).1]) ∧ l2.length ≤ l.length + 2 := by
  obtain ⟨iT, hiT, hT0, hT1, hT2⟩ := info_parts infoTok
  obtain ⟨s0, s1⟩ := h.fixed hz.text hz.s1 hz.s2 hz.s3
  obtain ⟨f0, f1⟩ := h.fixed hz.fn hz.f1 hz.f2 hz.f3
  go_enter Tryz.func25, Tryz.ntmps25
  go_wp2_with fail
  refine (flush_walk w z wr B bt bo v txt l h ht (by omega)).mono ?_
  rintro e w2 ⟨rfl, v2, l2, h2, e2, n2, _⟩
  obtain ⟨s2, s3⟩ := h2.fixed hz.text hz.s1 hz.s2 hz.s3
  clear s0 s1 f0 f1 h
  go_wp2_with fail
  refine (place_of s f a w2 hs hf hf0 ha).mono ?_
  rintro e w3 ⟨rfl, rfl⟩
  have hne : f.data.toList ≠ [] := fun e => by have := len_list f; rw [e] at this; simp at this; omega
  have hfl := len_list f
  have hsl := len_list s
  obtain ⟨o0, o1⟩ := h2.outCell
  have hs0 := h2.size
  have hB1 := h2.btB
  have hB2 := h2.boB
  have hB3 := hz.s1
  obtain ⟨ao, cap, rfl⟩ := own_form h2.row
  have hd := h2.later (below_drewN (Below.refl w2.heap.size w2) 1)
  cases hp : U.placeOf f.data.toList (s.data.toList.drop a) with
  | none =>
    have hr : U.remark f.data.toList (s.data.toList.drop a) = (⟨4, [], [], false, s.data.toList.drop a⟩, []) := by unfold U.remark; rw [hp]
    have HR := Lib.hid hr
    clear hr hp
    have hx := extract_mk s a s.size
    rw [List.take_of_length_le (by rw [List.length_drop, hsl]; exact Nat.le_refl _)] at hx
    unfold placeV
    simp only
    go_wp2_with fail
    have k4 := (cell_alloc_old w2 (.cells #[.int .i64 4, .string ⟨#[]⟩, .slice none 0 0, .bool false, .string ⟨(s.data.toList.drop a).toArray⟩] 34) ⟨bo, 0, none⟩ (by show bo < w2.heap.size; omega)).trans o0
    go_region_law (refine step_append_lies _ (by rfl) _ _ _ (by rfl) B 34 iT _ 5 72 Tryz.underlying22 hiT hT0 hT1 hT2 rfl (by omega) (.slice ao l2.length cap) l2.length (tokCells l2) (by rfl) ((h2.alloc _).later (below_drewN (Below.refl _ _) 1)).row ⟨w2.heap.size, 0, none⟩ 1 1 [.int .i64 4, .string ⟨#[]⟩, .slice none 0 0, .bool false, .string ⟨(s.data.toList.drop a).toArray⟩] (by rfl) (by rfl) (World.news_of_block (cs := #[.int .i64 4, .string ⟨#[]⟩, .slice none 0 0, .bool false, .string ⟨(s.data.toList.drop a).toArray⟩]) (t := 34) (fr := (0, 0)) (heap_alloc_new w2 _)) (by simp [Value.oneCell']) (by omega) (by unfold maxLen; omega) (by omega) (by have := h2.size; simp; omega) (w2.heap.size + 1) (by simp) ?_; intro gg cap7 w7 hown7 hgrow7 hat7 hlt7; obtain ⟨q1, q2⟩ := ((h2.alloc _).later (below_drewN (Below.refl _ _) 1)).outGrown hgrow7)
    all_goals
      have HP := ((h2.alloc _).later (below_drewN (Below.refl _ _) 1)).put ⟨4, [], [], false, s.data.toList.drop a⟩ (.slice none 0 0) (World.ownsRow_nil _ _ _ _) hown7 hgrow7
      obtain ⟨r0, r1⟩ := HP.fixed hz.text hz.s1 hz.s2 hz.s3
      clear hown7 hgrow7
      go_wp2_with fail
      go_ret
      refine ⟨s.size, rfl, Nat.le_refl _, by omega, ?_, _, _, HP, ?_, by rw [List.length_append, List.length_singleton]; omega⟩
      · rw [HR.out, List.drop_of_length_le (by rw [len_list]; exact Nat.le_refl _)]
      · rw [HR.out, List.map_append, e2, List.append_assoc]
        rfl
  | some k =>
    have hle := U.placeOf_le hne hp
    rw [List.length_drop, hsl, hfl] at hle
    have hr : U.remark f.data.toList (s.data.toList.drop a) = (⟨4, [], [], false, (s.data.toList.drop a).take k⟩, (s.data.toList.drop a).drop (k + f.size)) := by unfold U.remark; rw [hp, hfl]
    have HR := Lib.hid hr
    have hx := extract_mk s a (a + k)
    rw [show a + k - a = k by omega, show a + k = ((a : Int) + (k : Int)).toNat by omega] at hx
    have hi0 : (0 : Int) ≤ (a : Int) := Int.natCast_nonneg _
    have hi1 : (a : Int) ≤ (a : Int) + (k : Int) := by omega
    have hi2 : (a : Int) + (k : Int) ≤ (s.size : Int) := by omega
    clear hr hp
    unfold placeV
    simp only
    go_wp2_with fail
    have k4 := (cell_alloc_old w2 (.cells #[.int .i64 4, .string ⟨#[]⟩, .slice none 0 0, .bool false, .string ⟨((s.data.toList.drop a).take k).toArray⟩] 34) ⟨bo, 0, none⟩ (by show bo < w2.heap.size; omega)).trans o0
    go_region_law (refine step_append_lies _ (by rfl) _ _ _ (by rfl) B 34 iT _ 5 72 Tryz.underlying22 hiT hT0 hT1 hT2 rfl (by omega) (.slice ao l2.length cap) l2.length (tokCells l2) (by rfl) ((h2.alloc _).later (below_drewN (Below.refl _ _) 1)).row ⟨w2.heap.size, 0, none⟩ 1 1 [.int .i64 4, .string ⟨#[]⟩, .slice none 0 0, .bool false, .string ⟨((s.data.toList.drop a).take k).toArray⟩] (by rfl) (by rfl) (World.news_of_block (cs := #[.int .i64 4, .string ⟨#[]⟩, .slice none 0 0, .bool false, .string ⟨((s.data.toList.drop a).take k).toArray⟩]) (t := 34) (fr := (0, 0)) (heap_alloc_new w2 _)) (by simp [Value.oneCell']) (by omega) (by unfold maxLen; omega) (by omega) (by have := h2.size; simp; omega) (w2.heap.size + 1) (by simp) ?_; intro gg cap7 w7 hown7 hgrow7 hat7 hlt7; obtain ⟨q1, q2⟩ := ((h2.alloc _).later (below_drewN (Below.refl _ _) 1)).outGrown hgrow7)
    all_goals
      have HP := ((h2.alloc _).later (below_drewN (Below.refl _ _) 1)).put ⟨4, [], [], false, (s.data.toList.drop a).take k⟩ (.slice none 0 0) (World.ownsRow_nil _ _ _ _) hown7 hgrow7
      clear hown7 hgrow7
      go_wp2_with fail
      go_ret
      refine ⟨a + k + f.size, by push_cast; rfl, by omega, by omega, ?_, _, _, HP, ?_, by rw [List.length_append, List.length_singleton]; omega⟩
      · rw [HR.out, List.drop_drop, Nat.add_assoc]
      · rw [HR.out, List.map_append, e2, List.append_assoc]
        rfl

end Go.Proofs.YtcdgiohogddbkaaGreatDoor

namespace Go.Proofs.YtcdgiohogddbkaaGreatDoor
open Go.RowKit

def loopOf : Code → Option Code
  | .loop c => some c
  | .seq a b => match loopOf a with
    | some c => some c
    | none => loopOf b
  | .block _ c => loopOf c
  | .scope c => loopOf c
  | .cond _ a b => match loopOf a with
    | some c => some c
    | none => loopOf b
  | _ => none
noncomputable def tagBody : Code := ((Tryz.f28.body.bind loopOf).getD .skip)

set_option maxRecDepth 1000000 in
def TagI (s : ByteArray) (a : Nat) (w : World) (a' : Act) (w' : World) : Prop :=
  ∃ u1 u5 u6 u8 u9 u10 u11 u12 u13 u14 u16 u17 u19 u20 u21 u22 u23 u24 u25 u26 u27 u28 u29 u30 u31 u32 u33 u34 u35 u36 u37 u38 u39 u40 u41 u42 u43 u44 u45 u46 u47 u48 u49 u50 u51 u52 u53 u54
  u55 u56 u57 u58 u59 u60 u61 u62 u63 u64 u65 u66 u67 u68 u69 u70 u71 u72 u73 u74 u75 u76 u77 u78 u79 u80 u81 u82 u83 u84 u85 u86 u87 u88 u89 u90 u91 u92 u93 u94 u95 u96 u97 u98 u99 u100
  u101 u102 u103 u104 u105 u106 u107 u108 u109 u110 u111 u112 u113 u114 u115 u116 u117 u118 u119 u120 u121 u122 u123 u124 u125 u126 u127 u128 u129 u130 u131 u132 u133 u134 u135 u136 u137
  u138 u139 u140 u141 u142 u143 u144 u145 u146 u147 u148 u149 u150 u151 u152 u153 u154 u155 u156 u157 u158 u159 u160 u161 u162 u163 u164 u165 u166 u167 u168 u169 u170 u171 u172 u173 u174
  u175 u176 u177 u178 u179 u180 u181 u182 u183 u184 u185 u186 u187 u188 u189 u190 u191 u192 u193 u194 u195 u196 u197 u198 u199 u200 u201 u202 u203 u204 u205 u206 : Value,
    (∃ (k : Nat) (st : U.St), a ≤ k ∧ k ≤ s.size ∧ u1 = .int .i64 k ∧ u9 = .int .i64 st.state ∧ st.state ≤ 6 ∧ u10 = .string ⟨st.name.toArray⟩ ∧ u11 = .string ⟨st.value.toArray⟩ ∧ u12 = .int .u8 st.quote.toNat ∧ u13 = .bool st.slash ∧ TagW w w' u8 st.tname st.all ∧ Hid (U.runM st (s.data.toList.drop k) = U.runM U.st0 (s.data.toList.drop a)) ∧ st.name.length ≤ k ∧ st.value.length ≤ k ∧ st.tname.length ≤ k ∧ st.all.length ≤ k) ∧
    a' = ⟨#[.string s, u1, undef, undef, .pointer (some ⟨w.heap.size, 0, none⟩), u5, u6, .pointer (some ⟨w.heap.size + 1, 0, none⟩), u8, u9, u10, u11, u12, u13, u14, undef, u16, u17, undef, u19,
      u20, u21, u22, u23, u24, u25, u26, u27, u28, u29, u30, u31, u32, u33, u34, u35, u36, u37, u38, u39, u40, u41, u42, u43, u44, u45, u46, u47, u48, u49, u50, u51, u52, u53, u54, u55, u56,
      u57, u58, u59, u60, u61, u62, u63, u64, u65, u66, u67, u68, u69, u70, u71, u72, u73, u74, u75, u76, u77, u78, u79, u80, u81, u82, u83, u84, u85, u86, u87, u88, u89, u90, u91, u92, u93,
      u94, u95, u96, u97, u98, u99, u100, u101, u102, u103, u104, u105, u106, u107, u108, u109, u110, u111, u112, u113, u114, u115, u116, u117, u118, u119, u120, u121, u122, u123, u124,
      u125, u126, u127, u128, u129, u130, u131, u132, u133, u134, u135, u136, u137, u138, u139, u140, u141, u142, u143, u144, u145, u146, u147, u148, u149, u150, u151, u152, u153, u154,
      u155, u156, u157, u158, u159, u160, u161, u162, u163, u164, u165, u166, u167, u168, u169, u170, u171, u172, u173, u174, u175, u176, u177, u178, u179, u180, u181, u182, u183, u184,
      u185, u186, u187, u188, u189, u190, u191, u192, u193, u194, u195, u196, u197, u198, u199, u200, u201, u202, u203, u204, u205, u206, undef], []⟩

def tagMu (s : ByteArray) (a' : Act) : Nat := 2 * (s.size - (intOf (a'.tmps.getD 1 undef)).toNat) + (if intOf (a'.tmps.getD 9 undef) = 4 then 1 else 0)

end Go.Proofs.YtcdgiohogddbkaaGreatDoor

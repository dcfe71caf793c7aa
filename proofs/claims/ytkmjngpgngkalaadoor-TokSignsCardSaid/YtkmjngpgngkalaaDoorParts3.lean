/- append(a, b...) of tokens that read. -/
import Derived.Test.YtkmjngpgngkalaaDoorRdT
import Derived.Test.YtkmjngpgngkalaaDoorWords
import Derived.OwnWalk
import Derived.Test.YtkmjngpgngkalaaDoorToksMath
import Derived.Test.YtkmjngpgngkalaaDoorKeep
import Derived.Test.YtkmjngpgngkalaaDoorMarkup
import Derived.Test.YtkmjngpgngkalaaDoorSameK
import Derived.Test.YtkmjngpgngkalaaDoorCountMath
import Derived.Deep.RegionLaw
import Derived.Deep.DeepCutAuto
import Derived.Outline
namespace Go.Proofs.YtkmjngpgngkalaaDoor
open Go.RowKit

theorem toks_list_at {w : World} {B g : Nat} : ∀ (ts : List U.Tok) (o : Nat), (∀ (i : Nat) (t : U.Tok), ts[i]? = some t → ∃ av, w.cell? ⟨g, o + i * 5, none⟩ = some (.int .i64 t.kind) ∧ w.cell? ⟨g, o + i * 5 + 1, none⟩ = some (.string ⟨t.name.toArray⟩) ∧
    w.cell? ⟨g, o + i * 5 + 2, none⟩ = some av ∧ w.cell? ⟨g, o + i * 5 + 3, none⟩ = some (.bool t.self) ∧ w.cell? ⟨g, o + i * 5 + 4, none⟩ = some (.string ⟨t.text.toArray⟩) ∧ RdA w B av t.attrs ∧ t.attrs.length ≤ 1048576) →
    ∃ l : List (U.Tok × Value), l.map (·.1) = ts ∧ (∀ x ∈ l, RdA w B x.2 x.1.attrs ∧ x.1.attrs.length ≤ 1048576) ∧ ∀ j u, (tokCells l)[j]? = some u → w.cell? ⟨g, o + j, none⟩ = some u
  | [], _, _ => ⟨[], rfl, fun _ h => (by cases h), fun j u h => (by simp [tokCells] at h)⟩
  | t :: ts, o, h => by
    obtain ⟨av, c0, c1, c2, c3, c4, hA, hl⟩ := h 0 t rfl
    obtain ⟨l, e, h1, h2⟩ := toks_list_at ts (o + 5) (fun i t' ht => by
      have := h (i + 1) t' (by simpa using ht)
      rw [show o + (i + 1) * 5 = o + 5 + i * 5 by omega] at this
      exact this)
    refine ⟨(t, av) :: l, by rw [List.map_cons, e], ?_, ?_⟩
    · intro x hx
      rcases List.mem_cons.1 hx with rfl | hx
      · exact ⟨hA, hl⟩
      · exact h1 x hx
    · intro j u hj
      have e5 : tokCells ((t, av) :: l) = .int .i64 (t.kind : Nat) :: .string ⟨t.name.toArray⟩ :: av :: .bool t.self :: .string ⟨t.text.toArray⟩ :: tokCells l := rfl
      rw [e5] at hj
      rw [Nat.zero_mul, Nat.add_zero] at c0 c1 c2 c3 c4
      match j, hj with
      | 0, hj => simp at hj; subst hj; exact c0
      | 1, hj => simp at hj; subst hj; exact c1
      | 2, hj => simp at hj; subst hj; exact c2
      | 3, hj => simp at hj; subst hj; exact c3
      | 4, hj => simp at hj; subst hj; exact c4
      | j + 5, hj =>
        rw [show o + (j + 5) = o + 5 + j by omega]
        exact h2 j u (by simpa using hj)

theorem one_tokCells (l : List (U.Tok × Value)) (h : ∀ x ∈ l, x.2.oneCell' = true) : ∀ u ∈ tokCells l, u.oneCell' = true := by
  intro u hu
  obtain ⟨x, hx, hu⟩ := List.mem_flatMap.1 hu
  simp only [List.mem_cons, List.not_mem_nil, or_false] at hu
  rcases hu with rfl | rfl | rfl | rfl | rfl
  · rfl
  · rfl
  · exact h x hx
  · rfl
  · rfl

/-- append of tokens that read onto a row of the call's own -/
theorem run_append_toks (w : World) {base B cap : Nat} {v : Value} {ao : Option Addr} {l : List (U.Tok × Value)} {ts : List U.Tok} (hown : w.ownsRow base 27 5 v l.length (tokCells l)) (hsrc : RdT w B (.slice ao ts.length cap) ts) (hnm : l.length + ts.length ≤ 1048576) (hbase : base ≤ w.heap.size) :
    ∃ v' w' l2, (Builtin.append_ #[22, 22] 22 #[v, .slice ao ts.length cap]).run Tryd.prog w = .ok v' w' ∧ List.map (fun x => x.1) l2 = ts ∧ (∀ x ∈ l2, RdA w B x.2 x.1.attrs ∧ x.1.attrs.length ≤ 1048576) ∧
      w'.ownsRow base 27 5 v' (l ++ l2).length (tokCells (l ++ l2)) ∧ w.grownBy w' v.ownBlock := by
  obtain ⟨i0, hi, hz0, hz1, hz2⟩ := info_parts infoTok
  obtain ⟨ao', cap', e, hc⟩ := hsrc
  injection e with e1 _ e3
  subst e1
  subst e3
  cases hts : ts with
  | nil =>
    subst hts
    refine ⟨v, w, [], ?_, rfl, fun _ h => (by cases h), (by rw [List.append_nil]; exact hown), World.grownBy.refl w _⟩
    rcases hown.2 with ⟨rfl, _⟩ | ⟨g, cap2, cur, rfl, _, _, hnc, _⟩
    · cases ao <;> simp [Builtin.append_, run_underlying Tryd.underlying22, sizeOf, typeInfo, hi, Builtin.lenOf, Builtin.firstCells, loadCells, loadCellsFrom]
    · cases ao <;> simp [Builtin.append_, run_underlying Tryd.underlying22, sizeOf, typeInfo, hi, Builtin.lenOf, Builtin.firstCells, hnc, storeCells, loadCells, loadCellsFrom]
  | cons t ts' =>
    obtain ⟨g, o, _, e, hg, _⟩ := hc 0 t (by rw [hts]; rfl)
    subst e
    obtain ⟨l2, e2, h1, h2⟩ := toks_list_at (w := w) (B := B) (g := g) ts o (fun i t ht => by
      obtain ⟨g', o', av, e, _, r⟩ := hc i t ht
      injection e with e
      injection e with e1 e2
      subst e1
      subst e2
      exact ⟨av, r⟩)
    have hl2 : l2.length = ts.length := by rw [← e2, List.length_map]
    obtain ⟨v', w', r1, r2, r3, _⟩ := run_append_own (P := Tryd.prog) w base 22 22 27 i0 _ 5 72 Tryd.underlying22 hi hz0 hz1 hz2 rfl (by decide) v l.length (tokCells l) hown ⟨g, o, none⟩ ts.length cap (tokCells l2) (by rw [tokCells_length, hl2])
      (fun j u hj => by rw [show (⟨g, o, none⟩ : Addr).add j = ⟨g, o + j, none⟩ by cases j <;> simp [Addr.add]]; exact h2 j u hj) (one_tokCells l2 (fun x hx => by obtain ⟨_, _, e, _⟩ := (h1 x hx).1; rw [e]; rfl)) (by unfold maxLen; omega) (by omega) hbase
    rw [← hts]
    refine ⟨v', w', l2, r1, e2, h1, ?_, r3⟩
    rw [List.length_append, hl2, tokCells_append]
    exact r2

/-- a row of the call's own that reads as tokens, its attributes elsewhere -/
theorem RdT.of_own' {w : World} {B : Nat} {v : Value} {l : List (U.Tok × Value)} (h : w.ownsRow B 27 5 v l.length (tokCells l)) (ha : ∀ x ∈ l, RdA w w.heap.size x.2 x.1.attrs) (hs : ∀ x ∈ l, x.1.attrs.length ≤ 1048576) : RdT w w.heap.size v (l.map (·.1)) := by
  obtain ⟨ao, cap, rfl⟩ := own_form h
  refine ⟨ao, cap, by rw [List.length_map], fun i t ht => ?_⟩
  obtain ⟨x, hx, rfl⟩ : ∃ x, l[i]? = some x ∧ x.1 = t := by
    rw [List.getElem?_map] at ht
    cases hx : l[i]? with
    | none => rw [hx] at ht; cases ht
    | some x => rw [hx] at ht; exact ⟨x, rfl, by simpa using ht⟩
  obtain ⟨g, cap2, e, c0, c1, c2, c3, c4⟩ := row_tok h hx
  injection e with e1 _ _
  subst e1
  have hm := List.mem_of_getElem? hx
  have hlt : g < w.heap.size := (h.lt g rfl).2
  refine ⟨g, 0, x.2, rfl, hlt, ?_, ?_, ?_, ?_, ?_, ha x hm, hs x hm⟩ <;> rw [Nat.zero_add] <;> assumption

end Go.Proofs.YtkmjngpgngkalaaDoor
namespace Go.Proofs.YtkmjngpgngkalaaDoor
namespace U

/-- whatever comes behind l, and whatever text stands before it, l adds the same tokens and leaves the same text -/
def Cont (l : List UInt8) : Prop := ∀ txt, ∃ ts txt', ∀ rest, toksT txt (l ++ rest) = ts ++ toksT txt' rest
theorem goes_nil : Cont [] := fun txt => ⟨[], txt, fun _ => rfl⟩
theorem Cont.app {a b : List UInt8} (ha : Cont a) (hb : Cont b) : Cont (a ++ b) := fun txt => by
  obtain ⟨t1, x1, h1⟩ := ha txt
  obtain ⟨t2, x2, h2⟩ := hb x1
  exact ⟨t1 ++ t2, x2, fun rest => by rw [List.append_assoc, h1, h2, List.append_assoc]⟩
/-- l is read whole: nothing is left over -/
def Shuts (l : List UInt8) : Prop := ∀ txt, ∃ ts, ∀ rest, toksT txt (l ++ rest) = ts ++ toksT [] rest
theorem Shuts.cont {l : List UInt8} (h : Shuts l) : Cont l := fun txt => by
  obtain ⟨ts, h⟩ := h txt
  exact ⟨ts, [], h⟩
theorem Cont.shuts {a b : List UInt8} (ha : Cont a) (hb : Shuts b) : Shuts (a ++ b) := fun txt => by
  obtain ⟨t1, x1, h1⟩ := ha txt
  obtain ⟨t2, h2⟩ := hb x1
  exact ⟨t1 ++ t2, fun rest => by rw [List.append_assoc, h1, h2, List.append_assoc]⟩
theorem goes_byte (b : UInt8) (h : b ≠ 60) : Cont [b] := fun txt => ⟨[], txt ++ [b], fun rest => by
  rw [List.singleton_append, List.nil_append]
  refine toksT_text txt rfl (item_text ?_)
  cases rest with
  | nil => rfl
  | cons c r => rw [kindOf_cons, if_pos h]⟩
theorem shuts_start {l n : List UInt8} {al : List Att} {s : Bool} (h : ∀ rest, item (l ++ rest) = .start n al s rest) (hr : rawName n = false) : Shuts l := fun txt => ⟨chars txt ++ [⟨1, n, al, s, []⟩], fun rest => by
  rw [toksT_flush txt (.inr (by rw [h rest]; simp)), toksT_start (h rest), hr]
  simp⟩
theorem shuts_close {l n : List UInt8} (h : ∀ rest, item (l ++ rest) = .close n rest) : Shuts l := fun txt => ⟨chars txt ++ [⟨2, n, [], false, []⟩], fun rest => by
  rw [toksT_flush txt (.inr (by rw [h rest]; simp)), toksT_close (h rest)]
  simp⟩
theorem shuts_mark {l : List UInt8} {t : Tok} (h : ∀ rest, item (l ++ rest) = .mark t rest) : Shuts l := fun txt => ⟨chars txt ++ [t], fun rest => by
  rw [toksT_flush txt (.inr (by rw [h rest]; simp)), toksT_mark (h rest)]
  simp⟩

theorem shuts_b : Shuts [60, 98, 62] := shuts_start (n := [98]) (al := []) (s := false) (fun _ => by rfl) (by rfl)
theorem goes_x : Cont [120] := goes_byte 120 (by decide)
theorem goes_y : Cont [121, 32] := (goes_byte 121 (by decide)).app (goes_byte 32 (by decide))
theorem goes_p : Cont [60, 112, 62] := (shuts_start (n := [112]) (al := []) (s := false) (fun _ => by rfl) (by rfl)).cont
theorem goes_pe : Cont [60, 47, 112, 62] := (shuts_close (n := [112]) (fun _ => by rfl)).cont
theorem goes_i : Cont [60, 105, 32, 97, 61, 98, 62] := (shuts_start (n := [105]) (al := [([97], [98])]) (s := false) (fun _ => by rfl) (by rfl)).cont
theorem goes_c : Cont [60, 33, 45, 45, 120, 45, 45, 62] := (shuts_mark (t := ⟨4, [], [], false, [120]⟩) (fun _ => by rfl)).cont

theorem toks_parts {a : List UInt8} (h : Shuts a) (b : List UInt8) : toks (a ++ b) = toks a ++ toks b := by
  obtain ⟨ts, h⟩ := h []
  have h0 := h []
  rw [List.append_nil] at h0
  rw [toks_toksT, toks_toksT, toks_toksT, h b, h0, toksT_nil]
  simp [chars]

end U
end Go.Proofs.YtkmjngpgngkalaaDoor
namespace Go.Proofs.YtkmjngpgngkalaaDoor
open Go.RowKit

theorem pp_cont (j : Nat) (h : j < 6) : U.Cont (pp j).data.toList := by
  match j, h with
  | 0, _ => exact U.goes_x
  | 1, _ => exact U.goes_p
  | 2, _ => exact U.goes_pe
  | 3, _ => exact U.goes_i
  | 4, _ => exact U.goes_c
  | 5, _ => exact U.goes_y
theorem append_list (a b : ByteArray) : (a ++ b).data.toList = a.data.toList ++ b.data.toList := by rw [ByteArray.data_append, Array.toList_append]

/-- an append by its own run, as one step of a region that draws its order -/
theorem step_append_run {P : Program} {ops : Array Oper} {o : Oper} {a : Act} {w : World} {K : Act → World → Prop} {Q : Exit → Act → World → Prop} {E : Prop} (hw : Region.wanted o (yielded ops a.tmps) = true) (s x : Operand) (t : TypeId)
    (ho : o.op = .call { callee := .builtin .append, args := #[s, x], argTypes := #[t, t] }) (v u : Value) (hs : a.eval s = v) (hx : a.eval x = u) {v' : Value} {w' : World}
    (hrun : (Builtin.append_ #[t, t] o.type #[v, u]).run P w = .ok v' w') (h : K (a.put o.dst v') w') : if Region.wanted o (yielded ops a.tmps) = true then Oper.wp P o a w K Q else E := by
  rw [if_pos hw]
  unfold Oper.wp execOp
  simp only [ho, resolve, invoke, builtin, Sem.run_bind, Sem.run_pure, Result.andThen_ok, List.map_toArray, List.map_cons, List.map_nil, hs, hx, hrun]
  exact h

theorem wpList_append_run {P : Program} {ops : Array Oper} {rest : List Oper} {o : Oper} {a : Act} {Q : Exit → Act → World → Prop} {w : World} (hw : Region.wanted o (yielded ops a.tmps) = true) (s x : Operand) (t : TypeId)
    (ho : o.op = .call { callee := .builtin .append, args := #[s, x], argTypes := #[t, t] }) (v u : Value) (hs : a.eval s = v) (hx : a.eval x = u) {v' : Value} {w' : World}
    (hrun : (Builtin.append_ #[t, t] o.type #[v, u]).run P w = .ok v' w') (h : wpList P ops Q rest (a.put o.dst v') w') : wpList P ops Q (o :: rest) a w :=
  wpList_step fun K hK => by
    rw [if_pos hw]
    unfold Oper.wp execOp
    simp only [ho, resolve, invoke, builtin, Sem.run_bind, Sem.run_pure, Result.andThen_ok, List.map_toArray, List.map_cons, List.map_nil, hs, hx, hrun]
    exact hK _ _ h

theorem two_appends (w5 : World) {ao1 ao2 ao3 : Option Addr} {c1 c2 c3 : Nat} {ta tb tc : List U.Tok} (hA : RdT w5 w5.heap.size (.slice ao1 ta.length c1) ta) (hB : RdT w5 w5.heap.size (.slice ao2 tb.length c2) tb) (hC : RdT w5 w5.heap.size (.slice ao3 tc.length c3) tc) (e : tc = ta ++ tb) (hl : tc.length ≤ 1000) :
    ∃ v6 w6 v7 w7, (Builtin.append_ #[22, 22] 22 #[.slice none 0 0, .slice ao1 ta.length c1]).run Tryd.prog w5 = .ok v6 w6 ∧
      (Builtin.append_ #[22, 22] 22 #[v6, .slice ao2 tb.length c2]).run Tryd.prog w6 = .ok v7 w7 ∧ RdT w7 w7.heap.size v7 tc ∧ RdT w7 w7.heap.size (.slice ao3 tc.length c3) tc ∧ Below w5.heap.size w5 w7 := by
  have hlen : ta.length + tb.length ≤ 1000 := by rw [e, List.length_append] at hl; exact hl
  obtain ⟨v6, w6, l6, r6, e6, h6, o6, g6⟩ := run_append_toks w5 (base := w5.heap.size) (l := []) (World.ownsRow_nil _ _ _ _) hA (by rw [List.length_nil]; omega) (Nat.le_refl _)
  have b6 : Below w5.heap.size w5 w6 := (Below.refl _ _).grown g6 (Nat.le_refl _) (fun k hk => by cases hk)
  rw [List.nil_append] at o6
  have l6e : l6.length = ta.length := by rw [← e6, List.length_map]
  obtain ⟨v7, w7, l7, r7, e7, h7, o7, g7⟩ := run_append_toks w6 (base := w5.heap.size) o6 (hB.below b6) (by omega) b6.size
  have b7 : Below w5.heap.size w5 w7 := b6.grown g7 b6.size (fun k hk => (o6.lt k hk).1)
  have hx : ∀ x ∈ l6 ++ l7, RdA w5 w5.heap.size x.2 x.1.attrs ∧ x.1.attrs.length ≤ 1048576 ∨ RdA w6 w5.heap.size x.2 x.1.attrs ∧ x.1.attrs.length ≤ 1048576 := fun x hx => by
    rcases List.mem_append.1 hx with hx | hx
    · exact .inl (h6 x hx)
    · exact .inr (h7 x hx)
  have b67 : ∀ p : Addr, p.block < w5.heap.size → w7.cell? p = w6.cell? p := fun p hp => (b7.cell hp).trans (b6.cell hp).symm
  have hT := RdT.of_own' o7 (fun x hm => by
    rcases hx x hm with ⟨h, _⟩ | ⟨h, _⟩
    · exact (h.keep fun p hp => b7.cell hp).more b7.size
    · exact (h.keep b67).more b7.size) (fun x hm => by
    rcases hx x hm with ⟨_, h⟩ | ⟨_, h⟩ <;> exact h)
  rw [List.map_append, e6, e7, ← e] at hT
  exact ⟨v6, w6, v7, w7, r6, r7, hT, (hC.below b7).more b7.size, b7⟩

theorem parsed_as (s : ByteArray) (hs : s.size ≤ 600) : ∃ ts, ts = U.toks s.data.toList ∧ ts.length ≤ 1000 ∧ ∀ w, Glob w → Calls Tryd.prog 8 #[.string s] w fun e w' => ∃ v, e = .returned (.tuple #[v, .bool true]) ∧ RdT w' w'.heap.size v ts ∧ Below w.heap.size w w' :=
  ⟨_, rfl, by have := U.toks_count s.data.toList; rw [len_list] at this; omega, fun w hG => parsed_walk s w hs hG⟩

set_option maxHeartbeats 8000000 in
set_option maxRecDepth 1000000 in
theorem parts_walk (ao : Option Addr) (cap : Nat) (xs : List Int) (bo : Option Addr) (cap2 : Nat) (ys : List Int) (w : World) (hR : Rd w w.heap.size ao xs) (hR2 : Rd w w.heap.size bo ys) (hG : Glob w) :
    Calls Tryd.prog 4 #[.slice ao xs.length cap, .slice bo ys.length cap2] w fun e w' => e = .returned (.bool true) ∧ Below w.heap.size w w' := by
  have HR := Lib.hid hR
  have HR2 := Lib.hid hR2
  clear hR hR2
  go_enter Tryd.func4, Tryd.ntmps4
  go_wp2_with fail
  go_loopw [5, 6] (fun t i wr => ∃ (k : Nat) (T : ByteArray), k ≤ xs.length ∧ k ≤ 12 ∧ i = .int .i64 k ∧ t = .string T ∧ Below w.heap.size w wr ∧ T.size ≤ 8 * k ∧ Hid (U.Cont T.data.toList)) (fun _ i _ => xs.length - (intOf i).toNat)
  case atStart => exact ⟨0, ⟨#[]⟩, Nat.zero_le _, Nat.zero_le _, rfl, rfl, Below.refl _ _, Nat.le_refl _, Lib.hid U.goes_nil⟩
  case round =>
    obtain ⟨k, T, hk, hkn, rfl, rfl, hbw, hT, hC⟩ := hrel
    have hbs := hbw.size
    by_cases hgo : k < xs.length ∧ k < 12
    · obtain ⟨hlt, hlt2⟩ := hgo
      obtain ⟨ad, rfl, hb, hc⟩ := (HR.out.below hbw) k xs[k] (List.getElem?_eq_getElem hlt)
      generalize xs[k] = z at *
      have hc2 : ∀ o, (wr.alloc o).cell? (ad.add k) = some (.int .i64 z) := fun o => by
        rw [World.cell?_alloc_lt wr o (ad.add k) (by rw [add_block]; omega)]
        exact hc
      have hk0 : (0 : Int) ≤ (k : Int) := Int.natCast_nonneg _
      have hk1 : (k : Int) < (xs.length : Int) := by omega
      have hj0 := Int.emod_nonneg z (b := 6) (by omega)
      have hj1 := Int.emod_lt_of_pos z (b := 6) (by omega)
      obtain ⟨j, hj, ej⟩ : ∃ j : Nat, j < 6 ∧ z % 6 = (j : Int) := ⟨(z % 6).toNat, by omega, by omega⟩
      clear hj0 hj1
      have EJ := Lib.hid ej
      clear ej
      have hlc := pp_cell j hj
      have hlg := pp_get j
      have hsz := pp_size j
      have HN : Hid (U.Cont (T ++ pp j).data.toList) := by rw [append_list]; exact hC.out.app (pp_cont j hj)
      have hj0 : (0 : Int) ≤ (j : Int) := Int.natCast_nonneg _
      have hj1 : (j : Int) < 6 := by omega
      go_wp2_with ((go_at_call_of 9 (Value.int IntKind.i64 z); refine (picked_walk _ _ _ (by omega) (by omega)).mono ?_; rintro e w' ⟨rfl, rfl⟩; rw [EJ.out]))
      go_roundw
      case rel => exact ⟨k + 1, _, by omega, by omega, by go_num, rfl, by go_grown, by rw [ByteArray.size_append]; omega, HN⟩
      case measure => simp [intOf]; omega
    · have hTl : (ByteArray.mk #[60, 98, 62]).size = 3 := rfl
      obtain ⟨Ta, eTa⟩ : ∃ Ta, T ++ ByteArray.mk #[60, 98, 62] = Ta := ⟨_, rfl⟩
      have hTz : Ta.size ≤ 100 := by rw [← eTa, ByteArray.size_append]; omega
      have hsh : U.Shuts Ta.data.toList := by rw [← eTa, append_list]; exact hC.out.shuts U.shuts_b
      obtain ⟨ta, eta, la, hpa⟩ := parsed_as Ta (by omega)
      have hpc : ∀ T2 : ByteArray, T2.size ≤ 400 → ∃ tb tc, tc = ta ++ tb ∧ tc.length ≤ 1000 ∧ (∀ w, Glob w → Calls Tryd.prog 8 #[.string T2] w fun e w' => ∃ v, e = .returned (.tuple #[v, .bool true]) ∧ RdT w' w'.heap.size v tb ∧ Below w.heap.size w w') ∧
          ∀ w, Glob w → Calls Tryd.prog 8 #[.string (Ta ++ T2)] w fun e w' => ∃ v, e = .returned (.tuple #[v, .bool true]) ∧ RdT w' w'.heap.size v tc ∧ Below w.heap.size w w' := fun T2 h2 => by
        obtain ⟨tb, etb, _, hb⟩ := parsed_as T2 (by omega)
        obtain ⟨tc, etc, lc, hc⟩ := parsed_as (Ta ++ T2) (by rw [ByteArray.size_append]; omega)
        exact ⟨tb, tc, by rw [etc, eta, etb, append_list, U.toks_parts hsh], lc, hb, hc⟩
      rw [← eTa] at hpa hpc
      have HPA := Lib.hid hpa
      have HPC := Lib.hid hpc
      have hk0 : (0 : Int) ≤ (k : Int) := Int.natCast_nonneg _
      have HM := Lib.hid (markup_walk bo cap2 ys 20 wr (HR2.out.below hbw |>.more hbs) (by omega))
      have hG1 := hG.below hbw
      clear hsh hpa hpc eTa eta hTl hC
      rcases Nat.lt_or_ge k xs.length with h1 | h1
      · have h2 : 12 ≤ k := by omega
        clear hgo
        go_wp2_with (first
          | (go_at_call 10; refine HM.out.mono ?_; rintro e w2 ⟨T2, rfl, hT2, hb2⟩; have hG2 := hG1.below hb2; obtain ⟨tb, tc, etc, lc, hpb, hpc⟩ := HPC.out T2 (by omega); have HB := Lib.hid hpb; have HC := Lib.hid hpc; have ETC := Lib.hid etc; clear hpb hpc etc)
          | (go_at_call_of 8 (Value.string (T ++ ByteArray.mk #[60, 98, 62])); refine (HPA.out _ hG2).mono ?_; rintro e w3 ⟨v1, rfl, hR3, hb3⟩; obtain ⟨ao1, cap1, rfl, _⟩ := id hR3; have hG3 := hG2.below hb3)
          | (go_at_call_of 8 (Value.string T2); refine (HB.out _ hG3).mono ?_; rintro e w4 ⟨v2, rfl, hR4, hb4⟩; obtain ⟨ao2, cap3, rfl, _⟩ := id hR4; have hG4 := hG3.below hb4)
          | (go_at_call_of 8 (Value.string (T ++ ByteArray.mk #[60, 98, 62] ++ T2)); refine (HC.out _ hG4).mono ?_; rintro e w5 ⟨v3, rfl, hR5, hb5⟩; obtain ⟨ao3, cap4, rfl, _⟩ := id hR5
             obtain ⟨v6, w6, v7, w7, r6, r7, hT7, hT8, hb7⟩ := two_appends w5 ((((hR3.below hb4).more hb4.size).below hb5).more hb5.size) ((hR4.below hb5).more hb5.size) hR5 ETC.out lc
             have R6 := Lib.hid r6
             have R7 := Lib.hid r7
             clear r6 r7)
          | (at_builtin; refine wpList_append_run rfl (.const (.slice none 0 0)) (.tmp 63) _ rfl _ _ rfl rfl R6.out ?_)
          | (at_builtin; refine wpList_append_run rfl (.tmp 64) (.tmp 65) _ rfl _ _ rfl rfl R7.out ?_)
          | (go_at_call 11; refine (same_k _ _ tc w7 hT7 hT8 (by omega)).mono ?_; rintro e w8 ⟨rfl, n8, rfl⟩))
        go_ret
        exact ⟨rfl, below_drewN (hbw.trans (((hb2.trans ((hb3.trans ((hb4.trans ((hb5.trans (hb7.mono hb5.size)).mono hb4.size)).mono hb3.size)).mono hb2.size))).mono hbs)) _⟩
      · clear hgo
        go_wp2_with (first
          | (go_at_call 10; refine HM.out.mono ?_; rintro e w2 ⟨T2, rfl, hT2, hb2⟩; have hG2 := hG1.below hb2; obtain ⟨tb, tc, etc, lc, hpb, hpc⟩ := HPC.out T2 (by omega); have HB := Lib.hid hpb; have HC := Lib.hid hpc; have ETC := Lib.hid etc; clear hpb hpc etc)
          | (go_at_call_of 8 (Value.string (T ++ ByteArray.mk #[60, 98, 62])); refine (HPA.out _ hG2).mono ?_; rintro e w3 ⟨v1, rfl, hR3, hb3⟩; obtain ⟨ao1, cap1, rfl, _⟩ := id hR3; have hG3 := hG2.below hb3)
          | (go_at_call_of 8 (Value.string T2); refine (HB.out _ hG3).mono ?_; rintro e w4 ⟨v2, rfl, hR4, hb4⟩; obtain ⟨ao2, cap3, rfl, _⟩ := id hR4; have hG4 := hG3.below hb4)
          | (go_at_call_of 8 (Value.string (T ++ ByteArray.mk #[60, 98, 62] ++ T2)); refine (HC.out _ hG4).mono ?_; rintro e w5 ⟨v3, rfl, hR5, hb5⟩; obtain ⟨ao3, cap4, rfl, _⟩ := id hR5
             obtain ⟨v6, w6, v7, w7, r6, r7, hT7, hT8, hb7⟩ := two_appends w5 ((((hR3.below hb4).more hb4.size).below hb5).more hb5.size) ((hR4.below hb5).more hb5.size) hR5 ETC.out lc
             have R6 := Lib.hid r6
             have R7 := Lib.hid r7
             clear r6 r7)
          | (at_builtin; refine wpList_append_run rfl (.const (.slice none 0 0)) (.tmp 63) _ rfl _ _ rfl rfl R6.out ?_)
          | (at_builtin; refine wpList_append_run rfl (.tmp 64) (.tmp 65) _ rfl _ _ rfl rfl R7.out ?_)
          | (go_at_call 11; refine (same_k _ _ tc w7 hT7 hT8 (by omega)).mono ?_; rintro e w8 ⟨rfl, n8, rfl⟩))
        go_ret
        exact ⟨rfl, below_drewN (hbw.trans (((hb2.trans ((hb3.trans ((hb4.trans ((hb5.trans (hb7.mono hb5.size)).mono hb4.size)).mono hb3.size)).mono hb2.size))).mono hbs)) _⟩

end Go.Proofs.YtkmjngpgngkalaaDoor

/- Several texts in one: Again, ToksPut, TextE, TokLaid. -/
import Derived.Test.YtfockedeikdbjaaGreatDoorRows
import Derived.LaidMore
import Derived.LaidHandle
import Derived.MakeChecks
import Derived.Stop.LaidErr
import Derived.Deep.DeepHandedRow
import Derived.Deep.DeepWitnessRowRef
import Derived.Lay
import Derived.Shelf.Vars
import Derived.Test.YtfockedeikdbjaaGreatDoorP03
import Derived.Test.YtfockedeikdbjaaGreatDoorP15
import Derived.Test.YtfockedeikdbjaaGreatDoorP24
import Derived.Test.YtfockedeikdbjaaGreatDoorSameK
import Derived.Test.YtfockedeikdbjaaGreatDoorP11
namespace Go.Proofs.YtfockedeikdbjaaGreatDoor
open Go.RowKit

set_option maxHeartbeats 8000000 in
set_option maxRecDepth 1000000 in
theorem again_walk (ao : Option Addr) (cap : Nat) (zs : List Int) (w : World) (hr : Rd w w.heap.size ao zs) (hG : Glob w) :
    Calls Tryz.prog 5 #[.slice ao zs.length cap] w fun e w' => e = .returned (.bool true) ∧ Below w.heap.size w w' := by
  have hmk := markup_walk ao cap zs 25 w hr (Nat.le_refl _)
  have hpc := fun (T : ByteArray) (hT : T.size ≤ 20 * 25) (W : World) (hB : Below w.heap.size w W) => parsed_c T W (by omega) (hG.below hB)
  have HM := Lib.hid hmk
  have HP := Lib.hid hpc
  have HG := Lib.hid hG
  clear hmk hpc hr hG
  go_enter Tryz.func5, Tryz.ntmps5
  go_wp2_with (first
    | (go_at_call 11; refine HM.out.mono ?_; rintro e w2 ⟨T, rfl, hT, hb2⟩)
    | (go_at_call 12; refine (HP.out T hT _ hb2).mono ?_; rintro e w3 ⟨v, rfl, hR, hRC, hb3⟩))
  have hb23 := hb2.trans (hb3.mono hb2.size)
  have hRl : (U.toks T.data.toList).length ≤ 1048576 := by have := (U.toks_ok T.data.toList).2.2; rw [len_list] at this; omega
  have htx := fun (u : Value) (W : World) (hu : RdKC W W.heap.size u ((U.toks T.data.toList).map U.Tok.tk)) (hf : ∀ t ∈ U.toks T.data.toList, t.attrs.length ≤ 1048576) => etext_walk u _ W hu (by rw [List.length_map]; unfold most; omega) (fun t ht => by
    obtain ⟨y, hy, rfl⟩ := List.mem_map.1 ht
    exact Nat.le_trans (hf y hy) (by unfold most; omega))
  have hfit : ∀ t ∈ U.toks T.data.toList, t.attrs.length ≤ 1048576 := by
    obtain ⟨ao2, cap2, rfl, hc⟩ := hR
    intro t ht
    obtain ⟨i, hi⟩ := List.getElem?_of_mem ht
    obtain ⟨_, _, _, _, _, _, _, _, _, _, _, h⟩ := hc i t hi
    exact h
  have hpt := U.parsed_text T.data.toList
  have htb := @U.text_back (U.toks T.data.toList)
  obtain ⟨TS, hTS⟩ : ∃ TS, U.toks T.data.toList = TS := ⟨_, rfl⟩
  rw [hTS] at hR hRC hRl htx hfit hpt htb
  obtain ⟨X, hX⟩ : ∃ X, U.textOf (TS.map U.Tok.tk) = X := ⟨_, rfl⟩
  rw [hX] at htx hpt htb
  clear hX hTS
  have HTX := Lib.hid htx
  have HF := Lib.hid hfit
  have HTB := Lib.hid htb
  have HR := Lib.hid hR
  have HRC := Lib.hid hRC
  clear htx hfit htb hR hRC hT hb2 hb3
  obtain ⟨X1, X2⟩ := X
  rcases hpt with h0 | h0
  · obtain ⟨e1, e2, e3⟩ := HTB.out h0
    have h0' : X2 = 0 := h0
    have e1' : X1 = U.emit TS := e1
    subst h0'
    subst e1'
    have hp2 := fun (W : World) (hB : Below w.heap.size w W) => parsed_c ⟨(U.emit TS).toArray⟩ W (by rw [size_of_mk]; exact e2) (HG.out.below hB)
    rw [list_of_mk, e3] at hp2
    have HP2 := Lib.hid hp2
    clear hp2 h0 e1
    refine (HTX.out _ _ HRC.out HF.out).mono ?_
    rintro e w4 ⟨rfl, hb4⟩
    go_wp2_with (first
      | (go_at_call 12; refine (HP2.out _ (hb23.trans (hb4.mono hb23.size))).mono ?_; rintro e w5 ⟨v2, rfl, hR2, hRC2, hb5⟩; have HR2 := Lib.hid hR2; have HRC2 := Lib.hid hRC2; clear hR2 hRC2)
      | (go_at_call 7; refine (HTX.out _ _ HRC2.out HF.out).mono ?_; rintro e w6 ⟨rfl, hb6⟩)
      | (go_at_call 10; refine (same_k _ _ TS _ ((HR.out.below (hb4.trans ((hb5.trans (hb6.mono hb5.size)).mono hb4.size))).more (Nat.le_trans hb4.size (Nat.le_trans hb5.size hb6.size))) ((HR2.out.below hb6).more hb6.size) hRl).mono ?_; rintro e w7 ⟨rfl, nn, rfl⟩))
    go_ret
    refine ⟨by simp, ?_⟩
    have hb5' := hb4.trans (hb5.mono hb4.size)
    have hb6' := hb5'.trans (hb6.mono hb5'.size)
    exact below_drewN (hb23.trans (hb6'.mono hb23.size)) _
  · have hx : X2 = 1 ∨ X2 = 4 ∨ X2 = 5 := h0
    clear h0
    rcases hx with rfl | rfl | rfl
    all_goals
      refine (HTX.out _ _ HRC.out HF.out).mono ?_
      rintro e w4 ⟨rfl, hb4⟩
      go_wp2_with fail
      go_ret
      exact ⟨rfl, hb23.trans (hb4.mono hb23.size)⟩

end Go.Proofs.YtfockedeikdbjaaGreatDoor

namespace Go.Proofs.YtfockedeikdbjaaGreatDoor
open Go.RowKit

/-- tokens in a row of the call's own, with their attributes -/
def Made (w w' : World) (v : Value) (l : List (U.Tok × Value)) : Prop :=
  w'.ownsRow w.heap.size 33 5 v l.length (tokCells l) ∧ (∀ x ∈ l, w'.ownsRow w.heap.size 37 2 x.2 x.1.attrs.length (attCells x.1.attrs)) ∧ Below w.heap.size w w' ∧ ∀ x ∈ l, x.1.attrs.length ≤ 1048576
theorem Made.alloc {w wr : World} {v : Value} {l : List (U.Tok × Value)} (h : Made w wr v l) (o : Obj) : Made w (wr.alloc o) v l :=
  ⟨h.1.alloc _, fun x hx => (h.2.1 x hx).alloc _, h.2.2.1.alloc h.2.2.1.size _, h.2.2.2⟩
theorem Made.later {w wr w2 : World} {v : Value} {l : List (U.Tok × Value)} (h : Made w wr v l) (hb : Below wr.heap.size wr w2) : Made w w2 v l :=
  ⟨own_keep h.1 hb, fun x hx => own_keep (h.2.1 x hx) hb, h.2.2.1.trans (hb.mono h.2.2.1.size), h.2.2.2⟩
theorem Made.nil {w wr : World} (h : Below w.heap.size w wr) : Made w wr (.slice none 0 0) [] := ⟨World.ownsRow_nil _ _ _ _, (fun x hx => by cases hx), h, (fun x hx => by cases hx)⟩
theorem Made.put {w wr w2 : World} {v v2 : Value} {l : List (U.Tok × Value)} (h : Made w wr v l) (x : U.Tok) (av : Value) (hx : wr.ownsRow w.heap.size 37 2 av x.attrs.length (attCells x.attrs)) (hxl : x.attrs.length ≤ 1048576)
    (ho : w2.ownsRow w.heap.size 33 5 v2 (l.length + 1) (tokCells l ++ [.int .i64 (x.kind : Nat), .string ⟨x.name.toArray⟩, av, .bool x.self, .string ⟨x.text.toArray⟩])) (hg : wr.grownBy w2 v.ownBlock) : Made w w2 v2 (l ++ [(x, av)]) := by
  have hatt : ∀ (y : Value) (al : List U.Att), wr.ownsRow w.heap.size 37 2 y al.length (attCells al) → w2.ownsRow w.heap.size 37 2 y al.length (attCells al) := fun y al hy => hy.kept (row := v.ownBlock) hg (own_apart hy h.1 (by decide))
  refine ⟨?_, ?_, h.2.2.1.grown hg h.2.2.1.size (fun k hk => (h.1.lt k hk).1), ?_⟩
  · rw [List.length_append, tokCells_append]
    exact ho
  · intro y hy
    rcases List.mem_append.1 hy with hy | hy
    · exact hatt _ _ (h.2.1 y hy)
    · obtain rfl := List.mem_singleton.1 hy
      exact hatt _ _ hx
  · intro y hy
    rcases List.mem_append.1 hy with hy | hy
    · exact h.2.2.2 y hy
    · obtain rfl := List.mem_singleton.1 hy
      exact hxl
theorem Made.rd {w w' : World} {v : Value} {l : List (U.Tok × Value)} (h : Made w w' v l) : RdT w' w'.heap.size v (l.map (·.1)) := RdT.of_own h.1 h.2.1 h.2.2.2
theorem Made.rdKC {w w' : World} {v : Value} {l : List (U.Tok × Value)} (h : Made w w' v l) : RdKC w' w'.heap.size v ((l.map (·.1)).map U.Tok.tk) := by
  refine ⟨h.rd.rdK, Cap.of_own h.1, fun ao n cap e i t ht g o e2 av hc => ?_⟩
  obtain ⟨x, hx⟩ : ∃ x, l[i]? = some x := by
    rw [List.map_map, List.getElem?_map] at ht
    cases hx : l[i]? with
    | none => rw [hx] at ht; cases ht
    | some x => exact ⟨x, rfl⟩
  obtain ⟨g', cap', ev, _, _, c2, _, _⟩ := row_tok h.1 hx
  rw [e] at ev
  injection ev with e1 _ _
  rw [e2] at e1
  injection e1 with e1
  injection e1 with e3 e4
  subst e3
  subst e4
  rw [Nat.zero_add, c2] at hc
  injection hc with hc
  exact hc ▸ Cap.of_own (h.2.1 x (List.mem_of_getElem? hx))
theorem cells5 {w : World} {n : Nat} {a b c d e : Value} {t : TypeId} (h : w.heap[n]? = some (.cells #[a, b, c, d, e] t (0, 0))) : ∀ (j : Nat) u, [a, b, c, d, e][j]? = some u → w.cell? ((⟨n, 0, none⟩ : Addr).add j) = some u := by
  intro j u hj
  have e0 : (⟨n, 0, none⟩ : Addr).add j = ⟨n, j, none⟩ := by cases j <;> simp [Addr.add]
  rw [e0, Lib.cell_of_heap h]
  match j, hj with
  | 0, hj => simpa using hj
  | 1, hj => simpa using hj
  | 2, hj => simpa using hj
  | 3, hj => simpa using hj
  | 4, hj => simpa using hj
  | (j + 5), hj => simp at hj

end Go.Proofs.YtfockedeikdbjaaGreatDoor

namespace Go.Proofs.YtfockedeikdbjaaGreatDoor
open Go.RowKit

namespace U
/-- the tokens that are made of a text and a value -/
def tokS (b : List UInt8) : Tok := ⟨1, [97], [([104, 114, 101, 102], b)], false, []⟩
def tokT (a : List UInt8) : Tok := ⟨3, [], [], false, a⟩
def tokZ : Tok := ⟨2, [97], [], false, []⟩
def mids (a : List UInt8) : List Tok := if a.isEmpty = true then [] else [tokT a]
def tse (a b : List UInt8) : List Tok := tokS b :: (mids a ++ [tokZ])
theorem tse_ok (a b : List UInt8) : okT false (tse a b) := by
  have hz : ∀ p, okT p [tokZ] := fun p => ⟨.inr (.inl ⟨rfl, by decide, rfl, rfl, rfl⟩), trivial⟩
  refine ⟨.inr (.inr ⟨rfl, by show isName [97] = true; decide, ⟨?_, ?_, ?_⟩, rfl, fun h => ?_⟩), ?_⟩
  · intro x hx
    obtain rfl := List.mem_singleton.1 hx
    show isName [104, 114, 101, 102] = true
    decide
  · show 1 ≤ 4; decide
  · exact List.pairwise_singleton _ _
  · exact absurd h (by show ¬ rawName [97] = true; decide)
  · show okT ((1 : Nat) == 3) (mids a ++ [tokZ])
    unfold mids
    cases ha : a.isEmpty with
    | true => rw [if_pos rfl]; exact hz _
    | false =>
      rw [if_neg (by simp)]
      exact ⟨.inl ⟨rfl, fun e => (by rw [show a = [] from e] at ha; cases ha), rfl, rfl, rfl, rfl⟩, hz _⟩
theorem tse_len (a b : List UInt8) : 15 ≤ (emit (tse a b)).length ∧ (emit (tse a b)).length ≤ 15 + 6 * a.length + 6 * b.length := by
  have ha := esc_length false a
  have hb := esc_length true b
  have h1 : (tokE (tokS b)).length = 11 + (esc true b).length := by
    show (startE [97] [([104, 114, 101, 102], b)] false).length = _
    simp [startE, attE, tailE]
    omega
  have h2 : (tokE tokZ).length = 4 := rfl
  have h3 : (emit (mids a)).length ≤ 6 * a.length := by
    unfold mids
    cases he : a.isEmpty with
    | true => rw [if_pos rfl]; exact Nat.zero_le _
    | false =>
      rw [if_neg (by simp)]
      have : emit [tokT a] = esc false a := by simp [emit, tokT, tokE]
      rw [this]
      omega
  have h4 : (emit (tse a b)).length = (tokE (tokS b)).length + ((emit (mids a)).length + (tokE tokZ).length) := by
    unfold tse
    rw [emit_cons, emit_append, List.length_append, List.length_append, emit_cons, emit_nil, List.append_nil]
  omega
theorem tse_text (a b : List UInt8) : textOf ((tse a b).map Tok.tk) = if 600 < (emit (tse a b)).length then ([], 1) else (emit (tse a b), 0) := by
  have hl : (tse a b).length ≤ 300 := by
    unfold tse mids
    split <;> simp
  have h0 := (fault_ok hl).2 (tse_ok a b)
  unfold textOf
  rw [if_pos h0, map_tok]
end U

set_option maxHeartbeats 8000000 in
set_option maxRecDepth 1000000 in
theorem texte_walk (s v : ByteArray) (w : World) (hG : Glob w) :
    Calls Tryz.prog 4 #[.string s, .string v] w fun e w' => e = .returned (.bool true) ∧ Below w.heap.size w w' := by
  obtain ⟨iT, hiT, hT0, hT1, hT2⟩ := info_parts infoTok
  have hm1 : (0 : Int) ≤ min (s.size : Int) 60 := by omega
  have hm2 : min (s.size : Int) 60 ≤ (s.size : Int) := by omega
  have hm3 : (0 : Int) ≤ min (v.size : Int) 60 := by omega
  have hm4 : min (v.size : Int) 60 ≤ (v.size : Int) := by omega
  obtain ⟨X, hX⟩ : ∃ X, s.extract 0 (min (s.size : Int) 60).toNat = X := ⟨_, rfl⟩
  obtain ⟨Y, hY⟩ : ∃ Y, v.extract 0 (min (v.size : Int) 60).toNat = Y := ⟨_, rfl⟩
  have hXs : X.size ≤ 60 := by rw [← hX, ByteArray.size_extract]; omega
  have hYs : Y.size ≤ 60 := by rw [← hY, ByteArray.size_extract]; omega
  have hXl : X.data.toList.length = X.size := by rw [Array.length_toList]; rfl
  have hYl : Y.data.toList.length = Y.size := by rw [Array.length_toList]; rfl
  have HG := Lib.hid hG
  have HXL := Lib.hid hXl
  have HYL := Lib.hid hYl
  clear hG hXl hYl
  have hb1 := (Below.refl w.heap.size w).alloc (Nat.le_refl _) (.cells #[.string ⟨#[104, 114, 101, 102]⟩, .string Y] 37 (0, 0))
  have hb2 := hb1.alloc hb1.size (.cells #[.int .i64 1, .string ⟨#[97]⟩, .slice (some ⟨w.heap.size, 0, none⟩) 1 1, .bool false, .string ⟨#[]⟩] 33 (0, 0))
  have hM0 : Made w ((w.alloc (.cells #[.string ⟨#[104, 114, 101, 102]⟩, .string Y] 37 (0, 0))).alloc (.cells #[.int .i64 1, .string ⟨#[97]⟩, .slice (some ⟨w.heap.size, 0, none⟩) 1 1, .bool false, .string ⟨#[]⟩] 33 (0, 0)))
      (.slice (some ⟨w.heap.size + 1, 0, none⟩) 1 1) [(U.tokS Y.data.toList, .slice (some ⟨w.heap.size, 0, none⟩) 1 1)] := by
    refine ⟨⟨rfl, .inr ⟨w.heap.size + 1, 1, _, rfl, Nat.le_succ _, by have h := heap_alloc_new (w.alloc (.cells #[.string ⟨#[104, 114, 101, 102]⟩, .string Y] 37 (0, 0))) (.cells #[.int .i64 1, .string ⟨#[97]⟩, .slice (some ⟨w.heap.size, 0, none⟩) 1 1, .bool false, .string ⟨#[]⟩] 33 (0, 0)); simpa using h, Nat.le_refl _, by unfold maxLen; omega, rfl, rfl⟩⟩, ?_, hb2, ?_⟩
    · intro x hx
      obtain rfl := List.mem_singleton.1 hx
      have ha : (w.alloc (.cells #[.string ⟨#[104, 114, 101, 102]⟩, .string Y] 37 (0, 0))).ownsRow w.heap.size 37 2 (.slice (some ⟨w.heap.size, 0, none⟩) 1 1) 1 (attCells [([104, 114, 101, 102], Y.data.toList)]) :=
        ⟨rfl, .inr ⟨w.heap.size, 1, _, rfl, Nat.le_refl _, heap_alloc_new _ _, Nat.le_refl _, by unfold maxLen; omega, rfl, rfl⟩⟩
      exact ha.alloc _
    · intro x hx
      obtain rfl := List.mem_singleton.1 hx
      show 1 ≤ 1048576
      decide
  have HM0 := Lib.hid hM0
  clear hM0 hb1 hb2
  cases he : X.toList.isEmpty with
  | true =>
    go_enter Tryz.func4, Tryz.ntmps4
    go_wp2_with (at_builtin; refine wpList_append_own _ rfl _ _ 23 rfl w.heap.size 33 iT _ 5 72 Tryz.underlying23 hiT hT0 hT1 hT2 rfl (by decide) _ _ _ rfl (HM0.out.alloc _).1 ⟨_, 0, none⟩ 1 1 [.int .i64 2, .string ⟨#[97]⟩, .slice none 0 0, .bool false, .string ⟨#[]⟩] rfl rfl ?c1 ?c2 ?c3 ?c4 ?c5 ?_)
    case c1 => exact cells5 (by have h := heap_alloc_new ((w.alloc (.cells #[.string ⟨#[104, 114, 101, 102]⟩, .string Y] 37 (0, 0))).alloc (.cells #[.int .i64 1, .string ⟨#[97]⟩, .slice (some ⟨w.heap.size, 0, none⟩) 1 1, .bool false, .string ⟨#[]⟩] 33 (0, 0))) (.cells #[.int .i64 2, .string ⟨#[97]⟩, .slice none 0 0, .bool false, .string ⟨#[]⟩] 33 (0, 0)); simpa using h)
    case c2 => intro u hu; simp at hu; rcases hu with rfl | rfl | rfl | rfl | rfl <;> rfl
    case c3 => show 1 + 1 ≤ 2 ^ 63 - 1; decide
    case c4 => show (1 + 1) * 72 ≤ 140737488355328; decide
    case c5 => exact (HM0.out.alloc _).2.2.1.size
    intro v7 w7 hown7 hgrow7 _
    have HM9 := (HM0.out.alloc _).put U.tokZ (.slice none 0 0) (World.ownsRow_nil _ _ _ _) (Nat.zero_le _) hown7 hgrow7
    obtain ⟨ao7, cap7, rfl⟩ := own_form hown7
    have hrd := HM9.rd
    have hkc := HM9.rdKC
    have hts : (([(U.tokS Y.data.toList, Value.slice (some ⟨w.heap.size, 0, none⟩) 1 1)] ++ [(U.tokZ, Value.slice none 0 0)]).map (·.1) : List U.Tok) = U.tse X.data.toList Y.data.toList := by
      unfold U.tse U.mids
      rw [if_pos (by rw [← he, Lib.toList_data])]
      rfl
    rw [hts] at hrd hkc
    have htl := U.tse_len X.data.toList Y.data.toList
    rw [HXL.out, HYL.out] at htl
    have htx := fun (W : World) (hu : RdKC W W.heap.size (.slice ao7 2 cap7) ((U.tse X.data.toList Y.data.toList).map U.Tok.tk)) => etext_walk (.slice ao7 2 cap7) _ W hu (by rw [List.length_map, ← hts]; exact Nat.le_of_ble_eq_true rfl) (fun t ht => by
      rw [← hts] at ht
      simp at ht
      rcases ht with rfl | rfl <;> exact Nat.le_trans (show _ ≤ 1 from by first | exact Nat.le_refl 1 | exact Nat.zero_le 1) (by decide))
    rw [U.tse_text] at htx
    have hbk := U.toks_emits (U.tse_ok X.data.toList Y.data.toList)
    have hsl : (U.tse X.data.toList Y.data.toList).length ≤ 1048576 := by rw [← hts]; simp
    obtain ⟨TS, hTS⟩ : ∃ TS, U.tse X.data.toList Y.data.toList = TS := ⟨_, rfl⟩
    rw [hTS] at hrd hkc htl htx hbk hsl
    have HRD := Lib.hid hrd
    have HKC := Lib.hid hkc
    have HB9 := Lib.hid HM9.2.2.1
    clear hrd hkc hts hTS HM9 hown7 hgrow7
    obtain ⟨E, hE⟩ : ∃ E, U.emit TS = E := ⟨_, rfl⟩
    rw [hE] at htl htx hbk
    clear hE
    have hEs : (ByteArray.mk E.toArray).size = E.length := size_of_mk _
    by_cases h6 : 600 < E.length
    · rw [if_pos h6] at htx
      have HTX := Lib.hid htx
      have hlen : (90 : Int) < (X.size : Int) + (Y.size : Int) := by omega
      clear htx hbk htl h6
      go_wp2_with (go_at_call 7; refine (HTX.out _ HKC.out).mono ?_; rintro e w5 ⟨rfl, hb5⟩)
      go_ret
      exact ⟨by first | (simp; done) | (simp; omega), HB9.out.trans (hb5.mono HB9.out.size)⟩
    · rw [if_neg h6] at htx
      have HTX := Lib.hid htx
      have hpc := fun (W : World) (hB : Below w.heap.size w W) => parse_c ⟨E.toArray⟩ W (by rw [hEs]; omega) (HG.out.below hB)
      rw [list_of_mk, hbk] at hpc
      have HPC := Lib.hid hpc
      have h15 : (15 : Int) ≤ (E.length : Int) := by omega
      clear htx hbk hpc htl h6
      go_wp2_with (first
        | (go_at_call 7; refine (HTX.out _ HKC.out).mono ?_; rintro e w5 ⟨rfl, hb5⟩)
        | (go_at_call 9; refine (HPC.out _ (HB9.out.trans (hb5.mono HB9.out.size))).mono ?_; rintro e w6 ⟨v6, rfl, hR6, _, hb6⟩; have HR6 := Lib.hid hR6; clear hR6)
        | (go_at_call 10; refine (same_k _ _ TS _ ((HRD.out.below (hb5.trans (hb6.mono hb5.size))).more (Nat.le_trans hb5.size hb6.size)) HR6.out hsl).mono ?_; rintro e w7 ⟨rfl, nn, rfl⟩))
      go_ret
      refine ⟨by simp, ?_⟩
      have hb7 := hb5.trans (hb6.mono hb5.size)
      exact below_drewN (HB9.out.trans (hb7.mono HB9.out.size)) _
  | false =>
    go_enter Tryz.func4, Tryz.ntmps4
    go_wp2_with (at_builtin; refine wpList_append_own _ rfl _ _ 23 rfl w.heap.size 33 iT _ 5 72 Tryz.underlying23 hiT hT0 hT1 hT2 rfl (by decide) _ _ _ rfl (HM0.out.alloc _).1 ⟨_, 0, none⟩ 1 1 [.int .i64 3, .string ⟨#[]⟩, .slice none 0 0, .bool false, .string X] rfl rfl ?c1 ?c2 ?c3 ?c4 ?c5 ?_)
    case c1 => exact cells5 (by have h := heap_alloc_new ((w.alloc (.cells #[.string ⟨#[104, 114, 101, 102]⟩, .string Y] 37 (0, 0))).alloc (.cells #[.int .i64 1, .string ⟨#[97]⟩, .slice (some ⟨w.heap.size, 0, none⟩) 1 1, .bool false, .string ⟨#[]⟩] 33 (0, 0))) (.cells #[.int .i64 3, .string ⟨#[]⟩, .slice none 0 0, .bool false, .string X] 33 (0, 0)); simpa using h)
    case c2 => intro u hu; simp at hu; rcases hu with rfl | rfl | rfl | rfl | rfl <;> rfl
    case c3 => show 1 + 1 ≤ 2 ^ 63 - 1; decide
    case c4 => show (1 + 1) * 72 ≤ 140737488355328; decide
    case c5 => exact (HM0.out.alloc _).2.2.1.size
    intro v7 w7 hown7 hgrow7 _
    have hM1 := (HM0.out.alloc _).put (U.tokT X.data.toList) (.slice none 0 0) (World.ownsRow_nil _ _ _ _) (Nat.zero_le _) hown7 hgrow7
    have HM1 := Lib.hid hM1
    obtain ⟨ao7, cap7, rfl⟩ := own_form hown7
    clear hM1 hown7 hgrow7
    go_wp2_with (at_builtin; refine wpList_append_own _ rfl _ _ 23 rfl w.heap.size 33 iT _ 5 72 Tryz.underlying23 hiT hT0 hT1 hT2 rfl (by decide) _ _ _ rfl (HM1.out.alloc _).1 ⟨_, 0, none⟩ 1 1 [.int .i64 2, .string ⟨#[97]⟩, .slice none 0 0, .bool false, .string ⟨#[]⟩] rfl rfl ?d1 ?d2 ?d3 ?d4 ?d5 ?_)
    case d1 => exact cells5 (heap_alloc_new _ _)
    case d2 => intro u hu; simp at hu; rcases hu with rfl | rfl | rfl | rfl | rfl <;> rfl
    case d3 => show 2 + 1 ≤ 2 ^ 63 - 1; decide
    case d4 => show (2 + 1) * 72 ≤ 140737488355328; decide
    case d5 => exact (HM1.out.alloc _).2.2.1.size
    intro v8 w8 hown8 hgrow8 _
    have HM9 := (HM1.out.alloc _).put U.tokZ (.slice none 0 0) (World.ownsRow_nil _ _ _ _) (Nat.zero_le _) hown8 hgrow8
    obtain ⟨ao8, cap8, rfl⟩ := own_form hown8
    have hrd := HM9.rd
    have hkc := HM9.rdKC
    have hts : (([(U.tokS Y.data.toList, Value.slice (some ⟨w.heap.size, 0, none⟩) 1 1)] ++ [(U.tokT X.data.toList, Value.slice none 0 0)] ++ [(U.tokZ, Value.slice none 0 0)]).map (·.1) : List U.Tok) = U.tse X.data.toList Y.data.toList := by
      unfold U.tse U.mids
      rw [if_neg (by rw [← Lib.toList_data, he]; simp)]
      rfl
    rw [hts] at hrd hkc
    have htl := U.tse_len X.data.toList Y.data.toList
    rw [HXL.out, HYL.out] at htl
    have htx := fun (W : World) (hu : RdKC W W.heap.size (.slice ao8 3 cap8) ((U.tse X.data.toList Y.data.toList).map U.Tok.tk)) => etext_walk (.slice ao8 3 cap8) _ W hu (by rw [List.length_map, ← hts]; exact Nat.le_of_ble_eq_true rfl) (fun t ht => by
      rw [← hts] at ht
      simp at ht
      rcases ht with rfl | rfl | rfl <;> exact Nat.le_trans (show _ ≤ 1 from by first | exact Nat.le_refl 1 | exact Nat.zero_le 1) (by decide))
    rw [U.tse_text] at htx
    have hbk := U.toks_emits (U.tse_ok X.data.toList Y.data.toList)
    have hsl : (U.tse X.data.toList Y.data.toList).length ≤ 1048576 := by rw [← hts]; simp
    obtain ⟨TS, hTS⟩ : ∃ TS, U.tse X.data.toList Y.data.toList = TS := ⟨_, rfl⟩
    rw [hTS] at hrd hkc htl htx hbk hsl
    have HRD := Lib.hid hrd
    have HKC := Lib.hid hkc
    have HB9 := Lib.hid HM9.2.2.1
    clear hrd hkc hts hTS HM9 hown8 hgrow8
    obtain ⟨E, hE⟩ : ∃ E, U.emit TS = E := ⟨_, rfl⟩
    rw [hE] at htl htx hbk
    clear hE
    have hEs : (ByteArray.mk E.toArray).size = E.length := size_of_mk _
    by_cases h6 : 600 < E.length
    · rw [if_pos h6] at htx
      have HTX := Lib.hid htx
      have hlen : (90 : Int) < (X.size : Int) + (Y.size : Int) := by omega
      clear htx hbk htl h6
      go_wp2_with (go_at_call 7; refine (HTX.out _ HKC.out).mono ?_; rintro e w5 ⟨rfl, hb5⟩)
      go_ret
      exact ⟨by first | (simp; done) | (simp; omega), HB9.out.trans (hb5.mono HB9.out.size)⟩
    · rw [if_neg h6] at htx
      have HTX := Lib.hid htx
      have hpc := fun (W : World) (hB : Below w.heap.size w W) => parse_c ⟨E.toArray⟩ W (by rw [hEs]; omega) (HG.out.below hB)
      rw [list_of_mk, hbk] at hpc
      have HPC := Lib.hid hpc
      have h15 : (15 : Int) ≤ (E.length : Int) := by omega
      clear htx hbk hpc htl h6
      go_wp2_with (first
        | (go_at_call 7; refine (HTX.out _ HKC.out).mono ?_; rintro e w5 ⟨rfl, hb5⟩)
        | (go_at_call 9; refine (HPC.out _ (HB9.out.trans (hb5.mono HB9.out.size))).mono ?_; rintro e w6 ⟨v6, rfl, hR6, _, hb6⟩; have HR6 := Lib.hid hR6; clear hR6)
        | (go_at_call 10; refine (same_k _ _ TS _ ((HRD.out.below (hb5.trans (hb6.mono hb5.size))).more (Nat.le_trans hb5.size hb6.size)) HR6.out hsl).mono ?_; rintro e w7 ⟨rfl, nn, rfl⟩))
      go_ret
      refine ⟨by simp, ?_⟩
      have hb7 := hb5.trans (hb6.mono hb5.size)
      exact below_drewN (HB9.out.trans (hb7.mono HB9.out.size)) _

end Go.Proofs.YtfockedeikdbjaaGreatDoor

namespace Go.Proofs.YtfockedeikdbjaaGreatDoor
open Go.ChangeShapes Go.WideShapes Go.ChangeAt Go.RowKit

theorem gSyn : Tryz.prog.globalNamed "strconv.ErrSyntax" = some 3 := by kernel_rfl
theorem gSynType : (Tryz.prog.globals[3]?).map (·.type) = some 56 := by kernel_rfl
theorem starName : "*" ++ "errors.errorString" = "*errors.errorString" := by decide
theorem rowName (u : TypeId) (h : Tryz.prog.typeName? 3 u = some "*errors.errorString") : u = 133 :=
  typeName_ptr_named (nm := "errors.errorString") (by rw [starName]; kernel_rfl) (by kernel_rfl) (by decide) u (by rw [starName]; exact h)
theorem cellsErr : Tryz.prog.cellsOf 135 = 1 := by kernel_rfl
theorem cellsStr : Tryz.prog.cellsOf 9 = 1 := by kernel_rfl

abbrev laidList : List (String × DataW Unit) := Rows.emitBackRow.laid
/-- what the list gives the walks -/
theorem errS_of_laid {W : World} (h : laidMetH Tryz.prog laidList W) : ErrS W := by
  rw [MakeChecks.laidMetH_plain _ _ _ (by kernel_rfl)] at h
  obtain ⟨a0, s0, hv0, _⟩ := laid_sentinel (laidMet.tail (laidMet.tail (laidMet.tail (laidMet.tail (laidMet.tail h))))) gSyn gSynType Tryz.underlying56 rowName Tryz.underlying133 Tryz.underlying135 rfl rfl Tryz.underlying9 cellsErr cellsStr
  have := World.var?_cell gSyn hv0 0
  exact ⟨_, _, by simpa using this⟩
theorem max_of_shape {W : World} (h : W.ShapedOpen Tryz.prog) : ∃ m, W.cell? ⟨0, 0, none⟩ = some (.int .i64 m) :=
  cell_of_shapedOpen_int (t := 3) (zero := #[.int .i64 0]) h (by decide +kernel) (by kernel_rfl) rfl (by kernel_rfl) (by kernel_rfl) Tryz.underlying3
theorem glob_of {W : World} (h : laidMetH Tryz.prog laidList W) (hs : W.ShapedOpen Tryz.prog) : Glob W := ⟨max_of_shape hs, errS_of_laid h⟩

/-- a heap that meets the list -/
theorem door_met (os : Os) (args : Array Value) : laidMet Tryz.prog laidList ((World.laidAll Tryz.prog os laidList).forCall (fun _ _ => 0) ⟨#[], args, []⟩).memory :=
  laidMet_laidAll _ (by kernel_rfl) (by kernel_rfl)

end Go.Proofs.YtfockedeikdbjaaGreatDoor

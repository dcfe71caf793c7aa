/- Several texts in one: Comment, Parsed, ShowRead3, ShowFixed. -/
import Derived.Outline
import Derived.Test.YtmfkefcdddoooaaGreatDoorP21
import Derived.Test.YtmfkefcdddoooaaGreatDoorP12
import Derived.Test.YtmfkefcdddoooaaGreatDoorP19
import Derived.Test.YtmfkefcdddoooaaGreatDoorP05
namespace Go.Proofs.YtmfkefcdddoooaaGreatDoor
open Go.RowKit

theorem remark_cut (find l : List UInt8) (hf : find ≠ []) : U.remark find l = (⟨4, [], [], false, (Lib.cut l find).1⟩, (Lib.cut l find).2.1) := by
  rw [U.cut_place find l hf]
  unfold U.remark
  cases U.placeOf find l <;> rfl
theorem ate_mark {w w' : World} {bp : Nat} {r : ByteArray} {A B : List UInt8} {v6 : Value} {l : List (U.Tok × Value)} (hi : U.item r.data.toList = .mark ⟨4, [], [], false, A⟩ B)
    (h : ParW w w' bp ⟨B.toArray⟩ v6 (l ++ [(⟨4, [], [], false, A⟩, .slice none 0 0)])) : Ate w w' bp r l := by
  have hs := U.item_shorter.1 _ _ hi
  rw [len_list] at hs
  refine ⟨_, _, _, h, ?_, by rw [size_of_mk]; exact hs, by rw [size_of_mk, List.length_append, List.length_singleton]; omega⟩
  rw [U.toksT_mark hi, list_of_mk]
  simp

set_option maxHeartbeats 4000000 in
set_option maxRecDepth 1000000 in
theorem read_comment (w wr : World) (bp : Nat) (r : ByteArray) (v : Value) (l : List (U.Tok × Value)) (h : ParW w wr bp r v l) (hG : Glob wr) (hr : r.size ≤ 1048576) (hl : l.length ≤ 1048576) (hk : U.kindOf r.data.toList = 4) :
    Calls Tryz.prog 33 #[.pointer (some ⟨bp, 0, none⟩)] wr fun e w' => e = .returned (.tuple #[]) ∧ Ate w w' bp r l := by
  obtain ⟨c0, c1, f0, f1⟩ := par_cells h.par
  obtain ⟨m, hm⟩ := hG.max
  have h2 : 2 ≤ r.size := by
    rw [← len_list]
    match hl : r.data.toList, hk with
    | a :: c :: u, _ => simp
  have hp := fun w2 => Tryz.strings_HasPrefix r ⟨#[60, 33, 45, 45]⟩ w2
  have hpt : Lib.hasPrefix r.data.toList (ByteArray.mk #[60, 33, 45, 45]).data.toList = (r.data.toList.take 4 == [60, 33, 45, 45]) := U.prefix_take [60, 33, 45, 45] r.data.toList
  rw [hpt] at hp
  have hi0 : (2 : Int) ≤ (r.size : Int) := by omega
  rcases U.item_mark hk with ⟨h4, hi⟩ | ⟨h4, h5, hi⟩ | ⟨h4, h5, hi⟩
  · rw [show (r.data.toList.take 4 == [60, 33, 45, 45]) = true from beq_iff_eq.2 h4] at hp
    have h4s : 4 ≤ r.size := by
      have := congrArg List.length h4
      rw [List.length_take, len_list] at this
      simp only [List.length_cons, List.length_nil] at this
      omega
    have hi1 : (4 : Int) ≤ (r.size : Int) := by omega
    unfold U.markI at hi
    rw [remark_cut _ _ (by decide)] at hi
    have hc := fun w2 hm => Tryz.strings_Cut (r.extract 4 r.size) ⟨#[45, 45, 62]⟩ m w2 (by rw [size_drop]; omega) hm
    rw [list_drop] at hc
    have e3 : (ByteArray.mk #[45, 45, 62]).data.toList = [45, 45, 62] := rfl
    rw [e3] at hc
    generalize Lib.cut (r.data.toList.drop 4) [45, 45, 62] = X at hc hi
    obtain ⟨A, B, f⟩ := X
    have HI := Lib.hid hi
    clear hi h4 hpt hk e3
    go_enter Tryz.func33, Tryz.ntmps33
    go_wp2_with (first
      | (refine (hp _).mono ?_; rintro e w2 ⟨rfl, rfl⟩)
      | (refine (hc _ hm).mono ?_; rintro e w3 ⟨rfl, n, rfl⟩; have hP3 := h.step (((Reads.start h.par).later (below_drewN (Below.refl _ _) n)).setRest ⟨B.toArray⟩))
      | (refine (add_text w _ bp _ v l 4 _ hP3 hl).mono ?_; rintro e w6 ⟨rfl, v6, hP6⟩))
    go_end0
    exact ⟨rfl, ate_mark HI.out hP6⟩
  · rw [show (r.data.toList.take 4 == [60, 33, 45, 45]) = false from beq_eq_false_iff_ne.2 h4] at hp
    have ho : ((r.extract 0 2).toList == [60, 63]) = true := by rw [Lib.toList_data, list_take]; exact beq_iff_eq.2 h5
    have hi1 : (1 : Int) ≤ (r.size : Int) := by omega
    unfold U.markI at hi
    rw [remark_cut _ _ (by decide)] at hi
    have hc := fun w2 hm => Tryz.strings_Cut (r.extract 1 r.size) ⟨#[62]⟩ m w2 (by rw [size_drop]; omega) hm
    rw [list_drop] at hc
    have e3 : (ByteArray.mk #[62]).data.toList = [62] := rfl
    rw [e3] at hc
    generalize Lib.cut (r.data.toList.drop 1) [62] = X at hc hi
    obtain ⟨A, B, f⟩ := X
    have HI := Lib.hid hi
    have hz2 := size_take r 2 h2
    clear hi h4 h5 hpt hk e3
    go_enter Tryz.func33, Tryz.ntmps33
    go_wp2_with (first
      | (refine (hp _).mono ?_; rintro e w2 ⟨rfl, rfl⟩)
      | (refine (hc _ hm).mono ?_; rintro e w3 ⟨rfl, n, rfl⟩; have hP3 := h.step (((Reads.start h.par).later (below_drewN (Below.refl _ _) n)).setRest ⟨B.toArray⟩))
      | (refine (add_text w _ bp _ v l 4 _ hP3 hl).mono ?_; rintro e w6 ⟨rfl, v6, hP6⟩))
    go_end0
    exact ⟨rfl, ate_mark HI.out hP6⟩
  · rw [show (r.data.toList.take 4 == [60, 33, 45, 45]) = false from beq_eq_false_iff_ne.2 h4] at hp
    have ho : ((r.extract 0 2).toList == [60, 63]) = false := by rw [Lib.toList_data, list_take]; exact beq_eq_false_iff_ne.2 h5
    have hi1 : (2 : Int) ≤ (r.size : Int) := by omega
    unfold U.markI at hi
    rw [remark_cut _ _ (by decide)] at hi
    have hc := fun w2 hm => Tryz.strings_Cut (r.extract 2 r.size) ⟨#[62]⟩ m w2 (by rw [size_drop]; omega) hm
    rw [list_drop] at hc
    have e3 : (ByteArray.mk #[62]).data.toList = [62] := rfl
    rw [e3] at hc
    generalize Lib.cut (r.data.toList.drop 2) [62] = X at hc hi
    obtain ⟨A, B, f⟩ := X
    have HI := Lib.hid hi
    have hz2 := size_take r 2 h2
    clear hi h4 h5 hpt hk e3
    go_enter Tryz.func33, Tryz.ntmps33
    go_wp2_with (first
      | (refine (hp _).mono ?_; rintro e w2 ⟨rfl, rfl⟩)
      | (refine (hc _ hm).mono ?_; rintro e w3 ⟨rfl, n, rfl⟩; have hP3 := h.step (((Reads.start h.par).later (below_drewN (Below.refl _ _) n)).setRest ⟨B.toArray⟩))
      | (refine (add_text w _ bp _ v l 4 _ hP3 hl).mono ?_; rintro e w6 ⟨rfl, v6, hP6⟩))
    go_end0
    exact ⟨rfl, ate_mark HI.out hP6⟩

end Go.Proofs.YtmfkefcdddoooaaGreatDoor

namespace Go.Proofs.YtmfkefcdddoooaaGreatDoor
open Go.RowKit

/-- tokens in a row of the call's own, with their attributes -/
def Toks (w w' : World) (v : Value) (l : List (U.Tok × Value)) : Prop :=
  w'.ownsRow w.heap.size 33 5 v l.length (tokCells l) ∧ (∀ x ∈ l, w'.ownsRow w.heap.size 54 2 x.2 x.1.attrs.length (attCells x.1.attrs)) ∧ Below w.heap.size w w' ∧ ∀ x ∈ l, x.1.attrs.length ≤ 1048576

set_option maxHeartbeats 4000000 in
set_option maxRecDepth 1000000 in
theorem parse_walk (s : ByteArray) (w : World) (hG : Glob w) :
    Calls Tryz.prog 12 #[.string s] w fun e w' => ∃ v l, Toks w w' v l ∧
      (s.size ≤ 600 → e = .returned (.tuple #[v, .int .i64 0]) ∧ l.map (·.1) = U.toks s.data.toList) ∧ (600 < s.size → ∃ c, e = .returned (.tuple #[.slice none 0 0, .int .i64 c]) ∧ l = []) := by
  obtain ⟨m, hm⟩ := hG.max
  obtain ⟨te, pe, he⟩ := hG.err
  have hF : Far w.heap.size := ⟨Nat.ne_of_lt (World.block_lt_of_cell? w _ hm), Nat.ne_of_lt (World.block_lt_of_cell? w _ he)⟩
  clear hm he
  go_enter Tryz.func12, Tryz.ntmps12
  by_cases hz : s.size ≤ 600
  · have hP0 : ParW w (w.alloc (parBlock s (.slice none 0 0))) w.heap.size s (.slice none 0 0) [] := ⟨heap_alloc_new w _, World.ownsRow_nil _ _ _ _, (fun x hx => by cases hx), (Below.refl _ w).alloc (Nat.le_refl _) _, Nat.le_refl _, (fun x hx => by cases hx)⟩
    go_wp2_with fail
    go_loopw [15] (fun _ wr => ∃ (r : ByteArray) (v : Value) (l : List (U.Tok × Value)), ParW w wr w.heap.size r v l ∧ Hid (l.map (·.1) ++ U.toksT [] r.data.toList = U.toks s.data.toList) ∧ l.length + 2 * r.size ≤ 2 * s.size) (fun _ wr => strSize ((wr.cell? ⟨w.heap.size, 0, none⟩).getD undef))
    case atStart => exact ⟨s, _, [], hP0, Lib.hid rfl, by simp⟩
    case round =>
      obtain ⟨r, v, l, hP, htoks, hlen⟩ := hrel
      have hGr := hG.below hP.below
      obtain ⟨c0, c1, f0, f1⟩ := par_cells hP.par
      rcases Nat.eq_zero_or_pos r.size with h0 | h0
      · have hem := empty_of h0
        have hfin : l.map (·.1) = U.toks s.data.toList := by
          have := htoks.out
          rw [show r.data.toList = [] from List.eq_nil_of_length_eq_zero (by rw [len_list]; exact h0)] at this
          rw [← this]
          simp [U.toksT_nil, U.chars]
        have HFI := Lib.hid hfin
        obtain ⟨ao, cap, rfl⟩ := own_form hP.row
        clear hfin htoks h0
        go_wp2_with fail
        go_ret2
        exact ⟨_, l, ⟨own_base hP.row (Nat.le_succ _), hP.atts, hP.below, hP.lens⟩, fun _ => ⟨rfl, HFI.out⟩, fun h => absurd h (by omega)⟩
      · have hem := empty_not h0
        have hka := fun w3 => kind_at r w3
        have hlb : l.length ≤ 1048575 := by omega
        rcases U.kindOf_cases r.data.toList with hk | hk | hk | hk
        all_goals
          have HK := Lib.hid hk
          rw [hk] at hka
          have HX := Lib.hid hka
          clear hka hk
          go_wp2_with (first
            | (go_at_call 30; refine (HX.out _).mono ?_; rintro e w3 ⟨rfl, rfl⟩)
            | (go_at_call 31; refine (read_start w _ _ r v l hP hG hGr hF (by omega) hlb HK.out).mono ?_; rintro e w4 ⟨rfl, hA⟩)
            | (go_at_call 32; refine (read_end w _ _ r v l hP hGr hF (by omega) (by omega) HK.out).mono ?_; rintro e w4 ⟨rfl, hA⟩)
            | (go_at_call 33; refine (read_comment w _ _ r v l hP hGr (by omega) (by omega) HK.out).mono ?_; rintro e w4 ⟨rfl, hA⟩)
            | (go_at_call 34; refine (read_chars w _ _ r v l hP hGr hF (by omega) h0 (by omega) HK.out).mono ?_; rintro e w4 ⟨rfl, hA⟩))
          obtain ⟨r', v', l', hP', ht, hs1, hl'⟩ := hA
          have c1 := (par_cells hP'.par).1
          refine ⟨⟨r', v', l', hP', Lib.hid (ht.trans htoks.out), by omega⟩, ?_⟩
          rw [c1, c0]
          exact hs1
  · go_wp2_with fail
    go_ret2
    exact ⟨.slice none 0 0, [], ⟨World.ownsRow_nil _ _ _ _, (fun x hx => by cases hx), Below.refl _ w, (fun x hx => by cases hx)⟩, fun h => absurd h hz, fun _ => ⟨_, rfl, rfl⟩⟩

set_option maxHeartbeats 4000000 in
set_option maxRecDepth 1000000 in
theorem parse_big (s : ByteArray) (w : World) (hz : 600 < s.size) : Calls Tryz.prog 12 #[.string s] w fun e w' => e = .returned (.tuple #[.slice none 0 0, .int .i64 1]) ∧ Below w.heap.size w w' := by
  go_enter Tryz.func12, Tryz.ntmps12
  go_wp2_with fail
  go_ret2
  exact ⟨rfl, Below.refl _ _⟩

end Go.Proofs.YtmfkefcdddoooaaGreatDoor

namespace Go.Proofs.YtmfkefcdddoooaaGreatDoor
open Go.RowKit

/-- what Read answers -/
def U.readS (s : List UInt8) : List U.Nd × Nat := if 600 < s.length then ([], 1) else if U.showText (U.rd (U.toks s)).1 = (s, 0) then ((U.rd (U.toks s)).1, 0) else ([], 4)
theorem Toks.rdTk {w w' : World} {v : Value} {l : List (U.Tok × Value)} (h : Toks w w' v l) : RdTk w' w'.heap.size v (l.map (·.1)) := by
  obtain ⟨ho, ha, _, _⟩ := h
  obtain ⟨ao, cap, rfl, h1, _, _⟩ := own_cap ho
  refine ⟨ao, cap, by rw [List.length_map], by rw [List.length_map]; exact h1, fun i t ht => ?_⟩
  obtain ⟨x, hx, rfl⟩ : ∃ x, l[i]? = some x ∧ x.1 = t := by
    rw [List.getElem?_map] at ht
    cases hx : l[i]? with
    | none => rw [hx] at ht; cases ht
    | some x => rw [hx] at ht; exact ⟨x, rfl, by simpa using ht⟩
  obtain ⟨g, cap2, e, c0, c1, c2, c3, c4⟩ := row_tok ho hx
  injection e with e1 _ _
  subst e1
  refine ⟨g, 0, x.2, rfl, (ho.lt g rfl).2, by rw [Nat.zero_add]; exact c0, by rw [Nat.zero_add]; exact c1, by rw [Nat.zero_add]; exact c2, by rw [Nat.zero_add]; exact c3, by rw [Nat.zero_add]; exact c4, ?_⟩
  exact RdAS.of_own (ha x (List.mem_of_getElem? hx)) (fun g hg => ((ha x (List.mem_of_getElem? hx)).lt g hg).2)
theorem parse_tk (s : ByteArray) (w : World) (hs : s.size ≤ 600) (hG : Glob w) :
    Calls Tryz.prog 12 #[.string s] w fun e w' => ∃ v, e = .returned (.tuple #[v, .int .i64 0]) ∧ RdTk w' w'.heap.size v (U.toks s.data.toList) ∧ Below w.heap.size w w' := by
  refine (parse_walk s w hG).mono ?_
  rintro e w' ⟨v, l, hT, h1, _⟩
  obtain ⟨he, hl⟩ := h1 hs
  have hr := hT.rdTk
  rw [hl] at hr
  exact ⟨v, he, hr, hT.2.2.1⟩

set_option maxHeartbeats 4000000 in
set_option maxRecDepth 1000000 in
theorem show_read (s : ByteArray) (w : World) (hG : Glob w) :
    Calls Tryz.prog 14 #[.string s] w fun e w' => ∃ v, e = .returned (.tuple #[v, .int .i64 ((U.readS s.data.toList).2 : Nat)]) ∧ RdNs w' (· < w'.heap.size) v (U.readS s.data.toList).1 ∧ Below w.heap.size w w' := by
  have hsl := len_list s
  obtain ⟨R, hR⟩ : ∃ R, U.readS s.data.toList = R := ⟨_, rfl⟩
  rw [hR]
  unfold U.readS at hR
  by_cases h600 : 600 < s.size
  · rw [if_pos (by omega)] at hR
    subst hR
    have HP := Lib.hid (parse_big s w h600)
    go_enter Tryz.func14, Tryz.ntmps14
    go_wp2_with (go_at_call 12; refine HP.out.mono ?_; rintro e w2 ⟨rfl, hb2⟩)
    go_ret2
    exact ⟨_, rfl, RdNs.nil _ _, hb2⟩
  · rw [if_neg (by omega)] at hR
    have HP := Lib.hid (parse_tk s w (by omega) hG)
    have hlt : (U.toks s.data.toList).length ≤ 1048576 := by have := (U.toks_ok s.data.toList).2.2; omega
    have HRL := Lib.hid (read_list _ (U.toks s.data.toList) (Nat.le_refl _) hlt)
    have hle := U.rd_le (U.toks s.data.toList)
    have HT := Lib.hid (fun v W hN => show_text v (U.rd (U.toks s.data.toList)).1 W hN (by omega))
    generalize U.toks s.data.toList = TS at hR HP HRL HT hlt hle
    have HRR := Lib.hid hR
    clear hR hlt hle h600
    go_enter Tryz.func14, Tryz.ntmps14
    go_wp2_with fail
    refine HP.out.mono ?_
    rintro e w2 ⟨v, rfl, hr, hb2⟩
    obtain ⟨ta, tc, rfl, _⟩ := id hr
    have HR2 := Lib.hid hr
    clear HP hr
    go_wp2_with fail
    refine (HRL.out _ _ w2 (Nat.le_refl _) HR2.out).mono ?_
    rintro e w3 ⟨nv, rv, rfl, hN, hR3, hb3⟩
    have t3 := hb2.trans (hb3.mono hb2.size)
    have hN3 : RdNs w3 (· < w3.heap.size) nv (U.rd TS).1 := hN.keep (fun _ _ => rfl) (fun b hb => by
      have := hb3.size
      rcases hb with hb | hb
      · show b < _; omega
      · exact hb.2)
    obtain ⟨na, nc, rfl, _⟩ := id hN3
    obtain ⟨ra, rc, rfl, _⟩ := id hR3
    have HN3 := Lib.hid hN3
    have hT := HT.out _ w3 hN3
    clear HRL HR2 hN hR3 hb3 hb2 HT hN3
    generalize (U.rd TS).1 = L at *
    obtain ⟨X, hX⟩ : ∃ X, U.showText L = X := ⟨_, rfl⟩
    rw [hX] at hT
    have h1 := HRR.out
    rw [hX] at h1
    clear hX HRR
    obtain ⟨X1, X2⟩ := X
    have HTT := Lib.hid hT
    clear hT
    go_wp2_with fail
    refine HTT.out.mono ?_
    rintro e w4 ⟨rfl, hb4⟩
    have t4 := t3.trans (hb4.mono t3.size)
    have HN4 := Lib.hid (HN3.out.below hb4 hb4.size)
    clear HTT HN3 hb4 t3
    by_cases hX2 : X2 = 0
    · have hz2 : ((X2 : Nat) : Int) = 0 := by omega
      by_cases hXs : X1 = s.data.toList
      · rw [if_pos (by rw [hXs, hX2])] at h1
        subst h1
        subst hX2
        have hs1 : ByteArray.mk X1.toArray = s := by apply ByteArray.ext; apply Array.ext'; rw [hXs]
        rw [hs1]
        clear hXs hs1
        go_wp2_with fail
        go_ret2
        exact ⟨_, rfl, HN4.out, t4⟩
      · rw [if_neg (fun e => hXs (congrArg Prod.fst e))] at h1
        subst h1
        subst hX2
        have hs1 : (X1 == s.data.toList) = false := beq_eq_false_iff_ne.2 hXs
        have hs2 : (X1 != s.data.toList) = true := bne_iff_ne.2 hXs
        have hss : s = ⟨s.data.toList.toArray⟩ := by apply ByteArray.ext; apply Array.ext'; rfl
        generalize s.data.toList = S at *
        subst hss
        clear hXs
        go_wp2_with fail
        go_ret2
        exact ⟨_, rfl, RdNs.nil _ _, t4⟩
    · rw [if_neg (fun e => hX2 (congrArg Prod.snd e))] at h1
      subst h1
      have hne2 : (((X2 : Nat) : Int) != 0) = true := bne_iff_ne.2 (by omega)
      clear hX2
      go_wp2_with fail
      go_ret2
      exact ⟨_, rfl, RdNs.nil _ _, t4⟩

end Go.Proofs.YtmfkefcdddoooaaGreatDoor

namespace Go.Proofs.YtmfkefcdddoooaaGreatDoor
open Go.RowKit

theorem rd_one : U.rd (U.toks [60, 98, 114, 62, 120]) = ([.mk [98, 114] [] [] [], .mk [] [] [120] []], []) := by
  have h : U.toks [60, 98, 114, 62, 120] = [⟨1, [98, 114], [], false, []⟩, ⟨3, [], [], false, [120]⟩] := by rfl
  rw [h, U.rd_flat (by decide) (by decide), U.rd_flat (by decide) (by decide), U.rd_nil]
  rfl
theorem read_one : U.readS [60, 98, 114, 62, 120] = ([.mk [98, 114] [] [] [], .mk [] [] [120] []], 0) := by
  unfold U.readS
  rw [if_neg (by decide), rd_one]
  have hf : U.showFault [.mk [98, 114] [] [] [], .mk [] [] [120] []] = 0 := by
    unfold U.showFault
    simp only [U.lFault_cons, U.lFault_nil, U.ndFault_eq, U.cntL_cons, U.cntN_eq, U.cntL_nil]
    rfl
  have ht : U.emit (U.lToks [.mk [98, 114] [] [] [], .mk [] [] [120] []]) = [60, 98, 114, 62, 120] := by
    simp only [U.lToks_cons, U.lToks_nil, U.ndToks_eq]
    rfl
  have hs : U.showText [.mk [98, 114] [] [] [], .mk [] [] [120] []] = ([60, 98, 114, 62, 120], 0) := by
    unfold U.showText
    rw [if_pos hf, ht, if_neg (by decide)]
  rw [if_pos hs]
theorem readS_cases (s : List UInt8) : ((U.readS s).2 = 0 ∧ U.showText (U.readS s).1 = (s, 0) ∧ U.cntL (U.readS s).1 ≤ 1048576) ∨ ((U.readS s).1 = [] ∧ ((U.readS s).2 = 1 ∨ (U.readS s).2 = 4)) := by
  unfold U.readS
  split
  · exact .inr ⟨rfl, .inl rfl⟩
  · rename_i h6
    split
    · rename_i h
      refine .inl ⟨rfl, h, ?_⟩
      have h1 := U.rd_le (U.toks s)
      have h2 := (U.toks_ok s).2.2
      show U.cntL (U.rd (U.toks s)).1 ≤ _
      omega
    · exact .inr ⟨rfl, .inr rfl⟩

set_option maxHeartbeats 4000000 in
set_option maxRecDepth 1000000 in
theorem fixed_walk (s : ByteArray) (w : World) (hG : Glob w) :
    Calls Tryz.prog 6 #[.string s] w fun e w' => e = .returned (.bool true) ∧ Below w.heap.size w w' := by
  obtain ⟨S, rfl⟩ : ∃ S : List UInt8, s = ⟨S.toArray⟩ := ⟨s.data.toList, by apply ByteArray.ext; apply Array.ext'; rfl⟩
  have hr := show_read ⟨S.toArray⟩ w hG
  have h1 := fun W (hB : Below w.heap.size w W) => show_read ⟨#[60, 98, 114, 62, 120]⟩ W (hG.below hB)
  rw [list_of_mk] at hr
  rw [show (ByteArray.mk #[60, 98, 114, 62, 120]).data.toList = [60, 98, 114, 62, 120] from rfl, read_one] at h1
  have hc := readS_cases S
  obtain ⟨R, hR⟩ : ∃ R, U.readS S = R := ⟨_, rfl⟩
  rw [hR] at hr hc
  obtain ⟨R1, R2⟩ := R
  have HR := Lib.hid hr
  have H1 := Lib.hid h1
  have HC := Lib.hid hc
  clear hr h1 hc hR
  go_enter Tryz.func6, Tryz.ntmps6
  go_wp2_with fail
  refine HR.out.mono ?_
  rintro e w2 ⟨v, rfl, hv, hb2⟩
  obtain ⟨va, vc, rfl, -⟩ := id hv
  have HV := Lib.hid hv
  clear HR hv
  go_wp2_with fail
  refine (H1.out _ hb2).mono ?_
  rintro e w3 ⟨o, rfl, ho, hb3⟩
  obtain ⟨oa, oc, rfl, -⟩ := id ho
  have t3 := hb2.trans (hb3.mono hb2.size)
  have HV3 := Lib.hid (HV.out.below hb3 hb3.size)
  clear H1 ho hb3 hb2 HV
  rcases HC.out with ⟨h2, h4, h5⟩ | ⟨h2, h4⟩
  · have h2' : R2 = 0 := h2
    have h4' : U.showText R1 = (S, 0) := h4
    subst h2'
    have ht := show_text _ R1 w3 HV3.out h5
    rw [h4'] at ht
    have HT := Lib.hid ht
    clear ht HC h2 h4 h4' h5
    go_wp2_with fail
    refine HT.out.mono ?_
    rintro e w4 ⟨rfl, hb4⟩
    have t4 := t3.trans (hb4.mono t3.size)
    clear HT hb4 HV3 t3
    go_wp2_with fail
    go_ret
    exact ⟨by simp, t4⟩
  · have h2' : R1 = [] := h2
    subst h2'
    have h4' : R2 = 1 ∨ R2 = 4 := h4
    clear HC h2 h4 HV3
    rcases h4' with rfl | rfl
    · go_wp2_with fail
      go_ret
      exact ⟨by simp, t3⟩
    · go_wp2_with fail
      go_ret
      exact ⟨by simp, t3⟩

end Go.Proofs.YtmfkefcdddoooaaGreatDoor

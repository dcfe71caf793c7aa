/- Several texts in one: Comment, Parsed, Keep. -/
import Derived.Outline
import Derived.Test.YtankcnikebcpkaaGreatDoorP24
import Derived.Test.YtankcnikebcpkaaGreatDoorEnds
import Derived.Test.YtankcnikebcpkaaGreatDoorP05
namespace Go.Proofs.YtankcnikebcpkaaGreatDoor
open Go.RowKit

theorem remark_cut (find l : List UInt8) (hf : find ≠ []) : U.remark find l = (⟨4, [], [], false, (Lib.cut l find).1⟩, (Lib.cut l find).2.1) := by
  rw [U.cut_place find l hf]
  unfold U.remark
  cases U.placeOf find l <;> rfl
theorem ate_mark {w w' : World} {bp : Nat} {r : ByteArray} {A B : List UInt8} {v6 : Value} {l : List (U.Tok × Value)} (hi : U.item r.data.toList = .mark ⟨4, [], [], false, A⟩ B)
    (h : ParW w w' bp ⟨B.toArray⟩ v6 (l ++ [(⟨4, [], [], false, A⟩, .slice none 0 0)])) : Ate w w' bp r l := by
  have hs := U.item_shorter.1 _ _ hi
  rw [len_list] at hs
  refine ⟨_, _, _, h, ?_, by rw [size_of_mk]; exact hs, by rw [size_of_mk, List.length_append, List.length_singleton]; omega⟩
  rw [U.toksT_mark hi, list_of_mk]
  simp

set_option maxHeartbeats 4000000 in
set_option maxRecDepth 1000000 in
theorem read_comment (w wr : World) (bp : Nat) (r : ByteArray) (v : Value) (l : List (U.Tok × Value)) (h : ParW w wr bp r v l) (hG : Glob wr) (hr : r.size ≤ 1048576) (hl : l.length ≤ 1048576) (hk : U.kindOf r.data.toList = 4) :
    Calls Tryz.prog 27 #[.pointer (some ⟨bp, 0, none⟩)] wr fun e w' => e = .returned (.tuple #[]) ∧ Ate w w' bp r l := by
  obtain ⟨c0, c1, f0, f1⟩ := par_cells h.par
  obtain ⟨m, hm⟩ := hG.max
  have h2 : 2 ≤ r.size := by
    rw [← len_list]
    match hl : r.data.toList, hk with
    | a :: c :: u, _ => simp
  have hp := fun w2 => Tryz.strings_HasPrefix r ⟨#[60, 33, 45, 45]⟩ w2
  have hpt : Lib.hasPrefix r.data.toList (ByteArray.mk #[60, 33, 45, 45]).data.toList = (r.data.toList.take 4 == [60, 33, 45, 45]) := U.prefix_take [60, 33, 45, 45] r.data.toList
  rw [hpt] at hp
  have hi0 : (2 : Int) ≤ (r.size : Int) := by omega
  rcases U.item_mark hk with ⟨h4, hi⟩ | ⟨h4, h5, hi⟩ | ⟨h4, h5, hi⟩
  · rw [show (r.data.toList.take 4 == [60, 33, 45, 45]) = true from beq_iff_eq.2 h4] at hp
    have h4s : 4 ≤ r.size := by
      have := congrArg List.length h4
      rw [List.length_take, len_list] at this
      simp only [List.length_cons, List.length_nil] at this
      omega
    have hi1 : (4 : Int) ≤ (r.size : Int) := by omega
    unfold U.markI at hi
    rw [remark_cut _ _ (by decide)] at hi
    have hc := fun w2 hm => Tryz.strings_Cut (r.extract 4 r.size) ⟨#[45, 45, 62]⟩ m w2 (by rw [size_drop]; omega) hm
    rw [list_drop] at hc
    have e3 : (ByteArray.mk #[45, 45, 62]).data.toList = [45, 45, 62] := rfl
    rw [e3] at hc
    generalize Lib.cut (r.data.toList.drop 4) [45, 45, 62] = X at hc hi
    obtain ⟨A, B, f⟩ := X
    have HI := Lib.hid hi
    clear hi h4 hpt hk e3
    go_enter Tryz.func27, Tryz.ntmps27
    go_wp2_with (first
      | (refine (hp _).mono ?_; rintro e w2 ⟨rfl, rfl⟩)
      | (refine (hc _ hm).mono ?_; rintro e w3 ⟨rfl, n, rfl⟩; have hP3 := h.step (((Reads.start h.par).later (below_drewN (Below.refl _ _) n)).setRest ⟨B.toArray⟩))
      | (refine (add_text w _ bp _ v l 4 _ hP3 hl).mono ?_; rintro e w6 ⟨rfl, v6, hP6⟩))
    go_end0
    exact ⟨rfl, ate_mark HI.out hP6⟩
  · rw [show (r.data.toList.take 4 == [60, 33, 45, 45]) = false from beq_eq_false_iff_ne.2 h4] at hp
    have ho : ((r.extract 0 2).toList == [60, 63]) = true := by rw [Lib.toList_data, list_take]; exact beq_iff_eq.2 h5
    have hi1 : (1 : Int) ≤ (r.size : Int) := by omega
    unfold U.markI at hi
    rw [remark_cut _ _ (by decide)] at hi
    have hc := fun w2 hm => Tryz.strings_Cut (r.extract 1 r.size) ⟨#[62]⟩ m w2 (by rw [size_drop]; omega) hm
    rw [list_drop] at hc
    have e3 : (ByteArray.mk #[62]).data.toList = [62] := rfl
    rw [e3] at hc
    generalize Lib.cut (r.data.toList.drop 1) [62] = X at hc hi
    obtain ⟨A, B, f⟩ := X
    have HI := Lib.hid hi
    have hz2 := size_take r 2 h2
    clear hi h4 h5 hpt hk e3
    go_enter Tryz.func27, Tryz.ntmps27
    go_wp2_with (first
      | (refine (hp _).mono ?_; rintro e w2 ⟨rfl, rfl⟩)
      | (refine (hc _ hm).mono ?_; rintro e w3 ⟨rfl, n, rfl⟩; have hP3 := h.step (((Reads.start h.par).later (below_drewN (Below.refl _ _) n)).setRest ⟨B.toArray⟩))
      | (refine (add_text w _ bp _ v l 4 _ hP3 hl).mono ?_; rintro e w6 ⟨rfl, v6, hP6⟩))
    go_end0
    exact ⟨rfl, ate_mark HI.out hP6⟩
  · rw [show (r.data.toList.take 4 == [60, 33, 45, 45]) = false from beq_eq_false_iff_ne.2 h4] at hp
    have ho : ((r.extract 0 2).toList == [60, 63]) = false := by rw [Lib.toList_data, list_take]; exact beq_eq_false_iff_ne.2 h5
    have hi1 : (2 : Int) ≤ (r.size : Int) := by omega
    unfold U.markI at hi
    rw [remark_cut _ _ (by decide)] at hi
    have hc := fun w2 hm => Tryz.strings_Cut (r.extract 2 r.size) ⟨#[62]⟩ m w2 (by rw [size_drop]; omega) hm
    rw [list_drop] at hc
    have e3 : (ByteArray.mk #[62]).data.toList = [62] := rfl
    rw [e3] at hc
    generalize Lib.cut (r.data.toList.drop 2) [62] = X at hc hi
    obtain ⟨A, B, f⟩ := X
    have HI := Lib.hid hi
    have hz2 := size_take r 2 h2
    clear hi h4 h5 hpt hk e3
    go_enter Tryz.func27, Tryz.ntmps27
    go_wp2_with (first
      | (refine (hp _).mono ?_; rintro e w2 ⟨rfl, rfl⟩)
      | (refine (hc _ hm).mono ?_; rintro e w3 ⟨rfl, n, rfl⟩; have hP3 := h.step (((Reads.start h.par).later (below_drewN (Below.refl _ _) n)).setRest ⟨B.toArray⟩))
      | (refine (add_text w _ bp _ v l 4 _ hP3 hl).mono ?_; rintro e w6 ⟨rfl, v6, hP6⟩))
    go_end0
    exact ⟨rfl, ate_mark HI.out hP6⟩

end Go.Proofs.YtankcnikebcpkaaGreatDoor

namespace Go.Proofs.YtankcnikebcpkaaGreatDoor
open Go.RowKit

/-- tokens in a row of the call's own, with their attributes -/
def Toks (w w' : World) (v : Value) (l : List (U.Tok × Value)) : Prop :=
  w'.ownsRow w.heap.size 33 5 v l.length (tokCells l) ∧ (∀ x ∈ l, w'.ownsRow w.heap.size 52 2 x.2 x.1.attrs.length (attCells x.1.attrs)) ∧ Below w.heap.size w w' ∧ ∀ x ∈ l, x.1.attrs.length ≤ 1048576

set_option maxHeartbeats 4000000 in
set_option maxRecDepth 1000000 in
theorem parse_walk (s : ByteArray) (w : World) (hG : Glob w) :
    Calls Tryz.prog 10 #[.string s] w fun e w' => ∃ v l, Toks w w' v l ∧
      (s.size ≤ 600 → e = .returned (.tuple #[v, .int .i64 0]) ∧ l.map (·.1) = U.toks s.data.toList) ∧ (600 < s.size → ∃ c, e = .returned (.tuple #[.slice none 0 0, .int .i64 c]) ∧ l = []) := by
  obtain ⟨m, hm⟩ := hG.max
  obtain ⟨te, pe, he⟩ := hG.err
  have hF : Far w.heap.size := ⟨Nat.ne_of_lt (World.block_lt_of_cell? w _ hm), Nat.ne_of_lt (World.block_lt_of_cell? w _ he)⟩
  clear hm he
  go_enter Tryz.func10, Tryz.ntmps10
  by_cases hz : s.size ≤ 600
  · have hP0 : ParW w (w.alloc (parBlock s (.slice none 0 0))) w.heap.size s (.slice none 0 0) [] := ⟨heap_alloc_new w _, World.ownsRow_nil _ _ _ _, (fun x hx => by cases hx), (Below.refl _ w).alloc (Nat.le_refl _) _, Nat.le_refl _, (fun x hx => by cases hx)⟩
    go_wp2_with fail
    go_loopw [15] (fun _ wr => ∃ (r : ByteArray) (v : Value) (l : List (U.Tok × Value)), ParW w wr w.heap.size r v l ∧ Hid (l.map (·.1) ++ U.toksT [] r.data.toList = U.toks s.data.toList) ∧ l.length + 2 * r.size ≤ 2 * s.size) (fun _ wr => strSize ((wr.cell? ⟨w.heap.size, 0, none⟩).getD undef))
    case atStart => exact ⟨s, _, [], hP0, Lib.hid rfl, by simp⟩
    case round =>
      obtain ⟨r, v, l, hP, htoks, hlen⟩ := hrel
      have hGr := hG.below hP.below
      obtain ⟨c0, c1, f0, f1⟩ := par_cells hP.par
      rcases Nat.eq_zero_or_pos r.size with h0 | h0
      · have hem := empty_of h0
        have hfin : l.map (·.1) = U.toks s.data.toList := by
          have := htoks.out
          rw [show r.data.toList = [] from List.eq_nil_of_length_eq_zero (by rw [len_list]; exact h0)] at this
          rw [← this]
          simp [U.toksT_nil, U.chars]
        have HFI := Lib.hid hfin
        obtain ⟨ao, cap, rfl⟩ := own_form hP.row
        clear hfin htoks h0
        go_wp2_with fail
        go_ret2
        exact ⟨_, l, ⟨own_base hP.row (Nat.le_succ _), hP.atts, hP.below, hP.lens⟩, fun _ => ⟨rfl, HFI.out⟩, fun h => absurd h (by omega)⟩
      · have hem := empty_not h0
        have hka := fun w3 => kind_at r w3
        have hlb : l.length ≤ 1048575 := by omega
        rcases U.kindOf_cases r.data.toList with hk | hk | hk | hk
        all_goals
          have HK := Lib.hid hk
          rw [hk] at hka
          have HX := Lib.hid hka
          clear hka hk
          go_wp2_with (first
            | (go_at_call 24; refine (HX.out _).mono ?_; rintro e w3 ⟨rfl, rfl⟩)
            | (go_at_call 25; refine (read_start w _ _ r v l hP hG hGr hF (by omega) hlb HK.out).mono ?_; rintro e w4 ⟨rfl, hA⟩)
            | (go_at_call 26; refine (read_end w _ _ r v l hP hGr hF (by omega) (by omega) HK.out).mono ?_; rintro e w4 ⟨rfl, hA⟩)
            | (go_at_call 27; refine (read_comment w _ _ r v l hP hGr (by omega) (by omega) HK.out).mono ?_; rintro e w4 ⟨rfl, hA⟩)
            | (go_at_call 28; refine (read_chars w _ _ r v l hP hGr hF (by omega) h0 (by omega) HK.out).mono ?_; rintro e w4 ⟨rfl, hA⟩))
          obtain ⟨r', v', l', hP', ht, hs1, hl'⟩ := hA
          have c1 := (par_cells hP'.par).1
          refine ⟨⟨r', v', l', hP', Lib.hid (ht.trans htoks.out), by omega⟩, ?_⟩
          rw [c1, c0]
          exact hs1
  · go_wp2_with fail
    go_ret2
    exact ⟨.slice none 0 0, [], ⟨World.ownsRow_nil _ _ _ _, (fun x hx => by cases hx), Below.refl _ w, (fun x hx => by cases hx)⟩, fun h => absurd h hz, fun _ => ⟨_, rfl, rfl⟩⟩

set_option maxHeartbeats 4000000 in
set_option maxRecDepth 1000000 in
theorem parse_big (s : ByteArray) (w : World) (hz : 600 < s.size) : Calls Tryz.prog 10 #[.string s] w fun e w' => e = .returned (.tuple #[.slice none 0 0, .int .i64 1]) ∧ Below w.heap.size w w' := by
  go_enter Tryz.func10, Tryz.ntmps10
  go_wp2_with fail
  go_ret2
  exact ⟨rfl, Below.refl _ _⟩

end Go.Proofs.YtankcnikebcpkaaGreatDoor

namespace Go.Proofs.YtankcnikebcpkaaGreatDoor
open Go.RowKit

theorem toks_b : U.toks [60, 98, 62] = [⟨1, [98], [], false, []⟩] := by rfl
theorem Toks.rd {w w' : World} {v : Value} {l : List (U.Tok × Value)} (h : Toks w w' v l) : RdT w' w'.heap.size v (l.map (·.1)) := RdT.of_own h.1 h.2.1 h.2.2.2
/-- Parse of a text that is not too long -/
theorem parse_ok (s : ByteArray) (w : World) (hs : s.size ≤ 600) (hG : Glob w) :
    Calls Tryz.prog 10 #[.string s] w fun e w' => ∃ v, e = .returned (.tuple #[v, .int .i64 0]) ∧ RdT w' w'.heap.size v (U.toks s.data.toList) ∧ Below w.heap.size w w' := by
  refine (parse_walk s w hG).mono ?_
  rintro e w' ⟨v, l, hT, h1, _⟩
  obtain ⟨he, hl⟩ := h1 hs
  exact ⟨v, he, hl ▸ hT.rd, hT.2.2.1⟩

set_option maxHeartbeats 4000000 in
set_option maxRecDepth 1000000 in
theorem parsed_walk (s : ByteArray) (w : World) (hs : s.size ≤ 600) (hG : Glob w) :
    Calls Tryz.prog 13 #[.string s] w fun e w' => ∃ v, e = .returned (.tuple #[v, .bool true]) ∧ RdT w' w'.heap.size v (U.toks s.data.toList) ∧ Below w.heap.size w w' := by
  have hpb := fun w2 hG2 => parse_ok ⟨#[60, 98, 62]⟩ w2 (by decide) hG2
  rw [show (ByteArray.mk #[60, 98, 62]).data.toList = [60, 98, 62] from rfl, toks_b] at hpb
  have HPB := Lib.hid hpb
  clear hpb
  go_enter Tryz.func13, Tryz.ntmps13
  go_wp2_with (first
    | (go_at_call_of 10 (Value.string s); refine (parse_ok s w hs hG).mono ?_; rintro e w2 ⟨v, rfl, hR, hb⟩; obtain ⟨ao, cap, rfl, hcl⟩ := id hR; have HCL := Lib.hid hcl; clear hcl)
    | (go_at_call_of 10 (Value.string ⟨#[60, 98, 62]⟩); refine (HPB.out _ (hG.below hb)).mono ?_; rintro e w3 ⟨v2, rfl, hR2, hb2⟩; obtain ⟨ao2, cap2, rfl, hc2⟩ := hR2; obtain ⟨g, o, av, rfl, hlt, k0, k1, k2, k3, k4, _⟩ := hc2 0 _ rfl; clear hc2))
  go_region
  all_goals go_wp2_with fail
  all_goals go_ret2
  all_goals exact ⟨_, rfl, ((hR.below hb2).more hb2.size).keep (fun p _ => rfl), below_drewN (hb.trans (hb2.mono hb.size)) 1⟩

end Go.Proofs.YtankcnikebcpkaaGreatDoor

/- Several texts in one: Comment, Parsed, RdT, SameTok. -/
import Derived.Outline
import Derived.RegionTactic
import Derived.ChangeAlike
import Derived.Test.YtcdgiohogddbkaaGreatDoorP32
import Derived.Test.YtcdgiohogddbkaaGreatDoorEnds
import Derived.Test.YtcdgiohogddbkaaGreatDoorAtts
namespace Go.Proofs.YtcdgiohogddbkaaGreatDoor
open Go.RowKit

theorem remark_cut (find l : List UInt8) (hf : find ≠ []) : U.remark find l = (⟨4, [], [], false, (Lib.cut l find).1⟩, (Lib.cut l find).2.1) := by
  rw [U.cut_place find l hf]
  unfold U.remark
  cases U.placeOf find l <;> rfl
theorem ate_mark {w w' : World} {bp : Nat} {r : ByteArray} {A B : List UInt8} {v6 : Value} {l : List (U.Tok × Value)} (hi : U.item r.data.toList = .mark ⟨4, [], [], false, A⟩ B)
    (h : ParW w w' bp ⟨B.toArray⟩ v6 (l ++ [(⟨4, [], [], false, A⟩, .slice none 0 0)])) : Ate w w' bp r l := by
  have hs := U.item_shorter.1 _ _ hi
  rw [len_list] at hs
  refine ⟨_, _, _, h, ?_, by rw [size_of_mk]; exact hs, by rw [size_of_mk, List.length_append, List.length_singleton]; omega⟩
  rw [U.toksT_mark hi, list_of_mk]
  simp

set_option maxHeartbeats 4000000 in
set_option maxRecDepth 1000000 in
theorem read_comment (w wr : World) (bp : Nat) (r : ByteArray) (v : Value) (l : List (U.Tok × Value)) (h : ParW w wr bp r v l) (hG : Glob wr) (hr : r.size ≤ 1048576) (hl : l.length ≤ 1048576) (hk : U.kindOf r.data.toList = 4) :
    Calls Tryz.prog 10 #[.pointer (some ⟨bp, 0, none⟩)] wr fun e w' => e = .returned (.tuple #[]) ∧ Ate w w' bp r l := by
  obtain ⟨c0, c1, f0, f1⟩ := par_cells h.par
  obtain ⟨m, hm⟩ := hG.max
  have h2 : 2 ≤ r.size := by
    rw [← len_list]
    match hl : r.data.toList, hk with
    | a :: c :: u, _ => simp
  have hp := fun w2 => Tryz.strings_HasPrefix r ⟨#[60, 33, 45, 45]⟩ w2
  have hpt : Lib.hasPrefix r.data.toList (ByteArray.mk #[60, 33, 45, 45]).data.toList = (r.data.toList.take 4 == [60, 33, 45, 45]) := U.prefix_take [60, 33, 45, 45] r.data.toList
  rw [hpt] at hp
  have hi0 : (2 : Int) ≤ (r.size : Int) := by omega
  rcases U.item_mark hk with ⟨h4, hi⟩ | ⟨h4, h5, hi⟩ | ⟨h4, h5, hi⟩
  · rw [show (r.data.toList.take 4 == [60, 33, 45, 45]) = true from beq_iff_eq.2 h4] at hp
    have h4s : 4 ≤ r.size := by
      have := congrArg List.length h4
      rw [List.length_take, len_list] at this
      simp only [List.length_cons, List.length_nil] at this
      omega
    have hi1 : (4 : Int) ≤ (r.size : Int) := by omega
    unfold U.markI at hi
    rw [remark_cut _ _ (by decide)] at hi
    have hc := fun w2 hm => Tryz.strings_Cut (r.extract 4 r.size) ⟨#[45, 45, 62]⟩ m w2 (by rw [size_drop]; omega) hm
    rw [list_drop] at hc
    have e3 : (ByteArray.mk #[45, 45, 62]).data.toList = [45, 45, 62] := rfl
    rw [e3] at hc
    generalize Lib.cut (r.data.toList.drop 4) [45, 45, 62] = X at hc hi
    obtain ⟨A, B, f⟩ := X
    have HI := Lib.hid hi
    clear hi h4 hpt hk e3
    go_enter Tryz.func10, Tryz.ntmps10
    go_wp2_with (first
      | (refine (hp _).mono ?_; rintro e w2 ⟨rfl, rfl⟩)
      | (refine (hc _ hm).mono ?_; rintro e w3 ⟨rfl, n, rfl⟩; have hP3 := h.step (((Reads.start h.par).later (below_drewN (Below.refl _ _) n)).setRest ⟨B.toArray⟩))
      | (refine (add_text w _ bp _ v l 4 _ hP3 hl).mono ?_; rintro e w6 ⟨rfl, v6, hP6⟩))
    go_end0
    exact ⟨rfl, ate_mark HI.out hP6⟩
  · rw [show (r.data.toList.take 4 == [60, 33, 45, 45]) = false from beq_eq_false_iff_ne.2 h4] at hp
    have ho : ((r.extract 0 2).toList == [60, 63]) = true := by rw [Lib.toList_data, list_take]; exact beq_iff_eq.2 h5
    have hi1 : (1 : Int) ≤ (r.size : Int) := by omega
    unfold U.markI at hi
    rw [remark_cut _ _ (by decide)] at hi
    have hc := fun w2 hm => Tryz.strings_Cut (r.extract 1 r.size) ⟨#[62]⟩ m w2 (by rw [size_drop]; omega) hm
    rw [list_drop] at hc
    have e3 : (ByteArray.mk #[62]).data.toList = [62] := rfl
    rw [e3] at hc
    generalize Lib.cut (r.data.toList.drop 1) [62] = X at hc hi
    obtain ⟨A, B, f⟩ := X
    have HI := Lib.hid hi
    have hz2 := size_take r 2 h2
    clear hi h4 h5 hpt hk e3
    go_enter Tryz.func10, Tryz.ntmps10
    go_wp2_with (first
      | (refine (hp _).mono ?_; rintro e w2 ⟨rfl, rfl⟩)
      | (refine (hc _ hm).mono ?_; rintro e w3 ⟨rfl, n, rfl⟩; have hP3 := h.step (((Reads.start h.par).later (below_drewN (Below.refl _ _) n)).setRest ⟨B.toArray⟩))
      | (refine (add_text w _ bp _ v l 4 _ hP3 hl).mono ?_; rintro e w6 ⟨rfl, v6, hP6⟩))
    go_end0
    exact ⟨rfl, ate_mark HI.out hP6⟩
  · rw [show (r.data.toList.take 4 == [60, 33, 45, 45]) = false from beq_eq_false_iff_ne.2 h4] at hp
    have ho : ((r.extract 0 2).toList == [60, 63]) = false := by rw [Lib.toList_data, list_take]; exact beq_eq_false_iff_ne.2 h5
    have hi1 : (2 : Int) ≤ (r.size : Int) := by omega
    unfold U.markI at hi
    rw [remark_cut _ _ (by decide)] at hi
    have hc := fun w2 hm => Tryz.strings_Cut (r.extract 2 r.size) ⟨#[62]⟩ m w2 (by rw [size_drop]; omega) hm
    rw [list_drop] at hc
    have e3 : (ByteArray.mk #[62]).data.toList = [62] := rfl
    rw [e3] at hc
    generalize Lib.cut (r.data.toList.drop 2) [62] = X at hc hi
    obtain ⟨A, B, f⟩ := X
    have HI := Lib.hid hi
    have hz2 := size_take r 2 h2
    clear hi h4 h5 hpt hk e3
    go_enter Tryz.func10, Tryz.ntmps10
    go_wp2_with (first
      | (refine (hp _).mono ?_; rintro e w2 ⟨rfl, rfl⟩)
      | (refine (hc _ hm).mono ?_; rintro e w3 ⟨rfl, n, rfl⟩; have hP3 := h.step (((Reads.start h.par).later (below_drewN (Below.refl _ _) n)).setRest ⟨B.toArray⟩))
      | (refine (add_text w _ bp _ v l 4 _ hP3 hl).mono ?_; rintro e w6 ⟨rfl, v6, hP6⟩))
    go_end0
    exact ⟨rfl, ate_mark HI.out hP6⟩

end Go.Proofs.YtcdgiohogddbkaaGreatDoor

namespace Go.Proofs.YtcdgiohogddbkaaGreatDoor
open Go.RowKit

/-- tokens in a row of the call's own, with their attributes -/
def Toks (w w' : World) (v : Value) (l : List (U.Tok × Value)) : Prop :=
  w'.ownsRow w.heap.size 34 5 v l.length (tokCells l) ∧ (∀ x ∈ l, w'.ownsRow w.heap.size 52 2 x.2 x.1.attrs.length (attCells x.1.attrs)) ∧ Below w.heap.size w w' ∧ ∀ x ∈ l, x.1.attrs.length ≤ 1048576

set_option maxHeartbeats 4000000 in
set_option maxRecDepth 1000000 in
theorem parse_walk (s : ByteArray) (w : World) (hG : Glob w) :
    Calls Tryz.prog 4 #[.string s] w fun e w' => ∃ v l, Toks w w' v l ∧
      (s.size ≤ 600 → e = .returned (.tuple #[v, .int .i64 0]) ∧ l.map (·.1) = U.toks s.data.toList) ∧ (600 < s.size → ∃ c, e = .returned (.tuple #[.slice none 0 0, .int .i64 c]) ∧ l = []) := by
  obtain ⟨m, hm⟩ := hG.max
  obtain ⟨te, pe, he⟩ := hG.err
  have hF : Far w.heap.size := ⟨Nat.ne_of_lt (World.block_lt_of_cell? w _ hm), Nat.ne_of_lt (World.block_lt_of_cell? w _ he)⟩
  clear hm he
  go_enter Tryz.func4, Tryz.ntmps4
  by_cases hz : s.size ≤ 600
  · have hP0 : ParW w (w.alloc (parBlock s (.slice none 0 0))) w.heap.size s (.slice none 0 0) [] := ⟨heap_alloc_new w _, World.ownsRow_nil _ _ _ _, (fun x hx => by cases hx), (Below.refl _ w).alloc (Nat.le_refl _) _, Nat.le_refl _, (fun x hx => by cases hx)⟩
    go_wp2_with fail
    go_loopw [15] (fun _ wr => ∃ (r : ByteArray) (v : Value) (l : List (U.Tok × Value)), ParW w wr w.heap.size r v l ∧ Hid (l.map (·.1) ++ U.toksT [] r.data.toList = U.toks s.data.toList) ∧ l.length + 2 * r.size ≤ 2 * s.size) (fun _ wr => strSize ((wr.cell? ⟨w.heap.size, 0, none⟩).getD undef))
    case atStart => exact ⟨s, _, [], hP0, Lib.hid rfl, by simp⟩
    case round =>
      obtain ⟨r, v, l, hP, htoks, hlen⟩ := hrel
      have hGr := hG.below hP.below
      obtain ⟨c0, c1, f0, f1⟩ := par_cells hP.par
      rcases Nat.eq_zero_or_pos r.size with h0 | h0
      · have hem := empty_of h0
        have hfin : l.map (·.1) = U.toks s.data.toList := by
          have := htoks.out
          rw [show r.data.toList = [] from List.eq_nil_of_length_eq_zero (by rw [len_list]; exact h0)] at this
          rw [← this]
          simp [U.toksT_nil, U.chars]
        have HFI := Lib.hid hfin
        obtain ⟨ao, cap, rfl⟩ := own_form hP.row
        clear hfin htoks h0
        go_wp2_with fail
        go_ret2
        exact ⟨_, l, ⟨own_base hP.row (Nat.le_succ _), hP.atts, hP.below, hP.lens⟩, fun _ => ⟨rfl, HFI.out⟩, fun h => absurd h (by omega)⟩
      · have hem := empty_not h0
        have hka := fun w3 => kind_at r w3
        have hlb : l.length ≤ 1048575 := by omega
        rcases U.kindOf_cases r.data.toList with hk | hk | hk | hk
        all_goals
          have HK := Lib.hid hk
          rw [hk] at hka
          have HX := Lib.hid hka
          clear hka hk
          go_wp2_with (first
            | (go_at_call 7; refine (HX.out _).mono ?_; rintro e w3 ⟨rfl, rfl⟩)
            | (go_at_call 8; refine (read_start w _ _ r v l hP hG hGr hF (by omega) hlb HK.out).mono ?_; rintro e w4 ⟨rfl, hA⟩)
            | (go_at_call 9; refine (read_end w _ _ r v l hP hGr hF (by omega) (by omega) HK.out).mono ?_; rintro e w4 ⟨rfl, hA⟩)
            | (go_at_call 10; refine (read_comment w _ _ r v l hP hGr (by omega) (by omega) HK.out).mono ?_; rintro e w4 ⟨rfl, hA⟩)
            | (go_at_call 11; refine (read_chars w _ _ r v l hP hGr hF (by omega) h0 (by omega) HK.out).mono ?_; rintro e w4 ⟨rfl, hA⟩))
          obtain ⟨r', v', l', hP', ht, hs1, hl'⟩ := hA
          have c1 := (par_cells hP'.par).1
          refine ⟨⟨r', v', l', hP', Lib.hid (ht.trans htoks.out), by omega⟩, ?_⟩
          rw [c1, c0]
          exact hs1
  · go_wp2_with fail
    go_ret2
    exact ⟨.slice none 0 0, [], ⟨World.ownsRow_nil _ _ _ _, (fun x hx => by cases hx), Below.refl _ w, (fun x hx => by cases hx)⟩, fun h => absurd h hz, fun _ => ⟨_, rfl, rfl⟩⟩

set_option maxHeartbeats 4000000 in
set_option maxRecDepth 1000000 in
theorem parse_big (s : ByteArray) (w : World) (hz : 600 < s.size) : Calls Tryz.prog 4 #[.string s] w fun e w' => e = .returned (.tuple #[.slice none 0 0, .int .i64 1]) ∧ Below w.heap.size w w' := by
  go_enter Tryz.func4, Tryz.ntmps4
  go_wp2_with fail
  go_ret2
  exact ⟨rfl, Below.refl _ _⟩

end Go.Proofs.YtcdgiohogddbkaaGreatDoor

namespace Go.Proofs.YtcdgiohogddbkaaGreatDoor
open Go.RowKit

/-- a slice that reads as these attributes, below block B -/
def RdA (w : World) (B : Nat) (v : Value) (al : List U.Att) : Prop := ∃ ao cap, v = .slice ao al.length cap ∧
  ∀ (i : Nat) (x : U.Att), al[i]? = some x → ∃ g o, ao = some ⟨g, o, none⟩ ∧ g < B ∧ w.cell? ⟨g, o + i * 2, none⟩ = some (.string ⟨x.1.toArray⟩) ∧ w.cell? ⟨g, o + i * 2 + 1, none⟩ = some (.string ⟨x.2.toArray⟩)
theorem RdA.keep {w w' : World} {B : Nat} {v : Value} {al : List U.Att} (h : RdA w B v al) (hk : ∀ p : Addr, p.block < B → w'.cell? p = w.cell? p) : RdA w' B v al := by
  obtain ⟨ao, cap, rfl, hc⟩ := h
  refine ⟨ao, cap, rfl, fun i x hx => ?_⟩
  obtain ⟨g, o, e, hb, c1, c2⟩ := hc i x hx
  exact ⟨g, o, e, hb, (hk _ hb).trans c1, (hk _ hb).trans c2⟩
theorem RdA.of_own {w : World} {B n : Nat} {v : Value} {al : List U.Att} (h : w.ownsRow B 52 2 v n (attCells al)) (hn : n = al.length) : RdA w w.heap.size v al := by
  subst hn
  obtain ⟨ao, cap, rfl⟩ := own_form h
  refine ⟨ao, cap, rfl, fun i x hx => ?_⟩
  obtain ⟨g, c, e, c1, c2⟩ := row_att h hx
  injection e with e1 e2 e3
  subst e1
  have hlt : g < w.heap.size := (h.lt g rfl).2
  exact ⟨g, 0, rfl, hlt, by rw [Nat.zero_add]; exact c1, by rw [Nat.zero_add]; exact c2⟩

/-- a slice that reads as these tokens, below block B -/
def RdT (w : World) (B : Nat) (v : Value) (ts : List U.Tok) : Prop := ∃ ao cap, v = .slice ao ts.length cap ∧
  ∀ (i : Nat) (t : U.Tok), ts[i]? = some t → ∃ g o av, ao = some ⟨g, o, none⟩ ∧ g < B ∧ w.cell? ⟨g, o + i * 5, none⟩ = some (.int .i64 t.kind) ∧ w.cell? ⟨g, o + i * 5 + 1, none⟩ = some (.string ⟨t.name.toArray⟩) ∧
    w.cell? ⟨g, o + i * 5 + 2, none⟩ = some av ∧ w.cell? ⟨g, o + i * 5 + 3, none⟩ = some (.bool t.self) ∧ w.cell? ⟨g, o + i * 5 + 4, none⟩ = some (.string ⟨t.text.toArray⟩) ∧ RdA w B av t.attrs ∧ t.attrs.length ≤ 1048576
theorem RdT.keep {w w' : World} {B : Nat} {v : Value} {ts : List U.Tok} (h : RdT w B v ts) (hk : ∀ p : Addr, p.block < B → w'.cell? p = w.cell? p) : RdT w' B v ts := by
  obtain ⟨ao, cap, rfl, hc⟩ := h
  refine ⟨ao, cap, rfl, fun i t ht => ?_⟩
  obtain ⟨g, o, av, e, hb, c0, c1, c2, c3, c4, hA, hl⟩ := hc i t ht
  exact ⟨g, o, av, e, hb, (hk _ hb).trans c0, (hk _ hb).trans c1, (hk _ hb).trans c2, (hk _ hb).trans c3, (hk _ hb).trans c4, hA.keep hk, hl⟩
theorem RdT.below {w w' : World} {B : Nat} {v : Value} {ts : List U.Tok} (h : RdT w B v ts) (hb : Below B w w') : RdT w' B v ts := h.keep fun _ hp => hb.cell hp
theorem RdA.more {w : World} {B B' : Nat} {v : Value} {al : List U.Att} (h : RdA w B v al) (hB : B ≤ B') : RdA w B' v al := by
  obtain ⟨ao, cap, rfl, hc⟩ := h
  refine ⟨ao, cap, rfl, fun i x hx => ?_⟩
  obtain ⟨g, o, e, hb, c1, c2⟩ := hc i x hx
  exact ⟨g, o, e, by omega, c1, c2⟩
theorem RdT.more {w : World} {B B' : Nat} {v : Value} {ts : List U.Tok} (h : RdT w B v ts) (hB : B ≤ B') : RdT w B' v ts := by
  obtain ⟨ao, cap, rfl, hc⟩ := h
  refine ⟨ao, cap, rfl, fun i t ht => ?_⟩
  obtain ⟨g, o, av, e, hb, c0, c1, c2, c3, c4, hA, hl⟩ := hc i t ht
  exact ⟨g, o, av, e, by omega, c0, c1, c2, c3, c4, hA.more hB, hl⟩

/-- the cells of a token in a row -/
theorem row_tok {w : World} {B n : Nat} {v : Value} {l : List (U.Tok × Value)} (h : w.ownsRow B 34 5 v n (tokCells l)) {i : Nat} {x : U.Tok × Value} (hx : l[i]? = some x) :
    ∃ g cap, v = .slice (some ⟨g, 0, none⟩) n cap ∧ w.cell? ⟨g, i * 5, none⟩ = some (.int .i64 (x.1.kind : Nat)) ∧ w.cell? ⟨g, i * 5 + 1, none⟩ = some (.string ⟨x.1.name.toArray⟩) ∧ w.cell? ⟨g, i * 5 + 2, none⟩ = some x.2 ∧ w.cell? ⟨g, i * 5 + 3, none⟩ = some (.bool x.1.self) ∧ w.cell? ⟨g, i * 5 + 4, none⟩ = some (.string ⟨x.1.text.toArray⟩) := by
  have hg : ∀ (l : List (U.Tok × Value)) (i : Nat), l[i]? = some x → (tokCells l)[i * 5]? = some (.int .i64 (x.1.kind : Nat)) ∧ (tokCells l)[i * 5 + 1]? = some (.string ⟨x.1.name.toArray⟩) ∧ (tokCells l)[i * 5 + 2]? = some x.2 ∧ (tokCells l)[i * 5 + 3]? = some (.bool x.1.self) ∧ (tokCells l)[i * 5 + 4]? = some (.string ⟨x.1.text.toArray⟩) := by
    intro l
    induction l with
    | nil => intro i hi; simp at hi
    | cons a l ih =>
      intro i hi
      have e : tokCells (a :: l) = .int .i64 (a.1.kind : Nat) :: .string ⟨a.1.name.toArray⟩ :: a.2 :: .bool a.1.self :: .string ⟨a.1.text.toArray⟩ :: tokCells l := rfl
      cases i with
      | zero => simp at hi; subst hi; rw [e]; exact ⟨rfl, rfl, rfl, rfl, rfl⟩
      | succ i =>
        have := ih i (by simpa using hi)
        rw [e, show (i + 1) * 5 = i * 5 + 1 + 1 + 1 + 1 + 1 by omega]
        simpa using this
  obtain ⟨h0, h1, h2, h3, h4⟩ := hg l i hx
  rcases h.2 with ⟨rfl, hn⟩ | ⟨g, cap, cur, rfl, _⟩
  · have h9 := h.1
    rw [hn] at h9
    have : tokCells l = [] := List.length_eq_zero_iff.1 (by omega)
    rw [this] at h0
    simp at h0
  · have ea : ∀ j, (⟨g, 0, none⟩ : Addr).add j = ⟨g, j, none⟩ := fun j => by cases j <;> simp [Addr.add]
    have c0 := h.cells (g := g) rfl _ _ h0
    have c1 := h.cells (g := g) rfl _ _ h1
    have c2 := h.cells (g := g) rfl _ _ h2
    have c3 := h.cells (g := g) rfl _ _ h3
    have c4 := h.cells (g := g) rfl _ _ h4
    rw [ea] at c0 c1 c2 c3 c4
    exact ⟨g, cap, rfl, c0, c1, c2, c3, c4⟩
theorem RdT.of_own {w : World} {B B2 : Nat} {v : Value} {l : List (U.Tok × Value)} (h : w.ownsRow B 34 5 v l.length (tokCells l)) (ha : ∀ x ∈ l, w.ownsRow B2 52 2 x.2 x.1.attrs.length (attCells x.1.attrs)) (hs : ∀ x ∈ l, x.1.attrs.length ≤ 1048576) : RdT w w.heap.size v (l.map (·.1)) := by
  obtain ⟨ao, cap, rfl⟩ := own_form h
  refine ⟨ao, cap, by rw [List.length_map], fun i t ht => ?_⟩
  obtain ⟨x, hx, rfl⟩ : ∃ x, l[i]? = some x ∧ x.1 = t := by
    rw [List.getElem?_map] at ht
    cases hx : l[i]? with
    | none => rw [hx] at ht; cases ht
    | some x => rw [hx] at ht; exact ⟨x, rfl, by simpa using ht⟩
  obtain ⟨g, cap2, e, c0, c1, c2, c3, c4⟩ := row_tok h hx
  injection e with e1 _ _
  subst e1
  have hm := List.mem_of_getElem? hx
  have hlt : g < w.heap.size := (h.lt g rfl).2
  refine ⟨g, 0, x.2, rfl, hlt, ?_, ?_, ?_, ?_, ?_, RdA.of_own (ha x hm) rfl, hs x hm⟩ <;> rw [Nat.zero_add] <;> assumption

end Go.Proofs.YtcdgiohogddbkaaGreatDoor

namespace Go.Proofs.YtcdgiohogddbkaaGreatDoor
open Go.RowKit

theorem att_succ {xs ys : List U.Att} {k : Nat} {x : U.Att} (h : xs.take k = ys.take k) (hx : xs[k]? = some x) (hy : ys[k]? = some x) : xs.take (k + 1) = ys.take (k + 1) := by
  obtain ⟨h1, e1⟩ := List.getElem?_eq_some_iff.1 hx
  obtain ⟨h2, e2⟩ := List.getElem?_eq_some_iff.1 hy
  rw [List.take_succ_eq_append_getElem h1, List.take_succ_eq_append_getElem h2, h, e1, e2]

set_option maxHeartbeats 1000000 in
set_option maxRecDepth 100000 in
theorem same_attrs (u v : Value) (xs ys : List U.Att) (w : World) (hx : RdA w w.heap.size u xs) (hy : RdA w w.heap.size v ys) (lx : xs.length ≤ 1048576) :
    Calls Tryz.prog 13 #[u, v] w fun e w' => e = .returned (.bool (decide (xs = ys))) ∧ ∃ n, w' = w.drewN n := by
  obtain ⟨ao, ca, rfl, hcx⟩ := hx
  obtain ⟨bo, cb, rfl, hcy⟩ := hy
  by_cases hl : xs.length = ys.length
  · have hne : ((xs.length : Int) != (ys.length : Int)) = false := by rw [hl]; simp
    have HCX := Lib.hid hcx
    have HCY := Lib.hid hcy
    clear hcx hcy
    go_enter Tryz.func13, Tryz.ntmps13
    go_wp2_with fail
    go_loopw [13] (fun i wr => ∃ k : Nat, k ≤ xs.length ∧ i = .int .i64 k ∧ Hid (xs.take k = ys.take k) ∧ ∃ n, wr = w.drewN n) (fun i _ => xs.length - (intOf i).toNat)
    case atStart => exact ⟨0, Nat.zero_le _, rfl, rfl, 0, rfl⟩
    case round =>
      obtain ⟨k, hk, rfl, ht, nd, rfl⟩ := hrel
      by_cases hlt : k < xs.length
      · have hlt2 : k < ys.length := by omega
        obtain ⟨ga, oa, rfl, hb, c1, c2⟩ := HCX.out k xs[k] (List.getElem?_eq_getElem hlt)
        obtain ⟨gb, ob, rfl, hb', c3, c4⟩ := HCY.out k ys[k] (List.getElem?_eq_getElem hlt2)
        have hx1 := Lib.hid (List.getElem?_eq_getElem hlt)
        have hy1 := Lib.hid (List.getElem?_eq_getElem hlt2)
        generalize xs[k] = x at *
        generalize ys[k] = y at *
        have hk0 : (0 : Int) ≤ (k : Int) := Int.natCast_nonneg _
        have hk1 : (k : Int) < (xs.length : Int) := by omega
        have hk2 : (k : Int) < (ys.length : Int) := by omega
        by_cases e1 : x.1 = y.1
        · by_cases e2 : x.2 = y.2
          · have hxy : x = y := Prod.ext e1 e2
            subst hxy
            have HT := Lib.hid (att_succ ht.out hx1.out hy1.out)
            clear e1 e2 hx1 hy1
            go_wp2_with fail
            go_region
            all_goals go_wp2_with fail
            all_goals go_roundw
            case rel => exact ⟨k + 1, by omega, by go_num, HT.out, nd + 1, rfl⟩
            case measure => simp [intOf]; omega
          · have HD := Lib.hid (decide_eq_false (p := xs = ys) (fun e => e2 (by have h1 := hx1.out; rw [e, hy1.out] at h1; injection h1 with h1; rw [h1])))
            go_wp2_with fail
            go_region
            all_goals go_wp2_with fail
            all_goals go_ret
            all_goals exact ⟨(congrArg (fun b => Ending.returned (Value.bool b)) HD.out).symm, nd + 1, rfl⟩
        · have HD := Lib.hid (decide_eq_false (p := xs = ys) (fun e => e1 (by have h1 := hx1.out; rw [e, hy1.out] at h1; injection h1 with h1; rw [h1])))
          go_wp2_with fail
          go_region
          all_goals go_wp2_with fail
          all_goals go_ret
          all_goals exact ⟨(congrArg (fun b => Ending.returned (Value.bool b)) HD.out).symm, nd + 1, rfl⟩
      · obtain rfl : k = xs.length := by omega
        have he : xs = ys := by
          have h1 := ht.out
          rwa [List.take_length, List.take_of_length_le (by omega)] at h1
        have HE := Lib.hid (decide_eq_true he)
        clear he
        go_wp2_with fail
        go_ret
        rw [HE.out]
        exact ⟨rfl, nd, rfl⟩
  · have hne : ((xs.length : Int) != (ys.length : Int)) = true := by rw [bne_iff_ne]; omega
    have hd := Lib.hid (decide_eq_false (fun e : xs = ys => hl (by rw [e])))
    clear hl
    go_enter Tryz.func13, Tryz.ntmps13
    go_wp2_with fail
    go_ret
    rw [hd.out]
    exact ⟨rfl, 0, rfl⟩

end Go.Proofs.YtcdgiohogddbkaaGreatDoor

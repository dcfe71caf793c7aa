/- tok's parser: readComment. -/
import Derived.Test.YtkmjngpgngkalaaDoorChars
import Derived.Outline
namespace Go.Proofs.YtkmjngpgngkalaaDoor
open Go.RowKit

theorem remark_cut (find l : List UInt8) (hf : find ≠ []) : U.remark find l = (⟨4, [], [], false, (Lib.cut l find).1⟩, (Lib.cut l find).2.1) := by
  rw [U.cut_place find l hf]
  unfold U.remark
  cases U.placeOf find l <;> rfl
theorem ate_mark {w w' : World} {bp : Nat} {r : ByteArray} {A B : List UInt8} {v6 : Value} {l : List (U.Tok × Value)} (hi : U.item r.data.toList = .mark ⟨4, [], [], false, A⟩ B)
    (h : ParW w w' bp ⟨B.toArray⟩ v6 (l ++ [(⟨4, [], [], false, A⟩, .slice none 0 0)])) : Ate w w' bp r l := by
  have hs := U.item_shorter.1 _ _ hi
  rw [len_list] at hs
  refine ⟨_, _, _, h, ?_, by rw [size_of_mk]; exact hs, by rw [size_of_mk, List.length_append, List.length_singleton]; omega⟩
  rw [U.toksT_mark hi, list_of_mk]
  simp

set_option maxHeartbeats 4000000 in
set_option maxRecDepth 1000000 in
theorem read_comment (w wr : World) (bp : Nat) (r : ByteArray) (v : Value) (l : List (U.Tok × Value)) (h : ParW w wr bp r v l) (hG : Glob wr) (hr : r.size ≤ 1048576) (hl : l.length ≤ 1048576) (hk : U.kindOf r.data.toList = 4) :
    Calls Tryd.prog 17 #[.pointer (some ⟨bp, 0, none⟩)] wr fun e w' => e = .returned (.tuple #[]) ∧ Ate w w' bp r l := by
  obtain ⟨c0, c1, f0, f1⟩ := par_cells h.par
  obtain ⟨m, hm⟩ := hG.max
  have h2 : 2 ≤ r.size := by
    rw [← len_list]
    match hl : r.data.toList, hk with
    | a :: c :: u, _ => simp
  have hp := fun w2 => Tryd.strings_HasPrefix r ⟨#[60, 33, 45, 45]⟩ w2
  have hpt : Lib.hasPrefix r.data.toList (ByteArray.mk #[60, 33, 45, 45]).data.toList = (r.data.toList.take 4 == [60, 33, 45, 45]) := U.prefix_take [60, 33, 45, 45] r.data.toList
  rw [hpt] at hp
  have hi0 : (2 : Int) ≤ (r.size : Int) := by omega
  rcases U.item_mark hk with ⟨h4, hi⟩ | ⟨h4, h5, hi⟩ | ⟨h4, h5, hi⟩
  · rw [show (r.data.toList.take 4 == [60, 33, 45, 45]) = true from beq_iff_eq.2 h4] at hp
    have h4s : 4 ≤ r.size := by
      have := congrArg List.length h4
      rw [List.length_take, len_list] at this
      simp only [List.length_cons, List.length_nil] at this
      omega
    have hi1 : (4 : Int) ≤ (r.size : Int) := by omega
    unfold U.markI at hi
    rw [remark_cut _ _ (by decide)] at hi
    have hc := fun w2 hm => Tryd.strings_Cut (r.extract 4 r.size) ⟨#[45, 45, 62]⟩ m w2 (by rw [size_drop]; omega) hm
    rw [list_drop] at hc
    have e3 : (ByteArray.mk #[45, 45, 62]).data.toList = [45, 45, 62] := rfl
    rw [e3] at hc
    generalize Lib.cut (r.data.toList.drop 4) [45, 45, 62] = X at hc hi
    obtain ⟨A, B, f⟩ := X
    have HI := Lib.hid hi
    clear hi h4 hpt hk e3
    go_enter Tryd.func17, Tryd.ntmps17
    go_wp2_with (first
      | (refine (hp _).mono ?_; rintro e w2 ⟨rfl, rfl⟩)
      | (refine (hc _ hm).mono ?_; rintro e w3 ⟨rfl, n, rfl⟩; have hP3 := h.step (((Reads.start h.par).later (below_drewN (Below.refl _ _) n)).setRest ⟨B.toArray⟩))
      | (refine (add_text w _ bp _ v l 4 _ hP3 hl).mono ?_; rintro e w6 ⟨rfl, v6, hP6⟩))
    go_end0
    exact ⟨rfl, ate_mark HI.out hP6⟩
  · rw [show (r.data.toList.take 4 == [60, 33, 45, 45]) = false from beq_eq_false_iff_ne.2 h4] at hp
    have ho : ((r.extract 0 2).toList == [60, 63]) = true := by rw [Lib.toList_data, list_take]; exact beq_iff_eq.2 h5
    have hi1 : (1 : Int) ≤ (r.size : Int) := by omega
    unfold U.markI at hi
    rw [remark_cut _ _ (by decide)] at hi
    have hc := fun w2 hm => Tryd.strings_Cut (r.extract 1 r.size) ⟨#[62]⟩ m w2 (by rw [size_drop]; omega) hm
    rw [list_drop] at hc
    have e3 : (ByteArray.mk #[62]).data.toList = [62] := rfl
    rw [e3] at hc
    generalize Lib.cut (r.data.toList.drop 1) [62] = X at hc hi
    obtain ⟨A, B, f⟩ := X
    have HI := Lib.hid hi
    have hz2 := size_take r 2 h2
    clear hi h4 h5 hpt hk e3
    go_enter Tryd.func17, Tryd.ntmps17
    go_wp2_with (first
      | (refine (hp _).mono ?_; rintro e w2 ⟨rfl, rfl⟩)
      | (refine (hc _ hm).mono ?_; rintro e w3 ⟨rfl, n, rfl⟩; have hP3 := h.step (((Reads.start h.par).later (below_drewN (Below.refl _ _) n)).setRest ⟨B.toArray⟩))
      | (refine (add_text w _ bp _ v l 4 _ hP3 hl).mono ?_; rintro e w6 ⟨rfl, v6, hP6⟩))
    go_end0
    exact ⟨rfl, ate_mark HI.out hP6⟩
  · rw [show (r.data.toList.take 4 == [60, 33, 45, 45]) = false from beq_eq_false_iff_ne.2 h4] at hp
    have ho : ((r.extract 0 2).toList == [60, 63]) = false := by rw [Lib.toList_data, list_take]; exact beq_eq_false_iff_ne.2 h5
    have hi1 : (2 : Int) ≤ (r.size : Int) := by omega
    unfold U.markI at hi
    rw [remark_cut _ _ (by decide)] at hi
    have hc := fun w2 hm => Tryd.strings_Cut (r.extract 2 r.size) ⟨#[62]⟩ m w2 (by rw [size_drop]; omega) hm
    rw [list_drop] at hc
    have e3 : (ByteArray.mk #[62]).data.toList = [62] := rfl
    rw [e3] at hc
    generalize Lib.cut (r.data.toList.drop 2) [62] = X at hc hi
    obtain ⟨A, B, f⟩ := X
    have HI := Lib.hid hi
    have hz2 := size_take r 2 h2
    clear hi h4 h5 hpt hk e3
    go_enter Tryd.func17, Tryd.ntmps17
    go_wp2_with (first
      | (refine (hp _).mono ?_; rintro e w2 ⟨rfl, rfl⟩)
      | (refine (hc _ hm).mono ?_; rintro e w3 ⟨rfl, n, rfl⟩; have hP3 := h.step (((Reads.start h.par).later (below_drewN (Below.refl _ _) n)).setRest ⟨B.toArray⟩))
      | (refine (add_text w _ bp _ v l 4 _ hP3 hl).mono ?_; rintro e w6 ⟨rfl, v6, hP6⟩))
    go_end0
    exact ⟨rfl, ate_mark HI.out hP6⟩

end Go.Proofs.YtkmjngpgngkalaaDoor

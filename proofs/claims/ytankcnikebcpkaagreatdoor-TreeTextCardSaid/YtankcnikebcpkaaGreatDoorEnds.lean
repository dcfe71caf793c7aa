/- tok's parser: readEnd, readStart. -/
import Derived.Deep.Cut
import Derived.Outline
import Derived.Test.YtankcnikebcpkaaGreatDoorRaw
namespace Go.Proofs.YtankcnikebcpkaaGreatDoor
open Go.RowKit

theorem read_tag_none {L : List UInt8} (w : World) (bp : Nat) (r : ByteArray) (v : Value) (h : w.heap[bp]? = some (parBlock r v)) (hr : r.size ≤ 1048576) (hG : Glob w) (hF : Far bp) (hl : r.data.toList = L) (hrun : U.runM U.st0 L = none) :
    Calls Tryz.prog 37 #[.pointer (some ⟨bp, 0, none⟩)] w fun e w' => e = .returned (.tuple #[.agg #[.int .i64 0, .string ⟨#[]⟩, .slice none 0 0, .bool false, .string ⟨#[]⟩], .bool false]) ∧ ∃ r' : ByteArray, Reads w w' bp r' v ∧ r'.size = 0 := by
  refine (read_tag w bp r v h hr hG hF).mono ?_
  intro e w' hT
  unfold Tagged at hT
  rw [hl, hrun] at hT
  obtain ⟨r', he, hR, hz⟩ := hT
  exact ⟨he, r', hR, hz⟩
theorem read_tag_some {L t : List UInt8} {s : U.St} (w : World) (bp : Nat) (r : ByteArray) (v : Value) (h : w.heap[bp]? = some (parBlock r v)) (hr : r.size ≤ 1048576) (hG : Glob w) (hF : Far bp) (hl : r.data.toList = L) (hrun : U.runM U.st0 L = some (s, t)) :
    Calls Tryz.prog 37 #[.pointer (some ⟨bp, 0, none⟩)] w fun e w' => ∃ (ao : Option Addr) (cap : Nat) (r' : ByteArray), e = .returned (.tuple #[.agg #[.int .i64 0, .string ⟨(U.low s.tname).toArray⟩, .slice ao (U.firsts [] s.all).length cap, .bool s.slash, .string ⟨#[]⟩], .bool true]) ∧ Reads w w' bp r' v ∧ r'.data.toList = t ∧
      w'.ownsRow w.heap.size 52 2 (.slice ao (U.firsts [] s.all).length cap) (U.firsts [] s.all).length (attCells (U.firsts [] s.all)) ∧ (U.firsts [] s.all).length ≤ r.size := by
  refine (read_tag w bp r v h hr hG hF).mono ?_
  intro e w' hT
  unfold Tagged at hT
  rw [hl, hrun] at hT
  obtain ⟨av, r', he, hR, hz, hown, hln⟩ := hT
  obtain ⟨ao, cap, rfl⟩ := own_form hown
  exact ⟨ao, cap, r', he, hR, hz, hown, hln⟩
theorem ate_stop {w w' : World} {bp : Nat} {r r' : ByteArray} {v : Value} {l : List (U.Tok × Value)} (hi : U.item r.data.toList = .stop) (h0 : 0 < r.size) (h : ParW w w' bp r' v l) (hz : r'.size = 0) : Ate w w' bp r l := by
  refine ⟨r', v, l, h, ?_, by omega, by omega⟩
  rw [U.toksT_stop hi, show r'.data.toList = [] from List.eq_nil_of_length_eq_zero (by rw [len_list]; exact hz)]
  rfl
theorem ate_close {w w' : World} {bp : Nat} {r r' : ByteArray} {n t : List UInt8} {v : Value} {l : List (U.Tok × Value)} (hi : U.item r.data.toList = .close n t) (ht : r'.data.toList = t) (h : ParW w w' bp r' v (l ++ [(⟨2, n, [], false, []⟩, .slice none 0 0)])) : Ate w w' bp r l := by
  have hs := U.item_shorter.2.1 _ _ hi
  rw [← ht, len_list, len_list] at hs
  refine ⟨r', v, _, h, ?_, hs, by rw [List.length_append, List.length_singleton]; omega⟩
  rw [U.toksT_close hi, ht]
  simp

theorem ate_start {w w' : World} {bp : Nat} {r r' : ByteArray} {n t : List UInt8} {aa : List U.Att} {sl : Bool} {v av : Value} {l : List (U.Tok × Value)} (hi : U.item r.data.toList = .start n aa sl t) (ht : r'.data.toList = t) (hn : U.rawName n = false) (h : ParW w w' bp r' v (l ++ [(⟨1, n, aa, sl, []⟩, av)])) : Ate w w' bp r l := by
  have hs := U.item_shorter.2.2 _ _ _ _ hi
  rw [← ht, len_list, len_list] at hs
  refine ⟨r', v, _, h, ?_, hs, by rw [List.length_append, List.length_singleton]; omega⟩
  rw [U.toksT_start hi, ht, if_neg (by rw [hn]; decide)]
  simp
theorem ate_raw {w w' : World} {bp : Nat} {r r' : ByteArray} {n t : List UInt8} {aa : List U.Att} {sl : Bool} {av : Value} {l : List (U.Tok × Value)} {D : List UInt8 → List UInt8} (hi : U.item r.data.toList = .start n aa sl t) (ht : r'.data.toList = t) (hn : U.rawName n = true) (hD : ∀ x, D x = if n.head? = some 116 then U.unesc x else x)
    (h : Raw w w' bp r' (l ++ [(⟨1, n, aa, sl, []⟩, av)]) n D) : Ate w w' bp r l := by
  have hs := U.item_shorter.2.2 _ _ _ _ hi
  rw [← ht, len_list, len_list] at hs
  obtain ⟨r2, v2, l2, hP, h2, h3, h4, h5⟩ := h
  rw [List.length_append, List.length_singleton] at h5
  refine ⟨r2, v2, l2, hP, ?_, by omega, by omega⟩
  rw [U.toksT_start hi, if_pos hn, h3, h2, ht]
  unfold U.rawToks
  rw [hD]
  simp

set_option maxHeartbeats 4000000 in
set_option maxRecDepth 1000000 in
theorem read_end (w wr : World) (bp : Nat) (r : ByteArray) (v : Value) (l : List (U.Tok × Value)) (h : ParW w wr bp r v l) (hG : Glob wr) (hF : Far bp) (hr : r.size ≤ 1048576) (hl : l.length ≤ 1048576) (hk : U.kindOf r.data.toList = 2) :
    Calls Tryz.prog 26 #[.pointer (some ⟨bp, 0, none⟩)] wr fun e w' => e = .returned (.tuple #[]) ∧ Ate w w' bp r l := by
  obtain ⟨iT, hiT, hT0, hT1, hT2⟩ := info_parts infoTok
  obtain ⟨c, u, hlist, _, hi⟩ := U.item_end hk
  have h2 : 2 ≤ r.size := by rw [← len_list, hlist]; simp
  have hx : (r.extract 2 r.size).data.toList = c :: u := by rw [list_drop, hlist]; rfl
  have hsd := size_drop r 2
  unfold U.closeI at hi
  cases hrun : U.runM U.st0 (c :: u) with
  | none =>
    rw [hrun] at hi
    have HI := Lib.hid hi
    have HX := Lib.hid hx
    have HR := Lib.hid hrun
    clear hi hx hrun hlist hk
    go_enter Tryz.func26, Tryz.ntmps26
    go_wp2_with (first
      | (refine (take_walk _ bp 2 r v h.par h2).mono ?_; rintro e w2 ⟨rfl, hR1⟩)
      | (refine (read_tag_none _ bp _ v hR1.par (by omega) (hG.grown hF hR1.grown) hF HX.out HR.out).mono ?_; rintro e w3 ⟨rfl, r3, hR3, hz3⟩; have hP3 := (h.step hR1).step hR3))
    go_end0
    exact ⟨rfl, ate_stop HI.out (by omega) (hP3.alloc _) hz3⟩
  | some st =>
    obtain ⟨st, t⟩ := st
    rw [hrun] at hi
    have HI := Lib.hid hi
    have HX := Lib.hid hx
    have HR := Lib.hid hrun
    clear hi hx hrun hlist hk
    go_enter Tryz.func26, Tryz.ntmps26
    go_wp2_with (first
      | (refine (take_walk _ bp 2 r v h.par h2).mono ?_; rintro e w2 ⟨rfl, hR1⟩)
      | (refine (read_tag_some _ bp _ v hR1.par (by omega) (hG.grown hF hR1.grown) hF HX.out HR.out).mono ?_; rintro e w3 ⟨aoT, capT, r3, rfl, hR3, hr3, hown3, hln3⟩; have hP3 := (h.step hR1).step hR3; have Hr3 := Lib.hid hr3; clear hr3; generalize hN : U.low st.tname = N; have HN := Lib.hid hN; clear hN; generalize (U.firsts [] st.all).length = na))
    have hP4 := hP3.alloc (tokCells5 N (.slice aoT na capT) st.slash)
    have hnew := heap_alloc_new w3 (tokCells5 N (.slice aoT na capT) st.slash)
    obtain ⟨x0, x1, x2, x3, x4, _⟩ := res_cells hnew
    generalize w3.heap.size = q at *
    generalize w3.alloc (tokCells5 N (.slice aoT na capT) st.slash) = w4 at *
    obtain ⟨ao, cap, rfl⟩ := own_form hP4.row
    obtain ⟨c0, c1, f0, f1⟩ := par_cells hP4.par
    have k4 := (cell_alloc_old w4 (.cells #[.int .i64 2, .string ⟨N.toArray⟩, .slice none 0 0, .bool false, .string ⟨#[]⟩] 33) ⟨bp, 1, none⟩ (lt_of_heap hP4.par)).trans c1
    go_region_law (refine step_append_lies _ (by rfl) _ _ _ (by rfl) (bp + 1) 33 iT _ 5 72 Tryz.underlying23 hiT hT0 hT1 hT2 rfl (by omega) (.slice ao l.length cap) l.length (tokCells l) (by rfl) ((hP4.alloc _).later (below_drewN (Below.refl _ _) 1)).row ⟨w4.heap.size, 0, none⟩ 1 1 [.int .i64 2, .string ⟨N.toArray⟩, .slice none 0 0, .bool false, .string ⟨#[]⟩] (by rfl) (by rfl) (World.news_of_block (cs := #[.int .i64 2, .string ⟨N.toArray⟩, .slice none 0 0, .bool false, .string ⟨#[]⟩]) (t := 33) (fr := (0, 0)) (heap_alloc_new w4 _)) (by simp [Value.oneCell']) (by omega) (by unfold maxLen; omega) (by omega) (by simp; exact Nat.le_of_lt (lt_of_heap hP4.par)) (w4.heap.size + 1) (by simp) ?_; intro gg cap7 w7 hown7 hgrow7 hat7 hlt7; obtain ⟨q0, q1, q2, q3⟩ := par_cells (((hP4.alloc _).later (below_drewN (Below.refl _ _) 1)).grown hgrow7))
    all_goals
      have HP := ((hP4.alloc _).later (below_drewN (Below.refl _ _) 1)).put ⟨2, N, [], false, []⟩ (.slice none 0 0) (World.ownsRow_nil _ _ _ _) (Nat.zero_le _) hown7 hgrow7
      clear hown7 hgrow7
      go_wp2_with fail
      go_end0
      exact ⟨rfl, ate_close (by rw [HI.out, HN.out]) Hr3.out HP⟩

set_option maxHeartbeats 8000000 in
set_option maxRecDepth 1000000 in
theorem read_start (w wr : World) (bp : Nat) (r : ByteArray) (v : Value) (l : List (U.Tok × Value)) (h : ParW w wr bp r v l) (hGw : Glob w) (hG : Glob wr) (hF : Far bp) (hr : r.size ≤ 1048576) (hl : l.length ≤ 1048575) (hk : U.kindOf r.data.toList = 1) :
    Calls Tryz.prog 25 #[.pointer (some ⟨bp, 0, none⟩)] wr fun e w' => e = .returned (.tuple #[]) ∧ Ate w w' bp r l := by
  obtain ⟨iT, hiT, hT0, hT1, hT2⟩ := info_parts infoTok
  obtain ⟨c, u, hlist, _, hi⟩ := U.item_start hk
  have h1 : 1 ≤ r.size := by rw [← len_list, hlist]; simp
  have hx : (r.extract 1 r.size).data.toList = c :: u := by rw [list_drop, hlist]; rfl
  have hsd := size_drop r 1
  unfold U.startI at hi
  cases hrun : U.runM U.st0 (c :: u) with
  | none =>
    rw [hrun] at hi
    have HI := Lib.hid hi
    have HX := Lib.hid hx
    have HR := Lib.hid hrun
    clear hi hx hrun hlist hk
    go_enter Tryz.func25, Tryz.ntmps25
    go_wp2_with (first
      | (refine (take_walk _ bp 1 r v h.par h1).mono ?_; rintro e w2 ⟨rfl, hR1⟩)
      | (refine (read_tag_none _ bp _ v hR1.par (by omega) (hG.grown hF hR1.grown) hF HX.out HR.out).mono ?_; rintro e w3 ⟨rfl, r3, hR3, hz3⟩; have hP3 := (h.step hR1).step hR3))
    refine bodyPost_ret (results_none rfl _ _ _) rfl ?_
    exact ⟨rfl, ate_stop HI.out (by omega) (hP3.alloc _) hz3⟩
  | some st =>
    obtain ⟨st, t⟩ := st
    rw [hrun] at hi
    have HI := Lib.hid hi
    have HX := Lib.hid hx
    have HR := Lib.hid hrun
    have hsh := U.item_shorter.2.2 _ _ _ _ hi
    rw [len_list] at hsh
    clear hi hx hrun hlist hk
    have hsz := h.below.size
    go_enter Tryz.func25, Tryz.ntmps25
    go_wp2_with (first
      | (refine (take_walk _ bp 1 r v h.par h1).mono ?_; rintro e w2 ⟨rfl, hR1⟩)
      | (refine (read_tag_some _ bp _ v hR1.par (by omega) (hG.grown hF hR1.grown) hF HX.out HR.out).mono ?_; rintro e w3 ⟨aoT, capT, r3, rfl, hR3, hr3, hown3, hln3⟩; have hP3 := (h.step hR1).step hR3; have Hr3 := Lib.hid hr3; clear hr3; generalize hN : U.low st.tname = N; have HN := Lib.hid hN; clear hN; generalize hA : U.firsts [] st.all = aa at *; have HA := Lib.hid hA; clear hA))
    have hr3s : r3.size < r.size := by rw [← len_list r3, Hr3.out]; exact hsh
    have hqlt : ∀ g, v.ownBlock = some g → g < w3.heap.size := fun g hg => (hP3.row.lt g hg).2
    have hqbp : w3.heap.size ≠ bp := Nat.ne_of_gt (lt_of_heap hP3.par)
    have hqw := hP3.below.size
    have hP5 := hP3.alloc (.cells #[.int .i64 1, .string ⟨N.toArray⟩, .slice aoT aa.length capT, .bool st.slash, .string ⟨#[]⟩] 33)
    have hq5 := heap_alloc_new w3 (.cells #[.int .i64 1, .string ⟨N.toArray⟩, .slice aoT aa.length capT, .bool st.slash, .string ⟨#[]⟩] 33)
    have hown5 := own_keep (own_base hown3 (B' := w.heap.size) (Nat.le_trans hsz (hR1.grown.size))) ((Below.refl _ w3).alloc (Nat.le_refl _) (.cells #[.int .i64 1, .string ⟨N.toArray⟩, .slice aoT aa.length capT, .bool st.slash, .string ⟨#[]⟩] 33))
    generalize w3.heap.size = q at *
    generalize w3.alloc (.cells #[.int .i64 1, .string ⟨N.toArray⟩, .slice aoT aa.length capT, .bool st.slash, .string ⟨#[]⟩] 33) = w5 at *
    obtain ⟨ao, cap, rfl⟩ := own_form hP5.row
    obtain ⟨c0, c1, f0, f1⟩ := par_cells hP5.par
    obtain ⟨x0, x1, x2, x3, x4⟩ : w5.cell? ⟨q, 0, none⟩ = some (.int .i64 1) ∧ w5.cell? ⟨q, 1, none⟩ = some (.string ⟨N.toArray⟩) ∧ w5.cell? ⟨q, 2, none⟩ = some (.slice aoT aa.length capT) ∧ w5.cell? ⟨q, 3, none⟩ = some (.bool st.slash) ∧ w5.cell? ⟨q, 4, none⟩ = some (.string ⟨#[]⟩) :=
      ⟨by rw [Lib.cell_of_heap hq5]; rfl, by rw [Lib.cell_of_heap hq5]; rfl, by rw [Lib.cell_of_heap hq5]; rfl, by rw [Lib.cell_of_heap hq5]; rfl, by rw [Lib.cell_of_heap hq5]; rfl⟩
    have k4 := (cell_alloc_old w5 (.cells #[.int .i64 1, .string ⟨N.toArray⟩, .slice aoT aa.length capT, .bool st.slash, .string ⟨#[]⟩] 33) ⟨bp, 1, none⟩ (lt_of_heap hP5.par)).trans c1
    go_region_law (refine step_append_lies _ (by rfl) _ _ _ (by rfl) (bp + 1) 33 iT _ 5 72 Tryz.underlying23 hiT hT0 hT1 hT2 rfl (by omega) (.slice ao l.length cap) l.length (tokCells l) (by rfl) ((hP5.alloc _).later (below_drewN (Below.refl _ _) 1)).row ⟨w5.heap.size, 0, none⟩ 1 1 [.int .i64 1, .string ⟨N.toArray⟩, .slice aoT aa.length capT, .bool st.slash, .string ⟨#[]⟩] (by rfl) (by rfl) (World.news_of_block (cs := #[.int .i64 1, .string ⟨N.toArray⟩, .slice aoT aa.length capT, .bool st.slash, .string ⟨#[]⟩]) (t := 33) (fr := (0, 0)) (heap_alloc_new w5 _)) (by simp [Value.oneCell']) (by omega) (by unfold maxLen; omega) (by omega) (by simp; exact Nat.le_of_lt (lt_of_heap hP5.par)) (w5.heap.size + 1) (by simp) ?_; intro gg cap7 w7 hown7 hgrow7 hat7 hlt7; obtain ⟨q0, q1, q2, q3⟩ := par_cells (((hP5.alloc _).later (below_drewN (Below.refl _ _) 1)).grown hgrow7))
    all_goals
      have HP := ((hP5.alloc _).later (below_drewN (Below.refl _ _) 1)).put ⟨1, N, aa, st.slash, []⟩ (.slice aoT aa.length capT) (own_keep (own_keep hown5 ((Below.refl _ w5).alloc (Nat.le_refl _) _)) (below_drewN (Below.refl _ _) 1)) (by show aa.length ≤ 1048576; omega) hown7 hgrow7
      have hq7 : (w7.setCell ⟨bp, 1, none⟩ (.slice (some ⟨gg, 0, none⟩) (l.length + 1) cap7)).heap[q]? = _ := (Below.heap_setCell _ _ _ _ hqbp).trans ((hgrow7.block q (by have := lt_of_heap hq5; simp; omega) (fun e => by have := hqlt q e.symm; omega)).trans ((Lib.alloc_old _ _ _ (lt_of_heap hq5)).trans hq5))
      have z1 : (w7.setCell ⟨bp, 1, none⟩ (.slice (some ⟨gg, 0, none⟩) (l.length + 1) cap7)).cell? ⟨q, 1, none⟩ = some (.string ⟨N.toArray⟩) := by rw [Lib.cell_of_heap hq7]; rfl
      have HG := hGw.below HP.below
      clear hown7 hgrow7 hq7
      generalize w7.setCell ⟨bp, 1, none⟩ (.slice (some ⟨gg, 0, none⟩) (l.length + 1) cap7) = w8 at *
      by_cases e_script : N = [115, 99, 114, 105, 112, 116]
      · have b_script : (N == [115, 99, 114, 105, 112, 116]) = true := beq_iff_eq.2 e_script
        have hN8 : N.length ≤ 8 := by rw [e_script]; decide
        have HRN := Lib.hid (show U.rawName N = true from by rw [e_script]; rfl)
        have HDD := Lib.hid (show N.head? = some 116 ↔ False from by rw [e_script]; simp)
        clear e_script
        go_wp2_with (refine (read_raw_plain w _ bp r3 ⟨N.toArray⟩ _ _ HP HG hF (by omega) (by rw [size_of_mk]; omega) (by rw [List.length_append, List.length_singleton]; omega)).mono ?_; rintro e w9 ⟨rfl, hRaw⟩)
        go_end0
        exact ⟨rfl, ate_raw (by rw [HI.out, HN.out]) Hr3.out HRN.out (fun x => by rw [if_neg (fun e => HDD.out.1 e)]) hRaw⟩
      by_cases e_style : N = [115, 116, 121, 108, 101]
      · have b_script : (N == [115, 99, 114, 105, 112, 116]) = false := beq_eq_false_iff_ne.2 e_script
        have b_style : (N == [115, 116, 121, 108, 101]) = true := beq_iff_eq.2 e_style
        have hN8 : N.length ≤ 8 := by rw [e_style]; decide
        have HRN := Lib.hid (show U.rawName N = true from by rw [e_style]; rfl)
        have HDD := Lib.hid (show N.head? = some 116 ↔ False from by rw [e_style]; simp)
        clear e_script e_style
        go_wp2_with (refine (read_raw_plain w _ bp r3 ⟨N.toArray⟩ _ _ HP HG hF (by omega) (by rw [size_of_mk]; omega) (by rw [List.length_append, List.length_singleton]; omega)).mono ?_; rintro e w9 ⟨rfl, hRaw⟩)
        go_end0
        exact ⟨rfl, ate_raw (by rw [HI.out, HN.out]) Hr3.out HRN.out (fun x => by rw [if_neg (fun e => HDD.out.1 e)]) hRaw⟩
      by_cases e_textarea : N = [116, 101, 120, 116, 97, 114, 101, 97]
      · have b_script : (N == [115, 99, 114, 105, 112, 116]) = false := beq_eq_false_iff_ne.2 e_script
        have b_style : (N == [115, 116, 121, 108, 101]) = false := beq_eq_false_iff_ne.2 e_style
        have b_textarea : (N == [116, 101, 120, 116, 97, 114, 101, 97]) = true := beq_iff_eq.2 e_textarea
        have hN8 : N.length ≤ 8 := by rw [e_textarea]; decide
        have HRN := Lib.hid (show U.rawName N = true from by rw [e_textarea]; rfl)
        have HDD := Lib.hid (show N.head? = some 116 ↔ True from by rw [e_textarea]; simp)
        clear e_script e_style e_textarea
        go_wp2_with (refine (read_raw_unesc w _ bp r3 ⟨N.toArray⟩ _ _ HP HG hF (by omega) (by rw [size_of_mk]; omega) (by rw [List.length_append, List.length_singleton]; omega)).mono ?_; rintro e w9 ⟨rfl, hRaw⟩)
        go_end0
        exact ⟨rfl, ate_raw (by rw [HI.out, HN.out]) Hr3.out HRN.out (fun x => by rw [if_pos (HDD.out.2 trivial)]) hRaw⟩
      by_cases e_title : N = [116, 105, 116, 108, 101]
      · have b_script : (N == [115, 99, 114, 105, 112, 116]) = false := beq_eq_false_iff_ne.2 e_script
        have b_style : (N == [115, 116, 121, 108, 101]) = false := beq_eq_false_iff_ne.2 e_style
        have b_textarea : (N == [116, 101, 120, 116, 97, 114, 101, 97]) = false := beq_eq_false_iff_ne.2 e_textarea
        have b_title : (N == [116, 105, 116, 108, 101]) = true := beq_iff_eq.2 e_title
        have hN8 : N.length ≤ 8 := by rw [e_title]; decide
        have HRN := Lib.hid (show U.rawName N = true from by rw [e_title]; rfl)
        have HDD := Lib.hid (show N.head? = some 116 ↔ True from by rw [e_title]; simp)
        clear e_script e_style e_textarea e_title
        go_wp2_with (refine (read_raw_unesc w _ bp r3 ⟨N.toArray⟩ _ _ HP HG hF (by omega) (by rw [size_of_mk]; omega) (by rw [List.length_append, List.length_singleton]; omega)).mono ?_; rintro e w9 ⟨rfl, hRaw⟩)
        go_end0
        exact ⟨rfl, ate_raw (by rw [HI.out, HN.out]) Hr3.out HRN.out (fun x => by rw [if_pos (HDD.out.2 trivial)]) hRaw⟩
      have b_script : (N == [115, 99, 114, 105, 112, 116]) = false := beq_eq_false_iff_ne.2 e_script
      have b_style : (N == [115, 116, 121, 108, 101]) = false := beq_eq_false_iff_ne.2 e_style
      have b_textarea : (N == [116, 101, 120, 116, 97, 114, 101, 97]) = false := beq_eq_false_iff_ne.2 e_textarea
      have b_title : (N == [116, 105, 116, 108, 101]) = false := beq_eq_false_iff_ne.2 e_title
      have HRN := Lib.hid (show U.rawName N = false from by unfold U.rawName; rw [b_script, b_style, b_textarea, b_title]; rfl)
      clear e_script e_style e_textarea e_title
      go_wp2_with fail
      go_end0
      exact ⟨rfl, ate_start (by rw [HI.out, HN.out]) Hr3.out HRN.out HP⟩

end Go.Proofs.YtankcnikebcpkaaGreatDoor

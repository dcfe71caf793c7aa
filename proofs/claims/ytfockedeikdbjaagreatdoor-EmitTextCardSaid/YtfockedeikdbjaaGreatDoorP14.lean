/- Several texts in one: Ends, Comment, Parsed, RdT. -/
import Derived.Deep.Cut
import Derived.Outline
import Derived.Test.YtfockedeikdbjaaGreatDoorP13
import Derived.Test.YtfockedeikdbjaaGreatDoorP05
namespace Go.Proofs.YtfockedeikdbjaaGreatDoor
open Go.RowKit

theorem read_tag_none {L : List UInt8} (w : World) (bp : Nat) (r : ByteArray) (v : Value) (h : w.heap[bp]? = some (parBlock r v)) (hr : r.size ≤ 1048576) (hG : Glob w) (hF : Far bp) (hl : r.data.toList = L) (hrun : U.runM U.st0 L = none) :
    Calls Tryz.prog 30 #[.pointer (some ⟨bp, 0, none⟩)] w fun e w' => e = .returned (.tuple #[.agg #[.int .i64 0, .string ⟨#[]⟩, .slice none 0 0, .bool false, .string ⟨#[]⟩], .bool false]) ∧ ∃ r' : ByteArray, Reads w w' bp r' v ∧ r'.size = 0 := by
  refine (read_tag w bp r v h hr hG hF).mono ?_
  intro e w' hT
  unfold Tagged at hT
  rw [hl, hrun] at hT
  obtain ⟨r', he, hR, hz⟩ := hT
  exact ⟨he, r', hR, hz⟩
theorem read_tag_some {L t : List UInt8} {s : U.St} (w : World) (bp : Nat) (r : ByteArray) (v : Value) (h : w.heap[bp]? = some (parBlock r v)) (hr : r.size ≤ 1048576) (hG : Glob w) (hF : Far bp) (hl : r.data.toList = L) (hrun : U.runM U.st0 L = some (s, t)) :
    Calls Tryz.prog 30 #[.pointer (some ⟨bp, 0, none⟩)] w fun e w' => ∃ (ao : Option Addr) (cap : Nat) (r' : ByteArray), e = .returned (.tuple #[.agg #[.int .i64 0, .string ⟨(U.low s.tname).toArray⟩, .slice ao (U.firsts [] s.all).length cap, .bool s.slash, .string ⟨#[]⟩], .bool true]) ∧ Reads w w' bp r' v ∧ r'.data.toList = t ∧
      w'.ownsRow w.heap.size 37 2 (.slice ao (U.firsts [] s.all).length cap) (U.firsts [] s.all).length (attCells (U.firsts [] s.all)) ∧ (U.firsts [] s.all).length ≤ r.size := by
  refine (read_tag w bp r v h hr hG hF).mono ?_
  intro e w' hT
  unfold Tagged at hT
  rw [hl, hrun] at hT
  obtain ⟨av, r', he, hR, hz, hown, hln⟩ := hT
  obtain ⟨ao, cap, rfl⟩ := own_form hown
  exact ⟨ao, cap, r', he, hR, hz, hown, hln⟩
theorem ate_stop {w w' : World} {bp : Nat} {r r' : ByteArray} {v : Value} {l : List (U.Tok × Value)} (hi : U.item r.data.toList = .stop) (h0 : 0 < r.size) (h : ParW w w' bp r' v l) (hz : r'.size = 0) : Ate w w' bp r l := by
  refine ⟨r', v, l, h, ?_, by omega, by omega⟩
  rw [U.toksT_stop hi, show r'.data.toList = [] from List.eq_nil_of_length_eq_zero (by rw [len_list]; exact hz)]
  rfl
theorem ate_close {w w' : World} {bp : Nat} {r r' : ByteArray} {n t : List UInt8} {v : Value} {l : List (U.Tok × Value)} (hi : U.item r.data.toList = .close n t) (ht : r'.data.toList = t) (h : ParW w w' bp r' v (l ++ [(⟨2, n, [], false, []⟩, .slice none 0 0)])) : Ate w w' bp r l := by
  have hs := U.item_shorter.2.1 _ _ hi
  rw [← ht, len_list, len_list] at hs
  refine ⟨r', v, _, h, ?_, hs, by rw [List.length_append, List.length_singleton]; omega⟩
  rw [U.toksT_close hi, ht]
  simp

theorem ate_start {w w' : World} {bp : Nat} {r r' : ByteArray} {n t : List UInt8} {aa : List U.Att} {sl : Bool} {v av : Value} {l : List (U.Tok × Value)} (hi : U.item r.data.toList = .start n aa sl t) (ht : r'.data.toList = t) (hn : U.rawName n = false) (h : ParW w w' bp r' v (l ++ [(⟨1, n, aa, sl, []⟩, av)])) : Ate w w' bp r l := by
  have hs := U.item_shorter.2.2 _ _ _ _ hi
  rw [← ht, len_list, len_list] at hs
  refine ⟨r', v, _, h, ?_, hs, by rw [List.length_append, List.length_singleton]; omega⟩
  rw [U.toksT_start hi, ht, if_neg (by rw [hn]; decide)]
  simp
theorem ate_raw {w w' : World} {bp : Nat} {r r' : ByteArray} {n t : List UInt8} {aa : List U.Att} {sl : Bool} {av : Value} {l : List (U.Tok × Value)} {D : List UInt8 → List UInt8} (hi : U.item r.data.toList = .start n aa sl t) (ht : r'.data.toList = t) (hn : U.rawName n = true) (hD : ∀ x, D x = if n.head? = some 116 then U.unesc x else x)
    (h : Raw w w' bp r' (l ++ [(⟨1, n, aa, sl, []⟩, av)]) n D) : Ate w w' bp r l := by
  have hs := U.item_shorter.2.2 _ _ _ _ hi
  rw [← ht, len_list, len_list] at hs
  obtain ⟨r2, v2, l2, hP, h2, h3, h4, h5⟩ := h
  rw [List.length_append, List.length_singleton] at h5
  refine ⟨r2, v2, l2, hP, ?_, by omega, by omega⟩
  rw [U.toksT_start hi, if_pos hn, h3, h2, ht]
  unfold U.rawToks
  rw [hD]
  simp

set_option maxHeartbeats 4000000 in
set_option maxRecDepth 1000000 in
theorem read_end (w wr : World) (bp : Nat) (r : ByteArray) (v : Value) (l : List (U.Tok × Value)) (h : ParW w wr bp r v l) (hG : Glob wr) (hF : Far bp) (hr : r.size ≤ 1048576) (hl : l.length ≤ 1048576) (hk : U.kindOf r.data.toList = 2) :
    Calls Tryz.prog 20 #[.pointer (some ⟨bp, 0, none⟩)] wr fun e w' => e = .returned (.tuple #[]) ∧ Ate w w' bp r l := by
  obtain ⟨iT, hiT, hT0, hT1, hT2⟩ := info_parts infoTok
  obtain ⟨c, u, hlist, _, hi⟩ := U.item_end hk
  have h2 : 2 ≤ r.size := by rw [← len_list, hlist]; simp
  have hx : (r.extract 2 r.size).data.toList = c :: u := by rw [list_drop, hlist]; rfl
  have hsd := size_drop r 2
  unfold U.closeI at hi
  cases hrun : U.runM U.st0 (c :: u) with
  | none =>
    rw [hrun] at hi
    have HI := Lib.hid hi
    have HX := Lib.hid hx
    have HR := Lib.hid hrun
    clear hi hx hrun hlist hk
    go_enter Tryz.func20, Tryz.ntmps20
    go_wp2_with (first
      | (refine (take_walk _ bp 2 r v h.par h2).mono ?_; rintro e w2 ⟨rfl, hR1⟩)
      | (refine (read_tag_none _ bp _ v hR1.par (by omega) (hG.grown hF hR1.grown) hF HX.out HR.out).mono ?_; rintro e w3 ⟨rfl, r3, hR3, hz3⟩; have hP3 := (h.step hR1).step hR3))
    go_end0
    exact ⟨rfl, ate_stop HI.out (by omega) (hP3.alloc _) hz3⟩
  | some st =>
    obtain ⟨st, t⟩ := st
    rw [hrun] at hi
    have HI := Lib.hid hi
    have HX := Lib.hid hx
    have HR := Lib.hid hrun
    clear hi hx hrun hlist hk
    go_enter Tryz.func20, Tryz.ntmps20
    go_wp2_with (first
      | (refine (take_walk _ bp 2 r v h.par h2).mono ?_; rintro e w2 ⟨rfl, hR1⟩)
      | (refine (read_tag_some _ bp _ v hR1.par (by omega) (hG.grown hF hR1.grown) hF HX.out HR.out).mono ?_; rintro e w3 ⟨aoT, capT, r3, rfl, hR3, hr3, hown3, hln3⟩; have hP3 := (h.step hR1).step hR3; have Hr3 := Lib.hid hr3; clear hr3; generalize hN : U.low st.tname = N; have HN := Lib.hid hN; clear hN; generalize (U.firsts [] st.all).length = na))
    have hP4 := hP3.alloc (tokCells5 N (.slice aoT na capT) st.slash)
    have hnew := heap_alloc_new w3 (tokCells5 N (.slice aoT na capT) st.slash)
    obtain ⟨x0, x1, x2, x3, x4, _⟩ := res_cells hnew
    generalize w3.heap.size = q at *
    generalize w3.alloc (tokCells5 N (.slice aoT na capT) st.slash) = w4 at *
    obtain ⟨ao, cap, rfl⟩ := own_form hP4.row
    obtain ⟨c0, c1, f0, f1⟩ := par_cells hP4.par
    have k4 := (cell_alloc_old w4 (.cells #[.int .i64 2, .string ⟨N.toArray⟩, .slice none 0 0, .bool false, .string ⟨#[]⟩] 33) ⟨bp, 1, none⟩ (lt_of_heap hP4.par)).trans c1
    go_region_law (refine step_append_lies _ (by rfl) _ _ _ (by rfl) (bp + 1) 33 iT _ 5 72 Tryz.underlying23 hiT hT0 hT1 hT2 rfl (by omega) (.slice ao l.length cap) l.length (tokCells l) (by rfl) ((hP4.alloc _).later (below_drewN (Below.refl _ _) 1)).row ⟨w4.heap.size, 0, none⟩ 1 1 [.int .i64 2, .string ⟨N.toArray⟩, .slice none 0 0, .bool false, .string ⟨#[]⟩] (by rfl) (by rfl) (World.news_of_block (cs := #[.int .i64 2, .string ⟨N.toArray⟩, .slice none 0 0, .bool false, .string ⟨#[]⟩]) (t := 33) (fr := (0, 0)) (heap_alloc_new w4 _)) (by simp [Value.oneCell']) (by omega) (by unfold maxLen; omega) (by omega) (by simp; exact Nat.le_of_lt (lt_of_heap hP4.par)) (w4.heap.size + 1) (by simp) ?_; intro gg cap7 w7 hown7 hgrow7 hat7 hlt7; obtain ⟨q0, q1, q2, q3⟩ := par_cells (((hP4.alloc _).later (below_drewN (Below.refl _ _) 1)).grown hgrow7))
    all_goals
      have HP := ((hP4.alloc _).later (below_drewN (Below.refl _ _) 1)).put ⟨2, N, [], false, []⟩ (.slice none 0 0) (World.ownsRow_nil _ _ _ _) (Nat.zero_le _) hown7 hgrow7
      clear hown7 hgrow7
      go_wp2_with fail
      go_end0
      exact ⟨rfl, ate_close (by rw [HI.out, HN.out]) Hr3.out HP⟩

set_option maxHeartbeats 8000000 in
set_option maxRecDepth 1000000 in
theorem read_start (w wr : World) (bp : Nat) (r : ByteArray) (v : Value) (l : List (U.Tok × Value)) (h : ParW w wr bp r v l) (hGw : Glob w) (hG : Glob wr) (hF : Far bp) (hr : r.size ≤ 1048576) (hl : l.length ≤ 1048575) (hk : U.kindOf r.data.toList = 1) :
    Calls Tryz.prog 19 #[.pointer (some ⟨bp, 0, none⟩)] wr fun e w' => e = .returned (.tuple #[]) ∧ Ate w w' bp r l := by
  obtain ⟨iT, hiT, hT0, hT1, hT2⟩ := info_parts infoTok
  obtain ⟨c, u, hlist, _, hi⟩ := U.item_start hk
  have h1 : 1 ≤ r.size := by rw [← len_list, hlist]; simp
  have hx : (r.extract 1 r.size).data.toList = c :: u := by rw [list_drop, hlist]; rfl
  have hsd := size_drop r 1
  unfold U.startI at hi
  cases hrun : U.runM U.st0 (c :: u) with
  | none =>
    rw [hrun] at hi
    have HI := Lib.hid hi
    have HX := Lib.hid hx
    have HR := Lib.hid hrun
    clear hi hx hrun hlist hk
    go_enter Tryz.func19, Tryz.ntmps19
    go_wp2_with (first
      | (refine (take_walk _ bp 1 r v h.par h1).mono ?_; rintro e w2 ⟨rfl, hR1⟩)
      | (refine (read_tag_none _ bp _ v hR1.par (by omega) (hG.grown hF hR1.grown) hF HX.out HR.out).mono ?_; rintro e w3 ⟨rfl, r3, hR3, hz3⟩; have hP3 := (h.step hR1).step hR3))
    refine bodyPost_ret (results_none rfl _ _ _) rfl ?_
    exact ⟨rfl, ate_stop HI.out (by omega) (hP3.alloc _) hz3⟩
  | some st =>
    obtain ⟨st, t⟩ := st
    rw [hrun] at hi
    have HI := Lib.hid hi
    have HX := Lib.hid hx
    have HR := Lib.hid hrun
    have hsh := U.item_shorter.2.2 _ _ _ _ hi
    rw [len_list] at hsh
    clear hi hx hrun hlist hk
    have hsz := h.below.size
    go_enter Tryz.func19, Tryz.ntmps19
    go_wp2_with (first
      | (refine (take_walk _ bp 1 r v h.par h1).mono ?_; rintro e w2 ⟨rfl, hR1⟩)
      | (refine (read_tag_some _ bp _ v hR1.par (by omega) (hG.grown hF hR1.grown) hF HX.out HR.out).mono ?_; rintro e w3 ⟨aoT, capT, r3, rfl, hR3, hr3, hown3, hln3⟩; have hP3 := (h.step hR1).step hR3; have Hr3 := Lib.hid hr3; clear hr3; generalize hN : U.low st.tname = N; have HN := Lib.hid hN; clear hN; generalize hA : U.firsts [] st.all = aa at *; have HA := Lib.hid hA; clear hA))
    have hr3s : r3.size < r.size := by rw [← len_list r3, Hr3.out]; exact hsh
    have hqlt : ∀ g, v.ownBlock = some g → g < w3.heap.size := fun g hg => (hP3.row.lt g hg).2
    have hqbp : w3.heap.size ≠ bp := Nat.ne_of_gt (lt_of_heap hP3.par)
    have hqw := hP3.below.size
    have hP5 := hP3.alloc (.cells #[.int .i64 1, .string ⟨N.toArray⟩, .slice aoT aa.length capT, .bool st.slash, .string ⟨#[]⟩] 33)
    have hq5 := heap_alloc_new w3 (.cells #[.int .i64 1, .string ⟨N.toArray⟩, .slice aoT aa.length capT, .bool st.slash, .string ⟨#[]⟩] 33)
    have hown5 := own_keep (own_base hown3 (B' := w.heap.size) (Nat.le_trans hsz (hR1.grown.size))) ((Below.refl _ w3).alloc (Nat.le_refl _) (.cells #[.int .i64 1, .string ⟨N.toArray⟩, .slice aoT aa.length capT, .bool st.slash, .string ⟨#[]⟩] 33))
    generalize w3.heap.size = q at *
    generalize w3.alloc (.cells #[.int .i64 1, .string ⟨N.toArray⟩, .slice aoT aa.length capT, .bool st.slash, .string ⟨#[]⟩] 33) = w5 at *
    obtain ⟨ao, cap, rfl⟩ := own_form hP5.row
    obtain ⟨c0, c1, f0, f1⟩ := par_cells hP5.par
    obtain ⟨x0, x1, x2, x3, x4⟩ : w5.cell? ⟨q, 0, none⟩ = some (.int .i64 1) ∧ w5.cell? ⟨q, 1, none⟩ = some (.string ⟨N.toArray⟩) ∧ w5.cell? ⟨q, 2, none⟩ = some (.slice aoT aa.length capT) ∧ w5.cell? ⟨q, 3, none⟩ = some (.bool st.slash) ∧ w5.cell? ⟨q, 4, none⟩ = some (.string ⟨#[]⟩) :=
      ⟨by rw [Lib.cell_of_heap hq5]; rfl, by rw [Lib.cell_of_heap hq5]; rfl, by rw [Lib.cell_of_heap hq5]; rfl, by rw [Lib.cell_of_heap hq5]; rfl, by rw [Lib.cell_of_heap hq5]; rfl⟩
    have k4 := (cell_alloc_old w5 (.cells #[.int .i64 1, .string ⟨N.toArray⟩, .slice aoT aa.length capT, .bool st.slash, .string ⟨#[]⟩] 33) ⟨bp, 1, none⟩ (lt_of_heap hP5.par)).trans c1
    go_region_law (refine step_append_lies _ (by rfl) _ _ _ (by rfl) (bp + 1) 33 iT _ 5 72 Tryz.underlying23 hiT hT0 hT1 hT2 rfl (by omega) (.slice ao l.length cap) l.length (tokCells l) (by rfl) ((hP5.alloc _).later (below_drewN (Below.refl _ _) 1)).row ⟨w5.heap.size, 0, none⟩ 1 1 [.int .i64 1, .string ⟨N.toArray⟩, .slice aoT aa.length capT, .bool st.slash, .string ⟨#[]⟩] (by rfl) (by rfl) (World.news_of_block (cs := #[.int .i64 1, .string ⟨N.toArray⟩, .slice aoT aa.length capT, .bool st.slash, .string ⟨#[]⟩]) (t := 33) (fr := (0, 0)) (heap_alloc_new w5 _)) (by simp [Value.oneCell']) (by omega) (by unfold maxLen; omega) (by omega) (by simp; exact Nat.le_of_lt (lt_of_heap hP5.par)) (w5.heap.size + 1) (by simp) ?_; intro gg cap7 w7 hown7 hgrow7 hat7 hlt7; obtain ⟨q0, q1, q2, q3⟩ := par_cells (((hP5.alloc _).later (below_drewN (Below.refl _ _) 1)).grown hgrow7))
    all_goals
      have HP := ((hP5.alloc _).later (below_drewN (Below.refl _ _) 1)).put ⟨1, N, aa, st.slash, []⟩ (.slice aoT aa.length capT) (own_keep (own_keep hown5 ((Below.refl _ w5).alloc (Nat.le_refl _) _)) (below_drewN (Below.refl _ _) 1)) (by show aa.length ≤ 1048576; omega) hown7 hgrow7
      have hq7 : (w7.setCell ⟨bp, 1, none⟩ (.slice (some ⟨gg, 0, none⟩) (l.length + 1) cap7)).heap[q]? = _ := (Below.heap_setCell _ _ _ _ hqbp).trans ((hgrow7.block q (by have := lt_of_heap hq5; simp; omega) (fun e => by have := hqlt q e.symm; omega)).trans ((Lib.alloc_old _ _ _ (lt_of_heap hq5)).trans hq5))
      have z1 : (w7.setCell ⟨bp, 1, none⟩ (.slice (some ⟨gg, 0, none⟩) (l.length + 1) cap7)).cell? ⟨q, 1, none⟩ = some (.string ⟨N.toArray⟩) := by rw [Lib.cell_of_heap hq7]; rfl
      have HG := hGw.below HP.below
      clear hown7 hgrow7 hq7
      generalize w7.setCell ⟨bp, 1, none⟩ (.slice (some ⟨gg, 0, none⟩) (l.length + 1) cap7) = w8 at *
      by_cases e_script : N = [115, 99, 114, 105, 112, 116]
      · have b_script : (N == [115, 99, 114, 105, 112, 116]) = true := beq_iff_eq.2 e_script
        have hN8 : N.length ≤ 8 := by rw [e_script]; decide
        have HRN := Lib.hid (show U.rawName N = true from by rw [e_script]; rfl)
        have HDD := Lib.hid (show N.head? = some 116 ↔ False from by rw [e_script]; simp)
        clear e_script
        go_wp2_with (refine (read_raw_plain w _ bp r3 ⟨N.toArray⟩ _ _ HP HG hF (by omega) (by rw [size_of_mk]; omega) (by rw [List.length_append, List.length_singleton]; omega)).mono ?_; rintro e w9 ⟨rfl, hRaw⟩)
        go_end0
        exact ⟨rfl, ate_raw (by rw [HI.out, HN.out]) Hr3.out HRN.out (fun x => by rw [if_neg (fun e => HDD.out.1 e)]) hRaw⟩
      by_cases e_style : N = [115, 116, 121, 108, 101]
      · have b_script : (N == [115, 99, 114, 105, 112, 116]) = false := beq_eq_false_iff_ne.2 e_script
        have b_style : (N == [115, 116, 121, 108, 101]) = true := beq_iff_eq.2 e_style
        have hN8 : N.length ≤ 8 := by rw [e_style]; decide
        have HRN := Lib.hid (show U.rawName N = true from by rw [e_style]; rfl)
        have HDD := Lib.hid (show N.head? = some 116 ↔ False from by rw [e_style]; simp)
        clear e_script e_style
        go_wp2_with (refine (read_raw_plain w _ bp r3 ⟨N.toArray⟩ _ _ HP HG hF (by omega) (by rw [size_of_mk]; omega) (by rw [List.length_append, List.length_singleton]; omega)).mono ?_; rintro e w9 ⟨rfl, hRaw⟩)
        go_end0
        exact ⟨rfl, ate_raw (by rw [HI.out, HN.out]) Hr3.out HRN.out (fun x => by rw [if_neg (fun e => HDD.out.1 e)]) hRaw⟩
      by_cases e_textarea : N = [116, 101, 120, 116, 97, 114, 101, 97]
      · have b_script : (N == [115, 99, 114, 105, 112, 116]) = false := beq_eq_false_iff_ne.2 e_script
        have b_style : (N == [115, 116, 121, 108, 101]) = false := beq_eq_false_iff_ne.2 e_style
        have b_textarea : (N == [116, 101, 120, 116, 97, 114, 101, 97]) = true := beq_iff_eq.2 e_textarea
        have hN8 : N.length ≤ 8 := by rw [e_textarea]; decide
        have HRN := Lib.hid (show U.rawName N = true from by rw [e_textarea]; rfl)
        have HDD := Lib.hid (show N.head? = some 116 ↔ True from by rw [e_textarea]; simp)
        clear e_script e_style e_textarea
        go_wp2_with (refine (read_raw_unesc w _ bp r3 ⟨N.toArray⟩ _ _ HP HG hF (by omega) (by rw [size_of_mk]; omega) (by rw [List.length_append, List.length_singleton]; omega)).mono ?_; rintro e w9 ⟨rfl, hRaw⟩)
        go_end0
        exact ⟨rfl, ate_raw (by rw [HI.out, HN.out]) Hr3.out HRN.out (fun x => by rw [if_pos (HDD.out.2 trivial)]) hRaw⟩
      by_cases e_title : N = [116, 105, 116, 108, 101]
      · have b_script : (N == [115, 99, 114, 105, 112, 116]) = false := beq_eq_false_iff_ne.2 e_script
        have b_style : (N == [115, 116, 121, 108, 101]) = false := beq_eq_false_iff_ne.2 e_style
        have b_textarea : (N == [116, 101, 120, 116, 97, 114, 101, 97]) = false := beq_eq_false_iff_ne.2 e_textarea
        have b_title : (N == [116, 105, 116, 108, 101]) = true := beq_iff_eq.2 e_title
        have hN8 : N.length ≤ 8 := by rw [e_title]; decide
        have HRN := Lib.hid (show U.rawName N = true from by rw [e_title]; rfl)
        have HDD := Lib.hid (show N.head? = some 116 ↔ True from by rw [e_title]; simp)
        clear e_script e_style e_textarea e_title
        go_wp2_with (refine (read_raw_unesc w _ bp r3 ⟨N.toArray⟩ _ _ HP HG hF (by omega) (by rw [size_of_mk]; omega) (by rw [List.length_append, List.length_singleton]; omega)).mono ?_; rintro e w9 ⟨rfl, hRaw⟩)
        go_end0
        exact ⟨rfl, ate_raw (by rw [HI.out, HN.out]) Hr3.out HRN.out (fun x => by rw [if_pos (HDD.out.2 trivial)]) hRaw⟩
      have b_script : (N == [115, 99, 114, 105, 112, 116]) = false := beq_eq_false_iff_ne.2 e_script
      have b_style : (N == [115, 116, 121, 108, 101]) = false := beq_eq_false_iff_ne.2 e_style
      have b_textarea : (N == [116, 101, 120, 116, 97, 114, 101, 97]) = false := beq_eq_false_iff_ne.2 e_textarea
      have b_title : (N == [116, 105, 116, 108, 101]) = false := beq_eq_false_iff_ne.2 e_title
      have HRN := Lib.hid (show U.rawName N = false from by unfold U.rawName; rw [b_script, b_style, b_textarea, b_title]; rfl)
      clear e_script e_style e_textarea e_title
      go_wp2_with fail
      go_end0
      exact ⟨rfl, ate_start (by rw [HI.out, HN.out]) Hr3.out HRN.out HP⟩

end Go.Proofs.YtfockedeikdbjaaGreatDoor

namespace Go.Proofs.YtfockedeikdbjaaGreatDoor
open Go.RowKit

theorem remark_cut (find l : List UInt8) (hf : find ≠ []) : U.remark find l = (⟨4, [], [], false, (Lib.cut l find).1⟩, (Lib.cut l find).2.1) := by
  rw [U.cut_place find l hf]
  unfold U.remark
  cases U.placeOf find l <;> rfl
theorem ate_mark {w w' : World} {bp : Nat} {r : ByteArray} {A B : List UInt8} {v6 : Value} {l : List (U.Tok × Value)} (hi : U.item r.data.toList = .mark ⟨4, [], [], false, A⟩ B)
    (h : ParW w w' bp ⟨B.toArray⟩ v6 (l ++ [(⟨4, [], [], false, A⟩, .slice none 0 0)])) : Ate w w' bp r l := by
  have hs := U.item_shorter.1 _ _ hi
  rw [len_list] at hs
  refine ⟨_, _, _, h, ?_, by rw [size_of_mk]; exact hs, by rw [size_of_mk, List.length_append, List.length_singleton]; omega⟩
  rw [U.toksT_mark hi, list_of_mk]
  simp

set_option maxHeartbeats 4000000 in
set_option maxRecDepth 1000000 in
theorem read_comment (w wr : World) (bp : Nat) (r : ByteArray) (v : Value) (l : List (U.Tok × Value)) (h : ParW w wr bp r v l) (hG : Glob wr) (hr : r.size ≤ 1048576) (hl : l.length ≤ 1048576) (hk : U.kindOf r.data.toList = 4) :
    Calls Tryz.prog 21 #[.pointer (some ⟨bp, 0, none⟩)] wr fun e w' => e = .returned (.tuple #[]) ∧ Ate w w' bp r l := by
  obtain ⟨c0, c1, f0, f1⟩ := par_cells h.par
  obtain ⟨m, hm⟩ := hG.max
  have h2 : 2 ≤ r.size := by
    rw [← len_list]
    match hl : r.data.toList, hk with
    | a :: c :: u, _ => simp
  have hp := fun w2 => Tryz.strings_HasPrefix r ⟨#[60, 33, 45, 45]⟩ w2
  have hpt : Lib.hasPrefix r.data.toList (ByteArray.mk #[60, 33, 45, 45]).data.toList = (r.data.toList.take 4 == [60, 33, 45, 45]) := U.prefix_take [60, 33, 45, 45] r.data.toList
  rw [hpt] at hp
  have hi0 : (2 : Int) ≤ (r.size : Int) := by omega
  rcases U.item_mark hk with ⟨h4, hi⟩ | ⟨h4, h5, hi⟩ | ⟨h4, h5, hi⟩
  · rw [show (r.data.toList.take 4 == [60, 33, 45, 45]) = true from beq_iff_eq.2 h4] at hp
    have h4s : 4 ≤ r.size := by
      have := congrArg List.length h4
      rw [List.length_take, len_list] at this
      simp only [List.length_cons, List.length_nil] at this
      omega
    have hi1 : (4 : Int) ≤ (r.size : Int) := by omega
    unfold U.markI at hi
    rw [remark_cut _ _ (by decide)] at hi
    have hc := fun w2 hm => Tryz.strings_Cut (r.extract 4 r.size) ⟨#[45, 45, 62]⟩ m w2 (by rw [size_drop]; omega) hm
    rw [list_drop] at hc
    have e3 : (ByteArray.mk #[45, 45, 62]).data.toList = [45, 45, 62] := rfl
    rw [e3] at hc
    generalize Lib.cut (r.data.toList.drop 4) [45, 45, 62] = X at hc hi
    obtain ⟨A, B, f⟩ := X
    have HI := Lib.hid hi
    clear hi h4 hpt hk e3
    go_enter Tryz.func21, Tryz.ntmps21
    go_wp2_with (first
      | (refine (hp _).mono ?_; rintro e w2 ⟨rfl, rfl⟩)
      | (refine (hc _ hm).mono ?_; rintro e w3 ⟨rfl, n, rfl⟩; have hP3 := h.step (((Reads.start h.par).later (below_drewN (Below.refl _ _) n)).setRest ⟨B.toArray⟩))
      | (refine (add_text w _ bp _ v l 4 _ hP3 hl).mono ?_; rintro e w6 ⟨rfl, v6, hP6⟩))
    go_end0
    exact ⟨rfl, ate_mark HI.out hP6⟩
  · rw [show (r.data.toList.take 4 == [60, 33, 45, 45]) = false from beq_eq_false_iff_ne.2 h4] at hp
    have ho : ((r.extract 0 2).toList == [60, 63]) = true := by rw [Lib.toList_data, list_take]; exact beq_iff_eq.2 h5
    have hi1 : (1 : Int) ≤ (r.size : Int) := by omega
    unfold U.markI at hi
    rw [remark_cut _ _ (by decide)] at hi
    have hc := fun w2 hm => Tryz.strings_Cut (r.extract 1 r.size) ⟨#[62]⟩ m w2 (by rw [size_drop]; omega) hm
    rw [list_drop] at hc
    have e3 : (ByteArray.mk #[62]).data.toList = [62] := rfl
    rw [e3] at hc
    generalize Lib.cut (r.data.toList.drop 1) [62] = X at hc hi
    obtain ⟨A, B, f⟩ := X
    have HI := Lib.hid hi
    have hz2 := size_take r 2 h2
    clear hi h4 h5 hpt hk e3
    go_enter Tryz.func21, Tryz.ntmps21
    go_wp2_with (first
      | (refine (hp _).mono ?_; rintro e w2 ⟨rfl, rfl⟩)
      | (refine (hc _ hm).mono ?_; rintro e w3 ⟨rfl, n, rfl⟩; have hP3 := h.step (((Reads.start h.par).later (below_drewN (Below.refl _ _) n)).setRest ⟨B.toArray⟩))
      | (refine (add_text w _ bp _ v l 4 _ hP3 hl).mono ?_; rintro e w6 ⟨rfl, v6, hP6⟩))
    go_end0
    exact ⟨rfl, ate_mark HI.out hP6⟩
  · rw [show (r.data.toList.take 4 == [60, 33, 45, 45]) = false from beq_eq_false_iff_ne.2 h4] at hp
    have ho : ((r.extract 0 2).toList == [60, 63]) = false := by rw [Lib.toList_data, list_take]; exact beq_eq_false_iff_ne.2 h5
    have hi1 : (2 : Int) ≤ (r.size : Int) := by omega
    unfold U.markI at hi
    rw [remark_cut _ _ (by decide)] at hi
    have hc := fun w2 hm => Tryz.strings_Cut (r.extract 2 r.size) ⟨#[62]⟩ m w2 (by rw [size_drop]; omega) hm
    rw [list_drop] at hc
    have e3 : (ByteArray.mk #[62]).data.toList = [62] := rfl
    rw [e3] at hc
    generalize Lib.cut (r.data.toList.drop 2) [62] = X at hc hi
    obtain ⟨A, B, f⟩ := X
    have HI := Lib.hid hi
    have hz2 := size_take r 2 h2
    clear hi h4 h5 hpt hk e3
    go_enter Tryz.func21, Tryz.ntmps21
    go_wp2_with (first
      | (refine (hp _).mono ?_; rintro e w2 ⟨rfl, rfl⟩)
      | (refine (hc _ hm).mono ?_; rintro e w3 ⟨rfl, n, rfl⟩; have hP3 := h.step (((Reads.start h.par).later (below_drewN (Below.refl _ _) n)).setRest ⟨B.toArray⟩))
      | (refine (add_text w _ bp _ v l 4 _ hP3 hl).mono ?_; rintro e w6 ⟨rfl, v6, hP6⟩))
    go_end0
    exact ⟨rfl, ate_mark HI.out hP6⟩

end Go.Proofs.YtfockedeikdbjaaGreatDoor

namespace Go.Proofs.YtfockedeikdbjaaGreatDoor
open Go.RowKit

/-- tokens in a row of the call's own, with their attributes -/
def Toks (w w' : World) (v : Value) (l : List (U.Tok × Value)) : Prop :=
  w'.ownsRow w.heap.size 33 5 v l.length (tokCells l) ∧ (∀ x ∈ l, w'.ownsRow w.heap.size 37 2 x.2 x.1.attrs.length (attCells x.1.attrs)) ∧ Below w.heap.size w w' ∧ ∀ x ∈ l, x.1.attrs.length ≤ 1048576

set_option maxHeartbeats 4000000 in
set_option maxRecDepth 1000000 in
theorem parse_walk (s : ByteArray) (w : World) (hG : Glob w) :
    Calls Tryz.prog 9 #[.string s] w fun e w' => ∃ v l, Toks w w' v l ∧
      (s.size ≤ 600 → e = .returned (.tuple #[v, .int .i64 0]) ∧ l.map (·.1) = U.toks s.data.toList) ∧ (600 < s.size → ∃ c, e = .returned (.tuple #[.slice none 0 0, .int .i64 c]) ∧ l = []) := by
  obtain ⟨m, hm⟩ := hG.max
  obtain ⟨te, pe, he⟩ := hG.err
  have hF : Far w.heap.size := ⟨Nat.ne_of_lt (World.block_lt_of_cell? w _ hm), Nat.ne_of_lt (World.block_lt_of_cell? w _ he)⟩
  clear hm he
  go_enter Tryz.func9, Tryz.ntmps9
  by_cases hz : s.size ≤ 600
  · have hP0 : ParW w (w.alloc (parBlock s (.slice none 0 0))) w.heap.size s (.slice none 0 0) [] := ⟨heap_alloc_new w _, World.ownsRow_nil _ _ _ _, (fun x hx => by cases hx), (Below.refl _ w).alloc (Nat.le_refl _) _, Nat.le_refl _, (fun x hx => by cases hx)⟩
    go_wp2_with fail
    go_loopw [15] (fun _ wr => ∃ (r : ByteArray) (v : Value) (l : List (U.Tok × Value)), ParW w wr w.heap.size r v l ∧ Hid (l.map (·.1) ++ U.toksT [] r.data.toList = U.toks s.data.toList) ∧ l.length + 2 * r.size ≤ 2 * s.size) (fun _ wr => strSize ((wr.cell? ⟨w.heap.size, 0, none⟩).getD undef))
    case atStart => exact ⟨s, _, [], hP0, Lib.hid rfl, by simp⟩
    case round =>
      obtain ⟨r, v, l, hP, htoks, hlen⟩ := hrel
      have hGr := hG.below hP.below
      obtain ⟨c0, c1, f0, f1⟩ := par_cells hP.par
      rcases Nat.eq_zero_or_pos r.size with h0 | h0
      · have hem := empty_of h0
        have hfin : l.map (·.1) = U.toks s.data.toList := by
          have := htoks.out
          rw [show r.data.toList = [] from List.eq_nil_of_length_eq_zero (by rw [len_list]; exact h0)] at this
          rw [← this]
          simp [U.toksT_nil, U.chars]
        have HFI := Lib.hid hfin
        obtain ⟨ao, cap, rfl⟩ := own_form hP.row
        clear hfin htoks h0
        go_wp2_with fail
        go_ret2
        exact ⟨_, l, ⟨own_base hP.row (Nat.le_succ _), hP.atts, hP.below, hP.lens⟩, fun _ => ⟨rfl, HFI.out⟩, fun h => absurd h (by omega)⟩
      · have hem := empty_not h0
        have hka := fun w3 => kind_at r w3
        have hlb : l.length ≤ 1048575 := by omega
        rcases U.kindOf_cases r.data.toList with hk | hk | hk | hk
        all_goals
          have HK := Lib.hid hk
          rw [hk] at hka
          have HX := Lib.hid hka
          clear hka hk
          go_wp2_with (first
            | (go_at_call 18; refine (HX.out _).mono ?_; rintro e w3 ⟨rfl, rfl⟩)
            | (go_at_call 19; refine (read_start w _ _ r v l hP hG hGr hF (by omega) hlb HK.out).mono ?_; rintro e w4 ⟨rfl, hA⟩)
            | (go_at_call 20; refine (read_end w _ _ r v l hP hGr hF (by omega) (by omega) HK.out).mono ?_; rintro e w4 ⟨rfl, hA⟩)
            | (go_at_call 21; refine (read_comment w _ _ r v l hP hGr (by omega) (by omega) HK.out).mono ?_; rintro e w4 ⟨rfl, hA⟩)
            | (go_at_call 22; refine (read_chars w _ _ r v l hP hGr hF (by omega) h0 (by omega) HK.out).mono ?_; rintro e w4 ⟨rfl, hA⟩))
          obtain ⟨r', v', l', hP', ht, hs1, hl'⟩ := hA
          have c1 := (par_cells hP'.par).1
          refine ⟨⟨r', v', l', hP', Lib.hid (ht.trans htoks.out), by omega⟩, ?_⟩
          rw [c1, c0]
          exact hs1
  · go_wp2_with fail
    go_ret2
    exact ⟨.slice none 0 0, [], ⟨World.ownsRow_nil _ _ _ _, (fun x hx => by cases hx), Below.refl _ w, (fun x hx => by cases hx)⟩, fun h => absurd h hz, fun _ => ⟨_, rfl, rfl⟩⟩

set_option maxHeartbeats 4000000 in
set_option maxRecDepth 1000000 in
theorem parse_big (s : ByteArray) (w : World) (hz : 600 < s.size) : Calls Tryz.prog 9 #[.string s] w fun e w' => e = .returned (.tuple #[.slice none 0 0, .int .i64 1]) ∧ Below w.heap.size w w' := by
  go_enter Tryz.func9, Tryz.ntmps9
  go_wp2_with fail
  go_ret2
  exact ⟨rfl, Below.refl _ _⟩

end Go.Proofs.YtfockedeikdbjaaGreatDoor

namespace Go.Proofs.YtfockedeikdbjaaGreatDoor
open Go.RowKit

/-- a slice that reads as these attributes, below block B -/
def RdA (w : World) (B : Nat) (v : Value) (al : List U.Att) : Prop := ∃ ao cap, v = .slice ao al.length cap ∧
  ∀ (i : Nat) (x : U.Att), al[i]? = some x → ∃ g o, ao = some ⟨g, o, none⟩ ∧ g < B ∧ w.cell? ⟨g, o + i * 2, none⟩ = some (.string ⟨x.1.toArray⟩) ∧ w.cell? ⟨g, o + i * 2 + 1, none⟩ = some (.string ⟨x.2.toArray⟩)
theorem RdA.keep {w w' : World} {B : Nat} {v : Value} {al : List U.Att} (h : RdA w B v al) (hk : ∀ p : Addr, p.block < B → w'.cell? p = w.cell? p) : RdA w' B v al := by
  obtain ⟨ao, cap, rfl, hc⟩ := h
  refine ⟨ao, cap, rfl, fun i x hx => ?_⟩
  obtain ⟨g, o, e, hb, c1, c2⟩ := hc i x hx
  exact ⟨g, o, e, hb, (hk _ hb).trans c1, (hk _ hb).trans c2⟩
theorem RdA.of_own {w : World} {B n : Nat} {v : Value} {al : List U.Att} (h : w.ownsRow B 37 2 v n (attCells al)) (hn : n = al.length) : RdA w w.heap.size v al := by
  subst hn
  obtain ⟨ao, cap, rfl⟩ := own_form h
  refine ⟨ao, cap, rfl, fun i x hx => ?_⟩
  obtain ⟨g, c, e, c1, c2⟩ := row_att h hx
  injection e with e1 e2 e3
  subst e1
  have hlt : g < w.heap.size := (h.lt g rfl).2
  exact ⟨g, 0, rfl, hlt, by rw [Nat.zero_add]; exact c1, by rw [Nat.zero_add]; exact c2⟩

/-- a slice that reads as these tokens, below block B -/
def RdT (w : World) (B : Nat) (v : Value) (ts : List U.Tok) : Prop := ∃ ao cap, v = .slice ao ts.length cap ∧
  ∀ (i : Nat) (t : U.Tok), ts[i]? = some t → ∃ g o av, ao = some ⟨g, o, none⟩ ∧ g < B ∧ w.cell? ⟨g, o + i * 5, none⟩ = some (.int .i64 t.kind) ∧ w.cell? ⟨g, o + i * 5 + 1, none⟩ = some (.string ⟨t.name.toArray⟩) ∧
    w.cell? ⟨g, o + i * 5 + 2, none⟩ = some av ∧ w.cell? ⟨g, o + i * 5 + 3, none⟩ = some (.bool t.self) ∧ w.cell? ⟨g, o + i * 5 + 4, none⟩ = some (.string ⟨t.text.toArray⟩) ∧ RdA w B av t.attrs ∧ t.attrs.length ≤ 1048576
theorem RdT.keep {w w' : World} {B : Nat} {v : Value} {ts : List U.Tok} (h : RdT w B v ts) (hk : ∀ p : Addr, p.block < B → w'.cell? p = w.cell? p) : RdT w' B v ts := by
  obtain ⟨ao, cap, rfl, hc⟩ := h
  refine ⟨ao, cap, rfl, fun i t ht => ?_⟩
  obtain ⟨g, o, av, e, hb, c0, c1, c2, c3, c4, hA, hl⟩ := hc i t ht
  exact ⟨g, o, av, e, hb, (hk _ hb).trans c0, (hk _ hb).trans c1, (hk _ hb).trans c2, (hk _ hb).trans c3, (hk _ hb).trans c4, hA.keep hk, hl⟩
theorem RdT.below {w w' : World} {B : Nat} {v : Value} {ts : List U.Tok} (h : RdT w B v ts) (hb : Below B w w') : RdT w' B v ts := h.keep fun _ hp => hb.cell hp
theorem RdA.more {w : World} {B B' : Nat} {v : Value} {al : List U.Att} (h : RdA w B v al) (hB : B ≤ B') : RdA w B' v al := by
  obtain ⟨ao, cap, rfl, hc⟩ := h
  refine ⟨ao, cap, rfl, fun i x hx => ?_⟩
  obtain ⟨g, o, e, hb, c1, c2⟩ := hc i x hx
  exact ⟨g, o, e, by omega, c1, c2⟩
theorem RdT.more {w : World} {B B' : Nat} {v : Value} {ts : List U.Tok} (h : RdT w B v ts) (hB : B ≤ B') : RdT w B' v ts := by
  obtain ⟨ao, cap, rfl, hc⟩ := h
  refine ⟨ao, cap, rfl, fun i t ht => ?_⟩
  obtain ⟨g, o, av, e, hb, c0, c1, c2, c3, c4, hA, hl⟩ := hc i t ht
  exact ⟨g, o, av, e, by omega, c0, c1, c2, c3, c4, hA.more hB, hl⟩

/-- the cells of a token in a row -/
theorem row_tok {w : World} {B n : Nat} {v : Value} {l : List (U.Tok × Value)} (h : w.ownsRow B 33 5 v n (tokCells l)) {i : Nat} {x : U.Tok × Value} (hx : l[i]? = some x) :
    ∃ g cap, v = .slice (some ⟨g, 0, none⟩) n cap ∧ w.cell? ⟨g, i * 5, none⟩ = some (.int .i64 (x.1.kind : Nat)) ∧ w.cell? ⟨g, i * 5 + 1, none⟩ = some (.string ⟨x.1.name.toArray⟩) ∧ w.cell? ⟨g, i * 5 + 2, none⟩ = some x.2 ∧ w.cell? ⟨g, i * 5 + 3, none⟩ = some (.bool x.1.self) ∧ w.cell? ⟨g, i * 5 + 4, none⟩ = some (.string ⟨x.1.text.toArray⟩) := by
  have hg : ∀ (l : List (U.Tok × Value)) (i : Nat), l[i]? = some x → (tokCells l)[i * 5]? = some (.int .i64 (x.1.kind : Nat)) ∧ (tokCells l)[i * 5 + 1]? = some (.string ⟨x.1.name.toArray⟩) ∧ (tokCells l)[i * 5 + 2]? = some x.2 ∧ (tokCells l)[i * 5 + 3]? = some (.bool x.1.self) ∧ (tokCells l)[i * 5 + 4]? = some (.string ⟨x.1.text.toArray⟩) := by
    intro l
    induction l with
    | nil => intro i hi; simp at hi
    | cons a l ih =>
      intro i hi
      have e : tokCells (a :: l) = .int .i64 (a.1.kind : Nat) :: .string ⟨a.1.name.toArray⟩ :: a.2 :: .bool a.1.self :: .string ⟨a.1.text.toArray⟩ :: tokCells l := rfl
      cases i with
      | zero => simp at hi; subst hi; rw [e]; exact ⟨rfl, rfl, rfl, rfl, rfl⟩
      | succ i =>
        have := ih i (by simpa using hi)
        rw [e, show (i + 1) * 5 = i * 5 + 1 + 1 + 1 + 1 + 1 by omega]
        simpa using this
  obtain ⟨h0, h1, h2, h3, h4⟩ := hg l i hx
  rcases h.2 with ⟨rfl, hn⟩ | ⟨g, cap, cur, rfl, _⟩
  · have h9 := h.1
    rw [hn] at h9
    have : tokCells l = [] := List.length_eq_zero_iff.1 (by omega)
    rw [this] at h0
    simp at h0
  · have ea : ∀ j, (⟨g, 0, none⟩ : Addr).add j = ⟨g, j, none⟩ := fun j => by cases j <;> simp [Addr.add]
    have c0 := h.cells (g := g) rfl _ _ h0
    have c1 := h.cells (g := g) rfl _ _ h1
    have c2 := h.cells (g := g) rfl _ _ h2
    have c3 := h.cells (g := g) rfl _ _ h3
    have c4 := h.cells (g := g) rfl _ _ h4
    rw [ea] at c0 c1 c2 c3 c4
    exact ⟨g, cap, rfl, c0, c1, c2, c3, c4⟩
theorem RdT.of_own {w : World} {B B2 : Nat} {v : Value} {l : List (U.Tok × Value)} (h : w.ownsRow B 33 5 v l.length (tokCells l)) (ha : ∀ x ∈ l, w.ownsRow B2 37 2 x.2 x.1.attrs.length (attCells x.1.attrs)) (hs : ∀ x ∈ l, x.1.attrs.length ≤ 1048576) : RdT w w.heap.size v (l.map (·.1)) := by
  obtain ⟨ao, cap, rfl⟩ := own_form h
  refine ⟨ao, cap, by rw [List.length_map], fun i t ht => ?_⟩
  obtain ⟨x, hx, rfl⟩ : ∃ x, l[i]? = some x ∧ x.1 = t := by
    rw [List.getElem?_map] at ht
    cases hx : l[i]? with
    | none => rw [hx] at ht; cases ht
    | some x => rw [hx] at ht; exact ⟨x, rfl, by simpa using ht⟩
  obtain ⟨g, cap2, e, c0, c1, c2, c3, c4⟩ := row_tok h hx
  injection e with e1 _ _
  subst e1
  have hm := List.mem_of_getElem? hx
  have hlt : g < w.heap.size := (h.lt g rfl).2
  refine ⟨g, 0, x.2, rfl, hlt, ?_, ?_, ?_, ?_, ?_, RdA.of_own (ha x hm) rfl, hs x hm⟩ <;> rw [Nat.zero_add] <;> assumption

end Go.Proofs.YtfockedeikdbjaaGreatDoor

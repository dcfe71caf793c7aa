/- built: the tree of a text. -/
import Derived.Outline
import Derived.Test.YtankcnikebcpkaaGreatDoorP15
import Derived.Test.YtankcnikebcpkaaGreatDoorP27
import Derived.Test.YtankcnikebcpkaaGreatDoorP04
import Derived.Test.YtankcnikebcpkaaGreatDoorP03
namespace Go.Proofs.YtankcnikebcpkaaGreatDoor
open Go.RowKit

theorem U.Bst.run_ok : ∀ (l : List U.Tk) (s : U.Bst), s.Ok → (∀ t ∈ l, t.kind = 1 ∨ t.kind = 2 ∨ t.kind = 3 ∨ t.kind = 4) → s.cnt + l.length ≤ 150 → (s.run l).2 = 0
  | [], s, _, _, _ => rfl
  | t :: r, s, h, hk, hl => by
    rw [List.length_cons] at hl
    obtain ⟨h1, h2⟩ := U.Bst.step_ok h t
    have e : s.stepE t = (s.step t, 0) := by
      unfold U.Bst.stepE
      rw [if_pos (hk t (List.mem_cons_self ..)), if_neg (by omega)]
    rw [U.Bst.run, if_pos (by rw [e]), e]
    exact U.Bst.run_ok r _ h1 (fun x hx => hk x (List.mem_cons_of_mem _ hx)) (by show (s.step t).cnt + r.length ≤ 150; omega)
theorem U.build_ok (l : List U.Tk) (hk : ∀ t ∈ l, t.kind = 1 ∨ t.kind = 2 ∨ t.kind = 3 ∨ t.kind = 4) (hl : l.length ≤ 150) : (U.build l).2 = 0 := by
  unfold U.build
  rw [if_neg (by omega)]
  exact U.Bst.run_ok l _ ⟨Nat.zero_le _, Nat.zero_le _⟩ hk (by show 0 + l.length ≤ 150; omega)
theorem build_b : U.build [⟨1, [98], [], false, []⟩] = ([.mk [98] [] [] []], 0) := by rfl
/-- the one token that is laid by hand -/
theorem rdK_b (w : World) : RdK (w.alloc (.cells #[.int .i64 1, .string ⟨#[98]⟩, .slice none 0 0, .bool false, .string ⟨#[]⟩] 33 (0, 0))) (w.heap.size + 1) (.slice (some ⟨w.heap.size, 0, none⟩) 1 1) [⟨1, [98], [], false, []⟩] := by
  have h := heap_alloc_new w (.cells #[.int .i64 1, .string ⟨#[98]⟩, .slice none 0 0, .bool false, .string ⟨#[]⟩] 33 (0, 0))
  refine ⟨_, 1, rfl, fun i t ht => ?_⟩
  match i, ht with
  | 0, ht =>
    simp at ht
    subst ht
    refine ⟨w.heap.size, 0, .slice none 0 0, rfl, by omega, ?_, ?_, ?_, ?_, ?_, ⟨none, 0, rfl, fun i x hx => by cases hx⟩⟩
    all_goals (rw [Lib.cell_of_heap h]; rfl)
  | i + 1, ht => simp at ht

set_option maxHeartbeats 8000000 in
set_option maxRecDepth 1000000 in
theorem built_tree (s : ByteArray) (w : World) (hs : s.size ≤ 600) (hG : Glob w) (hc : (U.toks s.data.toList).length ≤ 150) :
    Calls Tryz.prog 14 #[.string s] w fun e w' => ∃ v, e = .returned (.tuple #[v, .bool true]) ∧ RdNs w' (· < w'.heap.size) v (U.build ((U.toks s.data.toList).map U.Tok.tk)).1 ∧ Below w.heap.size w w' := by
  have HP := Lib.hid (parsed_walk s w hs hG)
  have hdl : s.data.toList.length ≤ 600 := by rw [Array.length_toList]; exact hs
  have hS : ∀ t ∈ (U.toks s.data.toList).map U.Tok.tk, t.text.length ≤ 1048576 := fun t ht => by
    obtain ⟨x, hx, rfl⟩ := List.mem_map.1 ht
    have := U.toks_texts _ x hx
    show x.text.length ≤ _
    omega
  have h0 := Lib.hid (U.build_ok ((U.toks s.data.toList).map U.Tok.tk) (fun t ht => by
    obtain ⟨x, hx, rfl⟩ := List.mem_map.1 ht
    have := U.toks_kinds _ x hx
    show (x.kind : Int) = 1 ∨ (x.kind : Int) = 2 ∨ (x.kind : Int) = 3 ∨ (x.kind : Int) = 4
    omega) (by rw [List.length_map]; exact hc))
  have HS := Lib.hid hS
  have HC := Lib.hid hc
  clear hS hc
  go_enter Tryz.func14, Tryz.ntmps14
  go_wp2_with fail
  refine HP.out.mono ?_
  rintro e w1 ⟨v1, rfl, hR1, hb1⟩
  have hat : ∀ t ∈ (U.toks s.data.toList).map U.Tok.tk, t.attrs.length ≤ 1048576 := fun t ht => by
    obtain ⟨x, hx, rfl⟩ := List.mem_map.1 ht
    obtain ⟨i, hi⟩ := List.getElem?_of_mem hx
    obtain ⟨_, _, _, hcc⟩ := hR1
    obtain ⟨_, _, _, _, _, _, _, _, _, _, _, hl⟩ := hcc i x hi
    exact hl
  have HB := Lib.hid (tree_build w1 v1 _ hR1.rdK (by rw [List.length_map]; have := HC.out; omega) (fun t ht => ⟨HS.out t ht, hat t ht⟩))
  obtain ⟨ao1, cap1, ev1, _⟩ := hR1
  subst ev1
  have HB1 := Lib.hid hb1
  clear hb1 hat
  go_wp2_with fail
  refine HB.out.mono ?_
  rintro e w2 ⟨v2, rfl, hb2, hR2⟩
  have HO := Lib.hid (tree_build _ _ _ ((rdK_b w2).more (by simp)) (by decide) (fun t ht => by simp at ht; subst ht; exact ⟨by decide, by decide⟩))
  rw [build_b] at HO
  have HB2 := Lib.hid hb2
  have HR2 := Lib.hid hR2
  obtain ⟨ao2, cap2, ev2, _⟩ := hR2
  subst ev2
  have H02 := Lib.hid h0.out
  have hz2 : ((U.build ((U.toks s.data.toList).map U.Tok.tk)).2 : Int) = 0 := by rw [h0.out]; rfl
  rw [h0.out]
  clear hb2
  go_wp2_with fail
  refine HO.out.mono ?_
  rintro e w3 ⟨v3, rfl, hb3, hR3⟩
  obtain ⟨g3, o3, cap3, ev3, hg3, hn3⟩ := hR3.get (i := 0) rfl
  subst ev3
  obtain ⟨_, _, k0, _⟩ := (rdNd_iff _ _ _).1 hn3
  rw [Nat.zero_mul, Nat.add_zero] at k0
  have k0' : w3.cell? ⟨g3, o3, none⟩ = some (.string ⟨#[98]⟩) := k0
  have HBB := Lib.hid (show Below w1.heap.size w1 w3 from HB2.out.trans (((Below.refl w2.heap.size w2).alloc (Nat.le_refl _) (.cells #[.int .i64 1, .string ⟨#[98]⟩, .slice none 0 0, .bool false, .string ⟨#[]⟩] 33 (0, 0))).mono HB2.out.size |>.trans (hb3.mono (by have := HB2.out.size; simp; omega))))
  have HB23 := Lib.hid (show Below w2.heap.size w2 w3 from ((Below.refl w2.heap.size w2).alloc (Nat.le_refl _) (.cells #[.int .i64 1, .string ⟨#[98]⟩, .slice none 0 0, .bool false, .string ⟨#[]⟩] 33 (0, 0))).trans (hb3.mono (by simp)))
  clear hR3 hn3 k0 hb3 hz2
  go_wp2_with fail
  go_region
  all_goals go_wp2_with fail
  all_goals go_ret2
  have HFin := Lib.hid (show RdNs w3.drew (· < w3.drew.heap.size) (.slice ao2 (U.build ((U.toks s.data.toList).map U.Tok.tk)).1.length cap2) (U.build ((U.toks s.data.toList).map U.Tok.tk)).1 from RdNs.below (w' := w3.drew) HR2.out HB23.out.drew HB23.out.drew.size)
  all_goals exact ⟨_, rfl, HFin.out, below_drewN (HB1.out.trans (HBB.out.mono HB1.out.size)) 1⟩

end Go.Proofs.YtankcnikebcpkaaGreatDoor

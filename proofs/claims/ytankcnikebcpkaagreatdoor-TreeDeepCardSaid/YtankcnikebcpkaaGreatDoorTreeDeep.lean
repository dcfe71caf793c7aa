/- TreeDeep: the walk. -/
import Derived.Test.YtankcnikebcpkaaGreatDoorDeepPre
import Derived.Handy
import Derived.StillTactics
import Derived.StillTailTactics
import Derived.Outline
namespace Go.Proofs.YtankcnikebcpkaaGreatDoor
open Go.RowKit

theorem U.lit_cnt : U.cntL [.mk [98] [] [] [.mk [] [] [120] []]] = 2 := by
  rw [U.cntL_cons, U.cntL_nil, U.cntN_eq]
  show 1 + U.cntL [.mk [] [] [120] []] + 0 = 2
  rw [U.cntL_cons, U.cntL_nil, U.cntN_eq]
  show 1 + (1 + U.cntL [] + 0) + 0 = 2
  rw [U.cntL_nil]
theorem U.lit_dep : U.depL [.mk [98] [] [] [.mk [] [] [120] []]] = 2 := by
  rw [U.depL_cons, U.depL_nil, U.depN_eq]
  show max (1 + U.depL [.mk [] [] [120] []]) 0 = 2
  rw [U.depL_cons, U.depL_nil, U.depN_eq]
  show max (1 + max (1 + U.depL []) 0) 0 = 2
  rw [U.depL_nil]; rfl

/-- the two nodes that are laid by hand -/
theorem rdNs_lit (w : World) : RdNs ((w.alloc (.cells #[.string ⟨#[]⟩, .slice none 0 0, .string ⟨#[120]⟩, .slice none 0 0] 48 (0, 0))).alloc (.cells #[.string ⟨#[98]⟩, .slice none 0 0, .string ⟨#[]⟩, .slice (some ⟨w.heap.size, 0, none⟩) 1 1] 48 (0, 0))) (· < ((w.alloc (.cells #[.string ⟨#[]⟩, .slice none 0 0, .string ⟨#[120]⟩, .slice none 0 0] 48 (0, 0))).alloc (.cells #[.string ⟨#[98]⟩, .slice none 0 0, .string ⟨#[]⟩, .slice (some ⟨w.heap.size, 0, none⟩) 1 1] 48 (0, 0))).heap.size) (.slice (some ⟨w.heap.size + 1, 0, none⟩) 1 1) [.mk [98] [] [] [.mk [] [] [120] []]] := by
  have h1 := heap_alloc_new w (.cells #[.string ⟨#[]⟩, .slice none 0 0, .string ⟨#[120]⟩, .slice none 0 0] 48 (0, 0))
  have h2 := heap_alloc_new (w.alloc (.cells #[.string ⟨#[]⟩, .slice none 0 0, .string ⟨#[120]⟩, .slice none 0 0] 48 (0, 0))) (.cells #[.string ⟨#[98]⟩, .slice none 0 0, .string ⟨#[]⟩, .slice (some ⟨w.heap.size, 0, none⟩) 1 1] 48 (0, 0))
  have hs : (w.alloc (.cells #[.string ⟨#[]⟩, .slice none 0 0, .string ⟨#[120]⟩, .slice none 0 0] 48 (0, 0))).heap.size = w.heap.size + 1 := by simp
  rw [hs] at h2
  refine ⟨_, 1, rfl, by decide, by decide, .inr ⟨w.heap.size + 1, 0, rfl, by simp, ?_⟩⟩
  rw [RdRow]
  refine ⟨(rdNd_iff _ _ _).2 ⟨.slice none 0 0, .slice (some ⟨w.heap.size, 0, none⟩) 1 1, by rw [Lib.cell_of_heap h2]; rfl, by rw [Lib.cell_of_heap h2]; rfl, by rw [Lib.cell_of_heap h2]; rfl, by rw [Lib.cell_of_heap h2]; rfl, ⟨none, 0, rfl, by decide, by decide, fun i x hx => by cases hx⟩, ⟨_, 1, rfl, by decide, by decide, .inr ⟨w.heap.size, 0, rfl, by simp; omega, ?_⟩⟩⟩, by rw [RdRow]; trivial⟩
  show RdRow _ _ [.mk [] [] [120] []] _ _
  rw [RdRow]
  refine ⟨(rdNd_iff _ _ _).2 ⟨.slice none 0 0, .slice none 0 0, ?_, ?_, ?_, ?_, ⟨none, 0, rfl, by decide, by decide, fun i x hx => by cases hx⟩, ⟨none, 0, rfl, by decide, by decide, .inl rfl⟩⟩, by rw [RdRow]; trivial⟩
  all_goals (rw [World.cell?_alloc_lt _ _ _ (by simp), Lib.cell_of_heap h1]; rfl)

set_option maxHeartbeats 8000000 in
set_option maxRecDepth 1000000 in
theorem tree_deep (ao : Option Addr) (cap : Nat) (zs : List Int) (w : World) (hr : Rd w w.heap.size ao zs) (hG : Glob w) :
    Calls Tryz.prog 5 #[.slice ao zs.length cap] w fun e w' => e = .returned (.bool true) ∧ Below w.heap.size w w' := by
  have HM := Lib.hid (markup_lt ao cap zs 30 w hr (Nat.le_refl _))
  have HG := Lib.hid hG
  clear hr hG
  go_enter Tryz.func5, Tryz.ntmps5
  go_wp2_with fail
  refine HM.out.mono ?_
  rintro e w1 ⟨T, rfl, hT, hL, hb1⟩
  have hlt := U.toks_lt T.data.toList
  have hok := (U.toks_ok T.data.toList).1
  have HB := Lib.hid (built_tree T w1 (by omega) (HG.out.below hb1) (by omega))
  have hap := U.build_apart ((U.toks T.data.toList).map U.Tok.tk) (fun t ht hk => by
    obtain ⟨x, hx, rfl⟩ := List.mem_map.1 ht
    have hk' : (x.kind : Int) = 1 := hk
    exact (hok x hx).name (.inl (by omega)))
  have hdp := U.build_deep ((U.toks T.data.toList).map U.Tok.tk)
  have hal := U.build_all ((U.toks T.data.toList).map U.Tok.tk)
  rw [List.length_map] at hal
  have hcl : U.cntL (U.build ((U.toks T.data.toList).map U.Tok.tk)).1 ≤ 1048576 := by omega
  clear hlt hok hal
  have HB1 := Lib.hid hb1
  clear hb1
  obtain ⟨L, hLe⟩ : ∃ L, (U.build ((U.toks T.data.toList).map U.Tok.tk)).1 = L := ⟨_, rfl⟩
  rw [hLe] at HB hap hdp hcl
  clear hLe
  go_wp2_with fail
  refine HB.out.mono ?_
  rintro e w2 ⟨v, rfl, hR2, hb2⟩
  have HCT := Lib.hid (count_walk _ L (Nat.le_refl _) hcl v w2 hR2)
  have HR2 := Lib.hid hR2
  obtain ⟨vo, vcap, ev, _⟩ := hR2
  subst ev
  have HB2 := Lib.hid (HB1.out.trans (hb2.mono HB1.out.size))
  clear hb2
  go_wp2_with fail
  refine HCT.out.mono ?_
  rintro e w3 ⟨rfl, hb3⟩
  have hdI : ((U.depL L : Nat) : Int) ≤ 11 := by omega
  go_wp2_with fail
  have HO := Lib.hid (count_walk _ _ (Nat.le_refl _) (by rw [U.lit_cnt]; decide) _ _ (rdNs_lit w3))
  rw [U.lit_cnt, U.lit_dep] at HO
  have HB3 := Lib.hid hb3
  clear hb3
  refine HO.out.mono ?_
  rintro e w4 ⟨rfl, hb4⟩
  have hb24 : Below w2.heap.size w2 w4 := ((HB3.out.alloc HB3.out.size _).alloc (by have := HB3.out.size; simp; omega) _).trans (hb4.mono (by have := HB3.out.size; simp; omega))
  have hR4 := RdNs.below HR2.out hb24 hb24.size
  have HA := Lib.hid (apart_walk _ L (Nat.le_refl _) hap _ w4 hR4)
  have HF := Lib.hid (HB2.out.trans (hb24.mono HB2.out.size))
  clear hb24 hR4 hb4 hap hdp hcl
  go_wp2_with fail
  refine HA.out.mono ?_
  rintro e w5 ⟨rfl, rfl⟩
  go_wp2_with fail
  go_ret
  exact ⟨rfl, HF.out⟩

end Go.Proofs.YtankcnikebcpkaaGreatDoor

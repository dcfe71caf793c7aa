/- (*builder).add within an open element. -/
import Derived.Test.YtankcnikebcpkaaGreatDoorAdd
namespace Go.Proofs.YtankcnikebcpkaaGreatDoor
open Go.RowKit

theorem in_cells (ol : List NV) (n x : U.Nd) (av qv v : Value) : (ndCells (ol ++ [(n, av, qv)])).set (ol.length * 4 + 3) v = ndCells (ol ++ [(n.push x, av, v)]) := by
  have hl : (ndCells ol).length = ol.length * 4 := ndCells_length ol
  rw [ndCells_append, ndCells_append, ← hl, List.set_append_right _ _ (by omega), Nat.add_sub_cancel_left]
  show _ = ndCells ol ++ [.string ⟨(n.push x).name.toArray⟩, av, .string ⟨(n.push x).text.toArray⟩, v]
  rw [U.Nd.push_name, U.Nd.push_text]
  rfl
section
variable {N : Nat} {w w1 w7 : World} {bp : Nat} {s : U.Bst} {ov pv tv : Value} {outl ol : List NV} {g cap gp pcap : Nat} {x : NV} {n : U.Nd} {av qv : Value} {pl : List NV} {a b c d : Value}
/-- the end of add, within an open one -/
theorem add_in_end (h : TBld N w bp s ov pv tv outl (ol ++ [(n, av, qv)])) (hx : Done w (Free w bp (mine ov pv tv (ol ++ [(n, av, qv)]))) x) (hpl : pl.map (·.1) = n.parts) (hpd : ∀ y ∈ pl, Done w (Free w bp (mine ov pv tv (ol ++ [(n, av, qv)]))) y)
    (hpv : pv = .slice (some ⟨gp, 0, none⟩) (ol.length + 1) pcap) (hb : Below w.heap.size w w1) (hg : w1.grownBy w7 qv.ownBlock)
    (ho : w7.ownsRow N 48 4 (.slice (some ⟨g, 0, none⟩) (pl.length + 1) cap) (pl.length + 1) (ndCells pl ++ [a, b, c, d])) (hat : qv.ownBlock = some g ∨ w.heap.size ≤ g) (w9 : World)
    (h9 : w9 = (set4 w7 g (pl.length * 4) (.string ⟨x.1.name.toArray⟩) x.2.1 (.string ⟨x.1.text.toArray⟩) x.2.2).setCell ⟨gp, ol.length * 4 + 3, none⟩ (.slice (some ⟨g, 0, none⟩) (pl.length + 1) cap) ∨ w9 = set4 (w7.setCell ⟨gp, ol.length * 4 + 3, none⟩ (.slice (some ⟨g, 0, none⟩) (pl.length + 1) cap)) g (pl.length * 4) (.string ⟨x.1.name.toArray⟩) x.2.1 (.string ⟨x.1.text.toArray⟩) x.2.2) :
    Became N bp w (mine ov pv tv (ol ++ [(n, av, qv)])) w9 (s.add x.1) := by
  have hs1 := hb.size
  have hs7 := hg.size
  have hpb : pv.ownBlock = some gp := by rw [hpv]; rfl
  have hgp := (h.op.lt gp hpb).2
  have hap : Apt pv qv := by
    have h1 := (List.pairwise_cons.1 h.apart).2
    exact (List.pairwise_cons.1 h1).1 qv (by simp)
  have hqp : qv.ownBlock ≠ some gp := fun e => by
    rcases hap with h5 | h5
    · rw [hpb] at h5; cases h5
    · exact h5 (hpb.trans e.symm)
  have hgg : g ≠ gp := by
    rintro rfl
    rcases hat with h5 | h5
    · exact hqp h5
    · omega
  have hp7 : w7.ownsRow N 48 4 pv (ol.length + 1) (ndCells (ol ++ [(n, av, qv)])) := by
    have h0 := h.op
    rw [List.length_append] at h0
    refine own_of_block h0 (fun k hk => ?_)
    have e : k = gp := by rw [hpb] at hk; injection hk with hk; exact hk.symm
    subst e
    exact (hg.block k (by omega) (fun e => hqp e.symm)).trans (hb.block _ hgp)
  have hcell : ndCells (pl ++ [x]) = ndCells pl ++ [.string ⟨x.1.name.toArray⟩, x.2.1, .string ⟨x.1.text.toArray⟩, x.2.2] := by rw [ndCells_append]; rfl
  have key : w9.ownsRow N 48 4 (.slice (some ⟨g, 0, none⟩) (pl.length + 1) cap) (pl.length + 1) (ndCells (pl ++ [x])) ∧ w9.ownsRow N 48 4 pv (ol.length + 1) (ndCells (ol ++ [(n.push x.1, av, .slice (some ⟨g, 0, none⟩) (pl.length + 1) cap)])) ∧
      (∀ k, k < w7.heap.size → k ≠ gp → k ≠ g → w9.heap[k]? = w7.heap[k]?) ∧ w9.os = w7.os ∧ w9.tape = w7.tape ∧ w9.output = w7.output ∧ w7.heap.size ≤ w9.heap.size := by
    rw [hcell, ← in_cells ol n x.1 av qv]
    subst hpv
    rcases h9 with rfl | rfl
    · obtain ⟨r1, r2⟩ := set4_row (a' := .string ⟨x.1.name.toArray⟩) (b' := x.2.1) (c' := .string ⟨x.1.text.toArray⟩) (d' := x.2.2) ho
      have hp8 := hp7.kept r2 (.inr (by simpa [Value.ownBlock] using fun e => hgg e.symm))
      obtain ⟨r3, r4⟩ := hp8.stored (ol.length * 4 + 3) (.slice (some ⟨g, 0, none⟩) (pl.length + 1) cap)
      refine ⟨r1.kept r4 (.inr (by simpa [Value.ownBlock] using hgg)), r3, fun k hk h1 h2 => (r4.block k (Nat.lt_of_lt_of_le hk r2.size) (by simpa using h1)).trans (r2.block k hk (by simpa using h2)), r2.os, r2.tape, r2.output, ?_⟩
      exact Nat.le_trans r2.size r4.size
    · obtain ⟨r3, r4⟩ := hp7.stored (ol.length * 4 + 3) (.slice (some ⟨g, 0, none⟩) (pl.length + 1) cap)
      have ho2 := ho.kept r4 (.inr (by simpa [Value.ownBlock] using hgg))
      obtain ⟨r1, r2⟩ := set4_row (a' := .string ⟨x.1.name.toArray⟩) (b' := x.2.1) (c' := .string ⟨x.1.text.toArray⟩) (d' := x.2.2) ho2
      refine ⟨r1, r3.kept r2 (.inr (by simpa [Value.ownBlock] using fun e => hgg e.symm)), fun k hk h1 h2 => (r2.block k (Nat.lt_of_lt_of_le hk r4.size) (by simpa using h2)).trans (r4.block k hk (by simpa using h1)), r2.os, r2.tape, r2.output, ?_⟩
      exact Nat.le_trans r4.size r2.size
  obtain ⟨k1, k2, k3, k4, k5, k6, k7⟩ := key
  refine ⟨_, _, _, _, _, h.add_in hx hpl hpd k1 (fun k hk h1 h2 => ?_) k2 hat (k4.trans (hg.os.trans hb.os)) (k5.trans (hg.tape.trans hb.tape)) (k6.trans (hg.output.trans hb.output)) (by omega)⟩
  have hkg : k ≠ g := by
    rintro rfl
    rcases hat with h5 | h5
    · exact h1 h5
    · omega
  exact (k3 k (by omega) (fun e => h2 (by rw [hpb, e])) hkg).trans ((hg.block k (by omega) (fun e => h1 e.symm)).trans (hb.block k hk))
end

set_option maxHeartbeats 4000000 in
set_option maxRecDepth 1000000 in
theorem add_in (N : Nat) (w : World) (bp : Nat) (s : U.Bst) (ov pv tv : Value) (outl ol : List NV) (n0 : U.Nd) (av0 qv0 : Value) (h : TBld N w bp s ov pv tv outl (ol ++ [(n0, av0, qv0)])) (x : NV) (hx : Done w (Free w bp (mine ov pv tv (ol ++ [(n0, av0, qv0)]))) x) (hs : n0.parts.length ≤ 1048576) (hol : ol.length ≤ 1048576) :
    Calls Tryz.prog 72 #[.pointer (some ⟨bp, 0, none⟩), .agg #[.string ⟨x.1.name.toArray⟩, x.2.1, .string ⟨x.1.text.toArray⟩, x.2.2]] w fun e w' => e = .returned (.tuple #[]) ∧ Became N bp w (mine ov pv tv (ol ++ [(n0, av0, qv0)])) w' (s.add x.1) := by
  obtain ⟨iT, hiT, hT0, hT1, hT2⟩ := info_parts infoNode
  obtain ⟨_, pl, hq, hpl, hpd⟩ := h.dop (n0, av0, qv0) (by simp)
  have hpn : pl.length ≤ 1048576 := by rw [← hpl, List.length_map] at hs; exact hs
  obtain ⟨qo, qc0, eq0⟩ := own_form hq
  have eq0' : qv0 = .slice qo pl.length qc0 := eq0
  subst eq0'
  obtain ⟨gp, pcap, epv, r0, r1, r2, r3⟩ := row_nd h.op (i := ol.length) (x := (n0, av0, .slice qo pl.length qc0)) (by simp)
  rw [List.length_append] at epv
  subst epv
  obtain ⟨c0, c1, c2, c3, c4⟩ := h.cells
  obtain ⟨⟨n, at_, tx, ps⟩, av, qv⟩ := x
  obtain ⟨aa, acap, ea⟩ : ∃ aa acap, av = .slice aa at_.length acap := by obtain ⟨a, b, e, _⟩ := hx.1; exact ⟨a, b, e⟩
  obtain ⟨qa, qcap, eq⟩ : ∃ qa qcap, qv = .slice qa ps.length qcap := by obtain ⟨a, b, e, _⟩ := hx.2; exact ⟨a, b, e⟩
  subst ea
  subst eq
  have hlt := h.lt
  have hgp := (h.op.lt gp rfl).2
  have k1 := fun O => (cell_alloc_old w O ⟨bp, 1, none⟩ hlt).trans c1
  have k3 := fun O => (cell_alloc_old w O ⟨gp, ol.length * 4 + 3, none⟩ hgp).trans r3
  have j0 : (0 : Int) < (ol.length : Int) + 1 := by omega
  have j1 : (ol.length : Int) < (ol.length : Int) + 1 := by omega
  have j2 : (ol.length : Int) + 1 - 1 = (ol.length : Int) := by omega
  have R3 := Lib.hid r3
  clear r0 r1 r2 r3 c0 c2 c3 c4
  go_enter Tryz.func72, Tryz.ntmps72
  go_wp2_with fail
  go_region
  go_wp2_with fail
  have hd := h.later (((Below.refl w.heap.size w).alloc (Nat.le_refl _) (.cells #[.string ⟨(U.Nd.mk n at_ tx ps).name.toArray⟩, .slice aa at_.length acap, .string ⟨(U.Nd.mk n at_ tx ps).text.toArray⟩, .slice qa ps.length qcap] 48 (0, 0))).trans (below_drewN (Below.refl w.heap.size _) 2))
  have hq2 := own_keep hq (((Below.refl w.heap.size w).alloc (Nat.le_refl _) (.cells #[.string ⟨(U.Nd.mk n at_ tx ps).name.toArray⟩, .slice aa at_.length acap, .string ⟨(U.Nd.mk n at_ tx ps).text.toArray⟩, .slice qa ps.length qcap] 48 (0, 0))).trans (below_drewN (Below.refl w.heap.size _) 2))
  have hap : ∀ k, (Value.slice qo pl.length qc0).ownBlock = some k → gp ≠ k := by
    intro k hk e
    subst e
    have h1 := (List.pairwise_cons.1 h.apart).2
    have h2 := (List.pairwise_cons.1 h1).1 (.slice qo pl.length qc0) (by simp)
    rcases h2 with h5 | h5
    · cases h5
    · exact h5 hk.symm
  have f3 : w.frozen? ⟨gp, ol.length * 4 + 3, none⟩ = false := by
    have h0 := h.op
    rw [List.length_append] at h0
    exact h0.frozenAt _
  have hb7 : ∀ {O O' : Obj} {w7 : World}, ((w.alloc O).alloc O').drew.drew.grownBy w7 (Value.slice qo pl.length qc0).ownBlock → w7.cell? ⟨gp, ol.length * 4 + 3, none⟩ = some (.slice qo pl.length qc0) ∧ w7.frozen? ⟨gp, ol.length * 4 + 3, none⟩ = false := fun {O O' w7} hg => by
    have hb : w7.heap[gp]? = w.heap[gp]? := (hg.block gp (by simp; omega) (fun e => hap gp e.symm rfl)).trans ((Lib.alloc_old (w.alloc O) O' _ (by simp; omega)).trans (Lib.alloc_old w O _ hgp))
    exact ⟨(World.cell?_of_block hb).trans R3.out, (World.frozen?_of_block hb).trans f3⟩
  have hi : (pl.length : Int) < (pl.length : Int) + 1 := by omega
  have hN := h.base
  clear k1 j0 j1 j2
  go_region_law (
        (refine step_append_lies _ (by rfl) _ _ _ (by rfl) N 48 iT _ 4 80 Tryz.underlying40 hiT hT0 hT1 hT2 rfl (by omega) (.slice qo pl.length qc0) pl.length (ndCells pl) (by rfl) (hq2.alloc _)
            ⟨w.heap.size + 1, 0, none⟩ 1 1 [.string ⟨#[]⟩, .slice none 0 0, .string ⟨#[]⟩, .slice none 0 0] (by rfl) (by rfl) (World.news_of_block (cs := #[.string ⟨#[]⟩, .slice none 0 0, .string ⟨#[]⟩, .slice none 0 0]) (t := 48) (fr := (0, 0)) (alloc2_new w _ _)) (by simp [Value.oneCell'])
            (by omega) (by unfold maxLen; omega) (by omega) (by simp; omega) (w.heap.size + 2) (by simp) ?_; intro gg cap7 w7 hown7 hgrow7 hat7 hlt7; obtain ⟨z0, z1, z2, z3, y0, y1, y2, y3⟩ := last_cells hown7; have hgb : gg ≠ gp := (by rintro rfl; rcases hat7 with h5 | h5; exact hap _ h5 rfl; omega); have hgb2 : gp ≠ gg := fun e => hgb e.symm; obtain ⟨q0, q1⟩ := hb7 hgrow7))
  all_goals
    have HE := Lib.hid (fun w9 h9 => add_in_end h hx hpl hpd rfl (((Below.refl w.heap.size w).alloc (Nat.le_refl _) (.cells #[.string ⟨(U.Nd.mk n at_ tx ps).name.toArray⟩, .slice aa at_.length acap, .string ⟨(U.Nd.mk n at_ tx ps).text.toArray⟩, .slice qa ps.length qcap] 48 (0, 0))).alloc (by simp) (.cells #[.string ⟨#[]⟩, .slice none 0 0, .string ⟨#[]⟩, .slice none 0 0] 48 (0, 0))).drew.drew hgrow7 hown7 (hat7.imp id (by omega)) w9 h9)
    clear hown7 hgrow7 hat7 hlt7 hb7 hd q0 q1 z0 z1 z2 z3 y0 y1 y2 y3 hx hq2 hap hpd hpl
    go_wp2_with fail
    go_end0
    refine ⟨rfl, HE.out _ ?_⟩
    dsimp only [set4]
    first | (left; with_reducible rfl) | (right; with_reducible rfl)

end Go.Proofs.YtankcnikebcpkaaGreatDoor

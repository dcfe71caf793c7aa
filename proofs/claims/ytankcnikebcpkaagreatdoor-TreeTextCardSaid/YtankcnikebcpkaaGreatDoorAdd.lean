/- (*builder).add. -/
import Derived.Deep.AppendLies
import Derived.Deep.RegionLaw
import Derived.Handy
import Derived.Outline
import Derived.Test.YtankcnikebcpkaaGreatDoorBldAdd
namespace Go.Proofs.YtankcnikebcpkaaGreatDoor
open Go.RowKit

theorem infoNode : (Tryz.prog.info? 48).map (fun i => (i.zero, i.size, i.bytes)) = some (some (.agg #[.string .empty, .slice none 0 0, .string .empty, .slice none 0 0]), 4, 80) := by kernel_rfl

theorem alloc2_new (w : World) (A B : Obj) : ((w.alloc A).alloc B).drew.heap[w.heap.size + 1]? = some B := by
  have h := heap_alloc_new (w.alloc A) B
  rw [show (w.alloc A).heap.size = w.heap.size + 1 by simp] at h
  exact h
/-- the four cells of the element that was appended last -/
theorem last_cells {w : World} {N g n cap : Nat} {e : TypeId} {xs : List Value} {a b c d : Value} (h : w.ownsRow N e 4 (.slice (some ⟨g, 0, none⟩) (n + 1) cap) (n + 1) (xs ++ [a, b, c, d])) :
    w.cell? ⟨g, n * 4, none⟩ = some a ∧ w.cell? ⟨g, n * 4 + 1, none⟩ = some b ∧ w.cell? ⟨g, n * 4 + 2, none⟩ = some c ∧ w.cell? ⟨g, n * 4 + 3, none⟩ = some d ∧
      w.frozen? ⟨g, n * 4, none⟩ = false ∧ w.frozen? ⟨g, n * 4 + 1, none⟩ = false ∧ w.frozen? ⟨g, n * 4 + 2, none⟩ = false ∧ w.frozen? ⟨g, n * 4 + 3, none⟩ = false := by
  have hl : xs.length = n * 4 := by
    have := h.1
    rw [List.length_append] at this
    simp at this
    omega
  refine ⟨(h.cellAt _ (by omega)).trans ?_, (h.cellAt _ (by omega)).trans ?_, (h.cellAt _ (by omega)).trans ?_, (h.cellAt _ (by omega)).trans ?_, h.frozenAt _, h.frozenAt _, h.frozenAt _, h.frozenAt _⟩
  · rw [List.getElem?_append_right (by omega), hl, Nat.sub_self]; rfl
  · rw [List.getElem?_append_right (by omega), hl, show n * 4 + 1 - n * 4 = 1 by omega]; rfl
  · rw [List.getElem?_append_right (by omega), hl, show n * 4 + 2 - n * 4 = 2 by omega]; rfl
  · rw [List.getElem?_append_right (by omega), hl, show n * 4 + 3 - n * 4 = 3 by omega]; rfl

theorem grown_trans4 {a b c : World} {row : Option Nat} (h1 : a.grownBy b row) (h2 : b.grownBy c row) : a.grownBy c row :=
  ⟨h2.os.trans h1.os, h2.tape.trans h1.tape, h2.output.trans h1.output, Nat.le_trans h1.size h2.size, fun k hk hne => (h2.block k (Nat.lt_of_lt_of_le hk h1.size) hne).trans (h1.block k hk hne)⟩
/-- four cells of a row are written -/
def set4 (w : World) (g o : Nat) (a b c d : Value) : World := (((w.setCell ⟨g, o, none⟩ a).setCell ⟨g, o + 1, none⟩ b).setCell ⟨g, o + 2, none⟩ c).setCell ⟨g, o + 3, none⟩ d
theorem set4_row {w : World} {N g n cap : Nat} {e : TypeId} {xs : List Value} {a b c d a' b' c' d' : Value} (h : w.ownsRow N e 4 (.slice (some ⟨g, 0, none⟩) (n + 1) cap) (n + 1) (xs ++ [a, b, c, d])) :
    (set4 w g (n * 4) a' b' c' d').ownsRow N e 4 (.slice (some ⟨g, 0, none⟩) (n + 1) cap) (n + 1) (xs ++ [a', b', c', d']) ∧ w.grownBy (set4 w g (n * 4) a' b' c' d') (some g) := by
  have hl : xs.length = n * 4 := by
    have := h.1
    rw [List.length_append] at this
    simp at this
    omega
  obtain ⟨h1, g1⟩ := h.stored (n * 4) a'
  obtain ⟨h2, g2⟩ := h1.stored (n * 4 + 1) b'
  obtain ⟨h3, g3⟩ := h2.stored (n * 4 + 2) c'
  obtain ⟨h4, g4⟩ := h3.stored (n * 4 + 3) d'
  refine ⟨?_, grown_trans4 (grown_trans4 (grown_trans4 g1 g2) g3) g4⟩
  have e : ((((xs ++ [a, b, c, d]).set (n * 4) a').set (n * 4 + 1) b').set (n * 4 + 2) c').set (n * 4 + 3) d' = xs ++ [a', b', c', d'] := by
    rw [← hl, List.set_append_right _ _ (by omega), List.set_append_right _ _ (by omega), List.set_append_right _ _ (by omega), List.set_append_right _ _ (by omega)]
    simp
  rw [e] at h4
  exact h4
/-- the builder's first cell is written -/
theorem blk_set0 {w : World} {bp : Nat} {a b c d e v : Value} {t : TypeId} (h : w.heap[bp]? = some (.cells #[a, b, c, d, e] t (0, 0))) : (w.setCell ⟨bp, 0, none⟩ v).heap[bp]? = some (.cells #[v, b, c, d, e] t (0, 0)) := by
  simp [World.setCell, Array.getElem?_modify, h]
section
variable {N : Nat} {w w1 w7 : World} {bp : Nat} {s : U.Bst} {ov pv tv : Value} {outl : List NV} {g cap : Nat} {x : NV} {a b c d : Value}
/-- the end of add: the node lies in the row, the row in the builder; whichever came first -/
theorem add_out_end (h : TBld N w bp s ov pv tv outl []) (hx : Done w (Free w bp (mine ov pv tv [])) x) (hb : Below w.heap.size w w1) (hg : w1.grownBy w7 ov.ownBlock)
    (ho : w7.ownsRow N 48 4 (.slice (some ⟨g, 0, none⟩) (outl.length + 1) cap) (outl.length + 1) (ndCells outl ++ [a, b, c, d])) (hat : ov.ownBlock = some g ∨ w.heap.size ≤ g) (hgb : g ≠ bp) (w9 : World)
    (h9 : w9 = (set4 w7 g (outl.length * 4) (.string ⟨x.1.name.toArray⟩) x.2.1 (.string ⟨x.1.text.toArray⟩) x.2.2).setCell ⟨bp, 0, none⟩ (.slice (some ⟨g, 0, none⟩) (outl.length + 1) cap) ∨ w9 = set4 (w7.setCell ⟨bp, 0, none⟩ (.slice (some ⟨g, 0, none⟩) (outl.length + 1) cap)) g (outl.length * 4) (.string ⟨x.1.name.toArray⟩) x.2.1 (.string ⟨x.1.text.toArray⟩) x.2.2) :
    Became N bp w (mine ov pv tv []) w9 (s.add x.1) := by
  have hlt := h.lt
  have hs1 := hb.size
  have hs7 := hg.size
  have hne := h.rows_ne ov (by simp [mine])
  have hb7 : w7.heap[bp]? = some (.cells #[ov, pv, tv, .int .i64 (s.cnt : Nat), .string ⟨s.hid.toArray⟩] 86 (0, 0)) := (hg.block bp (by omega) (fun e => hne e.symm)).trans ((hb.block _ hlt).trans h.blk)
  have hcell : ndCells (outl ++ [x]) = ndCells outl ++ [.string ⟨x.1.name.toArray⟩, x.2.1, .string ⟨x.1.text.toArray⟩, x.2.2] := by rw [ndCells_append]; rfl
  have key : w9.ownsRow N 48 4 (.slice (some ⟨g, 0, none⟩) (outl.length + 1) cap) (outl.length + 1) (ndCells (outl ++ [x])) ∧ w9.heap[bp]? = some (.cells #[.slice (some ⟨g, 0, none⟩) (outl.length + 1) cap, pv, tv, .int .i64 (s.cnt : Nat), .string ⟨s.hid.toArray⟩] 86 (0, 0)) ∧
      (∀ k, k < w7.heap.size → k ≠ bp → k ≠ g → w9.heap[k]? = w7.heap[k]?) ∧ w9.os = w7.os ∧ w9.tape = w7.tape ∧ w9.output = w7.output ∧ w7.heap.size ≤ w9.heap.size := by
    rw [hcell]
    rcases h9 with rfl | rfl
    · obtain ⟨r1, r2⟩ := set4_row (a' := .string ⟨x.1.name.toArray⟩) (b' := x.2.1) (c' := .string ⟨x.1.text.toArray⟩) (d' := x.2.2) ho
      refine ⟨own_of_block r1 (fun k hk => Below.heap_setCell _ _ _ _ (fun e => hgb (by rw [← (show k = bp from e)]; simpa [Value.ownBlock] using hk))), blk_set0 ((r2.block bp (by omega) (by simpa using fun e => hgb e.symm)).trans hb7), fun k hk h1 h2 => (Below.heap_setCell _ _ _ _ h1).trans (r2.block k hk (by simpa using h2)), r2.os, r2.tape, r2.output, ?_⟩
      simpa [World.setCell] using r2.size
    · have ho2 := own_of_block (w' := w7.setCell ⟨bp, 0, none⟩ (.slice (some ⟨g, 0, none⟩) (outl.length + 1) cap)) ho (fun k hk => Below.heap_setCell _ _ _ _ (fun e => hgb (by rw [← (show k = bp from e)]; simpa [Value.ownBlock] using hk)))
      obtain ⟨r1, r2⟩ := set4_row (a' := .string ⟨x.1.name.toArray⟩) (b' := x.2.1) (c' := .string ⟨x.1.text.toArray⟩) (d' := x.2.2) ho2
      refine ⟨r1, (r2.block bp (by simp [World.setCell]; omega) (by simpa using fun e => hgb e.symm)).trans (blk_set0 hb7), fun k hk h1 h2 => (r2.block k (by simp [World.setCell]; omega) (by simpa using h2)).trans (Below.heap_setCell _ _ _ _ h1), r2.os, r2.tape, r2.output, ?_⟩
      have := r2.size
      simpa [World.setCell] using this
  obtain ⟨k1, k2, k3, k4, k5, k6, k7⟩ := key
  refine ⟨_, _, _, _, _, h.add_out hx k1 (fun k hk h1 h2 => ?_) k2 hat (k4.trans (hg.os.trans hb.os)) (k5.trans (hg.tape.trans hb.tape)) (k6.trans (hg.output.trans hb.output)) (by omega)⟩
  have hkg : k ≠ g := by
    rintro rfl
    rcases hat with h5 | h5
    · exact h2 h5
    · omega
  exact (k3 k (by omega) h1 hkg).trans ((hg.block k (by omega) (fun e => h2 e.symm)).trans (hb.block k hk))
end

set_option maxHeartbeats 4000000 in
set_option maxRecDepth 1000000 in
theorem add_out (N : Nat) (w : World) (bp : Nat) (s : U.Bst) (ov pv tv : Value) (outl : List NV) (h : TBld N w bp s ov pv tv outl []) (x : NV) (hx : Done w (Free w bp (mine ov pv tv [])) x) (hs : outl.length ≤ 1048576) :
    Calls Tryz.prog 72 #[.pointer (some ⟨bp, 0, none⟩), .agg #[.string ⟨x.1.name.toArray⟩, x.2.1, .string ⟨x.1.text.toArray⟩, x.2.2]] w fun e w' => e = .returned (.tuple #[]) ∧ Became N bp w (mine ov pv tv []) w' (s.add x.1) := by
  obtain ⟨iT, hiT, hT0, hT1, hT2⟩ := info_parts infoNode
  obtain ⟨ao, cap, rfl⟩ := own_form h.out
  obtain ⟨po, pcap, rfl⟩ := own_form h.op
  obtain ⟨c0, c1, c2, c3, c4⟩ := h.cells
  obtain ⟨f0, f1, f2, f3, f4⟩ := h.unfrozen
  obtain ⟨⟨n, at_, tx, ps⟩, av, qv⟩ := x
  obtain ⟨aa, acap, ea⟩ : ∃ aa acap, av = .slice aa at_.length acap := by obtain ⟨a, b, e, _⟩ := hx.1; exact ⟨a, b, e⟩
  obtain ⟨qa, qcap, eq⟩ : ∃ qa qcap, qv = .slice qa ps.length qcap := by obtain ⟨a, b, e, _⟩ := hx.2; exact ⟨a, b, e⟩
  subst ea
  subst eq
  have hlt := h.lt
  have k0 := fun O => (cell_alloc_old w O ⟨bp, 0, none⟩ hlt).trans c0
  have k1 := fun O => (cell_alloc_old w O ⟨bp, 1, none⟩ hlt).trans c1
  go_enter Tryz.func72, Tryz.ntmps72
  go_wp2_with fail
  have hd := h.later (((Below.refl w.heap.size w).alloc (Nat.le_refl _) (.cells #[.string ⟨(U.Nd.mk n at_ tx ps).name.toArray⟩, .slice aa at_.length acap, .string ⟨(U.Nd.mk n at_ tx ps).text.toArray⟩, .slice qa ps.length qcap] 48 (0, 0))).trans (below_drewN (Below.refl w.heap.size _) 1))
  have hne := h.rows_ne (.slice ao outl.length cap) (by simp [mine])
  have hb7 : ∀ {O O' : Obj} {w7 : World}, ((w.alloc O).alloc O').drew.grownBy w7 (Value.slice ao outl.length cap).ownBlock → w7.cell? ⟨bp, 0, none⟩ = some (.slice ao outl.length cap) ∧ w7.frozen? ⟨bp, 0, none⟩ = false := fun {O O' w7} hg => by
    have hb : w7.heap[bp]? = w.heap[bp]? := (hg.block bp (by simp; omega) (fun e => hne e.symm)).trans ((Lib.alloc_old (w.alloc O) O' _ (by simp; omega)).trans (Lib.alloc_old w O _ hlt))
    exact ⟨(World.cell?_of_block hb).trans c0, (World.frozen?_of_block hb).trans f0⟩
  have hi : (outl.length : Int) < (outl.length : Int) + 1 := by omega
  go_region_law? (
        (refine step_append_lies _ (by rfl) _ _ _ (by rfl) N 48 iT _ 4 80 Tryz.underlying40 hiT hT0 hT1 hT2 rfl (by omega) (.slice ao outl.length cap) outl.length (ndCells outl) (by rfl) (hd.out.alloc _)
            ⟨w.heap.size + 1, 0, none⟩ 1 1 [.string ⟨#[]⟩, .slice none 0 0, .string ⟨#[]⟩, .slice none 0 0] (by rfl) (by rfl) (World.news_of_block (cs := #[.string ⟨#[]⟩, .slice none 0 0, .string ⟨#[]⟩, .slice none 0 0]) (t := 48) (fr := (0, 0)) (alloc2_new w _ _)) (by simp [Value.oneCell'])
            (by omega) (by unfold maxLen; omega) (by omega) (by have := h.base; simp; omega) (w.heap.size + 2) (by simp) ?_; intro gg cap7 w7 hown7 hgrow7 hat7 hlt7; obtain ⟨z0, z1, z2, z3, y0, y1, y2, y3⟩ := last_cells hown7; have hgb : gg ≠ bp := (by rintro rfl; rcases hat7 with h5 | h5; exact h.rows_ne _ (by simp [mine]) h5; omega); have hgb2 : bp ≠ gg := fun e => hgb e.symm; obtain ⟨q0, q1⟩ := hb7 hgrow7))
  all_goals
    have HE := Lib.hid (fun w9 h9 => add_out_end h hx (((Below.refl w.heap.size w).alloc (Nat.le_refl _) (.cells #[.string ⟨(U.Nd.mk n at_ tx ps).name.toArray⟩, .slice aa at_.length acap, .string ⟨(U.Nd.mk n at_ tx ps).text.toArray⟩, .slice qa ps.length qcap] 48 (0, 0))).alloc (by simp) (.cells #[.string ⟨#[]⟩, .slice none 0 0, .string ⟨#[]⟩, .slice none 0 0] 48 (0, 0))).drew hgrow7 hown7 (hat7.imp id (by omega)) hgb w9 h9)
    clear hown7 hgrow7 hat7 hlt7 hb7 hd q0 q1 z0 z1 z2 z3 y0 y1 y2 y3 hx
    go_wp2_with fail
    go_end0
    refine ⟨rfl, HE.out _ ?_⟩
    dsimp only [set4]
    first | (left; with_reducible rfl) | (right; with_reducible rfl)

end Go.Proofs.YtankcnikebcpkaaGreatDoor

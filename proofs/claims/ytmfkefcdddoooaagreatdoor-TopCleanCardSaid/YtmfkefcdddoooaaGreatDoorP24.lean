/- Several texts in one: BldSet, EndText, Close, BldPush. -/
import Derived.Test.YtmfkefcdddoooaaGreatDoorShelf
import Derived.Outline
import Derived.Deep.LoopGhost
import Derived.Test.YtmfkefcdddoooaaGreatDoorP23
import Derived.Test.YtmfkefcdddoooaaGreatDoorP11
namespace Go.Proofs.YtmfkefcdddoooaaGreatDoor
open Go.RowKit

theorem blk_set1 {w : World} {bp : Nat} {a b c d e v : Value} {t : TypeId} (h : w.heap[bp]? = some (.cells #[a, b, c, d, e] t (0, 0))) : (w.setCell ⟨bp, 1, none⟩ v).heap[bp]? = some (.cells #[a, v, c, d, e] t (0, 0)) := by
  simp [World.setCell, Array.getElem?_modify, h]
theorem blk_set2 {w : World} {bp : Nat} {a b c d e v : Value} {t : TypeId} (h : w.heap[bp]? = some (.cells #[a, b, c, d, e] t (0, 0))) : (w.setCell ⟨bp, 2, none⟩ v).heap[bp]? = some (.cells #[a, b, v, d, e] t (0, 0)) := by
  simp [World.setCell, Array.getElem?_modify, h]
theorem blk_set3 {w : World} {bp : Nat} {a b c d e v : Value} {t : TypeId} (h : w.heap[bp]? = some (.cells #[a, b, c, d, e] t (0, 0))) : (w.setCell ⟨bp, 3, none⟩ v).heap[bp]? = some (.cells #[a, b, c, v, e] t (0, 0)) := by
  simp [World.setCell, Array.getElem?_modify, h]
theorem blk_set4 {w : World} {bp : Nat} {a b c d e v : Value} {t : TypeId} (h : w.heap[bp]? = some (.cells #[a, b, c, d, e] t (0, 0))) : (w.setCell ⟨bp, 4, none⟩ v).heap[bp]? = some (.cells #[a, b, c, d, v] t (0, 0)) := by
  simp [World.setCell, Array.getElem?_modify, h]
section
variable {N : Nat} {w w' : World} {bp : Nat} {s : U.Bst} {ov pv tv : Value} {outl opl : List NV}
theorem Became.refl (h : TBld N w bp s ov pv tv outl opl) : Became N bp w (mine ov pv tv opl) w s := ⟨_, _, _, _, _, h, Fr.refl _ _ _⟩
/-- one cell of the builder's own is written: the rows stand as they stood, but for those that are let go -/
theorem TBld.cell_set (h : TBld N w bp s ov pv tv outl opl) (i : Nat) (v : Value) {M' : List Value} (hM : ∀ u ∈ M', u ∈ mine ov pv tv opl ∨ u.ownBlock = none) :
    Fr bp w (w.setCell ⟨bp, i, none⟩ v) (mine ov pv tv opl) M' ∧ ∀ u ∈ mine ov pv tv opl, ∀ {e : TypeId} {z n : Nat} {xs : List Value}, w.ownsRow N e z u n xs → (w.setCell ⟨bp, i, none⟩ v).ownsRow N e z u n xs := by
  refine ⟨Fr.self h rfl rfl rfl (by simp [World.setCell]) (fun k _ hk => Below.heap_setCell _ _ _ _ hk) hM, fun u hu {e z n xs} ho => own_of_block ho fun k hk => Below.heap_setCell _ _ _ _ (fun e0 => ?_)⟩
  have : k = bp := e0
  subst this
  exact h.rows_ne u hu hk
theorem TBld.set_cnt (h : TBld N w bp s ov pv tv outl opl) (c : Nat) : TBld N (w.setCell ⟨bp, 3, none⟩ (.int .i64 (c : Nat))) bp ⟨s.out, s.op, s.tx, c, s.hid⟩ ov pv tv outl opl ∧ Fr bp w (w.setCell ⟨bp, 3, none⟩ (.int .i64 (c : Nat))) (mine ov pv tv opl) (mine ov pv tv opl) := by
  obtain ⟨hf, hk⟩ := h.cell_set 3 (.int .i64 (c : Nat)) (M' := mine ov pv tv opl) (fun u hu => .inl hu)
  refine ⟨⟨h.base, blk_set3 h.blk, hk _ (by simp [mine]) h.out, hk _ (by simp [mine]) h.op, hk _ (by simp [mine]) h.tx, h.eout, h.eop, fun x hx => hf.done (h.dout x hx), fun x hx => ?_, h.apart⟩, hf⟩
  obtain ⟨a, pl, b, c, d⟩ := h.dop x hx
  exact ⟨hf.atts a, pl, hk _ (by simp only [mine, List.mem_cons]; exact .inr (.inr (.inr (List.mem_map.2 ⟨x, hx, rfl⟩)))) b, c, fun y hy => hf.done (d y hy)⟩
theorem TBld.set_hid (h : TBld N w bp s ov pv tv outl opl) (c : List UInt8) : TBld N (w.setCell ⟨bp, 4, none⟩ (.string ⟨c.toArray⟩)) bp ⟨s.out, s.op, s.tx, s.cnt, c⟩ ov pv tv outl opl ∧ Fr bp w (w.setCell ⟨bp, 4, none⟩ (.string ⟨c.toArray⟩)) (mine ov pv tv opl) (mine ov pv tv opl) := by
  obtain ⟨hf, hk⟩ := h.cell_set 4 (.string ⟨c.toArray⟩) (M' := mine ov pv tv opl) (fun u hu => .inl hu)
  refine ⟨⟨h.base, blk_set4 h.blk, hk _ (by simp [mine]) h.out, hk _ (by simp [mine]) h.op, hk _ (by simp [mine]) h.tx, h.eout, h.eop, fun x hx => hf.done (h.dout x hx), fun x hx => ?_, h.apart⟩, hf⟩
  obtain ⟨a, pl, b, c, d⟩ := h.dop x hx
  exact ⟨hf.atts a, pl, hk _ (by simp only [mine, List.mem_cons]; exact .inr (.inr (.inr (List.mem_map.2 ⟨x, hx, rfl⟩)))) b, c, fun y hy => hf.done (d y hy)⟩
theorem TBld.set_noText (h : TBld N w bp s ov pv tv outl opl) : TBld N (w.setCell ⟨bp, 2, none⟩ (.slice none 0 0)) bp s.noText ov pv (.slice none 0 0) outl opl ∧ Fr bp w (w.setCell ⟨bp, 2, none⟩ (.slice none 0 0)) (mine ov pv tv opl) (mine ov pv (.slice none 0 0) opl) := by
  obtain ⟨hf, hk⟩ := h.cell_set 2 (.slice none 0 0) (M' := mine ov pv (.slice none 0 0) opl) (fun u hu => by
    rcases List.mem_cons.1 hu with rfl | hu
    · exact .inr rfl
    · exact .inl (List.mem_cons_of_mem _ hu))
  refine ⟨⟨h.base, blk_set2 h.blk, hk _ (by simp [mine]) h.out, hk _ (by simp [mine]) h.op, World.ownsRow_nil _ _ _ _, h.eout, h.eop, fun x hx => hf.done (h.dout x hx), fun x hx => ?_, h.apart⟩, hf⟩
  obtain ⟨a, pl, b, c, d⟩ := h.dop x hx
  exact ⟨hf.atts a, pl, hk _ (by simp only [mine, List.mem_cons]; exact .inr (.inr (.inr (List.mem_map.2 ⟨x, hx, rfl⟩)))) b, c, fun y hy => hf.done (d y hy)⟩
theorem own_shorter {w : World} {N : Nat} {e : TypeId} {z g n m cap : Nat} {xs ys : List Value} (h : w.ownsRow N e z (.slice (some ⟨g, 0, none⟩) n cap) n (xs ++ ys)) (hx : xs.length = m * z) (hm : m ≤ n) : w.ownsRow N e z (.slice (some ⟨g, 0, none⟩) m cap) m xs := by
  refine ⟨hx, ?_⟩
  rcases h.2 with ⟨h', _⟩ | ⟨g', cap', cur, h', hb, hg, hnc, hcm, hcs, ht⟩
  · cases h'
  · simp only [Value.slice.injEq, Option.some.injEq, Addr.mk.injEq, and_true, true_and] at h'
    obtain ⟨rfl, rfl⟩ := h'
    refine .inr ⟨g, cap, cur, rfl, hb, hg, Nat.le_trans hm hnc, hcm, hcs, ?_⟩
    have : (xs ++ ys).take (m * z) = xs := by rw [← hx, List.take_left]
    rw [← this, ← ht, List.take_take]
    congr 1
    exact (Nat.min_eq_left (Nat.mul_le_mul_right _ hm)).symm
/-- the inmost open element is taken off: its parts are done -/
theorem TBld.take_off {ol : List NV} {n : U.Nd} {av qv : Value} {gp pcap : Nat} (h : TBld N w bp s ov (.slice (some ⟨gp, 0, none⟩) (ol.length + 1) pcap) tv outl (ol ++ [(n, av, qv)])) {r : List U.Nd} (hr : s.op = n :: r) :
    TBld N (w.setCell ⟨bp, 1, none⟩ (.slice (some ⟨gp, 0, none⟩) ol.length pcap)) bp (s.withOp r) ov (.slice (some ⟨gp, 0, none⟩) ol.length pcap) tv outl ol ∧
      Fr bp w (w.setCell ⟨bp, 1, none⟩ (.slice (some ⟨gp, 0, none⟩) ol.length pcap)) (mine ov (.slice (some ⟨gp, 0, none⟩) (ol.length + 1) pcap) tv (ol ++ [(n, av, qv)])) (mine ov (.slice (some ⟨gp, 0, none⟩) ol.length pcap) tv ol) ∧
      Done (w.setCell ⟨bp, 1, none⟩ (.slice (some ⟨gp, 0, none⟩) ol.length pcap)) (Free (w.setCell ⟨bp, 1, none⟩ (.slice (some ⟨gp, 0, none⟩) ol.length pcap)) bp (mine ov (.slice (some ⟨gp, 0, none⟩) ol.length pcap) tv ol)) (n, av, qv) := by
  have hap := h.apart
  rw [List.map_append] at hap
  obtain ⟨a1, a2⟩ := List.pairwise_cons.1 hap
  obtain ⟨a3, a4⟩ := List.pairwise_cons.1 a2
  obtain ⟨a5, _, a6⟩ := List.pairwise_append.1 a4
  obtain ⟨t1, t2, t3⟩ := h.tx_apart
  have hne := h.rows_ne
  have hlt := h.lt
  obtain ⟨q1, pl, q2, q3, q4⟩ := h.dop (n, av, qv) (by simp)
  have hqm : qv ∈ mine ov (.slice (some ⟨gp, 0, none⟩) (ol.length + 1) pcap) tv (ol ++ [(n, av, qv)]) := by simp [mine]
  obtain ⟨_, hk⟩ := h.cell_set 1 (.slice (some ⟨gp, 0, none⟩) ol.length pcap) (M' := []) (fun u hu => by cases hu)
  have hsub : ∀ u ∈ mine ov (.slice (some ⟨gp, 0, none⟩) ol.length pcap) tv ol, ∃ u2 ∈ mine ov (.slice (some ⟨gp, 0, none⟩) (ol.length + 1) pcap) tv (ol ++ [(n, av, qv)]), u2.ownBlock = u.ownBlock ∧ Apt u2 qv := fun u hu => by
    rcases List.mem_cons.1 hu with rfl | hu
    · exact ⟨u, by simp [mine], rfl, t3 (n, av, qv) (by simp)⟩
    rcases List.mem_cons.1 hu with rfl | hu
    · exact ⟨u, by simp [mine], rfl, a1 _ (by simp)⟩
    rcases List.mem_cons.1 hu with rfl | hu
    · exact ⟨.slice (some ⟨gp, 0, none⟩) (ol.length + 1) pcap, by simp only [mine, List.mem_cons]; exact .inr (.inr (.inl trivial)), rfl, a3 _ (by simp)⟩
    · exact ⟨u, by simp only [mine, List.map_append, List.mem_cons, List.mem_append]; exact .inr (.inr (.inr (.inl hu))), rfl, a6 _ hu _ (by simp)⟩
  have hf : Fr bp w (w.setCell ⟨bp, 1, none⟩ (.slice (some ⟨gp, 0, none⟩) ol.length pcap)) (mine ov (.slice (some ⟨gp, 0, none⟩) (ol.length + 1) pcap) tv (ol ++ [(n, av, qv)])) (mine ov (.slice (some ⟨gp, 0, none⟩) ol.length pcap) tv ol) := by
    refine ⟨rfl, rfl, rfl, by simp [World.setCell], fun k hk => ⟨Below.heap_setCell _ _ _ _ hk.2.1, by simpa [World.setCell] using hk.1, hk.2.1, fun u hu => ?_⟩⟩
    obtain ⟨u2, h1, h2, _⟩ := hsub u hu
    rw [← h2]
    exact hk.2.2 u2 h1
  have hfree : ∀ g, qv.ownBlock = some g → Free (w.setCell ⟨bp, 1, none⟩ (.slice (some ⟨gp, 0, none⟩) ol.length pcap)) bp (mine ov (.slice (some ⟨gp, 0, none⟩) ol.length pcap) tv ol) g := fun g hg => by
    refine ⟨by simpa [World.setCell] using (q2.lt g hg).2, fun e => hne qv hqm (by rw [hg, e]), fun u hu e => ?_⟩
    obtain ⟨u2, _, h2, h3⟩ := hsub u hu
    rcases h3 with h3 | h3
    · rw [h2, e] at h3; cases h3
    · exact h3 (h2.trans (e.trans hg.symm))
  have hop2 : (w.setCell ⟨bp, 1, none⟩ (.slice (some ⟨gp, 0, none⟩) ol.length pcap)).ownsRow N 46 4 (.slice (some ⟨gp, 0, none⟩) ol.length pcap) ol.length (ndCells ol) := by
    have h0 := hk _ (by simp [mine]) h.op
    rw [List.length_append, ndCells_append] at h0
    exact own_shorter h0 (ndCells_length ol) (Nat.le_succ _)
  refine ⟨⟨h.base, blk_set1 h.blk, hk _ (by simp [mine]) h.out, hop2, hk _ (by simp [mine]) h.tx, h.eout, ?_, fun x hx => hf.done (h.dout x hx), fun x hx => ?_, ?_⟩, hf, hf.atts q1, ?_⟩
  · have h0 := h.eop
    rw [List.map_append, hr, List.reverse_cons] at h0
    exact (List.append_inj' h0 rfl).1
  · obtain ⟨b1, ql, b2, b3, b4⟩ := h.dop x (List.mem_append_left _ hx)
    exact ⟨hf.atts b1, ql, hk _ (by simp only [mine, List.map_append, List.mem_cons, List.mem_append]; exact .inr (.inr (.inr (.inl (List.mem_map.2 ⟨x, hx, rfl⟩))))) b2, b3, fun y hy => hf.done (b4 y hy)⟩
  · refine List.pairwise_cons.2 ⟨fun b hb => ?_, List.pairwise_cons.2 ⟨fun b hb => a3 b (List.mem_append_left _ hb), a5⟩⟩
    rcases List.mem_cons.1 hb with rfl | hb
    · exact a1 (.slice (some ⟨gp, 0, none⟩) (ol.length + 1) pcap) (List.mem_cons_self ..)
    · exact a1 _ (List.mem_cons_of_mem _ (List.mem_append_left _ hb))
  · have := RdNs.of_own (S := Free (w.setCell ⟨bp, 1, none⟩ (.slice (some ⟨gp, 0, none⟩) ol.length pcap)) bp (mine ov (.slice (some ⟨gp, 0, none⟩) ol.length pcap) tv ol)) (hk _ hqm q2) (fun y hy => hf.done (q4 y hy)) hfree
    rwa [q3] at this
end
theorem Became.trans {N bp : Nat} {a b c : World} {M : List Value} {s s' : U.Bst} (h : Became N bp a M b s) (k : ∀ ov pv tv outl opl, TBld N b bp s ov pv tv outl opl → Became N bp b (mine ov pv tv opl) c s') : Became N bp a M c s' := by
  obtain ⟨ov, pv, tv, outl, opl, hB, hF⟩ := h
  obtain ⟨ov', pv', tv', outl', opl', hB', hF'⟩ := k _ _ _ _ _ hB
  exact ⟨ov', pv', tv', outl', opl', hB', hF.trans hF'⟩
theorem Became.later {N bp : Nat} {a b c : World} {M : List Value} {s : U.Bst} (h : Became N bp a M b s) (hb : Below b.heap.size b c) : Became N bp a M c s := h.trans fun _ _ _ _ _ hB => ⟨_, _, _, _, _, hB.later hb, Fr.later hb⟩

set_option maxRecDepth 100000 in
theorem add_walk (N : Nat) (w : World) (bp : Nat) (s : U.Bst) (ov pv tv : Value) (outl opl : List NV) (h : TBld N w bp s ov pv tv outl opl) (x : NV) (hx : Done w (Free w bp (mine ov pv tv opl)) x) (hb : s.bulk ≤ 1048576) :
    Calls Tryz.prog 74 #[.pointer (some ⟨bp, 0, none⟩), .agg #[.string ⟨x.1.name.toArray⟩, x.2.1, .string ⟨x.1.text.toArray⟩, x.2.2]] w fun e w' => e = .returned (.tuple #[]) ∧ Became N bp w (mine ov pv tv opl) w' (s.add x.1) := by
  have h1 := h.out_len
  have h2 := h.eop
  unfold U.Bst.bulk at hb
  rcases List.eq_nil_or_concat opl with rfl | ⟨ol, ⟨n0, av, qv⟩, rfl⟩
  · exact add_out N w bp s ov pv tv outl h x hx (by omega)
  · rw [List.concat_eq_append] at h h2 hx ⊢
    have e : s.op = n0 :: (ol.map (·.1)).reverse := by
      rw [List.map_append] at h2
      rw [← List.reverse_reverse s.op, ← h2]
      simp
    rw [e, List.map_cons, List.sum_cons] at hb
    have h3 : ol.length ≤ (((ol.map (·.1)).reverse).map fun a => a.parts.length + 1).sum := by
      clear h h1 h2 hx e hb
      have : ∀ l : List U.Nd, l.length ≤ (l.map fun a => a.parts.length + 1).sum := fun l => by
        induction l with
        | nil => exact Nat.zero_le _
        | cons a l ih => rw [List.map_cons, List.sum_cons, List.length_cons]; omega
      have := this (ol.map (·.1)).reverse
      simpa using this
    exact add_in N w bp s ov pv tv outl ol n0 av qv h x hx (by omega) (by omega)

end Go.Proofs.YtmfkefcdddoooaaGreatDoor

namespace Go.Proofs.YtmfkefcdddoooaaGreatDoor
open Go.RowKit

/-- the pieces of a text are not too many, none is too long -/
def TxOk (s : U.Bst) : Prop := s.tx.length ≤ 1024 ∧ ∀ t ∈ s.tx, t.length ≤ 1048576
theorem flat_le : ∀ (l : List (List UInt8)) (M : Nat), (∀ t ∈ l, t.length ≤ M) → l.flatten.length ≤ l.length * M
  | [], M, _ => Nat.zero_le _
  | a :: l, M, h => by
    rw [List.flatten_cons, List.length_append, List.length_cons, Nat.succ_mul]
    have h1 := h a (List.mem_cons_self ..)
    have h2 := flat_le l M fun t ht => h t (List.mem_cons_of_mem _ ht)
    omega
theorem TxOk.flat {s : U.Bst} (h : TxOk s) : s.tx.flatten.length ≤ 1073741824 := by
  have h1 := flat_le s.tx 1048576 h.2
  have h2 := h.1
  have h3 : s.tx.length * 1048576 ≤ 1024 * 1048576 := Nat.mul_le_mul_right _ h2
  omega
theorem join_flat : ∀ (l : List (List UInt8)), Lib.join l [] = l.flatten
  | [] => rfl
  | [a] => by simp [Lib.join]
  | a :: b :: l => by
    have := join_flat (b :: l)
    simp [Lib.join] at this ⊢
    exact this

set_option maxHeartbeats 4000000 in
set_option maxRecDepth 1000000 in
theorem end_text (N : Nat) (w : World) (bp : Nat) (s : U.Bst) (ov pv tv : Value) (outl opl : List NV) (h : TBld N w bp s ov pv tv outl opl) (hb : s.bulk ≤ 1048576) (ht : TxOk s) :
    Calls Tryz.prog 44 #[.pointer (some ⟨bp, 0, none⟩)] w fun e w' => e = .returned (.tuple #[]) ∧ Became N bp w (mine ov pv tv opl) w' s.endText := by
  obtain ⟨c0, c1, c2, c3, c4⟩ := h.cells
  by_cases he : s.tx = []
  · have htx := h.tx
    rw [he] at htx
    obtain ⟨to, tcap, rfl⟩ := own_form htx
    have e2 : s.endText = s := by unfold U.Bst.endText; rw [if_pos he]
    have E2 := Lib.hid e2
    clear e2 he htx
    go_enter Tryz.func44, Tryz.ntmps44
    go_wp2_with fail
    go_end0
    exact ⟨rfl, by rw [E2.out]; exact Became.refl h⟩
  · have hfl := ht.flat
    obtain ⟨to, tcap, e0, e1, e2, e3⟩ := own_cap h.tx
    have hpos : 0 < s.tx.length := List.length_pos_iff.2 he
    obtain ⟨g, rfl, hg⟩ : ∃ g, to = some ⟨g, 0, none⟩ ∧ tv.ownBlock = some g := by
      rcases e3 with e3 | e3
      · omega
      · exact e3
    subst e0
    have hgl := (h.tx.lt g hg).2
    have hcells : ∀ (j : Nat) (x : ByteArray), (s.tx.map fun t => (⟨t.toArray⟩ : ByteArray))[j]? = some x → w.cell? ⟨g, 0 + j, none⟩ = some (.string x) := fun j x hx => by
      have := h.tx.cells (g := g) rfl j (.string x) (by
        rw [List.getElem?_map] at hx ⊢
        cases hj : s.tx[j]? with
        | none => rw [hj] at hx; cases hx
        | some t => rw [hj] at hx; simp at hx; subst hx; rfl)
      rw [Nat.zero_add]
      have ea : (⟨g, 0, none⟩ : Addr).add j = ⟨g, j, none⟩ := by cases j <;> simp [Addr.add]
      rwa [ea] at this
    have hmap : (s.tx.map fun t => (⟨t.toArray⟩ : ByteArray)).map (·.data.toList) = s.tx := by
      rw [List.map_map]
      conv => rhs; rw [← List.map_id s.tx]
      rfl
    have hJ := Tryz.strings_Join g 0 tcap (s.tx.map fun t => (⟨t.toArray⟩ : ByteArray)) ⟨#[]⟩ w hcells hgl (by rw [List.length_map]; have := ht.1; omega) (by rw [List.length_map]; exact e1) (by rw [hmap]; show (Lib.join s.tx []).length ≤ _; rw [join_flat]; omega)
    rw [hmap, List.length_map] at hJ
    have hJ2 : Calls Tryz.prog 75 #[.slice (some ⟨g, 0, none⟩) s.tx.length tcap, .string ⟨#[]⟩] w fun e w' => e = .returned (.string ⟨s.tx.flatten.toArray⟩) ∧ Below w.heap.size w w' := by
      have ej : Lib.join s.tx (⟨#[]⟩ : ByteArray).data.toList = s.tx.flatten := join_flat s.tx
      rw [ej] at hJ
      exact hJ
    have HJ := Lib.hid hJ2
    have HS := Lib.hid (show s.endText = (s.add (.mk [] [] s.tx.flatten [])).noText by unfold U.Bst.endText; rw [if_neg he])
    have hp1 : (0 : Int) < (s.tx.length : Int) := by omega
    clear hJ hJ2 hmap hcells he e3 hg
    go_enter Tryz.func44, Tryz.ntmps44
    go_wp2_with fail
    refine HJ.out.mono ?_
    rintro e w1 ⟨rfl, hb1⟩
    have hB1 := h.later hb1
    have hx : Done w1 (Free w1 bp (mine ov pv (.slice (some ⟨g, 0, none⟩) s.tx.length tcap) opl)) ((.mk [] [] s.tx.flatten [], .slice none 0 0, .slice none 0 0) : NV) := ⟨RdAS.nil _ _, RdNs.nil _ _⟩
    have HA := Lib.hid (add_walk N w1 bp s ov pv _ outl opl hB1 (.mk [] [] s.tx.flatten [], .slice none 0 0, .slice none 0 0) hx hb)
    clear hx hB1
    go_wp2_with fail
    refine HA.out.mono ?_
    rintro e w2 ⟨rfl, hK⟩
    obtain ⟨ov2, pv2, tv2, outl2, opl2, hB2, hF2⟩ := hK
    obtain ⟨_, _, d2, _, _⟩ := hB2.cells
    obtain ⟨_, _, f2, _, _⟩ := hB2.unfrozen
    obtain ⟨hB3, hF3⟩ := hB2.set_noText
    have HE := Lib.hid (show Became N bp w (mine ov pv (.slice (some ⟨g, 0, none⟩) s.tx.length tcap) opl) (w2.setCell ⟨bp, 2, none⟩ (.slice none 0 0)) s.endText from by
      rw [HS.out]
      exact ⟨_, _, _, _, _, hB3, ((Fr.later hb1).trans hF2).trans hF3⟩)
    clear hB2 hF2 hB3 hF3 HS HJ
    go_wp2_with fail
    go_end0
    exact ⟨rfl, HE.out⟩

/-- where the inmost one with this name is -/
def lastI (name : List UInt8) (l : List U.Nd) : Int := (U.idx name l : Int) - 1

set_option maxHeartbeats 4000000 in
set_option maxRecDepth 1000000 in
theorem last_open (N : Nat) (w : World) (bp : Nat) (s : U.Bst) (ov pv tv : Value) (outl opl : List NV) (h : TBld N w bp s ov pv tv outl opl) (name : List UInt8) (hs : s.op.length ≤ 1048576) :
    Calls Tryz.prog 131 #[.pointer (some ⟨bp, 0, none⟩), .string ⟨name.toArray⟩] w fun e w' => e = .returned (.int .i64 (lastI name s.op)) ∧ w = w' := by
  obtain ⟨c0, c1, c2, c3, c4⟩ := h.cells
  have hol := h.op_len
  have heop := h.eop
  obtain ⟨po, pcap, rfl⟩ := own_form h.op
  have HN := Lib.hid h
  have HE := Lib.hid heop
  clear heop h c0 c2 c3 c4
  go_enter Tryz.func131, Tryz.ntmps131
  go_wp2_with fail
  go_loopw [5] (fun i wr => ∃ (pre r : List U.Nd), Hid (s.op = pre ++ r ∧ U.idx name s.op = U.idx name r) ∧ i = .int .i64 ((r.length : Int) - 1) ∧ wr = w ∧ r.length ≤ 1048576) (fun i _ => (intOf i + 1).toNat)
  case atStart => exact ⟨[], s.op, ⟨rfl, rfl⟩, rfl, rfl, hs⟩
  case round =>
    obtain ⟨pre, r, HR, rfl, rfl, hr⟩ := hrel
    cases r with
    | nil =>
      have HF := Lib.hid (show lastI name s.op = -1 by unfold lastI; rw [HR.out.2]; rfl)
      have n0 : ¬ (0 : Int) ≤ ((([] : List U.Nd).length : Int) - 1) := by simp
      have n1 : ((([] : List U.Nd).length : Int) - 1) = -1 := by simp
      rw [n1] at n0 ⊢
      go_wp2_with fail
      go_ret
      exact ⟨by rw [HF.out]; rfl, rfl⟩
    | cons a r =>
      have e1 : ((a :: r).length : Int) - 1 = (r.length : Int) := by simp
      have hr2 : r.length + 1 ≤ 1048576 := by simpa using hr
      have hx : ∃ x, opl[r.length]? = some x ∧ x.1 = a := by
        have h1 : (opl.map (·.1))[r.length]? = some a := by
          rw [HE.out, HR.out.1, List.reverse_append, List.reverse_cons, List.append_assoc, List.getElem?_append_right (by simp), List.length_reverse, Nat.sub_self]
          rfl
        rw [List.getElem?_map] at h1
        cases hx : opl[r.length]? with
        | none => rw [hx] at h1; cases h1
        | some x => rw [hx] at h1; exact ⟨x, rfl, by simpa using h1⟩
      obtain ⟨x, hx, rfl⟩ := hx
      obtain ⟨g, cap, e2, d0, _⟩ := row_nd HN.out.op hx
      injection e2 with e2 e3 e4
      subst e2
      have hlen : r.length < opl.length := (List.getElem?_eq_some_iff.1 hx).1
      have i0 : (0 : Int) ≤ (r.length : Int) := by omega
      have i1 : (r.length : Int) < (s.op.length : Int) := by omega
      rw [e1]
      clear e1 hx e3 e4
      by_cases hn : x.1.name = name
      · have HF := Lib.hid (show lastI name s.op = (r.length : Int) by unfold lastI; rw [HR.out.2, U.idx, if_pos hn]; omega)
        rw [hn] at d0
        clear hn
        go_wp2_with fail
        go_ret
        exact ⟨by rw [HF.out]; rfl, rfl⟩
      · have HF := Lib.hid (show s.op = (pre ++ [x.1]) ++ r ∧ U.idx name s.op = U.idx name r from ⟨by rw [HR.out.1]; simp, by rw [HR.out.2, U.idx, if_neg hn]⟩)
        have hb : (x.1.name == name) = false := by simpa using hn
        clear hn
        go_wp2_with fail
        go_roundw
        case rel => exact ⟨pre ++ [x.1], r, HF, by go_num, trivial, by omega⟩
        case measure => simp [intOf]

set_option maxHeartbeats 4000000 in
set_option maxRecDepth 1000000 in
theorem text_hidden (N : Nat) (w : World) (bp : Nat) (s : U.Bst) (ov pv tv : Value) (outl opl : List NV) (h : TBld N w bp s ov pv tv outl opl) (hs : s.op.length ≤ 1048576) :
    Calls Tryz.prog 108 #[.pointer (some ⟨bp, 0, none⟩)] w fun e w' => e = .returned (.bool s.muted) ∧ Below w.heap.size w w' := by
  obtain ⟨c0, c1, c2, c3, c4⟩ := h.cells
  have hol := h.op_len
  have heop := h.eop
  obtain ⟨po, pcap, rfl⟩ := own_form h.op
  cases hs2 : s.op with
  | nil =>
    have e0 : opl = [] := List.eq_nil_of_length_eq_zero (by rw [hol, hs2]; rfl)
    subst e0
    have HM := Lib.hid (show s.muted = false by unfold U.Bst.muted; rw [hs2])
    have c5 : w.cell? ⟨bp, 1, none⟩ = some (.slice po 0 pcap) := c1
    clear heop h c0 c1 c2 c3 c4 hs2 hol
    go_enter Tryz.func108, Tryz.ntmps108
    go_wp2_with fail
    go_quiet (fail)
    go_wp2_with fail
    go_ret
    exact ⟨by rw [HM.out]; rfl, below_drewN (Below.refl _ _) _⟩
  | cons a r =>
    have HM := Lib.hid (show s.muted = U.hides a.name by unfold U.Bst.muted; rw [hs2])
    have hx : ∃ x, opl[r.length]? = some x ∧ x.1 = a := by
      have h1 : (opl.map (·.1))[r.length]? = some a := by
        rw [heop, hs2, List.reverse_cons, List.getElem?_append_right (by simp), List.length_reverse, Nat.sub_self]
        rfl
      rw [List.getElem?_map] at h1
      cases hx : opl[r.length]? with
      | none => rw [hx] at h1; cases h1
      | some x => rw [hx] at h1; exact ⟨x, rfl, by simpa using h1⟩
    obtain ⟨x, hx, rfl⟩ := hx
    have hlen : opl.length = r.length + 1 := by rw [hol, hs2]; rfl
    obtain ⟨g, cap, e2, d0, _⟩ := row_nd h.op hx
    injection e2 with e2 e3 e4
    subst e2
    rw [hlen] at c1
    have i0 : (0 : Int) < (r.length : Int) + 1 := by omega
    have i1 : (r.length : Int) < (r.length : Int) + 1 := by omega
    have i2 : (r.length : Int) + 1 - 1 = (r.length : Int) := by omega
    have i3 : r.length ≤ 1048576 := by rw [hs2] at hs; simp at hs; omega
    have HH := Lib.hid (fun W => (hides_walk x.1.name W).mono fun _ _ ⟨a, b⟩ => (⟨a, b.symm⟩ : _ ∧ _))
    clear heop h c0 c2 c3 c4 hs2 hx e3 e4 hol hs hlen
    go_enter Tryz.func108, Tryz.ntmps108
    go_wp2_with fail
    go_quiet (exact Calls.quiet_of_same (HH.out _))
    go_wp2_with fail
    go_ret
    exact ⟨by rw [HM.out]; rfl, below_drewN (Below.refl _ _) _⟩

end Go.Proofs.YtmfkefcdddoooaaGreatDoor

namespace Go.Proofs.YtmfkefcdddoooaaGreatDoor
open Go.RowKit

theorem U.Bst.pop_tx (s : U.Bst) : s.pop.tx = [] := by
  unfold U.Bst.pop
  split
  · exact U.Bst.endText_tx s
  · rw [U.Bst.add_tx]; exact U.Bst.endText_tx s
theorem TxOk.of_nil {s : U.Bst} (h : s.tx = []) : TxOk s := ⟨by rw [h]; exact Nat.zero_le _, by rw [h]; exact fun t ht => by cases ht⟩

set_option maxHeartbeats 8000000 in
set_option maxRecDepth 1000000 in
theorem close_from (N : Nat) (w : World) (bp : Nat) (s : U.Bst) (ov pv tv : Value) (outl opl : List NV) (h : TBld N w bp s ov pv tv outl opl) (hb : s.bulk ≤ 1048576) (ht : TxOk s) (hop : s.op.length ≤ 1048576) (k : Nat) (hk : k ≤ s.op.length) :
    Calls Tryz.prog 43 #[.pointer (some ⟨bp, 0, none⟩), .int .i64 k] w fun e w' => e = .returned (.tuple #[]) ∧ Became N bp w (mine ov pv tv opl) w' (s.closeFrom k) := by
  have H0 := Became.refl h
  go_enter Tryz.func43, Tryz.ntmps43
  go_wp2_with fail
  go_loopg [] (s.op.length - k) (fun j wr => ∃ s2, Became N bp w (mine ov pv tv opl) wr s2 ∧ Hid (U.Bst.popN j s2 = s.closeFrom k ∧ s2.op.length = j + k ∧ s2.bulk ≤ 1048576 ∧ TxOk s2 ∧ j + k ≤ 1048576))
  case atStart => exact ⟨s, H0, rfl, by omega, hb, ht, by omega⟩
  case round =>
    obtain ⟨s2, HB, HR⟩ := hrel
    obtain ⟨ov1, pv1, tv1, outl1, opl1, hB, hF⟩ := HB
    obtain ⟨r1, r2, r3, r4, hj⟩ := HR.out
    obtain ⟨c0, c1, c2, c3, c4⟩ := hB.cells
    have hol := hB.op_len
    rw [r2] at hol
    obtain ⟨po, pcap, rfl⟩ := own_form hB.op
    rw [hol] at c1
    cases gk with
    | zero =>
      have HE := Lib.hid (show Became N bp w (mine ov pv tv opl) wr (s.closeFrom k) from by rw [← r1]; exact ⟨_, _, _, _, _, hB, hF⟩)
      have n0 : ¬ (k : Int) < ((0 + k : Nat) : Int) := by omega
      clear r1 r2 r3 r4 hB hF HR hol c0 c2 c3 c4
      go_wp2_with fail
      go_end0
      exact ⟨rfl, HE.out⟩
    | succ j =>
      have n0 : (k : Int) < ((j + 1 + k : Nat) : Int) := by omega
      have HT := Lib.hid (end_text N wr bp s2 ov1 _ tv1 outl1 opl1 hB r3 r4)
      clear c0 c2 c3 c4
      go_wp2_with fail
      refine HT.out.mono ?_
      rintro e w1 ⟨rfl, hK⟩
      obtain ⟨ov2, pv2, tv2, outl2, opl2, hB2, hF2⟩ := hK
      have hol2 := hB2.op_len
      have heop2 := hB2.eop
      have r5 := U.Bst.endText_op s2
      obtain ⟨a, r, hr⟩ : ∃ a r, s2.endText.op = a :: r := by
        cases hs : s2.endText.op with
        | nil => rw [hs] at r5; simp at r5; omega
        | cons a r => exact ⟨a, r, rfl⟩
      have hrl : r.length = j + k := by rw [hr] at r5; simp at r5; omega
      rcases List.eq_nil_or_concat opl2 with rfl | ⟨ol, ⟨n, av, qv⟩, rfl⟩
      · rw [hr] at hol2; simp at hol2
      rw [List.concat_eq_append] at hB2 hF2 heop2 hol2
      rw [List.length_append, hr] at hol2
      have hoj : ol.length = j + k := by simp at hol2; omega
      have hn : n = a := by
        rw [List.map_append, hr, List.reverse_cons] at heop2
        have := List.append_inj_right' heop2 rfl
        simpa using this
      subst hn
      obtain ⟨gp, pcap2, epv, q0, q1, q2, q3⟩ := row_nd hB2.op (i := ol.length) (x := (n, av, qv)) (by simp)
      rw [List.length_append] at epv
      have epv2 : pv2 = .slice (some ⟨gp, 0, none⟩) (ol.length + 1) pcap2 := epv
      subst epv2
      have hd2 := hB2.dop (n, av, qv) (by simp)
      obtain ⟨aa, acap, ea⟩ : ∃ aa acap, av = .slice aa n.attrs.length acap := by obtain ⟨a, b, e, _⟩ := hd2.1; exact ⟨a, b, e⟩
      obtain ⟨qa, ql, qcap, eq⟩ : ∃ qa ql qcap, qv = .slice qa ql qcap := by obtain ⟨_, pl, h1, _⟩ := hd2; obtain ⟨a, b, e⟩ := own_form h1; exact ⟨a, _, b, e⟩
      subst ea
      subst eq
      have hcap : ol.length + 1 ≤ pcap2 := by
        obtain ⟨ao, cap, e, h1, _⟩ := own_cap hB2.op
        rw [List.length_append] at e h1
        injection e with _ _ e
        subst e
        exact h1
      obtain ⟨_, d1, _, _, _⟩ := hB2.cells
      obtain ⟨_, f1, _, _, _⟩ := hB2.unfrozen
      have hlt2 := hB2.lt
      have hgp := (hB2.op.lt gp rfl).2
      obtain ⟨hB3, hF3, hD3⟩ := hB2.take_off hr
      have hbl := fun O => (Below.refl (w1.setCell ⟨bp, 1, none⟩ (.slice (some ⟨gp, 0, none⟩) ol.length pcap2)).heap.size (w1.setCell ⟨bp, 1, none⟩ (.slice (some ⟨gp, 0, none⟩) ol.length pcap2))).alloc (Nat.le_refl _) O
      have hbk : (s2.endText.withOp r).bulk ≤ 1048576 := by
        have h1 := U.Bst.endText_bulk s2
        have h2 : s2.endText.bulk = s2.endText.out.length + (s2.endText.op.map fun a => a.parts.length + 1).sum + (if s2.endText.tx = [] then 0 else 1) := rfl
        rw [hr, List.map_cons, List.sum_cons] at h2
        have h3 : (s2.endText.withOp r).bulk = s2.endText.out.length + (r.map fun a => a.parts.length + 1).sum + (if s2.endText.tx = [] then 0 else 1) := rfl
        omega
      have hA := fun O => add_walk N _ bp _ _ _ _ _ _ (hB3.later (hbl O)) _ ((Fr.later (hbl O)).done hD3) hbk
      have hZ : ∀ O w9, Became N bp ((w1.setCell ⟨bp, 1, none⟩ (.slice (some ⟨gp, 0, none⟩) ol.length pcap2)).alloc O) (mine ov2 (.slice (some ⟨gp, 0, none⟩) ol.length pcap2) tv2 ol) w9 ((s2.endText.withOp r).add n) → Became N bp w (mine ov pv tv opl) w9 s2.pop := fun O w9 hK => by
        rw [U.Bst.pop_of hr]
        obtain ⟨ov9, pv9, tv9, outl9, opl9, hB9, hF9⟩ := hK
        exact ⟨_, _, _, _, _, hB9, (((hF.trans hF2).trans hF3).trans (Fr.later (hbl O))).trans hF9⟩
      have HS := Lib.hid (show U.Bst.popN j s2.pop = s.closeFrom k ∧ s2.pop.op.length = j + k ∧ s2.pop.bulk ≤ 1048576 ∧ TxOk s2.pop ∧ j + k ≤ 1048576 from ⟨r1, by rw [U.Bst.pop_op]; omega, Nat.le_trans (U.Bst.pop_bulk s2) r3, TxOk.of_nil (U.Bst.pop_tx s2), by omega⟩)
      rw [hoj] at hA hZ
      have HA := Lib.hid hA
      have HZ := Lib.hid hZ
      clear hA hZ hB3 hF3 hD3 hbl hbk
      rw [hoj] at q0 q1 q2 q3 d1
      have k1 := fun O => (cell_alloc_old w1 O ⟨bp, 1, none⟩ hlt2).trans d1
      have u0 : (0 : Int) ≤ ((j + k : Nat) : Int) := by omega
      have u1 : ((j + k : Nat) : Int) < ((j + k + 1 : Nat) : Int) := by omega
      have u2 : ((j + k + 1 : Nat) : Int) - 1 = ((j + k : Nat) : Int) := by omega
      clear hB2 hF2 hd2 hB hF HR HT r1 r2 r3 r4 hr hrl heop2 hol2 hol
      have u3 : (j : Int) + (k : Int) ≤ (pcap2 : Int) := by omega
      go_wp2_with fail
      refine (HA.out _).mono ?_
      rintro e w9 ⟨rfl, hK⟩
      have HK := Lib.hid (HZ.out _ _ hK)
      clear hK
      go_wp2_with fail
      go_roundg j
      case measure => omega
      case rel => exact ⟨s2.pop, HK.out, HS⟩

set_option maxHeartbeats 8000000 in
set_option maxRecDepth 1000000 in
theorem close_last (N : Nat) (w : World) (bp : Nat) (s : U.Bst) (ov pv tv : Value) (outl opl : List NV) (h : TBld N w bp s ov pv tv outl opl) (hb : s.bulk ≤ 1048576) (ht : TxOk s) (hop : s.op.length ≤ 1048576) (name : List UInt8) :
    Calls Tryz.prog 107 #[.pointer (some ⟨bp, 0, none⟩), .string ⟨name.toArray⟩] w fun e w' => e = .returned (.tuple #[]) ∧ Became N bp w (mine ov pv tv opl) w' (s.closeLast name) := by
  have HL := Lib.hid (last_open N w bp s ov pv tv outl opl h name hop)
  by_cases hi : U.idx name s.op = 0
  · have hl : lastI name s.op = -1 := by unfold lastI; rw [hi]; rfl
    have HE := Lib.hid (show Became N bp w (mine ov pv tv opl) w (s.closeLast name) by unfold U.Bst.closeLast; rw [if_pos hi]; exact Became.refl h)
    rw [hl] at HL
    clear hi hl
    go_enter Tryz.func107, Tryz.ntmps107
    go_wp2_with fail
    refine HL.out.mono ?_
    rintro e w1 ⟨rfl, rfl⟩
    go_wp2_with fail
    go_end0
    exact ⟨rfl, HE.out⟩
  · obtain ⟨i, hii⟩ : ∃ i, U.idx name s.op = i + 1 := ⟨U.idx name s.op - 1, by omega⟩
    have hle := U.idx_le name s.op
    have hl : lastI name s.op = (i : Int) := by unfold lastI; rw [hii]; omega
    have HC := Lib.hid (close_from N w bp s ov pv tv outl opl h hb ht hop i (by omega))
    have HS := Lib.hid (show s.closeLast name = s.closeFrom i by unfold U.Bst.closeLast; rw [if_neg hi, hii]; rfl)
    rw [hl] at HL
    have i0 : (0 : Int) ≤ (i : Int) := by omega
    clear hi hl hii hle
    go_enter Tryz.func107, Tryz.ntmps107
    go_wp2_with fail
    refine HL.out.mono ?_
    rintro e w1 ⟨rfl, rfl⟩
    go_wp2_with fail
    refine HC.out.mono ?_
    rintro e w2 ⟨rfl, hK⟩
    rw [← HS.out] at hK
    have HK := Lib.hid hK
    clear hK
    go_wp2_with fail
    go_end0
    exact ⟨rfl, HK.out⟩

theorem TxOk.closeLast {s : U.Bst} (h : TxOk s) (name : List UInt8) : TxOk (s.closeLast name) := by
  unfold U.Bst.closeLast
  split
  · exact h
  · unfold U.Bst.closeFrom
    cases s.op.length - (U.idx name s.op - 1) with
    | zero => exact h
    | succ n => rw [U.Bst.popN_succ]; exact TxOk.of_nil (U.Bst.pop_tx _)

set_option maxHeartbeats 8000000 in
set_option maxRecDepth 1000000 in
theorem close_before (N : Nat) (w : World) (bp : Nat) (s : U.Bst) (ov pv tv : Value) (outl opl : List NV) (h : TBld N w bp s ov pv tv outl opl) (hb : s.bulk ≤ 1048576) (ht : TxOk s) (hop : s.op.length ≤ 1048576) (name : List UInt8) :
    Calls Tryz.prog 104 #[.pointer (some ⟨bp, 0, none⟩), .string ⟨name.toArray⟩] w fun e w' => e = .returned (.tuple #[]) ∧ Became N bp w (mine ov pv tv opl) w' (s.closeBefore name) := by
  have HP := Lib.hid (par_walk name w)
  cases hp : U.endsPar name with
  | false =>
    have hli : name ≠ [108, 105] := by rintro rfl; exact absurd hp (by decide)
    have hbe : (name == [108, 105]) = false := by simpa using hli
    have HE := Lib.hid (show Became N bp w (mine ov pv tv opl) w (s.closeBefore name) by
      unfold U.Bst.closeBefore
      rw [if_neg (fun e => hli e.1)]
      unfold U.Bst.closePar
      rw [if_neg (by rw [hp]; decide)]
      exact Became.refl h)
    rw [hp] at HP
    clear hp hli
    go_enter Tryz.func104, Tryz.ntmps104
    go_wp2_with fail
    refine HP.out.mono ?_
    rintro e w1 ⟨rfl, rfl⟩
    go_wp2_with fail
    go_end0
    exact ⟨rfl, HE.out⟩
  | true =>
    have HL := Lib.hid (close_last N w bp s ov pv tv outl opl h hb ht hop [112])
    have hcp : s.closePar name = s.closeLast [112] := by unfold U.Bst.closePar; rw [if_pos hp]
    have b1 := (U.Bst.closeLast_le s [112]).1
    have b4 := (U.Bst.closeLast_le s [112]).2.2.2
    have t1 := ht.closeLast [112]
    rw [hp] at HP
    clear hp
    by_cases hli : name = [108, 105]
    · subst hli
      go_enter Tryz.func104, Tryz.ntmps104
      go_wp2_with fail
      refine HP.out.mono ?_
      rintro e w1 ⟨rfl, rfl⟩
      go_wp2_with fail
      refine HL.out.mono ?_
      rintro e w2 ⟨rfl, hK⟩
      obtain ⟨ov2, pv2, tv2, outl2, opl2, hB2, hF2⟩ := hK
      have HO := Lib.hid (fun nm => last_open N w2 bp _ ov2 pv2 tv2 outl2 opl2 hB2 nm (by omega))
      have HC := Lib.hid (close_last N w2 bp _ ov2 pv2 tv2 outl2 opl2 hB2 (by omega) t1 (by omega) [108, 105])
      have HY := Lib.hid (show max (lastI [117, 108] (s.closeLast [112]).op) (lastI [111, 108] (s.closeLast [112]).op) < lastI [108, 105] (s.closeLast [112]).op → s.closeBefore [108, 105] = (s.closeLast [112]).closeLast [108, 105] from fun hz => by
        unfold lastI at hz
        unfold U.Bst.closeBefore
        rw [hcp, if_pos ⟨rfl, by omega⟩])
      have HN := Lib.hid (show ¬ max (lastI [117, 108] (s.closeLast [112]).op) (lastI [111, 108] (s.closeLast [112]).op) < lastI [108, 105] (s.closeLast [112]).op → Became N bp w (mine ov pv tv opl) w2 (s.closeBefore [108, 105]) from fun hz => by
        unfold lastI at hz
        unfold U.Bst.closeBefore
        rw [hcp, if_neg (fun e => hz (by have := e.2; omega))]
        exact ⟨_, _, _, _, _, hB2, hF2⟩)
      have HF := Lib.hid hF2
      clear hB2 hF2 hcp h b1 b4 hop hb ht t1
      go_wp2_with fail
      refine (HO.out _).mono ?_
      rintro e w3 ⟨rfl, rfl⟩
      go_wp2_with fail
      refine (HO.out _).mono ?_
      rintro e w3 ⟨rfl, rfl⟩
      go_wp2_with fail
      refine (HO.out _).mono ?_
      rintro e w3 ⟨rfl, rfl⟩
      go_wp2_with fail
      · have HS := Lib.hid (HY.out (by omega))
        refine HC.out.mono ?_
        rintro e w4 ⟨rfl, hK⟩
        obtain ⟨ov9, pv9, tv9, outl9, opl9, hB9, hF9⟩ := hK
        have HK := Lib.hid (show Became N bp w (mine ov pv tv opl) w4 (s.closeBefore [108, 105]) by rw [HS.out]; exact ⟨_, _, _, _, _, hB9, HF.out.trans hF9⟩)
        clear hB9 hF9
        go_wp2_with fail
        go_end0
        exact ⟨rfl, HK.out⟩
      · go_end0
        exact ⟨rfl, HN.out (by omega)⟩
    · have hbe : (name == [108, 105]) = false := by simpa using hli
      have HS := Lib.hid (show s.closeBefore name = s.closeLast [112] by
        unfold U.Bst.closeBefore
        rw [if_neg (fun e => hli e.1), hcp])
      clear hli hcp b1 b4 t1
      go_enter Tryz.func104, Tryz.ntmps104
      go_wp2_with fail
      refine HP.out.mono ?_
      rintro e w1 ⟨rfl, rfl⟩
      go_wp2_with fail
      refine HL.out.mono ?_
      rintro e w2 ⟨rfl, hK⟩
      rw [← HS.out] at hK
      have HK := Lib.hid hK
      clear hK
      go_wp2_with fail
      go_end0
      exact ⟨rfl, HK.out⟩

end Go.Proofs.YtmfkefcdddoooaaGreatDoor

namespace Go.Proofs.YtmfkefcdddoooaaGreatDoor
open Go.RowKit

section
variable {N : Nat} {w w' : World} {bp : Nat} {s : U.Bst} {ov pv tv : Value} {outl opl : List NV}
/-- a block made since then is no row's -/
theorem TBld.fresh (h : TBld N w bp s ov pv tv outl opl) {k : Nat} (hk : w.heap.size ≤ k) (hl : k < w'.heap.size) : Free w' bp (mine ov pv tv opl) k := by
  have h1 := h.lt
  refine ⟨hl, by omega, fun v hv e => ?_⟩
  have := (h.mine_base v hv k e).2
  omega
theorem TBld.push (h : TBld N w bp s ov pv tv outl opl) {n : U.Nd} {av : Value} (hx : RdAS w (Free w bp (mine ov pv tv opl)) av n.attrs) (hp : n.parts = []) {g cap : Nat}
    (h1 : w'.ownsRow N 46 4 (.slice (some ⟨g, 0, none⟩) (opl.length + 1) cap) (opl.length + 1) (ndCells (opl ++ [(n, av, .slice none 0 0)])))
    (h2 : ∀ k, k < w.heap.size → k ≠ bp → pv.ownBlock ≠ some k → w'.heap[k]? = w.heap[k]?)
    (h3 : w'.heap[bp]? = some (.cells #[ov, .slice (some ⟨g, 0, none⟩) (opl.length + 1) cap, tv, .int .i64 (s.cnt : Nat), .string ⟨s.hid.toArray⟩] 78 (0, 0)))
    (h4 : pv.ownBlock = some g ∨ w.heap.size ≤ g) (hos : w'.os = w.os) (htape : w'.tape = w.tape) (hout : w'.output = w.output) (hsz : w.heap.size ≤ w'.heap.size) :
    TBld N w' bp (s.withOp (n :: s.op)) ov (.slice (some ⟨g, 0, none⟩) (opl.length + 1) cap) tv outl (opl ++ [(n, av, .slice none 0 0)]) ∧ Fr bp w w' (mine ov pv tv opl) (mine ov (.slice (some ⟨g, 0, none⟩) (opl.length + 1) cap) tv (opl ++ [(n, av, .slice none 0 0)])) := by
  have hat : ∀ k, k < w.heap.size → pv.ownBlock ≠ some k → g ≠ k := fun k hk hne e => by
    subst e
    rcases h4 with h4 | h4
    · exact hne h4
    · omega
  have hpm : pv ∈ mine ov pv tv opl := by simp [mine]
  have hfr : Fr bp w w' (mine ov pv tv opl) (mine ov (.slice (some ⟨g, 0, none⟩) (opl.length + 1) cap) tv (opl ++ [(n, av, .slice none 0 0)])) := by
    refine ⟨hos, htape, hout, hsz, fun k hk => ?_⟩
    have ho := hk.2.2 pv hpm
    refine ⟨h2 k hk.1 hk.2.1 ho, Nat.lt_of_lt_of_le hk.1 hsz, hk.2.1, fun v hv => ?_⟩
    simp only [mine, List.map_append, List.map_cons, List.map_nil, List.mem_cons, List.mem_append, List.not_mem_nil, or_false] at hv
    rcases hv with rfl | rfl | rfl | hv | rfl
    · exact hk.2.2 _ (by simp [mine])
    · exact hk.2.2 _ (by simp [mine])
    · intro e; exact hat k hk.1 ho (by simpa [Value.ownBlock] using e)
    · exact hk.2.2 _ (by simp only [mine, List.mem_cons]; exact .inr (.inr (.inr hv)))
    · intro e; cases e
  have hne := h.rows_ne
  obtain ⟨t1, t2, t3⟩ := h.tx_apart
  obtain ⟨a1, a2⟩ := List.pairwise_cons.1 h.apart
  obtain ⟨a3, a4⟩ := List.pairwise_cons.1 a2
  have hkeep : ∀ v, v ∈ mine ov pv tv opl → Apt v pv → ∀ k, v.ownBlock = some k → w'.heap[k]? = w.heap[k]? := fun v hv ha k hk => by
    refine h2 k (h.mine_base v hv k hk).2 (fun e => hne v hv (by rw [hk, e])) (fun e => ?_)
    rcases ha with ha | ha
    · rw [hk] at ha; cases ha
    · exact ha (hk.trans e.symm)
  have hmo : ∀ y ∈ opl, y.2.2 ∈ mine ov pv tv opl := fun y hy => by
    simp only [mine, List.mem_cons]
    exact .inr (.inr (.inr (List.mem_map.2 ⟨y, hy, rfl⟩)))
  have hnew : ∀ v, v ∈ mine ov pv tv opl → Apt v pv → Apt v (.slice (some ⟨g, 0, none⟩) (opl.length + 1) cap) := fun v hv ha => by
    cases hvb : v.ownBlock with
    | none => exact .inl hvb
    | some k =>
      right
      rw [hvb]
      intro e
      refine hat k (h.mine_base v hv k hvb).2 (fun e2 => ?_) (by simpa [Value.ownBlock] using e.symm)
      rcases ha with ha | ha
      · rw [hvb] at ha; cases ha
      · exact ha (hvb.trans e2.symm)
  refine ⟨⟨h.base, h3, own_of_block h.out (hkeep ov (by simp [mine]) (a1 _ (by simp))), ?_, own_of_block h.tx (hkeep tv (by simp [mine]) t2), h.eout, ?_, fun y hy => hfr.done (h.dout y hy), ?_, ?_⟩, hfr⟩
  · rw [List.length_append]; exact h1
  · rw [List.map_append, h.eop]
    show s.op.reverse ++ [n] = (n :: s.op).reverse
    rw [List.reverse_cons]
  · intro y hy
    rcases List.mem_append.1 hy with hy | hy
    · obtain ⟨b1, ql, b2, b3, b4⟩ := h.dop y hy
      exact ⟨hfr.atts b1, ql, own_of_block b2 (hkeep _ (hmo y hy) (a3 _ (List.mem_map.2 ⟨y, hy, rfl⟩)).symm), b3, fun z hz => hfr.done (b4 z hz)⟩
    · obtain rfl := List.mem_singleton.1 hy
      exact ⟨hfr.atts hx, [], World.ownsRow_nil _ _ _ _, hp.symm, fun z hz => by cases hz⟩
  · rw [List.map_append]
    refine List.pairwise_cons.2 ⟨fun b hb => ?_, List.pairwise_cons.2 ⟨fun b hb => ?_, List.pairwise_append.2 ⟨a4, by simp, fun a ha b hb => ?_⟩⟩⟩
    · rcases List.mem_cons.1 hb with rfl | hb
      · exact hnew ov (by simp [mine]) (a1 _ (by simp))
      rcases List.mem_append.1 hb with hb | hb
      · exact a1 _ (List.mem_cons_of_mem _ hb)
      · obtain rfl := List.mem_singleton.1 hb
        exact Apt.symm (.inl rfl)
    · rcases List.mem_append.1 hb with hb | hb
      · obtain ⟨y, hy, rfl⟩ := List.mem_map.1 hb
        exact (hnew _ (hmo y hy) (a3 _ (List.mem_map.2 ⟨y, hy, rfl⟩)).symm).symm
      · obtain rfl := List.mem_singleton.1 hb
        exact Apt.symm (.inl rfl)
    · obtain rfl := List.mem_singleton.1 hb
      exact Apt.symm (.inl rfl)
theorem push_end {w1 w7 : World} {g cap : Nat} {n : U.Nd} {av a b c d : Value} (h : TBld N w bp s ov pv tv outl opl) (hx : RdAS w (Free w bp (mine ov pv tv opl)) av n.attrs) (hp : n.parts = []) (hb : Below w.heap.size w w1) (hg : w1.grownBy w7 pv.ownBlock)
    (ho : w7.ownsRow N 46 4 (.slice (some ⟨g, 0, none⟩) (opl.length + 1) cap) (opl.length + 1) (ndCells opl ++ [a, b, c, d])) (hat : pv.ownBlock = some g ∨ w.heap.size ≤ g) (hgb : g ≠ bp) (w9 : World)
    (h9 : w9 = (set4 w7 g (opl.length * 4) (.string ⟨n.name.toArray⟩) av (.string ⟨n.text.toArray⟩) (.slice none 0 0)).setCell ⟨bp, 1, none⟩ (.slice (some ⟨g, 0, none⟩) (opl.length + 1) cap) ∨ w9 = set4 (w7.setCell ⟨bp, 1, none⟩ (.slice (some ⟨g, 0, none⟩) (opl.length + 1) cap)) g (opl.length * 4) (.string ⟨n.name.toArray⟩) av (.string ⟨n.text.toArray⟩) (.slice none 0 0)) :
    Became N bp w (mine ov pv tv opl) w9 (s.withOp (n :: s.op)) := by
  have hlt := h.lt
  have hs1 := hb.size
  have hs7 := hg.size
  have hne := h.rows_ne pv (by simp [mine])
  have hb7 : w7.heap[bp]? = some (.cells #[ov, pv, tv, .int .i64 (s.cnt : Nat), .string ⟨s.hid.toArray⟩] 78 (0, 0)) := (hg.block bp (by omega) (fun e => hne e.symm)).trans ((hb.block _ hlt).trans h.blk)
  have hcell : ndCells (opl ++ [(n, av, .slice none 0 0)]) = ndCells opl ++ [.string ⟨n.name.toArray⟩, av, .string ⟨n.text.toArray⟩, .slice none 0 0] := by rw [ndCells_append]; rfl
  have key : w9.ownsRow N 46 4 (.slice (some ⟨g, 0, none⟩) (opl.length + 1) cap) (opl.length + 1) (ndCells (opl ++ [(n, av, .slice none 0 0)])) ∧ w9.heap[bp]? = some (.cells #[ov, .slice (some ⟨g, 0, none⟩) (opl.length + 1) cap, tv, .int .i64 (s.cnt : Nat), .string ⟨s.hid.toArray⟩] 78 (0, 0)) ∧
      (∀ k, k < w7.heap.size → k ≠ bp → k ≠ g → w9.heap[k]? = w7.heap[k]?) ∧ w9.os = w7.os ∧ w9.tape = w7.tape ∧ w9.output = w7.output ∧ w7.heap.size ≤ w9.heap.size := by
    rw [hcell]
    rcases h9 with rfl | rfl
    · obtain ⟨r1, r2⟩ := set4_row (a' := .string ⟨n.name.toArray⟩) (b' := av) (c' := .string ⟨n.text.toArray⟩) (d' := .slice none 0 0) ho
      refine ⟨own_of_block r1 (fun k hk => Below.heap_setCell _ _ _ _ (fun e => hgb (by rw [← (show k = bp from e)]; simpa [Value.ownBlock] using hk))), blk_set1 ((r2.block bp (by omega) (by simpa using fun e => hgb e.symm)).trans hb7), fun k hk h1 h2 => (Below.heap_setCell _ _ _ _ h1).trans (r2.block k hk (by simpa using h2)), r2.os, r2.tape, r2.output, ?_⟩
      simpa [World.setCell] using r2.size
    · have ho2 := own_of_block (w' := w7.setCell ⟨bp, 1, none⟩ (.slice (some ⟨g, 0, none⟩) (opl.length + 1) cap)) ho (fun k hk => Below.heap_setCell _ _ _ _ (fun e => hgb (by rw [← (show k = bp from e)]; simpa [Value.ownBlock] using hk)))
      obtain ⟨r1, r2⟩ := set4_row (a' := .string ⟨n.name.toArray⟩) (b' := av) (c' := .string ⟨n.text.toArray⟩) (d' := .slice none 0 0) ho2
      refine ⟨r1, (r2.block bp (by simp [World.setCell]; omega) (by simpa using fun e => hgb e.symm)).trans (blk_set1 hb7), fun k hk h1 h2 => (r2.block k (by simp [World.setCell]; omega) (by simpa using h2)).trans (Below.heap_setCell _ _ _ _ h1), r2.os, r2.tape, r2.output, ?_⟩
      have := r2.size
      simpa [World.setCell] using this
  obtain ⟨k1, k2, k3, k4, k5, k6, k7⟩ := key
  refine ⟨_, _, _, _, _, h.push hx hp k1 (fun k hk h1 h2 => ?_) k2 hat (k4.trans (hg.os.trans hb.os)) (k5.trans (hg.tape.trans hb.tape)) (k6.trans (hg.output.trans hb.output)) (by omega)⟩
  have hkg : k ≠ g := by
    rintro rfl
    rcases hat with h5 | h5
    · exact h2 h5
    · omega
  exact (k3 k (by omega) h1 hkg).trans ((hg.block k (by omega) (fun e => h2 e.symm)).trans (hb.block k hk))
/-- a piece of text more -/
theorem TBld.more_text (h : TBld N w bp s ov pv tv outl opl) {w1 w7 : World} {g cap : Nat} {t : List UInt8} (hb : Below w.heap.size w w1) (hg : w1.grownBy w7 tv.ownBlock)
    (ho : w7.ownsRow N 9 1 (.slice (some ⟨g, 0, none⟩) (s.tx.length + 1) cap) (s.tx.length + 1) (s.tx.map (fun t => .string ⟨t.toArray⟩) ++ [.string ⟨t.toArray⟩])) (hat : tv.ownBlock = some g ∨ w.heap.size ≤ g) :
    Became N bp w (mine ov pv tv opl) (w7.setCell ⟨bp, 2, none⟩ (.slice (some ⟨g, 0, none⟩) (s.tx.length + 1) cap)) ⟨s.out, s.op, s.tx ++ [t], s.cnt, s.hid⟩ := by
  have hlt := h.lt
  have hs1 := hb.size
  have hs7 := hg.size
  have hne := h.rows_ne
  obtain ⟨t1, t2, t3⟩ := h.tx_apart
  have htm : tv ∈ mine ov pv tv opl := by simp [mine]
  have hgne : ∀ k, k < w.heap.size → tv.ownBlock ≠ some k → g ≠ k := fun k hk hn e => by
    subst e
    rcases hat with h4 | h4
    · exact hn h4
    · omega
  have hold : ∀ k, k < w.heap.size → k ≠ bp → tv.ownBlock ≠ some k → (w7.setCell ⟨bp, 2, none⟩ (.slice (some ⟨g, 0, none⟩) (s.tx.length + 1) cap)).heap[k]? = w.heap[k]? := fun k hk h1 h2 =>
    (Below.heap_setCell _ _ _ _ h1).trans ((hg.block k (by omega) (fun e => h2 e.symm)).trans (hb.block k hk))
  have hfr : Fr bp w (w7.setCell ⟨bp, 2, none⟩ (.slice (some ⟨g, 0, none⟩) (s.tx.length + 1) cap)) (mine ov pv tv opl) (mine ov pv (.slice (some ⟨g, 0, none⟩) (s.tx.length + 1) cap) opl) := by
    refine ⟨hg.os.trans hb.os, hg.tape.trans hb.tape, hg.output.trans hb.output, by simp [World.setCell]; omega, fun k hk => ⟨hold k hk.1 hk.2.1 (hk.2.2 tv htm), by have := hk.1; simp [World.setCell]; omega, hk.2.1, fun v hv => ?_⟩⟩
    rcases List.mem_cons.1 hv with rfl | hv
    · intro e
      exact hgne k hk.1 (hk.2.2 tv htm) (by simpa [Value.ownBlock] using e)
    · exact hk.2.2 v (List.mem_cons_of_mem _ hv)
  have hkeep : ∀ v, v ∈ mine ov pv tv opl → Apt tv v → ∀ k, v.ownBlock = some k → (w7.setCell ⟨bp, 2, none⟩ (.slice (some ⟨g, 0, none⟩) (s.tx.length + 1) cap)).heap[k]? = w.heap[k]? := fun v hv ha k hk => by
    refine hold k (h.mine_base v hv k hk).2 (fun e => hne v hv (by rw [hk, e])) (fun e => ?_)
    rcases ha with ha | ha
    · rw [e] at ha; cases ha
    · exact ha (e.trans hk.symm)
  have hgb : g ≠ bp := hgne bp hlt (hne tv htm)
  refine ⟨ov, pv, _, outl, opl, ⟨h.base, blk_set2 ((hg.block bp (by omega) (fun e => hne tv htm e.symm)).trans ((hb.block _ hlt).trans h.blk)), own_of_block h.out (hkeep ov (by simp [mine]) t1), own_of_block h.op (hkeep pv (by simp [mine]) t2), ?_, h.eout, h.eop, fun y hy => hfr.done (h.dout y hy), fun y hy => ?_, h.apart⟩, hfr⟩
  · show (w7.setCell ⟨bp, 2, none⟩ (.slice (some ⟨g, 0, none⟩) (s.tx.length + 1) cap)).ownsRow N 9 1 _ (s.tx ++ [t]).length ((s.tx ++ [t]).map _)
    rw [List.length_append, List.map_append]
    exact own_of_block ho (fun k hk => Below.heap_setCell _ _ _ _ (fun e => hgb (by rw [← (show k = bp from e)]; simpa [Value.ownBlock] using hk)))
  · obtain ⟨b1, ql, b2, b3, b4⟩ := h.dop y hy
    exact ⟨hfr.atts b1, ql, own_of_block b2 (hkeep _ (by simp only [mine, List.mem_cons]; exact .inr (.inr (.inr (List.mem_map.2 ⟨y, hy, rfl⟩)))) (t3 y hy)), b3, fun z hz => hfr.done (b4 z hz)⟩
end

end Go.Proofs.YtmfkefcdddoooaaGreatDoor

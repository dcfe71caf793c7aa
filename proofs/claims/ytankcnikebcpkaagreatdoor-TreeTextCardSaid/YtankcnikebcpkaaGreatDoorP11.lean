/- Several texts in one: BldPush, EndsT. -/
import Derived.Test.YtankcnikebcpkaaGreatDoorP10
namespace Go.Proofs.YtankcnikebcpkaaGreatDoor
open Go.RowKit

section
variable {N : Nat} {w w' : World} {bp : Nat} {s : U.Bst} {ov pv tv : Value} {outl opl : List NV}
/-- a block made since then is no row's -/
theorem TBld.fresh (h : TBld N w bp s ov pv tv outl opl) {k : Nat} (hk : w.heap.size ≤ k) (hl : k < w'.heap.size) : Free w' bp (mine ov pv tv opl) k := by
  have h1 := h.lt
  refine ⟨hl, by omega, fun v hv e => ?_⟩
  have := (h.mine_base v hv k e).2
  omega
theorem TBld.push (h : TBld N w bp s ov pv tv outl opl) {n : U.Nd} {av : Value} (hx : RdAS w (Free w bp (mine ov pv tv opl)) av n.attrs) (hp : n.parts = []) {g cap : Nat}
    (h1 : w'.ownsRow N 48 4 (.slice (some ⟨g, 0, none⟩) (opl.length + 1) cap) (opl.length + 1) (ndCells (opl ++ [(n, av, .slice none 0 0)])))
    (h2 : ∀ k, k < w.heap.size → k ≠ bp → pv.ownBlock ≠ some k → w'.heap[k]? = w.heap[k]?)
    (h3 : w'.heap[bp]? = some (.cells #[ov, .slice (some ⟨g, 0, none⟩) (opl.length + 1) cap, tv, .int .i64 (s.cnt : Nat), .string ⟨s.hid.toArray⟩] 86 (0, 0)))
    (h4 : pv.ownBlock = some g ∨ w.heap.size ≤ g) (hos : w'.os = w.os) (htape : w'.tape = w.tape) (hout : w'.output = w.output) (hsz : w.heap.size ≤ w'.heap.size) :
    TBld N w' bp (s.withOp (n :: s.op)) ov (.slice (some ⟨g, 0, none⟩) (opl.length + 1) cap) tv outl (opl ++ [(n, av, .slice none 0 0)]) ∧ Fr bp w w' (mine ov pv tv opl) (mine ov (.slice (some ⟨g, 0, none⟩) (opl.length + 1) cap) tv (opl ++ [(n, av, .slice none 0 0)])) := by
  have hat : ∀ k, k < w.heap.size → pv.ownBlock ≠ some k → g ≠ k := fun k hk hne e => by
    subst e
    rcases h4 with h4 | h4
    · exact hne h4
    · omega
  have hpm : pv ∈ mine ov pv tv opl := by simp [mine]
  have hfr : Fr bp w w' (mine ov pv tv opl) (mine ov (.slice (some ⟨g, 0, none⟩) (opl.length + 1) cap) tv (opl ++ [(n, av, .slice none 0 0)])) := by
    refine ⟨hos, htape, hout, hsz, fun k hk => ?_⟩
    have ho := hk.2.2 pv hpm
    refine ⟨h2 k hk.1 hk.2.1 ho, Nat.lt_of_lt_of_le hk.1 hsz, hk.2.1, fun v hv => ?_⟩
    simp only [mine, List.map_append, List.map_cons, List.map_nil, List.mem_cons, List.mem_append, List.not_mem_nil, or_false] at hv
    rcases hv with rfl | rfl | rfl | hv | rfl
    · exact hk.2.2 _ (by simp [mine])
    · exact hk.2.2 _ (by simp [mine])
    · intro e; exact hat k hk.1 ho (by simpa [Value.ownBlock] using e)
    · exact hk.2.2 _ (by simp only [mine, List.mem_cons]; exact .inr (.inr (.inr hv)))
    · intro e; cases e
  have hne := h.rows_ne
  obtain ⟨t1, t2, t3⟩ := h.tx_apart
  obtain ⟨a1, a2⟩ := List.pairwise_cons.1 h.apart
  obtain ⟨a3, a4⟩ := List.pairwise_cons.1 a2
  have hkeep : ∀ v, v ∈ mine ov pv tv opl → Apt v pv → ∀ k, v.ownBlock = some k → w'.heap[k]? = w.heap[k]? := fun v hv ha k hk => by
    refine h2 k (h.mine_base v hv k hk).2 (fun e => hne v hv (by rw [hk, e])) (fun e => ?_)
    rcases ha with ha | ha
    · rw [hk] at ha; cases ha
    · exact ha (hk.trans e.symm)
  have hmo : ∀ y ∈ opl, y.2.2 ∈ mine ov pv tv opl := fun y hy => by
    simp only [mine, List.mem_cons]
    exact .inr (.inr (.inr (List.mem_map.2 ⟨y, hy, rfl⟩)))
  have hnew : ∀ v, v ∈ mine ov pv tv opl → Apt v pv → Apt v (.slice (some ⟨g, 0, none⟩) (opl.length + 1) cap) := fun v hv ha => by
    cases hvb : v.ownBlock with
    | none => exact .inl hvb
    | some k =>
      right
      rw [hvb]
      intro e
      refine hat k (h.mine_base v hv k hvb).2 (fun e2 => ?_) (by simpa [Value.ownBlock] using e.symm)
      rcases ha with ha | ha
      · rw [hvb] at ha; cases ha
      · exact ha (hvb.trans e2.symm)
  refine ⟨⟨h.base, h3, own_of_block h.out (hkeep ov (by simp [mine]) (a1 _ (by simp))), ?_, own_of_block h.tx (hkeep tv (by simp [mine]) t2), h.eout, ?_, fun y hy => hfr.done (h.dout y hy), ?_, ?_⟩, hfr⟩
  · rw [List.length_append]; exact h1
  · rw [List.map_append, h.eop]
    show s.op.reverse ++ [n] = (n :: s.op).reverse
    rw [List.reverse_cons]
  · intro y hy
    rcases List.mem_append.1 hy with hy | hy
    · obtain ⟨b1, ql, b2, b3, b4⟩ := h.dop y hy
      exact ⟨hfr.atts b1, ql, own_of_block b2 (hkeep _ (hmo y hy) (a3 _ (List.mem_map.2 ⟨y, hy, rfl⟩)).symm), b3, fun z hz => hfr.done (b4 z hz)⟩
    · obtain rfl := List.mem_singleton.1 hy
      exact ⟨hfr.atts hx, [], World.ownsRow_nil _ _ _ _, hp.symm, fun z hz => by cases hz⟩
  · rw [List.map_append]
    refine List.pairwise_cons.2 ⟨fun b hb => ?_, List.pairwise_cons.2 ⟨fun b hb => ?_, List.pairwise_append.2 ⟨a4, by simp, fun a ha b hb => ?_⟩⟩⟩
    · rcases List.mem_cons.1 hb with rfl | hb
      · exact hnew ov (by simp [mine]) (a1 _ (by simp))
      rcases List.mem_append.1 hb with hb | hb
      · exact a1 _ (List.mem_cons_of_mem _ hb)
      · obtain rfl := List.mem_singleton.1 hb
        exact Apt.symm (.inl rfl)
    · rcases List.mem_append.1 hb with hb | hb
      · obtain ⟨y, hy, rfl⟩ := List.mem_map.1 hb
        exact (hnew _ (hmo y hy) (a3 _ (List.mem_map.2 ⟨y, hy, rfl⟩)).symm).symm
      · obtain rfl := List.mem_singleton.1 hb
        exact Apt.symm (.inl rfl)
    · obtain rfl := List.mem_singleton.1 hb
      exact Apt.symm (.inl rfl)
theorem push_end {w1 w7 : World} {g cap : Nat} {n : U.Nd} {av a b c d : Value} (h : TBld N w bp s ov pv tv outl opl) (hx : RdAS w (Free w bp (mine ov pv tv opl)) av n.attrs) (hp : n.parts = []) (hb : Below w.heap.size w w1) (hg : w1.grownBy w7 pv.ownBlock)
    (ho : w7.ownsRow N 48 4 (.slice (some ⟨g, 0, none⟩) (opl.length + 1) cap) (opl.length + 1) (ndCells opl ++ [a, b, c, d])) (hat : pv.ownBlock = some g ∨ w.heap.size ≤ g) (hgb : g ≠ bp) (w9 : World)
    (h9 : w9 = (set4 w7 g (opl.length * 4) (.string ⟨n.name.toArray⟩) av (.string ⟨n.text.toArray⟩) (.slice none 0 0)).setCell ⟨bp, 1, none⟩ (.slice (some ⟨g, 0, none⟩) (opl.length + 1) cap) ∨ w9 = set4 (w7.setCell ⟨bp, 1, none⟩ (.slice (some ⟨g, 0, none⟩) (opl.length + 1) cap)) g (opl.length * 4) (.string ⟨n.name.toArray⟩) av (.string ⟨n.text.toArray⟩) (.slice none 0 0)) :
    Became N bp w (mine ov pv tv opl) w9 (s.withOp (n :: s.op)) := by
  have hlt := h.lt
  have hs1 := hb.size
  have hs7 := hg.size
  have hne := h.rows_ne pv (by simp [mine])
  have hb7 : w7.heap[bp]? = some (.cells #[ov, pv, tv, .int .i64 (s.cnt : Nat), .string ⟨s.hid.toArray⟩] 86 (0, 0)) := (hg.block bp (by omega) (fun e => hne e.symm)).trans ((hb.block _ hlt).trans h.blk)
  have hcell : ndCells (opl ++ [(n, av, .slice none 0 0)]) = ndCells opl ++ [.string ⟨n.name.toArray⟩, av, .string ⟨n.text.toArray⟩, .slice none 0 0] := by rw [ndCells_append]; rfl
  have key : w9.ownsRow N 48 4 (.slice (some ⟨g, 0, none⟩) (opl.length + 1) cap) (opl.length + 1) (ndCells (opl ++ [(n, av, .slice none 0 0)])) ∧ w9.heap[bp]? = some (.cells #[ov, .slice (some ⟨g, 0, none⟩) (opl.length + 1) cap, tv, .int .i64 (s.cnt : Nat), .string ⟨s.hid.toArray⟩] 86 (0, 0)) ∧
      (∀ k, k < w7.heap.size → k ≠ bp → k ≠ g → w9.heap[k]? = w7.heap[k]?) ∧ w9.os = w7.os ∧ w9.tape = w7.tape ∧ w9.output = w7.output ∧ w7.heap.size ≤ w9.heap.size := by
    rw [hcell]
    rcases h9 with rfl | rfl
    · obtain ⟨r1, r2⟩ := set4_row (a' := .string ⟨n.name.toArray⟩) (b' := av) (c' := .string ⟨n.text.toArray⟩) (d' := .slice none 0 0) ho
      refine ⟨own_of_block r1 (fun k hk => Below.heap_setCell _ _ _ _ (fun e => hgb (by rw [← (show k = bp from e)]; simpa [Value.ownBlock] using hk))), blk_set1 ((r2.block bp (by omega) (by simpa using fun e => hgb e.symm)).trans hb7), fun k hk h1 h2 => (Below.heap_setCell _ _ _ _ h1).trans (r2.block k hk (by simpa using h2)), r2.os, r2.tape, r2.output, ?_⟩
      simpa [World.setCell] using r2.size
    · have ho2 := own_of_block (w' := w7.setCell ⟨bp, 1, none⟩ (.slice (some ⟨g, 0, none⟩) (opl.length + 1) cap)) ho (fun k hk => Below.heap_setCell _ _ _ _ (fun e => hgb (by rw [← (show k = bp from e)]; simpa [Value.ownBlock] using hk)))
      obtain ⟨r1, r2⟩ := set4_row (a' := .string ⟨n.name.toArray⟩) (b' := av) (c' := .string ⟨n.text.toArray⟩) (d' := .slice none 0 0) ho2
      refine ⟨r1, (r2.block bp (by simp [World.setCell]; omega) (by simpa using fun e => hgb e.symm)).trans (blk_set1 hb7), fun k hk h1 h2 => (r2.block k (by simp [World.setCell]; omega) (by simpa using h2)).trans (Below.heap_setCell _ _ _ _ h1), r2.os, r2.tape, r2.output, ?_⟩
      have := r2.size
      simpa [World.setCell] using this
  obtain ⟨k1, k2, k3, k4, k5, k6, k7⟩ := key
  refine ⟨_, _, _, _, _, h.push hx hp k1 (fun k hk h1 h2 => ?_) k2 hat (k4.trans (hg.os.trans hb.os)) (k5.trans (hg.tape.trans hb.tape)) (k6.trans (hg.output.trans hb.output)) (by omega)⟩
  have hkg : k ≠ g := by
    rintro rfl
    rcases hat with h5 | h5
    · exact h2 h5
    · omega
  exact (k3 k (by omega) h1 hkg).trans ((hg.block k (by omega) (fun e => h2 e.symm)).trans (hb.block k hk))
/-- a piece of text more -/
theorem TBld.more_text (h : TBld N w bp s ov pv tv outl opl) {w1 w7 : World} {g cap : Nat} {t : List UInt8} (hb : Below w.heap.size w w1) (hg : w1.grownBy w7 tv.ownBlock)
    (ho : w7.ownsRow N 9 1 (.slice (some ⟨g, 0, none⟩) (s.tx.length + 1) cap) (s.tx.length + 1) (s.tx.map (fun t => .string ⟨t.toArray⟩) ++ [.string ⟨t.toArray⟩])) (hat : tv.ownBlock = some g ∨ w.heap.size ≤ g) :
    Became N bp w (mine ov pv tv opl) (w7.setCell ⟨bp, 2, none⟩ (.slice (some ⟨g, 0, none⟩) (s.tx.length + 1) cap)) ⟨s.out, s.op, s.tx ++ [t], s.cnt, s.hid⟩ := by
  have hlt := h.lt
  have hs1 := hb.size
  have hs7 := hg.size
  have hne := h.rows_ne
  obtain ⟨t1, t2, t3⟩ := h.tx_apart
  have htm : tv ∈ mine ov pv tv opl := by simp [mine]
  have hgne : ∀ k, k < w.heap.size → tv.ownBlock ≠ some k → g ≠ k := fun k hk hn e => by
    subst e
    rcases hat with h4 | h4
    · exact hn h4
    · omega
  have hold : ∀ k, k < w.heap.size → k ≠ bp → tv.ownBlock ≠ some k → (w7.setCell ⟨bp, 2, none⟩ (.slice (some ⟨g, 0, none⟩) (s.tx.length + 1) cap)).heap[k]? = w.heap[k]? := fun k hk h1 h2 =>
    (Below.heap_setCell _ _ _ _ h1).trans ((hg.block k (by omega) (fun e => h2 e.symm)).trans (hb.block k hk))
  have hfr : Fr bp w (w7.setCell ⟨bp, 2, none⟩ (.slice (some ⟨g, 0, none⟩) (s.tx.length + 1) cap)) (mine ov pv tv opl) (mine ov pv (.slice (some ⟨g, 0, none⟩) (s.tx.length + 1) cap) opl) := by
    refine ⟨hg.os.trans hb.os, hg.tape.trans hb.tape, hg.output.trans hb.output, by simp [World.setCell]; omega, fun k hk => ⟨hold k hk.1 hk.2.1 (hk.2.2 tv htm), by have := hk.1; simp [World.setCell]; omega, hk.2.1, fun v hv => ?_⟩⟩
    rcases List.mem_cons.1 hv with rfl | hv
    · intro e
      exact hgne k hk.1 (hk.2.2 tv htm) (by simpa [Value.ownBlock] using e)
    · exact hk.2.2 v (List.mem_cons_of_mem _ hv)
  have hkeep : ∀ v, v ∈ mine ov pv tv opl → Apt tv v → ∀ k, v.ownBlock = some k → (w7.setCell ⟨bp, 2, none⟩ (.slice (some ⟨g, 0, none⟩) (s.tx.length + 1) cap)).heap[k]? = w.heap[k]? := fun v hv ha k hk => by
    refine hold k (h.mine_base v hv k hk).2 (fun e => hne v hv (by rw [hk, e])) (fun e => ?_)
    rcases ha with ha | ha
    · rw [e] at ha; cases ha
    · exact ha (e.trans hk.symm)
  have hgb : g ≠ bp := hgne bp hlt (hne tv htm)
  refine ⟨ov, pv, _, outl, opl, ⟨h.base, blk_set2 ((hg.block bp (by omega) (fun e => hne tv htm e.symm)).trans ((hb.block _ hlt).trans h.blk)), own_of_block h.out (hkeep ov (by simp [mine]) t1), own_of_block h.op (hkeep pv (by simp [mine]) t2), ?_, h.eout, h.eop, fun y hy => hfr.done (h.dout y hy), fun y hy => ?_, h.apart⟩, hfr⟩
  · show (w7.setCell ⟨bp, 2, none⟩ (.slice (some ⟨g, 0, none⟩) (s.tx.length + 1) cap)).ownsRow N 9 1 _ (s.tx ++ [t]).length ((s.tx ++ [t]).map _)
    rw [List.length_append, List.map_append]
    exact own_of_block ho (fun k hk => Below.heap_setCell _ _ _ _ (fun e => hgb (by rw [← (show k = bp from e)]; simpa [Value.ownBlock] using hk)))
  · obtain ⟨b1, ql, b2, b3, b4⟩ := h.dop y hy
    exact ⟨hfr.atts b1, ql, own_of_block b2 (hkeep _ (by simp only [mine, List.mem_cons]; exact .inr (.inr (.inr (List.mem_map.2 ⟨y, hy, rfl⟩)))) (t3 y hy)), b3, fun z hz => hfr.done (b4 z hz)⟩
end

end Go.Proofs.YtankcnikebcpkaaGreatDoor

namespace Go.Proofs.YtankcnikebcpkaaGreatDoor
open Go.RowKit

theorem infoStr : (Tryz.prog.info? 9).map (fun i => (i.zero, i.size, i.bytes)) = some (some (.string .empty), 1, 16) := by kernel_rfl

set_option maxHeartbeats 8000000 in
set_option maxRecDepth 1000000 in
theorem process_end (N : Nat) (w : World) (bp : Nat) (s : U.Bst) (ov pv tv : Value) (outl opl : List NV) (h : TBld N w bp s ov pv tv outl opl) (hb : s.bulk ≤ 1048576) (ht : TxOk s) (hop : s.op.length ≤ 1048576) (name : List UInt8) :
    Calls Tryz.prog 70 #[.pointer (some ⟨bp, 0, none⟩), .string ⟨name.toArray⟩] w fun e w' => e = .returned (.tuple #[]) ∧ Became N bp w (mine ov pv tv opl) w' (s.ends name) := by
  obtain ⟨_, _, _, _, c4⟩ := h.cells
  obtain ⟨_, _, _, _, f4⟩ := h.unfrozen
  by_cases he : s.hid = name
  · obtain ⟨hB, hF⟩ := h.set_hid []
    have HC := Lib.hid (close_last N _ bp _ ov pv tv outl opl hB hb ht hop name)
    have HS := Lib.hid (show s.ends name = U.Bst.closeLast ⟨s.out, s.op, s.tx, s.cnt, []⟩ name by unfold U.Bst.ends; rw [if_pos he])
    have HF := Lib.hid hF
    rw [he] at c4
    clear he hB hF h
    go_enter Tryz.func70, Tryz.ntmps70
    go_wp2_with fail
    refine HC.out.mono ?_
    rintro e w2 ⟨rfl, hK⟩
    obtain ⟨ov9, pv9, tv9, outl9, opl9, hB9, hF9⟩ := hK
    have HK := Lib.hid (show Became N bp w (mine ov pv tv opl) w2 (s.ends name) by rw [HS.out]; exact ⟨_, _, _, _, _, hB9, HF.out.trans hF9⟩)
    clear hB9 hF9
    go_wp2_with fail
    go_end0
    exact ⟨rfl, HK.out⟩
  · have HC := Lib.hid (close_last N _ bp _ ov pv tv outl opl h hb ht hop name)
    have HS := Lib.hid (show s.ends name = s.closeLast name by unfold U.Bst.ends; rw [if_neg he])
    have hbe : (s.hid == name) = false := by simpa using he
    clear he h
    go_enter Tryz.func70, Tryz.ntmps70
    go_wp2_with fail
    refine HC.out.mono ?_
    rintro e w2 ⟨rfl, hK⟩
    rw [← HS.out] at hK
    have HK := Lib.hid hK
    clear hK
    go_wp2_with fail
    go_end0
    exact ⟨rfl, HK.out⟩

set_option maxHeartbeats 8000000 in
set_option maxRecDepth 1000000 in
theorem process_chars (N : Nat) (w : World) (bp : Nat) (s : U.Bst) (ov pv tv : Value) (outl opl : List NV) (h : TBld N w bp s ov pv tv outl opl) (ht : s.tx.length ≤ 1023) (hop : s.op.length ≤ 1048576) (hcnt : s.cnt ≤ 1048576) (text : List UInt8) :
    Calls Tryz.prog 71 #[.pointer (some ⟨bp, 0, none⟩), .string ⟨text.toArray⟩] w fun e w' => e = .returned (.tuple #[]) ∧ Became N bp w (mine ov pv tv opl) w' (s.chars text) := by
  obtain ⟨iS, hiS, hS0, hS1, hS2⟩ := info_parts infoStr
  obtain ⟨_, _, c2, c3, c4⟩ := h.cells
  obtain ⟨_, _, f2, f3, _⟩ := h.unfrozen
  by_cases h1 : text = []
  · have HE := Lib.hid (show Became N bp w (mine ov pv tv opl) w (s.chars text) by unfold U.Bst.chars; rw [if_pos (.inl h1)]; exact Became.refl h)
    subst h1
    clear h
    go_enter Tryz.func71, Tryz.ntmps71
    go_wp2_with fail
    refine bodyPost_ret (results_none rfl _ _ _) rfl ?_
    exact ⟨rfl, HE.out⟩
  have b1 : text.isEmpty = false := by simpa using h1
  by_cases h2 : ¬ s.hid = []
  · have HE := Lib.hid (show Became N bp w (mine ov pv tv opl) w (s.chars text) by unfold U.Bst.chars; rw [if_pos (.inr (.inl h2))]; exact Became.refl h)
    have b2 : s.hid.isEmpty = false := by simpa using h2
    clear h h1 h2
    go_enter Tryz.func71, Tryz.ntmps71
    go_wp2_with fail
    refine bodyPost_ret (results_none rfl _ _ _) rfl ?_
    exact ⟨rfl, HE.out⟩
  have h2 : s.hid = [] := Decidable.not_not.1 h2
  have HM := Lib.hid (text_hidden N w bp s ov pv tv outl opl h hop)
  cases hm : s.muted with
  | true =>
    have HE := Lib.hid (fun w' (hb : Below w.heap.size w w') => (show Became N bp w (mine ov pv tv opl) w' (s.chars text) by unfold U.Bst.chars; rw [if_pos (.inr (.inr hm))]; exact (Became.refl h).later hb))
    rw [hm] at HM
    rw [h2] at c4
    clear h h1 h2 hm
    go_enter Tryz.func71, Tryz.ntmps71
    go_wp2_with fail
    refine HM.out.mono ?_
    rintro e w1 ⟨rfl, hb⟩
    have HK := Lib.hid (HE.out w1 hb)
    clear hb
    go_wp2_with fail
    refine bodyPost_ret (results_none rfl _ _ _) rfl ?_
    exact ⟨rfl, HK.out⟩
  | false =>
    rw [hm] at HM
    rw [h2] at c4
    have HS := Lib.hid (show s.chars text = ⟨s.out, s.op, s.tx ++ [text], if s.tx = [] then s.cnt + 1 else s.cnt, s.hid⟩ by
      unfold U.Bst.chars
      rw [if_neg (by rw [hm]; rintro (e | e | e); exact h1 e; exact e h2; cases e)])
    obtain ⟨to, tcap, rfl⟩ := own_form h.tx
    have HB := Lib.hid h
    have hN := h.base
    clear hm h1 h2 f2 f3 h
    by_cases hs : s.tx = []
    · obtain ⟨so, sop, stx, sc, sh⟩ := s
      obtain rfl : stx = [] := hs
      have HS2 := Lib.hid (show U.Bst.chars ⟨so, sop, [], sc, sh⟩ text = ⟨so, sop, [] ++ [text], sc + 1, sh⟩ from HS.out)
      have hcnt2 : sc ≤ 1048576 := hcnt
      clear HS hcnt ht
      go_enter Tryz.func71, Tryz.ntmps71
      go_wp2_with fail
      refine HM.out.mono ?_
      rintro e w1 ⟨rfl, hb⟩
      have hB1 := HB.out.later hb
      obtain ⟨_, _, _, e3, _⟩ := hB1.cells
      obtain ⟨_, _, _, g3, _⟩ := hB1.unfrozen
      have hB2F := hB1.set_cnt (sc + 1)
      rw [show ((sc + 1 : Nat) : Int) = (sc : Int) + 1 by omega] at hB2F
      obtain ⟨hB2, hF2⟩ := hB2F
      have HF2 := Lib.hid hF2
      obtain ⟨_, _, d2, d3, _⟩ := hB2.cells
      obtain ⟨_, _, f2, f3, _⟩ := hB2.unfrozen
      have hlt := hB2.lt
      have hne2 := hB2.rows_ne (.slice to 0 tcap) (by simp [mine])
      have k2 := fun O => (cell_alloc_old (w1.setCell ⟨bp, 3, none⟩ (.int .i64 ((sc : Int) + 1))) O ⟨bp, 2, none⟩ hlt).trans d2
      have HX := Lib.hid hB2
      have hw2 : (w1.setCell ⟨bp, 3, none⟩ (.int .i64 ((sc : Int) + 1))).heap.size = w1.heap.size := by simp [World.setCell]
      have HW2 := Lib.hid hw2
      clear hw2
      have hsz : N ≤ w1.heap.size := by have := hB1.lt; omega
      clear hB1 hB2 hF2
      go_wp2_with (at_builtin; refine wpList_append_lies _ rfl _ _ 36 rfl N 9 iS _ 1 16 Tryz.underlying36 hiS hS0 hS1 hS2 rfl (by decide) (.slice to 0 tcap) 0 [] rfl (HX.out.tx.alloc _) ⟨_, 0, none⟩ 1 1 [.string ⟨text.toArray⟩] rfl rfl ?c1 ?c2 ?c3 ?c4 ?c5 ?c6 _ rfl ?_)
      case c1 =>
        intro j u hj
        match j, hj with
        | 0, hj =>
          simp at hj
          subst hj
          have h9 := heap_alloc_new ((w1.setCell ⟨bp, 3, none⟩ (.int .i64 ((sc : Int) + 1)))) (.cells #[.string ⟨text.toArray⟩] 9 (0, 0))
          rw [HW2.out] at h9
          rw [show (⟨w1.heap.size, 0, none⟩ : Addr).add 0 = ⟨w1.heap.size, 0, none⟩ by simp [Addr.add], Lib.cell_of_heap h9]
          rfl
        | (j + 1), hj => simp at hj
      case c2 => intro u hu; simp at hu; subst hu; rfl
      case c3 => omega
      case c4 => unfold maxLen; omega
      case c5 => omega
      case c6 => simp; omega
      intro g7 cap7 w7 hown7 hgrow7 hat7 _
      have hk7 : w7.cell? ⟨bp, 2, none⟩ = some (.slice to 0 tcap) ∧ w7.frozen? ⟨bp, 2, none⟩ = false := by
        have hb9 := (hgrow7.block bp (by have := HW2.out; simp at hlt ⊢; omega) (fun e => hne2 e.symm)).trans (Lib.alloc_old (w1.setCell ⟨bp, 3, none⟩ (.int .i64 ((sc : Int) + 1))) _ _ hlt)
        exact ⟨(World.cell?_of_block hb9).trans d2, (World.frozen?_of_block hb9).trans f2⟩
      obtain ⟨k7, l7⟩ := hk7
      have HK := Lib.hid (HX.out.more_text (t := text) ((Below.refl _ _).alloc (Nat.le_refl _) _) hgrow7 hown7 (hat7.imp id (fun e => by have := HW2.out; omega)))
      clear hown7 hgrow7 hat7
      go_wp2_with fail
      go_end0
      refine ⟨rfl, ?_⟩
      rw [HS2.out]
      obtain ⟨ov9, pv9, tv9, outl9, opl9, hB9, hF9⟩ := HK.out
      exact ⟨_, _, _, _, _, hB9, ((Fr.later hb).trans HF2.out).trans hF9⟩
    · have hpos : 0 < s.tx.length := List.length_pos_iff.2 hs
      have HS2 := Lib.hid (show s.chars text = ⟨s.out, s.op, s.tx ++ [text], s.cnt, s.hid⟩ by rw [HS.out, if_neg hs])
      have hne : ¬ (s.tx.length : Int) = 0 := by omega
      clear hs
      go_enter Tryz.func71, Tryz.ntmps71
      go_wp2_with fail
      refine HM.out.mono ?_
      rintro e w1 ⟨rfl, hb⟩
      have hB1 := HB.out.later hb
      obtain ⟨_, _, d2, d3, _⟩ := hB1.cells
      obtain ⟨_, _, f2, f3, _⟩ := hB1.unfrozen
      have hlt := hB1.lt
      have hne2 := hB1.rows_ne (.slice to s.tx.length tcap) (by simp [mine])
      have k2 := fun O => (cell_alloc_old w1 O ⟨bp, 2, none⟩ hlt).trans d2
      have HX := Lib.hid hB1
      have hsz : N ≤ w1.heap.size := by have := hB1.lt; omega
      clear hB1
      go_wp2_with (at_builtin; refine wpList_append_lies _ rfl _ _ 36 rfl N 9 iS _ 1 16 Tryz.underlying36 hiS hS0 hS1 hS2 rfl (by decide) _ _ _ rfl (HX.out.tx.alloc _) ⟨_, 0, none⟩ 1 1 [.string ⟨text.toArray⟩] rfl rfl ?c1 ?c2 ?c3 ?c4 ?c5 ?c6 _ rfl ?_)
      case c1 =>
        intro j u hj
        match j, hj with
        | 0, hj =>
          simp at hj
          subst hj
          have h9 := heap_alloc_new (w1) (.cells #[.string ⟨text.toArray⟩] 9 (0, 0))
          rw [show (⟨(w1).heap.size, 0, none⟩ : Addr).add 0 = ⟨(w1).heap.size, 0, none⟩ by simp [Addr.add], Lib.cell_of_heap h9]
          rfl
        | (j + 1), hj => simp at hj
      case c2 => intro u hu; simp at hu; subst hu; rfl
      case c3 => omega
      case c4 => unfold maxLen; omega
      case c5 => omega
      case c6 => simp; omega
      intro g7 cap7 w7 hown7 hgrow7 hat7 _
      have hk7 : w7.cell? ⟨bp, 2, none⟩ = some (.slice to s.tx.length tcap) ∧ w7.frozen? ⟨bp, 2, none⟩ = false := by
        have hb9 := (hgrow7.block bp (by simp; omega) (fun e => hne2 e.symm)).trans (Lib.alloc_old w1 _ _ hlt)
        exact ⟨(World.cell?_of_block hb9).trans d2, (World.frozen?_of_block hb9).trans f2⟩
      obtain ⟨k7, l7⟩ := hk7
      have HK := Lib.hid (HX.out.more_text (t := text) ((Below.refl _ _).alloc (Nat.le_refl _) _) hgrow7 hown7 (hat7.imp id (fun e => by first | omega | (simp at e; omega))))
      clear hown7 hgrow7 hat7
      go_wp2_with fail
      go_end0
      refine ⟨rfl, ?_⟩
      rw [HS2.out]
      obtain ⟨ov9, pv9, tv9, outl9, opl9, hB9, hF9⟩ := HK.out
      exact ⟨_, _, _, _, _, hB9, (Fr.later hb).trans hF9⟩

end Go.Proofs.YtankcnikebcpkaaGreatDoor

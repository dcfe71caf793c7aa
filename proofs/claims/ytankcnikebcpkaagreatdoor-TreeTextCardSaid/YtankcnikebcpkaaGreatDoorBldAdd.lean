/- A node is added: what the memory then holds. -/
import Derived.Test.YtankcnikebcpkaaGreatDoorP06
namespace Go.Proofs.YtankcnikebcpkaaGreatDoor
open Go.RowKit

theorem pair_mem {α : Type} {R : α → α → Prop} {a : α} {l : List α} (h : (a :: l).Pairwise R) {b : α} (hb : b ∈ l) : R a b := (List.pairwise_cons.1 h).1 b hb
section
variable {N : Nat} {w w' : World} {bp : Nat} {s : U.Bst} {ov pv tv : Value} {outl opl : List NV}
/-- what the builder has become, from one world to another -/
def Became (N bp : Nat) (w : World) (M : List Value) (w' : World) (s : U.Bst) : Prop := ∃ ov pv tv outl opl, TBld N w' bp s ov pv tv outl opl ∧ Fr bp w w' M (mine ov pv tv opl)
/-- outside -/
theorem TBld.add_out (h : TBld N w bp s ov pv tv outl []) {x : NV} (hx : Done w (Free w bp (mine ov pv tv [])) x) {g cap : Nat}
    (h1 : w'.ownsRow N 48 4 (.slice (some ⟨g, 0, none⟩) (outl.length + 1) cap) (outl.length + 1) (ndCells (outl ++ [x])))
    (h2 : ∀ k, k < w.heap.size → k ≠ bp → ov.ownBlock ≠ some k → w'.heap[k]? = w.heap[k]?)
    (h3 : w'.heap[bp]? = some (.cells #[.slice (some ⟨g, 0, none⟩) (outl.length + 1) cap, pv, tv, .int .i64 (s.cnt : Nat), .string ⟨s.hid.toArray⟩] 86 (0, 0)))
    (h4 : ov.ownBlock = some g ∨ w.heap.size ≤ g) (hos : w'.os = w.os) (htape : w'.tape = w.tape) (hout : w'.output = w.output) (hsz : w.heap.size ≤ w'.heap.size) :
    TBld N w' bp (s.add x.1) (.slice (some ⟨g, 0, none⟩) (outl.length + 1) cap) pv tv (outl ++ [x]) [] ∧ Fr bp w w' (mine ov pv tv []) (mine (.slice (some ⟨g, 0, none⟩) (outl.length + 1) cap) pv tv []) := by
  have hs : s.op = [] := by have := h.op_len; exact List.eq_nil_of_length_eq_zero this.symm
  have hadd : s.add x.1 = ⟨s.out ++ [x.1], s.op, s.tx, s.cnt, s.hid⟩ := by unfold U.Bst.add; rw [hs]
  have hat : ∀ k, k < w.heap.size → ov.ownBlock ≠ some k → g ≠ k := fun k hk hne e => by
    subst e
    rcases h4 with h4 | h4
    · exact hne h4
    · omega
  have hfr : Fr bp w w' (mine ov pv tv []) (mine (.slice (some ⟨g, 0, none⟩) (outl.length + 1) cap) pv tv []) := by
    refine ⟨hos, htape, hout, hsz, fun k hk => ?_⟩
    have ho := hk.2.2 ov (by simp [mine])
    refine ⟨h2 k hk.1 hk.2.1 ho, Nat.lt_of_lt_of_le hk.1 hsz, hk.2.1, fun v hv => ?_⟩
    simp only [mine, List.map_nil, List.mem_cons, List.not_mem_nil, or_false] at hv
    rcases hv with rfl | rfl | rfl
    · exact hk.2.2 _ (by simp [mine])
    · intro e; exact hat k hk.1 ho (by simpa [Value.ownBlock] using e)
    · exact hk.2.2 _ (by simp [mine])
  have hne := h.rows_ne
  obtain ⟨t1, t2, _⟩ := h.tx_apart
  have hap := h.apart
  have hkeep : ∀ v, v ∈ mine ov pv tv [] → Apt v ov → ∀ k, v.ownBlock = some k → w'.heap[k]? = w.heap[k]? := fun v hv ha k hk => by
    refine h2 k (h.mine_base v hv k hk).2 (fun e => hne v hv (by rw [hk, e])) (fun e => ?_)
    rcases ha with ha | ha
    · rw [hk] at ha; cases ha
    · exact ha (hk.trans e.symm)
  refine ⟨⟨h.base, ?_, ?_, own_of_block h.op (hkeep pv (by simp [mine]) (pair_mem hap (by simp)).symm), ?_, ?_, ?_, ?_, (fun x hx => by cases hx), ?_⟩, hfr⟩
  · rw [hadd]; exact h3
  · rw [List.length_append]; exact h1
  · rw [hadd]; exact own_of_block h.tx (hkeep tv (by simp [mine]) t1)
  · rw [hadd, List.map_append, h.eout]; rfl
  · rw [hadd]; exact h.eop
  · intro y hy
    rcases List.mem_append.1 hy with hy | hy
    · exact hfr.done (h.dout y hy)
    · obtain rfl := List.mem_singleton.1 hy
      exact hfr.done hx
  · refine List.pairwise_cons.2 ⟨fun b hb => ?_, by simp⟩
    simp only [List.map_nil, List.mem_cons, List.not_mem_nil, or_false] at hb
    subst hb
    have hp : Apt ov b := pair_mem hap (by simp)
    right
    intro e
    have hbk : b.ownBlock = some g := by rw [← e]; rfl
    refine hat g (h.op.lt g hbk).2 (fun e2 => ?_) rfl
    rcases hp.symm with h5 | h5
    · rw [hbk] at h5; cases h5
    · exact h5 (hbk.trans e2.symm)
/-- within the inmost open one -/
theorem TBld.add_in {ol : List NV} {n : U.Nd} {av qv : Value} {pl : List NV} (h : TBld N w bp s ov pv tv outl (ol ++ [(n, av, qv)])) {x : NV} (hx : Done w (Free w bp (mine ov pv tv (ol ++ [(n, av, qv)]))) x) {g cap : Nat}
    (hpl : pl.map (·.1) = n.parts) (hpd : ∀ y ∈ pl, Done w (Free w bp (mine ov pv tv (ol ++ [(n, av, qv)]))) y)
    (h1 : w'.ownsRow N 48 4 (.slice (some ⟨g, 0, none⟩) (pl.length + 1) cap) (pl.length + 1) (ndCells (pl ++ [x])))
    (h2 : ∀ k, k < w.heap.size → qv.ownBlock ≠ some k → pv.ownBlock ≠ some k → w'.heap[k]? = w.heap[k]?)
    (h3 : w'.ownsRow N 48 4 pv (ol.length + 1) (ndCells (ol ++ [(n.push x.1, av, .slice (some ⟨g, 0, none⟩) (pl.length + 1) cap)])))
    (h4 : qv.ownBlock = some g ∨ w.heap.size ≤ g) (hos : w'.os = w.os) (htape : w'.tape = w.tape) (hout : w'.output = w.output) (hsz : w.heap.size ≤ w'.heap.size) :
    TBld N w' bp (s.add x.1) ov pv tv outl (ol ++ [(n.push x.1, av, .slice (some ⟨g, 0, none⟩) (pl.length + 1) cap)]) ∧ Fr bp w w' (mine ov pv tv (ol ++ [(n, av, qv)])) (mine ov pv tv (ol ++ [(n.push x.1, av, .slice (some ⟨g, 0, none⟩) (pl.length + 1) cap)])) := by
  have heop := h.eop
  obtain ⟨r, hs, hr⟩ : ∃ r, s.op = n :: r ∧ ol.map (·.1) = r.reverse := by
    have e : s.op = (ol.map (·.1) ++ [n]).reverse := by
      rw [List.map_append] at heop
      rw [show (ol.map (·.1) ++ [n]) = s.op.reverse from heop, List.reverse_reverse]
    rw [List.reverse_append, List.reverse_singleton, List.singleton_append] at e
    exact ⟨(ol.map (·.1)).reverse, e, by rw [List.reverse_reverse]⟩
  have hadd : s.add x.1 = ⟨s.out, n.push x.1 :: r, s.tx, s.cnt, s.hid⟩ := by unfold U.Bst.add; rw [hs]
  have hat : ∀ k, k < w.heap.size → qv.ownBlock ≠ some k → g ≠ k := fun k hk hne e => by
    subst e
    rcases h4 with h4 | h4
    · exact hne h4
    · omega
  have hqm : qv ∈ mine ov pv tv (ol ++ [(n, av, qv)]) := by simp [mine]
  have hpm : pv ∈ mine ov pv tv (ol ++ [(n, av, qv)]) := by simp [mine]
  have hfr : Fr bp w w' (mine ov pv tv (ol ++ [(n, av, qv)])) (mine ov pv tv (ol ++ [(n.push x.1, av, .slice (some ⟨g, 0, none⟩) (pl.length + 1) cap)])) := by
    refine ⟨hos, htape, hout, hsz, fun k hk => ?_⟩
    have ho := hk.2.2 qv hqm
    refine ⟨h2 k hk.1 ho (hk.2.2 pv hpm), Nat.lt_of_lt_of_le hk.1 hsz, hk.2.1, fun v hv => ?_⟩
    simp only [mine, List.map_append, List.map_cons, List.map_nil, List.mem_cons, List.mem_append, List.not_mem_nil, or_false] at hv
    rcases hv with rfl | rfl | rfl | hv | rfl
    · exact hk.2.2 _ (by simp [mine])
    · exact hk.2.2 _ (by simp [mine])
    · exact hk.2.2 _ (by simp [mine])
    · exact hk.2.2 _ (by simp only [mine, List.map_append, List.mem_cons, List.mem_append]; exact .inr (.inr (.inr (.inl hv))))
    · intro e; exact hat k hk.1 ho (by simpa [Value.ownBlock] using e)
  have hne := h.rows_ne
  obtain ⟨t1, t2, t3⟩ := h.tx_apart
  have hap := h.apart
  rw [List.map_append] at hap
  obtain ⟨a1, a2⟩ := List.pairwise_cons.1 hap
  obtain ⟨a3, a4⟩ := List.pairwise_cons.1 a2
  obtain ⟨a5, _, a6⟩ := List.pairwise_append.1 a4
  have hkeep : ∀ v, v ∈ mine ov pv tv (ol ++ [(n, av, qv)]) → Apt v qv → Apt v pv → ∀ k, v.ownBlock = some k → w'.heap[k]? = w.heap[k]? := fun v hv ha hb k hk => by
    refine h2 k (h.mine_base v hv k hk).2 (fun e => ?_) (fun e => ?_)
    · rcases ha with ha | ha
      · rw [hk] at ha; cases ha
      · exact ha (hk.trans e.symm)
    · rcases hb with hb | hb
      · rw [hk] at hb; cases hb
      · exact hb (hk.trans e.symm)
  have hmo : ∀ y ∈ ol, y.2.2 ∈ mine ov pv tv (ol ++ [(n, av, qv)]) := fun y hy => by
    simp only [mine, List.map_append, List.mem_cons, List.mem_append]
    exact .inr (.inr (.inr (.inl (List.mem_map.2 ⟨y, hy, rfl⟩))))
  have hyq : ∀ y ∈ ol, Apt y.2.2 qv := fun y hy => a6 _ (List.mem_map.2 ⟨y, hy, rfl⟩) _ (by simp)
  have hyp : ∀ y ∈ ol, Apt y.2.2 pv := fun y hy => (a3 _ (List.mem_append_left _ (List.mem_map.2 ⟨y, hy, rfl⟩))).symm
  have hnew : ∀ v, v ∈ mine ov pv tv (ol ++ [(n, av, qv)]) → Apt v qv → Apt v (.slice (some ⟨g, 0, none⟩) (pl.length + 1) cap) := fun v hv ha => by
    cases hvb : v.ownBlock with
    | none => exact .inl hvb
    | some k =>
      right
      rw [hvb]
      intro e
      refine hat k (h.mine_base v hv k hvb).2 (fun e2 => ?_) (by simpa [Value.ownBlock] using e.symm)
      rcases ha with ha | ha
      · rw [hvb] at ha; cases ha
      · exact ha (hvb.trans e2.symm)
  have hblk : w'.heap[bp]? = w.heap[bp]? := h2 bp h.lt (hne qv hqm) (hne pv hpm)
  refine ⟨⟨h.base, ?_, own_of_block h.out (hkeep ov (by simp [mine]) (a1 _ (by simp)) (a1 _ (by simp))), ?_, ?_, ?_, ?_, fun y hy => hfr.done (h.dout y hy), ?_, ?_⟩, hfr⟩
  · rw [hblk, hadd]; exact h.blk
  · rw [List.length_append]; exact h3
  · rw [hadd]; exact own_of_block h.tx (hkeep tv (by simp [mine]) (t3 (n, av, qv) (by simp)) t2)
  · rw [hadd]; exact h.eout
  · rw [hadd, List.map_append, hr, List.reverse_cons]; rfl
  · intro y hy
    rcases List.mem_append.1 hy with hy | hy
    · obtain ⟨b1, ql, b2, b3, b4⟩ := h.dop y (List.mem_append_left _ hy)
      exact ⟨hfr.atts b1, ql, own_of_block b2 (hkeep _ (hmo y hy) (hyq y hy) (hyp y hy)), b3, fun z hz => hfr.done (b4 z hz)⟩
    · obtain rfl := List.mem_singleton.1 hy
      obtain ⟨b1, _⟩ := h.dop (n, av, qv) (by simp)
      refine ⟨?_, pl ++ [x], ?_, ?_, ?_⟩
      · show RdAS w' _ av (n.push x.1).attrs
        rw [U.Nd.push_attrs]
        exact hfr.atts b1
      · rw [List.length_append]; exact h1
      · show _ = (n.push x.1).parts
        rw [U.Nd.push_parts, List.map_append, hpl]
        rfl
      · intro z hz
        rcases List.mem_append.1 hz with hz | hz
        · exact hfr.done (hpd z hz)
        · obtain rfl := List.mem_singleton.1 hz
          exact hfr.done hx
  · rw [List.map_append]
    refine List.pairwise_cons.2 ⟨fun b hb => ?_, List.pairwise_cons.2 ⟨fun b hb => ?_, List.pairwise_append.2 ⟨a5, by simp, fun a ha b hb => ?_⟩⟩⟩
    · rcases List.mem_cons.1 hb with rfl | hb
      · exact a1 _ (by simp)
      rcases List.mem_append.1 hb with hb | hb
      · exact a1 _ (List.mem_cons_of_mem _ (List.mem_append_left _ hb))
      · obtain rfl := List.mem_singleton.1 hb
        exact hnew ov (by simp [mine]) (a1 _ (by simp))
    · rcases List.mem_append.1 hb with hb | hb
      · exact a3 _ (List.mem_append_left _ hb)
      · obtain rfl := List.mem_singleton.1 hb
        exact hnew pv hpm (a3 _ (by simp))
    · obtain rfl := List.mem_singleton.1 hb
      obtain ⟨y, hy, rfl⟩ := List.mem_map.1 ha
      exact hnew _ (hmo y hy) (hyq y hy)
end

end Go.Proofs.YtankcnikebcpkaaGreatDoor

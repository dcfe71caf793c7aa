/- Several texts in one: Bld, BldAdd, Add, AddIn. -/
import Derived.Outline
import Derived.Deep.AppendLies
import Derived.Deep.RegionLaw
import Derived.Handy
import Derived.Test.YtmfkefcdddoooaaGreatDoorP11
namespace Go.Proofs.YtmfkefcdddoooaaGreatDoor
open Go.RowKit

/-- the rows that may still grow -/
def mine (ov pv tv : Value) (opl : List NV) : List Value := tv :: ov :: pv :: opl.map (·.2.2)
/-- a block that is neither the builder's nor one of these rows' -/
def Free (w : World) (bp : Nat) (M : List Value) (b : Nat) : Prop := b < w.heap.size ∧ b ≠ bp ∧ ∀ v ∈ M, v.ownBlock ≠ some b
/-- a value's row is another one's -/
def Apt (a b : Value) : Prop := a.ownBlock = none ∨ a.ownBlock ≠ b.ownBlock
structure TBld (N : Nat) (w : World) (bp : Nat) (s : U.Bst) (ov pv tv : Value) (outl opl : List NV) : Prop where
  base : N ≤ bp
  blk : w.heap[bp]? = some (.cells #[ov, pv, tv, .int .i64 (s.cnt : Nat), .string ⟨s.hid.toArray⟩] 78 (0, 0))
  out : w.ownsRow N 46 4 ov outl.length (ndCells outl)
  op : w.ownsRow N 46 4 pv opl.length (ndCells opl)
  tx : w.ownsRow N 9 1 tv s.tx.length (s.tx.map fun t => .string ⟨t.toArray⟩)
  eout : outl.map (·.1) = s.out
  eop : opl.map (·.1) = s.op.reverse
  dout : ∀ x ∈ outl, Done w (Free w bp (mine ov pv tv opl)) x
  dop : ∀ x ∈ opl, RdAS w (Free w bp (mine ov pv tv opl)) x.2.1 x.1.attrs ∧ ∃ pl : List NV, w.ownsRow N 46 4 x.2.2 pl.length (ndCells pl) ∧ pl.map (·.1) = x.1.parts ∧ ∀ y ∈ pl, Done w (Free w bp (mine ov pv tv opl)) y
  apart : (ov :: pv :: opl.map (·.2.2)).Pairwise Apt
/-- from one world to a later one nothing has turned but the builder's and its rows -/
structure Fr (bp : Nat) (w w' : World) (M M' : List Value) : Prop where
  os : w'.os = w.os
  tape : w'.tape = w.tape
  output : w'.output = w.output
  size : w.heap.size ≤ w'.heap.size
  block : ∀ k, Free w bp M k → w'.heap[k]? = w.heap[k]? ∧ Free w' bp M' k
theorem Fr.refl (bp : Nat) (w : World) (M : List Value) : Fr bp w w M M := ⟨rfl, rfl, rfl, Nat.le_refl _, fun _ h => ⟨rfl, h⟩⟩
theorem Fr.trans {bp : Nat} {a b c : World} {M M' M'' : List Value} (h : Fr bp a b M M') (k : Fr bp b c M' M'') : Fr bp a c M M'' :=
  ⟨k.os.trans h.os, k.tape.trans h.tape, k.output.trans h.output, Nat.le_trans h.size k.size, fun i hi => ⟨(k.block i (h.block i hi).2).1.trans (h.block i hi).1, (k.block i (h.block i hi).2).2⟩⟩
theorem Free.more {w w' : World} {bp : Nat} {M : List Value} {b : Nat} (h : Free w bp M b) (hs : w.heap.size ≤ w'.heap.size) : Free w' bp M b := ⟨Nat.lt_of_lt_of_le h.1 hs, h.2⟩
theorem Fr.later {bp : Nat} {w w' : World} {M : List Value} (hb : Below w.heap.size w w') : Fr bp w w' M M := ⟨hb.os, hb.tape, hb.output, hb.size, fun k hk => ⟨hb.block k hk.1, hk.more hb.size⟩⟩
theorem Fr.cell {bp : Nat} {w w' : World} {M M' : List Value} (h : Fr bp w w' M M') {p : Addr} (hp : Free w bp M p.block) : w'.cell? p = w.cell? p := World.cell?_of_block (h.block _ hp).1
theorem Fr.done {bp : Nat} {w w' : World} {M M' : List Value} (h : Fr bp w w' M M') {x : NV} (hx : Done w (Free w bp M) x) : Done w' (Free w' bp M') x := hx.keep (fun _ hp => h.cell hp) (fun b hb => (h.block b hb).2)
theorem Fr.atts {bp : Nat} {w w' : World} {M M' : List Value} (h : Fr bp w w' M M') {v : Value} {al : List U.Att} (hx : RdAS w (Free w bp M) v al) : RdAS w' (Free w' bp M') v al := hx.keep (fun _ hp => h.cell hp) (fun b hb => (h.block b hb).2)
section
variable {N : Nat} {w w' : World} {bp : Nat} {s : U.Bst} {ov pv tv : Value} {outl opl : List NV}
theorem TBld.lt (h : TBld N w bp s ov pv tv outl opl) : bp < w.heap.size := (Array.getElem?_eq_some_iff.1 h.blk).1
theorem TBld.mine_base (h : TBld N w bp s ov pv tv outl opl) : ∀ v ∈ mine ov pv tv opl, ∀ k, v.ownBlock = some k → N ≤ k ∧ k < w.heap.size := by
  intro v hv k hk
  rcases List.mem_cons.1 hv with rfl | hv
  · exact h.tx.lt k hk
  rcases List.mem_cons.1 hv with rfl | hv
  · exact h.out.lt k hk
  rcases List.mem_cons.1 hv with rfl | hv
  · exact h.op.lt k hk
  obtain ⟨x, hx, rfl⟩ := List.mem_map.1 hv
  obtain ⟨_, pl, hp, _⟩ := h.dop x hx
  exact hp.lt k hk
theorem TBld.free_old (h : TBld N w bp s ov pv tv outl opl) {k : Nat} (hk : k < N) : Free w bp (mine ov pv tv opl) k := by
  have h1 := h.base
  have h2 := h.lt
  refine ⟨by omega, by omega, fun v hv e => ?_⟩
  have := (h.mine_base v hv k e).1
  omega
theorem TBld.below (h : TBld N w bp s ov pv tv outl opl) {M' : List Value} (hf : Fr bp w w' (mine ov pv tv opl) M') : Below N w w' := ⟨hf.os, hf.tape, hf.output, hf.size, fun k hk => (hf.block k (h.free_old hk)).1⟩
/-- nothing old has turned -/
theorem TBld.later (h : TBld N w bp s ov pv tv outl opl) (hb : Below w.heap.size w w') : TBld N w' bp s ov pv tv outl opl := by
  have hf : Fr bp w w' (mine ov pv tv opl) (mine ov pv tv opl) := Fr.later hb
  refine ⟨h.base, (hb.block _ h.lt).trans h.blk, own_keep h.out hb, own_keep h.op hb, own_keep h.tx hb, h.eout, h.eop, fun x hx => hf.done (h.dout x hx), fun x hx => ?_, h.apart⟩
  obtain ⟨a, pl, b, c, d⟩ := h.dop x hx
  exact ⟨hf.atts a, pl, own_keep b hb, c, fun y hy => hf.done (d y hy)⟩
theorem TBld.cells (h : TBld N w bp s ov pv tv outl opl) : w.cell? ⟨bp, 0, none⟩ = some ov ∧ w.cell? ⟨bp, 1, none⟩ = some pv ∧ w.cell? ⟨bp, 2, none⟩ = some tv ∧ w.cell? ⟨bp, 3, none⟩ = some (.int .i64 (s.cnt : Nat)) ∧ w.cell? ⟨bp, 4, none⟩ = some (.string ⟨s.hid.toArray⟩) :=
  ⟨by rw [Lib.cell_of_heap h.blk]; rfl, by rw [Lib.cell_of_heap h.blk]; rfl, by rw [Lib.cell_of_heap h.blk]; rfl, by rw [Lib.cell_of_heap h.blk]; rfl, by rw [Lib.cell_of_heap h.blk]; rfl⟩
theorem TBld.unfrozen (h : TBld N w bp s ov pv tv outl opl) : w.frozen? ⟨bp, 0, none⟩ = false ∧ w.frozen? ⟨bp, 1, none⟩ = false ∧ w.frozen? ⟨bp, 2, none⟩ = false ∧ w.frozen? ⟨bp, 3, none⟩ = false ∧ w.frozen? ⟨bp, 4, none⟩ = false :=
  ⟨Lib.frozen_of_heap h.blk 0, Lib.frozen_of_heap h.blk 1, Lib.frozen_of_heap h.blk 2, Lib.frozen_of_heap h.blk 3, Lib.frozen_of_heap h.blk 4⟩
theorem TBld.op_len (h : TBld N w bp s ov pv tv outl opl) : opl.length = s.op.length := by
  have := congrArg List.length h.eop
  simpa using this
theorem TBld.out_len (h : TBld N w bp s ov pv tv outl opl) : outl.length = s.out.length := by
  have := congrArg List.length h.eout
  simpa using this
/-- a row of another type is no row of nodes -/
theorem Apt.symm {a b : Value} (h : Apt a b) : Apt b a := by
  rcases h with h | h
  · cases hb : b.ownBlock with
    | none => exact .inl hb
    | some k => right; rw [hb, h]; simp
  · cases hb : b.ownBlock with
    | none => exact .inl hb
    | some k => right; intro e; exact h e.symm
theorem TBld.tx_apart (h : TBld N w bp s ov pv tv outl opl) : Apt tv ov ∧ Apt tv pv ∧ ∀ x ∈ opl, Apt tv x.2.2 :=
  ⟨own_apart h.tx h.out (by decide), own_apart h.tx h.op (by decide), fun x hx => by obtain ⟨_, pl, hp, _⟩ := h.dop x hx; exact own_apart h.tx hp (by decide)⟩
theorem own_ne_blk {w : World} {B : Nat} {e t : TypeId} {size n : Nat} {v : Value} {xs : List Value} {b : Nat} {cs : Array Value} (h : w.ownsRow B e size v n xs) (hb : w.heap[b]? = some (.cells cs t (0, 0))) (hne : e ≠ t) : v.ownBlock ≠ some b := by
  rcases h.2 with ⟨rfl, _⟩ | ⟨g, cap, cur, rfl, _, hg, _⟩
  · simp [Value.ownBlock]
  · intro e0
    have : g = b := by simpa [Value.ownBlock] using e0
    subst this
    rw [hg] at hb
    injection hb with hb
    injection hb with _ h2 _
    exact hne h2
theorem TBld.rows_ne (h : TBld N w bp s ov pv tv outl opl) : ∀ v ∈ mine ov pv tv opl, v.ownBlock ≠ some bp := by
  intro v hv
  rcases List.mem_cons.1 hv with rfl | hv
  · exact own_ne_blk h.tx h.blk (by decide)
  rcases List.mem_cons.1 hv with rfl | hv
  · exact own_ne_blk h.out h.blk (by decide)
  rcases List.mem_cons.1 hv with rfl | hv
  · exact own_ne_blk h.op h.blk (by decide)
  obtain ⟨x, hx, rfl⟩ := List.mem_map.1 hv
  obtain ⟨_, pl, hp, _⟩ := h.dop x hx
  exact own_ne_blk hp h.blk (by decide)
/-- a row stands where its block stands -/
theorem own_of_block {w w' : World} {B : Nat} {e : TypeId} {size n : Nat} {v : Value} {xs : List Value} (h : w.ownsRow B e size v n xs) (hk : ∀ k, v.ownBlock = some k → w'.heap[k]? = w.heap[k]?) : w'.ownsRow B e size v n xs := by
  refine ⟨h.1, ?_⟩
  rcases h.2 with hn | ⟨g, cap, cur, rfl, hb, hg, r⟩
  · exact .inl hn
  · exact .inr ⟨g, cap, cur, rfl, hb, (hk g rfl).trans hg, r⟩
/-- a block of the builder's is written: only its own cells turn -/
theorem Fr.self (_h : TBld N w bp s ov pv tv outl opl) {M' : List Value} (hos : w'.os = w.os) (htape : w'.tape = w.tape) (hout : w'.output = w.output) (hsz : w.heap.size ≤ w'.heap.size) (hk : ∀ k, k < w.heap.size → k ≠ bp → w'.heap[k]? = w.heap[k]?) (hM : ∀ v ∈ M', v ∈ mine ov pv tv opl ∨ v.ownBlock = none) : Fr bp w w' (mine ov pv tv opl) M' :=
  ⟨hos, htape, hout, hsz, fun k hf => ⟨hk k hf.1 hf.2.1, Nat.lt_of_lt_of_le hf.1 hsz, hf.2.1, fun v hv => by
    rcases hM v hv with h1 | h1
    · exact hf.2.2 v h1
    · rw [h1]; simp⟩⟩
end

end Go.Proofs.YtmfkefcdddoooaaGreatDoor

namespace Go.Proofs.YtmfkefcdddoooaaGreatDoor
open Go.RowKit

theorem pair_mem {α : Type} {R : α → α → Prop} {a : α} {l : List α} (h : (a :: l).Pairwise R) {b : α} (hb : b ∈ l) : R a b := (List.pairwise_cons.1 h).1 b hb
section
variable {N : Nat} {w w' : World} {bp : Nat} {s : U.Bst} {ov pv tv : Value} {outl opl : List NV}
/-- what the builder has become, from one world to another -/
def Became (N bp : Nat) (w : World) (M : List Value) (w' : World) (s : U.Bst) : Prop := ∃ ov pv tv outl opl, TBld N w' bp s ov pv tv outl opl ∧ Fr bp w w' M (mine ov pv tv opl)
/-- outside -/
theorem TBld.add_out (h : TBld N w bp s ov pv tv outl []) {x : NV} (hx : Done w (Free w bp (mine ov pv tv [])) x) {g cap : Nat}
    (h1 : w'.ownsRow N 46 4 (.slice (some ⟨g, 0, none⟩) (outl.length + 1) cap) (outl.length + 1) (ndCells (outl ++ [x])))
    (h2 : ∀ k, k < w.heap.size → k ≠ bp → ov.ownBlock ≠ some k → w'.heap[k]? = w.heap[k]?)
    (h3 : w'.heap[bp]? = some (.cells #[.slice (some ⟨g, 0, none⟩) (outl.length + 1) cap, pv, tv, .int .i64 (s.cnt : Nat), .string ⟨s.hid.toArray⟩] 78 (0, 0)))
    (h4 : ov.ownBlock = some g ∨ w.heap.size ≤ g) (hos : w'.os = w.os) (htape : w'.tape = w.tape) (hout : w'.output = w.output) (hsz : w.heap.size ≤ w'.heap.size) :
    TBld N w' bp (s.add x.1) (.slice (some ⟨g, 0, none⟩) (outl.length + 1) cap) pv tv (outl ++ [x]) [] ∧ Fr bp w w' (mine ov pv tv []) (mine (.slice (some ⟨g, 0, none⟩) (outl.length + 1) cap) pv tv []) := by
  have hs : s.op = [] := by have := h.op_len; exact List.eq_nil_of_length_eq_zero this.symm
  have hadd : s.add x.1 = ⟨s.out ++ [x.1], s.op, s.tx, s.cnt, s.hid⟩ := by unfold U.Bst.add; rw [hs]
  have hat : ∀ k, k < w.heap.size → ov.ownBlock ≠ some k → g ≠ k := fun k hk hne e => by
    subst e
    rcases h4 with h4 | h4
    · exact hne h4
    · omega
  have hfr : Fr bp w w' (mine ov pv tv []) (mine (.slice (some ⟨g, 0, none⟩) (outl.length + 1) cap) pv tv []) := by
    refine ⟨hos, htape, hout, hsz, fun k hk => ?_⟩
    have ho := hk.2.2 ov (by simp [mine])
    refine ⟨h2 k hk.1 hk.2.1 ho, Nat.lt_of_lt_of_le hk.1 hsz, hk.2.1, fun v hv => ?_⟩
    simp only [mine, List.map_nil, List.mem_cons, List.not_mem_nil, or_false] at hv
    rcases hv with rfl | rfl | rfl
    · exact hk.2.2 _ (by simp [mine])
    · intro e; exact hat k hk.1 ho (by simpa [Value.ownBlock] using e)
    · exact hk.2.2 _ (by simp [mine])
  have hne := h.rows_ne
  obtain ⟨t1, t2, _⟩ := h.tx_apart
  have hap := h.apart
  have hkeep : ∀ v, v ∈ mine ov pv tv [] → Apt v ov → ∀ k, v.ownBlock = some k → w'.heap[k]? = w.heap[k]? := fun v hv ha k hk => by
    refine h2 k (h.mine_base v hv k hk).2 (fun e => hne v hv (by rw [hk, e])) (fun e => ?_)
    rcases ha with ha | ha
    · rw [hk] at ha; cases ha
    · exact ha (hk.trans e.symm)
  refine ⟨⟨h.base, ?_, ?_, own_of_block h.op (hkeep pv (by simp [mine]) (pair_mem hap (by simp)).symm), ?_, ?_, ?_, ?_, (fun x hx => by cases hx), ?_⟩, hfr⟩
  · rw [hadd]; exact h3
  · rw [List.length_append]; exact h1
  · rw [hadd]; exact own_of_block h.tx (hkeep tv (by simp [mine]) t1)
  · rw [hadd, List.map_append, h.eout]; rfl
  · rw [hadd]; exact h.eop
  · intro y hy
    rcases List.mem_append.1 hy with hy | hy
    · exact hfr.done (h.dout y hy)
    · obtain rfl := List.mem_singleton.1 hy
      exact hfr.done hx
  · refine List.pairwise_cons.2 ⟨fun b hb => ?_, by simp⟩
    simp only [List.map_nil, List.mem_cons, List.not_mem_nil, or_false] at hb
    subst hb
    have hp : Apt ov b := pair_mem hap (by simp)
    right
    intro e
    have hbk : b.ownBlock = some g := by rw [← e]; rfl
    refine hat g (h.op.lt g hbk).2 (fun e2 => ?_) rfl
    rcases hp.symm with h5 | h5
    · rw [hbk] at h5; cases h5
    · exact h5 (hbk.trans e2.symm)
/-- within the inmost open one -/
theorem TBld.add_in {ol : List NV} {n : U.Nd} {av qv : Value} {pl : List NV} (h : TBld N w bp s ov pv tv outl (ol ++ [(n, av, qv)])) {x : NV} (hx : Done w (Free w bp (mine ov pv tv (ol ++ [(n, av, qv)]))) x) {g cap : Nat}
    (hpl : pl.map (·.1) = n.parts) (hpd : ∀ y ∈ pl, Done w (Free w bp (mine ov pv tv (ol ++ [(n, av, qv)]))) y)
    (h1 : w'.ownsRow N 46 4 (.slice (some ⟨g, 0, none⟩) (pl.length + 1) cap) (pl.length + 1) (ndCells (pl ++ [x])))
    (h2 : ∀ k, k < w.heap.size → qv.ownBlock ≠ some k → pv.ownBlock ≠ some k → w'.heap[k]? = w.heap[k]?)
    (h3 : w'.ownsRow N 46 4 pv (ol.length + 1) (ndCells (ol ++ [(n.push x.1, av, .slice (some ⟨g, 0, none⟩) (pl.length + 1) cap)])))
    (h4 : qv.ownBlock = some g ∨ w.heap.size ≤ g) (hos : w'.os = w.os) (htape : w'.tape = w.tape) (hout : w'.output = w.output) (hsz : w.heap.size ≤ w'.heap.size) :
    TBld N w' bp (s.add x.1) ov pv tv outl (ol ++ [(n.push x.1, av, .slice (some ⟨g, 0, none⟩) (pl.length + 1) cap)]) ∧ Fr bp w w' (mine ov pv tv (ol ++ [(n, av, qv)])) (mine ov pv tv (ol ++ [(n.push x.1, av, .slice (some ⟨g, 0, none⟩) (pl.length + 1) cap)])) := by
  have heop := h.eop
  obtain ⟨r, hs, hr⟩ : ∃ r, s.op = n :: r ∧ ol.map (·.1) = r.reverse := by
    have e : s.op = (ol.map (·.1) ++ [n]).reverse := by
      rw [List.map_append] at heop
      rw [show (ol.map (·.1) ++ [n]) = s.op.reverse from heop, List.reverse_reverse]
    rw [List.reverse_append, List.reverse_singleton, List.singleton_append] at e
    exact ⟨(ol.map (·.1)).reverse, e, by rw [List.reverse_reverse]⟩
  have hadd : s.add x.1 = ⟨s.out, n.push x.1 :: r, s.tx, s.cnt, s.hid⟩ := by unfold U.Bst.add; rw [hs]
  have hat : ∀ k, k < w.heap.size → qv.ownBlock ≠ some k → g ≠ k := fun k hk hne e => by
    subst e
    rcases h4 with h4 | h4
    · exact hne h4
    · omega
  have hqm : qv ∈ mine ov pv tv (ol ++ [(n, av, qv)]) := by simp [mine]
  have hpm : pv ∈ mine ov pv tv (ol ++ [(n, av, qv)]) := by simp [mine]
  have hfr : Fr bp w w' (mine ov pv tv (ol ++ [(n, av, qv)])) (mine ov pv tv (ol ++ [(n.push x.1, av, .slice (some ⟨g, 0, none⟩) (pl.length + 1) cap)])) := by
    refine ⟨hos, htape, hout, hsz, fun k hk => ?_⟩
    have ho := hk.2.2 qv hqm
    refine ⟨h2 k hk.1 ho (hk.2.2 pv hpm), Nat.lt_of_lt_of_le hk.1 hsz, hk.2.1, fun v hv => ?_⟩
    simp only [mine, List.map_append, List.map_cons, List.map_nil, List.mem_cons, List.mem_append, List.not_mem_nil, or_false] at hv
    rcases hv with rfl | rfl | rfl | hv | rfl
    · exact hk.2.2 _ (by simp [mine])
    · exact hk.2.2 _ (by simp [mine])
    · exact hk.2.2 _ (by simp [mine])
    · exact hk.2.2 _ (by simp only [mine, List.map_append, List.mem_cons, List.mem_append]; exact .inr (.inr (.inr (.inl hv))))
    · intro e; exact hat k hk.1 ho (by simpa [Value.ownBlock] using e)
  have hne := h.rows_ne
  obtain ⟨t1, t2, t3⟩ := h.tx_apart
  have hap := h.apart
  rw [List.map_append] at hap
  obtain ⟨a1, a2⟩ := List.pairwise_cons.1 hap
  obtain ⟨a3, a4⟩ := List.pairwise_cons.1 a2
  obtain ⟨a5, _, a6⟩ := List.pairwise_append.1 a4
  have hkeep : ∀ v, v ∈ mine ov pv tv (ol ++ [(n, av, qv)]) → Apt v qv → Apt v pv → ∀ k, v.ownBlock = some k → w'.heap[k]? = w.heap[k]? := fun v hv ha hb k hk => by
    refine h2 k (h.mine_base v hv k hk).2 (fun e => ?_) (fun e => ?_)
    · rcases ha with ha | ha
      · rw [hk] at ha; cases ha
      · exact ha (hk.trans e.symm)
    · rcases hb with hb | hb
      · rw [hk] at hb; cases hb
      · exact hb (hk.trans e.symm)
  have hmo : ∀ y ∈ ol, y.2.2 ∈ mine ov pv tv (ol ++ [(n, av, qv)]) := fun y hy => by
    simp only [mine, List.map_append, List.mem_cons, List.mem_append]
    exact .inr (.inr (.inr (.inl (List.mem_map.2 ⟨y, hy, rfl⟩))))
  have hyq : ∀ y ∈ ol, Apt y.2.2 qv := fun y hy => a6 _ (List.mem_map.2 ⟨y, hy, rfl⟩) _ (by simp)
  have hyp : ∀ y ∈ ol, Apt y.2.2 pv := fun y hy => (a3 _ (List.mem_append_left _ (List.mem_map.2 ⟨y, hy, rfl⟩))).symm
  have hnew : ∀ v, v ∈ mine ov pv tv (ol ++ [(n, av, qv)]) → Apt v qv → Apt v (.slice (some ⟨g, 0, none⟩) (pl.length + 1) cap) := fun v hv ha => by
    cases hvb : v.ownBlock with
    | none => exact .inl hvb
    | some k =>
      right
      rw [hvb]
      intro e
      refine hat k (h.mine_base v hv k hvb).2 (fun e2 => ?_) (by simpa [Value.ownBlock] using e.symm)
      rcases ha with ha | ha
      · rw [hvb] at ha; cases ha
      · exact ha (hvb.trans e2.symm)
  have hblk : w'.heap[bp]? = w.heap[bp]? := h2 bp h.lt (hne qv hqm) (hne pv hpm)
  refine ⟨⟨h.base, ?_, own_of_block h.out (hkeep ov (by simp [mine]) (a1 _ (by simp)) (a1 _ (by simp))), ?_, ?_, ?_, ?_, fun y hy => hfr.done (h.dout y hy), ?_, ?_⟩, hfr⟩
  · rw [hblk, hadd]; exact h.blk
  · rw [List.length_append]; exact h3
  · rw [hadd]; exact own_of_block h.tx (hkeep tv (by simp [mine]) (t3 (n, av, qv) (by simp)) t2)
  · rw [hadd]; exact h.eout
  · rw [hadd, List.map_append, hr, List.reverse_cons]; rfl
  · intro y hy
    rcases List.mem_append.1 hy with hy | hy
    · obtain ⟨b1, ql, b2, b3, b4⟩ := h.dop y (List.mem_append_left _ hy)
      exact ⟨hfr.atts b1, ql, own_of_block b2 (hkeep _ (hmo y hy) (hyq y hy) (hyp y hy)), b3, fun z hz => hfr.done (b4 z hz)⟩
    · obtain rfl := List.mem_singleton.1 hy
      obtain ⟨b1, _⟩ := h.dop (n, av, qv) (by simp)
      refine ⟨?_, pl ++ [x], ?_, ?_, ?_⟩
      · show RdAS w' _ av (n.push x.1).attrs
        rw [U.Nd.push_attrs]
        exact hfr.atts b1
      · rw [List.length_append]; exact h1
      · show _ = (n.push x.1).parts
        rw [U.Nd.push_parts, List.map_append, hpl]
        rfl
      · intro z hz
        rcases List.mem_append.1 hz with hz | hz
        · exact hfr.done (hpd z hz)
        · obtain rfl := List.mem_singleton.1 hz
          exact hfr.done hx
  · rw [List.map_append]
    refine List.pairwise_cons.2 ⟨fun b hb => ?_, List.pairwise_cons.2 ⟨fun b hb => ?_, List.pairwise_append.2 ⟨a5, by simp, fun a ha b hb => ?_⟩⟩⟩
    · rcases List.mem_cons.1 hb with rfl | hb
      · exact a1 _ (by simp)
      rcases List.mem_append.1 hb with hb | hb
      · exact a1 _ (List.mem_cons_of_mem _ (List.mem_append_left _ hb))
      · obtain rfl := List.mem_singleton.1 hb
        exact hnew ov (by simp [mine]) (a1 _ (by simp))
    · rcases List.mem_append.1 hb with hb | hb
      · exact a3 _ (List.mem_append_left _ hb)
      · obtain rfl := List.mem_singleton.1 hb
        exact hnew pv hpm (a3 _ (by simp))
    · obtain rfl := List.mem_singleton.1 hb
      obtain ⟨y, hy, rfl⟩ := List.mem_map.1 ha
      exact hnew _ (hmo y hy) (hyq y hy)
end

end Go.Proofs.YtmfkefcdddoooaaGreatDoor

namespace Go.Proofs.YtmfkefcdddoooaaGreatDoor
open Go.RowKit

theorem infoNode : (Tryz.prog.info? 46).map (fun i => (i.zero, i.size, i.bytes)) = some (some (.agg #[.string .empty, .slice none 0 0, .string .empty, .slice none 0 0]), 4, 80) := by kernel_rfl

theorem alloc2_new (w : World) (A B : Obj) : ((w.alloc A).alloc B).drew.heap[w.heap.size + 1]? = some B := by
  have h := heap_alloc_new (w.alloc A) B
  rw [show (w.alloc A).heap.size = w.heap.size + 1 by simp] at h
  exact h
/-- the four cells of the element that was appended last -/
theorem last_cells {w : World} {N g n cap : Nat} {e : TypeId} {xs : List Value} {a b c d : Value} (h : w.ownsRow N e 4 (.slice (some ⟨g, 0, none⟩) (n + 1) cap) (n + 1) (xs ++ [a, b, c, d])) :
    w.cell? ⟨g, n * 4, none⟩ = some a ∧ w.cell? ⟨g, n * 4 + 1, none⟩ = some b ∧ w.cell? ⟨g, n * 4 + 2, none⟩ = some c ∧ w.cell? ⟨g, n * 4 + 3, none⟩ = some d ∧
      w.frozen? ⟨g, n * 4, none⟩ = false ∧ w.frozen? ⟨g, n * 4 + 1, none⟩ = false ∧ w.frozen? ⟨g, n * 4 + 2, none⟩ = false ∧ w.frozen? ⟨g, n * 4 + 3, none⟩ = false := by
  have hl : xs.length = n * 4 := by
    have := h.1
    rw [List.length_append] at this
    simp at this
    omega
  refine ⟨(h.cellAt _ (by omega)).trans ?_, (h.cellAt _ (by omega)).trans ?_, (h.cellAt _ (by omega)).trans ?_, (h.cellAt _ (by omega)).trans ?_, h.frozenAt _, h.frozenAt _, h.frozenAt _, h.frozenAt _⟩
  · rw [List.getElem?_append_right (by omega), hl, Nat.sub_self]; rfl
  · rw [List.getElem?_append_right (by omega), hl, show n * 4 + 1 - n * 4 = 1 by omega]; rfl
  · rw [List.getElem?_append_right (by omega), hl, show n * 4 + 2 - n * 4 = 2 by omega]; rfl
  · rw [List.getElem?_append_right (by omega), hl, show n * 4 + 3 - n * 4 = 3 by omega]; rfl

theorem grown_trans4 {a b c : World} {row : Option Nat} (h1 : a.grownBy b row) (h2 : b.grownBy c row) : a.grownBy c row :=
  ⟨h2.os.trans h1.os, h2.tape.trans h1.tape, h2.output.trans h1.output, Nat.le_trans h1.size h2.size, fun k hk hne => (h2.block k (Nat.lt_of_lt_of_le hk h1.size) hne).trans (h1.block k hk hne)⟩
/-- four cells of a row are written -/
def set4 (w : World) (g o : Nat) (a b c d : Value) : World := (((w.setCell ⟨g, o, none⟩ a).setCell ⟨g, o + 1, none⟩ b).setCell ⟨g, o + 2, none⟩ c).setCell ⟨g, o + 3, none⟩ d
theorem set4_row {w : World} {N g n cap : Nat} {e : TypeId} {xs : List Value} {a b c d a' b' c' d' : Value} (h : w.ownsRow N e 4 (.slice (some ⟨g, 0, none⟩) (n + 1) cap) (n + 1) (xs ++ [a, b, c, d])) :
    (set4 w g (n * 4) a' b' c' d').ownsRow N e 4 (.slice (some ⟨g, 0, none⟩) (n + 1) cap) (n + 1) (xs ++ [a', b', c', d']) ∧ w.grownBy (set4 w g (n * 4) a' b' c' d') (some g) := by
  have hl : xs.length = n * 4 := by
    have := h.1
    rw [List.length_append] at this
    simp at this
    omega
  obtain ⟨h1, g1⟩ := h.stored (n * 4) a'
  obtain ⟨h2, g2⟩ := h1.stored (n * 4 + 1) b'
  obtain ⟨h3, g3⟩ := h2.stored (n * 4 + 2) c'
  obtain ⟨h4, g4⟩ := h3.stored (n * 4 + 3) d'
  refine ⟨?_, grown_trans4 (grown_trans4 (grown_trans4 g1 g2) g3) g4⟩
  have e : ((((xs ++ [a, b, c, d]).set (n * 4) a').set (n * 4 + 1) b').set (n * 4 + 2) c').set (n * 4 + 3) d' = xs ++ [a', b', c', d'] := by
    rw [← hl, List.set_append_right _ _ (by omega), List.set_append_right _ _ (by omega), List.set_append_right _ _ (by omega), List.set_append_right _ _ (by omega)]
    simp
  rw [e] at h4
  exact h4
/-- the builder's first cell is written -/
theorem blk_set0 {w : World} {bp : Nat} {a b c d e v : Value} {t : TypeId} (h : w.heap[bp]? = some (.cells #[a, b, c, d, e] t (0, 0))) : (w.setCell ⟨bp, 0, none⟩ v).heap[bp]? = some (.cells #[v, b, c, d, e] t (0, 0)) := by
  simp [World.setCell, Array.getElem?_modify, h]
section
variable {N : Nat} {w w1 w7 : World} {bp : Nat} {s : U.Bst} {ov pv tv : Value} {outl : List NV} {g cap : Nat} {x : NV} {a b c d : Value}
/-- the end of add: the node lies in the row, the row in the builder; whichever came first -/
theorem add_out_end (h : TBld N w bp s ov pv tv outl []) (hx : Done w (Free w bp (mine ov pv tv [])) x) (hb : Below w.heap.size w w1) (hg : w1.grownBy w7 ov.ownBlock)
    (ho : w7.ownsRow N 46 4 (.slice (some ⟨g, 0, none⟩) (outl.length + 1) cap) (outl.length + 1) (ndCells outl ++ [a, b, c, d])) (hat : ov.ownBlock = some g ∨ w.heap.size ≤ g) (hgb : g ≠ bp) (w9 : World)
    (h9 : w9 = (set4 w7 g (outl.length * 4) (.string ⟨x.1.name.toArray⟩) x.2.1 (.string ⟨x.1.text.toArray⟩) x.2.2).setCell ⟨bp, 0, none⟩ (.slice (some ⟨g, 0, none⟩) (outl.length + 1) cap) ∨ w9 = set4 (w7.setCell ⟨bp, 0, none⟩ (.slice (some ⟨g, 0, none⟩) (outl.length + 1) cap)) g (outl.length * 4) (.string ⟨x.1.name.toArray⟩) x.2.1 (.string ⟨x.1.text.toArray⟩) x.2.2) :
    Became N bp w (mine ov pv tv []) w9 (s.add x.1) := by
  have hlt := h.lt
  have hs1 := hb.size
  have hs7 := hg.size
  have hne := h.rows_ne ov (by simp [mine])
  have hb7 : w7.heap[bp]? = some (.cells #[ov, pv, tv, .int .i64 (s.cnt : Nat), .string ⟨s.hid.toArray⟩] 78 (0, 0)) := (hg.block bp (by omega) (fun e => hne e.symm)).trans ((hb.block _ hlt).trans h.blk)
  have hcell : ndCells (outl ++ [x]) = ndCells outl ++ [.string ⟨x.1.name.toArray⟩, x.2.1, .string ⟨x.1.text.toArray⟩, x.2.2] := by rw [ndCells_append]; rfl
  have key : w9.ownsRow N 46 4 (.slice (some ⟨g, 0, none⟩) (outl.length + 1) cap) (outl.length + 1) (ndCells (outl ++ [x])) ∧ w9.heap[bp]? = some (.cells #[.slice (some ⟨g, 0, none⟩) (outl.length + 1) cap, pv, tv, .int .i64 (s.cnt : Nat), .string ⟨s.hid.toArray⟩] 78 (0, 0)) ∧
      (∀ k, k < w7.heap.size → k ≠ bp → k ≠ g → w9.heap[k]? = w7.heap[k]?) ∧ w9.os = w7.os ∧ w9.tape = w7.tape ∧ w9.output = w7.output ∧ w7.heap.size ≤ w9.heap.size := by
    rw [hcell]
    rcases h9 with rfl | rfl
    · obtain ⟨r1, r2⟩ := set4_row (a' := .string ⟨x.1.name.toArray⟩) (b' := x.2.1) (c' := .string ⟨x.1.text.toArray⟩) (d' := x.2.2) ho
      refine ⟨own_of_block r1 (fun k hk => Below.heap_setCell _ _ _ _ (fun e => hgb (by rw [← (show k = bp from e)]; simpa [Value.ownBlock] using hk))), blk_set0 ((r2.block bp (by omega) (by simpa using fun e => hgb e.symm)).trans hb7), fun k hk h1 h2 => (Below.heap_setCell _ _ _ _ h1).trans (r2.block k hk (by simpa using h2)), r2.os, r2.tape, r2.output, ?_⟩
      simpa [World.setCell] using r2.size
    · have ho2 := own_of_block (w' := w7.setCell ⟨bp, 0, none⟩ (.slice (some ⟨g, 0, none⟩) (outl.length + 1) cap)) ho (fun k hk => Below.heap_setCell _ _ _ _ (fun e => hgb (by rw [← (show k = bp from e)]; simpa [Value.ownBlock] using hk)))
      obtain ⟨r1, r2⟩ := set4_row (a' := .string ⟨x.1.name.toArray⟩) (b' := x.2.1) (c' := .string ⟨x.1.text.toArray⟩) (d' := x.2.2) ho2
      refine ⟨r1, (r2.block bp (by simp [World.setCell]; omega) (by simpa using fun e => hgb e.symm)).trans (blk_set0 hb7), fun k hk h1 h2 => (r2.block k (by simp [World.setCell]; omega) (by simpa using h2)).trans (Below.heap_setCell _ _ _ _ h1), r2.os, r2.tape, r2.output, ?_⟩
      have := r2.size
      simpa [World.setCell] using this
  obtain ⟨k1, k2, k3, k4, k5, k6, k7⟩ := key
  refine ⟨_, _, _, _, _, h.add_out hx k1 (fun k hk h1 h2 => ?_) k2 hat (k4.trans (hg.os.trans hb.os)) (k5.trans (hg.tape.trans hb.tape)) (k6.trans (hg.output.trans hb.output)) (by omega)⟩
  have hkg : k ≠ g := by
    rintro rfl
    rcases hat with h5 | h5
    · exact h2 h5
    · omega
  exact (k3 k (by omega) h1 hkg).trans ((hg.block k (by omega) (fun e => h2 e.symm)).trans (hb.block k hk))
end

set_option maxHeartbeats 4000000 in
set_option maxRecDepth 1000000 in
theorem add_out (N : Nat) (w : World) (bp : Nat) (s : U.Bst) (ov pv tv : Value) (outl : List NV) (h : TBld N w bp s ov pv tv outl []) (x : NV) (hx : Done w (Free w bp (mine ov pv tv [])) x) (hs : outl.length ≤ 1048576) :
    Calls Tryz.prog 74 #[.pointer (some ⟨bp, 0, none⟩), .agg #[.string ⟨x.1.name.toArray⟩, x.2.1, .string ⟨x.1.text.toArray⟩, x.2.2]] w fun e w' => e = .returned (.tuple #[]) ∧ Became N bp w (mine ov pv tv []) w' (s.add x.1) := by
  obtain ⟨iT, hiT, hT0, hT1, hT2⟩ := info_parts infoNode
  obtain ⟨ao, cap, rfl⟩ := own_form h.out
  obtain ⟨po, pcap, rfl⟩ := own_form h.op
  obtain ⟨c0, c1, c2, c3, c4⟩ := h.cells
  obtain ⟨f0, f1, f2, f3, f4⟩ := h.unfrozen
  obtain ⟨⟨n, at_, tx, ps⟩, av, qv⟩ := x
  obtain ⟨aa, acap, ea⟩ : ∃ aa acap, av = .slice aa at_.length acap := by obtain ⟨a, b, e, _⟩ := hx.1; exact ⟨a, b, e⟩
  obtain ⟨qa, qcap, eq⟩ : ∃ qa qcap, qv = .slice qa ps.length qcap := by obtain ⟨a, b, e, _⟩ := hx.2; exact ⟨a, b, e⟩
  subst ea
  subst eq
  have hlt := h.lt
  have k0 := fun O => (cell_alloc_old w O ⟨bp, 0, none⟩ hlt).trans c0
  have k1 := fun O => (cell_alloc_old w O ⟨bp, 1, none⟩ hlt).trans c1
  go_enter Tryz.func74, Tryz.ntmps74
  go_wp2_with fail
  have hd := h.later (((Below.refl w.heap.size w).alloc (Nat.le_refl _) (.cells #[.string ⟨(U.Nd.mk n at_ tx ps).name.toArray⟩, .slice aa at_.length acap, .string ⟨(U.Nd.mk n at_ tx ps).text.toArray⟩, .slice qa ps.length qcap] 46 (0, 0))).trans (below_drewN (Below.refl w.heap.size _) 1))
  have hne := h.rows_ne (.slice ao outl.length cap) (by simp [mine])
  have hb7 : ∀ {O O' : Obj} {w7 : World}, ((w.alloc O).alloc O').drew.grownBy w7 (Value.slice ao outl.length cap).ownBlock → w7.cell? ⟨bp, 0, none⟩ = some (.slice ao outl.length cap) ∧ w7.frozen? ⟨bp, 0, none⟩ = false := fun {O O' w7} hg => by
    have hb : w7.heap[bp]? = w.heap[bp]? := (hg.block bp (by simp; omega) (fun e => hne e.symm)).trans ((Lib.alloc_old (w.alloc O) O' _ (by simp; omega)).trans (Lib.alloc_old w O _ hlt))
    exact ⟨(World.cell?_of_block hb).trans c0, (World.frozen?_of_block hb).trans f0⟩
  have hi : (outl.length : Int) < (outl.length : Int) + 1 := by omega
  go_region_law? (
        (refine step_append_lies _ (by rfl) _ _ _ (by rfl) N 46 iT _ 4 80 Tryz.underlying36 hiT hT0 hT1 hT2 rfl (by omega) (.slice ao outl.length cap) outl.length (ndCells outl) (by rfl) (hd.out.alloc _)
            ⟨w.heap.size + 1, 0, none⟩ 1 1 [.string ⟨#[]⟩, .slice none 0 0, .string ⟨#[]⟩, .slice none 0 0] (by rfl) (by rfl) (World.news_of_block (cs := #[.string ⟨#[]⟩, .slice none 0 0, .string ⟨#[]⟩, .slice none 0 0]) (t := 46) (fr := (0, 0)) (alloc2_new w _ _)) (by simp [Value.oneCell'])
            (by omega) (by unfold maxLen; omega) (by omega) (by have := h.base; simp; omega) (w.heap.size + 2) (by simp) ?_; intro gg cap7 w7 hown7 hgrow7 hat7 hlt7; obtain ⟨z0, z1, z2, z3, y0, y1, y2, y3⟩ := last_cells hown7; have hgb : gg ≠ bp := (by rintro rfl; rcases hat7 with h5 | h5; exact h.rows_ne _ (by simp [mine]) h5; omega); have hgb2 : bp ≠ gg := fun e => hgb e.symm; obtain ⟨q0, q1⟩ := hb7 hgrow7))
  all_goals
    have HE := Lib.hid (fun w9 h9 => add_out_end h hx (((Below.refl w.heap.size w).alloc (Nat.le_refl _) (.cells #[.string ⟨(U.Nd.mk n at_ tx ps).name.toArray⟩, .slice aa at_.length acap, .string ⟨(U.Nd.mk n at_ tx ps).text.toArray⟩, .slice qa ps.length qcap] 46 (0, 0))).alloc (by simp) (.cells #[.string ⟨#[]⟩, .slice none 0 0, .string ⟨#[]⟩, .slice none 0 0] 46 (0, 0))).drew hgrow7 hown7 (hat7.imp id (by omega)) hgb w9 h9)
    clear hown7 hgrow7 hat7 hlt7 hb7 hd q0 q1 z0 z1 z2 z3 y0 y1 y2 y3 hx
    go_wp2_with fail
    go_end0
    refine ⟨rfl, HE.out _ ?_⟩
    dsimp only [set4]
    first | (left; with_reducible rfl) | (right; with_reducible rfl)

end Go.Proofs.YtmfkefcdddoooaaGreatDoor

namespace Go.Proofs.YtmfkefcdddoooaaGreatDoor
open Go.RowKit

theorem in_cells (ol : List NV) (n x : U.Nd) (av qv v : Value) : (ndCells (ol ++ [(n, av, qv)])).set (ol.length * 4 + 3) v = ndCells (ol ++ [(n.push x, av, v)]) := by
  have hl : (ndCells ol).length = ol.length * 4 := ndCells_length ol
  rw [ndCells_append, ndCells_append, ← hl, List.set_append_right _ _ (by omega), Nat.add_sub_cancel_left]
  show _ = ndCells ol ++ [.string ⟨(n.push x).name.toArray⟩, av, .string ⟨(n.push x).text.toArray⟩, v]
  rw [U.Nd.push_name, U.Nd.push_text]
  rfl
section
variable {N : Nat} {w w1 w7 : World} {bp : Nat} {s : U.Bst} {ov pv tv : Value} {outl ol : List NV} {g cap gp pcap : Nat} {x : NV} {n : U.Nd} {av qv : Value} {pl : List NV} {a b c d : Value}
/-- the end of add, within an open one -/
theorem add_in_end (h : TBld N w bp s ov pv tv outl (ol ++ [(n, av, qv)])) (hx : Done w (Free w bp (mine ov pv tv (ol ++ [(n, av, qv)]))) x) (hpl : pl.map (·.1) = n.parts) (hpd : ∀ y ∈ pl, Done w (Free w bp (mine ov pv tv (ol ++ [(n, av, qv)]))) y)
    (hpv : pv = .slice (some ⟨gp, 0, none⟩) (ol.length + 1) pcap) (hb : Below w.heap.size w w1) (hg : w1.grownBy w7 qv.ownBlock)
    (ho : w7.ownsRow N 46 4 (.slice (some ⟨g, 0, none⟩) (pl.length + 1) cap) (pl.length + 1) (ndCells pl ++ [a, b, c, d])) (hat : qv.ownBlock = some g ∨ w.heap.size ≤ g) (w9 : World)
    (h9 : w9 = (set4 w7 g (pl.length * 4) (.string ⟨x.1.name.toArray⟩) x.2.1 (.string ⟨x.1.text.toArray⟩) x.2.2).setCell ⟨gp, ol.length * 4 + 3, none⟩ (.slice (some ⟨g, 0, none⟩) (pl.length + 1) cap) ∨ w9 = set4 (w7.setCell ⟨gp, ol.length * 4 + 3, none⟩ (.slice (some ⟨g, 0, none⟩) (pl.length + 1) cap)) g (pl.length * 4) (.string ⟨x.1.name.toArray⟩) x.2.1 (.string ⟨x.1.text.toArray⟩) x.2.2) :
    Became N bp w (mine ov pv tv (ol ++ [(n, av, qv)])) w9 (s.add x.1) := by
  have hs1 := hb.size
  have hs7 := hg.size
  have hpb : pv.ownBlock = some gp := by rw [hpv]; rfl
  have hgp := (h.op.lt gp hpb).2
  have hap : Apt pv qv := by
    have h1 := (List.pairwise_cons.1 h.apart).2
    exact (List.pairwise_cons.1 h1).1 qv (by simp)
  have hqp : qv.ownBlock ≠ some gp := fun e => by
    rcases hap with h5 | h5
    · rw [hpb] at h5; cases h5
    · exact h5 (hpb.trans e.symm)
  have hgg : g ≠ gp := by
    rintro rfl
    rcases hat with h5 | h5
    · exact hqp h5
    · omega
  have hp7 : w7.ownsRow N 46 4 pv (ol.length + 1) (ndCells (ol ++ [(n, av, qv)])) := by
    have h0 := h.op
    rw [List.length_append] at h0
    refine own_of_block h0 (fun k hk => ?_)
    have e : k = gp := by rw [hpb] at hk; injection hk with hk; exact hk.symm
    subst e
    exact (hg.block k (by omega) (fun e => hqp e.symm)).trans (hb.block _ hgp)
  have hcell : ndCells (pl ++ [x]) = ndCells pl ++ [.string ⟨x.1.name.toArray⟩, x.2.1, .string ⟨x.1.text.toArray⟩, x.2.2] := by rw [ndCells_append]; rfl
  have key : w9.ownsRow N 46 4 (.slice (some ⟨g, 0, none⟩) (pl.length + 1) cap) (pl.length + 1) (ndCells (pl ++ [x])) ∧ w9.ownsRow N 46 4 pv (ol.length + 1) (ndCells (ol ++ [(n.push x.1, av, .slice (some ⟨g, 0, none⟩) (pl.length + 1) cap)])) ∧
      (∀ k, k < w7.heap.size → k ≠ gp → k ≠ g → w9.heap[k]? = w7.heap[k]?) ∧ w9.os = w7.os ∧ w9.tape = w7.tape ∧ w9.output = w7.output ∧ w7.heap.size ≤ w9.heap.size := by
    rw [hcell, ← in_cells ol n x.1 av qv]
    subst hpv
    rcases h9 with rfl | rfl
    · obtain ⟨r1, r2⟩ := set4_row (a' := .string ⟨x.1.name.toArray⟩) (b' := x.2.1) (c' := .string ⟨x.1.text.toArray⟩) (d' := x.2.2) ho
      have hp8 := hp7.kept r2 (.inr (by simpa [Value.ownBlock] using fun e => hgg e.symm))
      obtain ⟨r3, r4⟩ := hp8.stored (ol.length * 4 + 3) (.slice (some ⟨g, 0, none⟩) (pl.length + 1) cap)
      refine ⟨r1.kept r4 (.inr (by simpa [Value.ownBlock] using hgg)), r3, fun k hk h1 h2 => (r4.block k (Nat.lt_of_lt_of_le hk r2.size) (by simpa using h1)).trans (r2.block k hk (by simpa using h2)), r2.os, r2.tape, r2.output, ?_⟩
      exact Nat.le_trans r2.size r4.size
    · obtain ⟨r3, r4⟩ := hp7.stored (ol.length * 4 + 3) (.slice (some ⟨g, 0, none⟩) (pl.length + 1) cap)
      have ho2 := ho.kept r4 (.inr (by simpa [Value.ownBlock] using hgg))
      obtain ⟨r1, r2⟩ := set4_row (a' := .string ⟨x.1.name.toArray⟩) (b' := x.2.1) (c' := .string ⟨x.1.text.toArray⟩) (d' := x.2.2) ho2
      refine ⟨r1, r3.kept r2 (.inr (by simpa [Value.ownBlock] using fun e => hgg e.symm)), fun k hk h1 h2 => (r2.block k (Nat.lt_of_lt_of_le hk r4.size) (by simpa using h2)).trans (r4.block k hk (by simpa using h1)), r2.os, r2.tape, r2.output, ?_⟩
      exact Nat.le_trans r4.size r2.size
  obtain ⟨k1, k2, k3, k4, k5, k6, k7⟩ := key
  refine ⟨_, _, _, _, _, h.add_in hx hpl hpd k1 (fun k hk h1 h2 => ?_) k2 hat (k4.trans (hg.os.trans hb.os)) (k5.trans (hg.tape.trans hb.tape)) (k6.trans (hg.output.trans hb.output)) (by omega)⟩
  have hkg : k ≠ g := by
    rintro rfl
    rcases hat with h5 | h5
    · exact h1 h5
    · omega
  exact (k3 k (by omega) (fun e => h2 (by rw [hpb, e])) hkg).trans ((hg.block k (by omega) (fun e => h1 e.symm)).trans (hb.block k hk))
end

set_option maxHeartbeats 4000000 in
set_option maxRecDepth 1000000 in
theorem add_in (N : Nat) (w : World) (bp : Nat) (s : U.Bst) (ov pv tv : Value) (outl ol : List NV) (n0 : U.Nd) (av0 qv0 : Value) (h : TBld N w bp s ov pv tv outl (ol ++ [(n0, av0, qv0)])) (x : NV) (hx : Done w (Free w bp (mine ov pv tv (ol ++ [(n0, av0, qv0)]))) x) (hs : n0.parts.length ≤ 1048576) (hol : ol.length ≤ 1048576) :
    Calls Tryz.prog 74 #[.pointer (some ⟨bp, 0, none⟩), .agg #[.string ⟨x.1.name.toArray⟩, x.2.1, .string ⟨x.1.text.toArray⟩, x.2.2]] w fun e w' => e = .returned (.tuple #[]) ∧ Became N bp w (mine ov pv tv (ol ++ [(n0, av0, qv0)])) w' (s.add x.1) := by
  obtain ⟨iT, hiT, hT0, hT1, hT2⟩ := info_parts infoNode
  obtain ⟨_, pl, hq, hpl, hpd⟩ := h.dop (n0, av0, qv0) (by simp)
  have hpn : pl.length ≤ 1048576 := by rw [← hpl, List.length_map] at hs; exact hs
  obtain ⟨qo, qc0, eq0⟩ := own_form hq
  have eq0' : qv0 = .slice qo pl.length qc0 := eq0
  subst eq0'
  obtain ⟨gp, pcap, epv, r0, r1, r2, r3⟩ := row_nd h.op (i := ol.length) (x := (n0, av0, .slice qo pl.length qc0)) (by simp)
  rw [List.length_append] at epv
  subst epv
  obtain ⟨c0, c1, c2, c3, c4⟩ := h.cells
  obtain ⟨⟨n, at_, tx, ps⟩, av, qv⟩ := x
  obtain ⟨aa, acap, ea⟩ : ∃ aa acap, av = .slice aa at_.length acap := by obtain ⟨a, b, e, _⟩ := hx.1; exact ⟨a, b, e⟩
  obtain ⟨qa, qcap, eq⟩ : ∃ qa qcap, qv = .slice qa ps.length qcap := by obtain ⟨a, b, e, _⟩ := hx.2; exact ⟨a, b, e⟩
  subst ea
  subst eq
  have hlt := h.lt
  have hgp := (h.op.lt gp rfl).2
  have k1 := fun O => (cell_alloc_old w O ⟨bp, 1, none⟩ hlt).trans c1
  have k3 := fun O => (cell_alloc_old w O ⟨gp, ol.length * 4 + 3, none⟩ hgp).trans r3
  have j0 : (0 : Int) < (ol.length : Int) + 1 := by omega
  have j1 : (ol.length : Int) < (ol.length : Int) + 1 := by omega
  have j2 : (ol.length : Int) + 1 - 1 = (ol.length : Int) := by omega
  have R3 := Lib.hid r3
  clear r0 r1 r2 r3 c0 c2 c3 c4
  go_enter Tryz.func74, Tryz.ntmps74
  go_wp2_with fail
  go_region
  go_wp2_with fail
  have hd := h.later (((Below.refl w.heap.size w).alloc (Nat.le_refl _) (.cells #[.string ⟨(U.Nd.mk n at_ tx ps).name.toArray⟩, .slice aa at_.length acap, .string ⟨(U.Nd.mk n at_ tx ps).text.toArray⟩, .slice qa ps.length qcap] 46 (0, 0))).trans (below_drewN (Below.refl w.heap.size _) 2))
  have hq2 := own_keep hq (((Below.refl w.heap.size w).alloc (Nat.le_refl _) (.cells #[.string ⟨(U.Nd.mk n at_ tx ps).name.toArray⟩, .slice aa at_.length acap, .string ⟨(U.Nd.mk n at_ tx ps).text.toArray⟩, .slice qa ps.length qcap] 46 (0, 0))).trans (below_drewN (Below.refl w.heap.size _) 2))
  have hap : ∀ k, (Value.slice qo pl.length qc0).ownBlock = some k → gp ≠ k := by
    intro k hk e
    subst e
    have h1 := (List.pairwise_cons.1 h.apart).2
    have h2 := (List.pairwise_cons.1 h1).1 (.slice qo pl.length qc0) (by simp)
    rcases h2 with h5 | h5
    · cases h5
    · exact h5 hk.symm
  have f3 : w.frozen? ⟨gp, ol.length * 4 + 3, none⟩ = false := by
    have h0 := h.op
    rw [List.length_append] at h0
    exact h0.frozenAt _
  have hb7 : ∀ {O O' : Obj} {w7 : World}, ((w.alloc O).alloc O').drew.drew.grownBy w7 (Value.slice qo pl.length qc0).ownBlock → w7.cell? ⟨gp, ol.length * 4 + 3, none⟩ = some (.slice qo pl.length qc0) ∧ w7.frozen? ⟨gp, ol.length * 4 + 3, none⟩ = false := fun {O O' w7} hg => by
    have hb : w7.heap[gp]? = w.heap[gp]? := (hg.block gp (by simp; omega) (fun e => hap gp e.symm rfl)).trans ((Lib.alloc_old (w.alloc O) O' _ (by simp; omega)).trans (Lib.alloc_old w O _ hgp))
    exact ⟨(World.cell?_of_block hb).trans R3.out, (World.frozen?_of_block hb).trans f3⟩
  have hi : (pl.length : Int) < (pl.length : Int) + 1 := by omega
  have hN := h.base
  clear k1 j0 j1 j2
  go_region_law (
        (refine step_append_lies _ (by rfl) _ _ _ (by rfl) N 46 iT _ 4 80 Tryz.underlying36 hiT hT0 hT1 hT2 rfl (by omega) (.slice qo pl.length qc0) pl.length (ndCells pl) (by rfl) (hq2.alloc _)
            ⟨w.heap.size + 1, 0, none⟩ 1 1 [.string ⟨#[]⟩, .slice none 0 0, .string ⟨#[]⟩, .slice none 0 0] (by rfl) (by rfl) (World.news_of_block (cs := #[.string ⟨#[]⟩, .slice none 0 0, .string ⟨#[]⟩, .slice none 0 0]) (t := 46) (fr := (0, 0)) (alloc2_new w _ _)) (by simp [Value.oneCell'])
            (by omega) (by unfold maxLen; omega) (by omega) (by simp; omega) (w.heap.size + 2) (by simp) ?_; intro gg cap7 w7 hown7 hgrow7 hat7 hlt7; obtain ⟨z0, z1, z2, z3, y0, y1, y2, y3⟩ := last_cells hown7; have hgb : gg ≠ gp := (by rintro rfl; rcases hat7 with h5 | h5; exact hap _ h5 rfl; omega); have hgb2 : gp ≠ gg := fun e => hgb e.symm; obtain ⟨q0, q1⟩ := hb7 hgrow7))
  all_goals
    have HE := Lib.hid (fun w9 h9 => add_in_end h hx hpl hpd rfl (((Below.refl w.heap.size w).alloc (Nat.le_refl _) (.cells #[.string ⟨(U.Nd.mk n at_ tx ps).name.toArray⟩, .slice aa at_.length acap, .string ⟨(U.Nd.mk n at_ tx ps).text.toArray⟩, .slice qa ps.length qcap] 46 (0, 0))).alloc (by simp) (.cells #[.string ⟨#[]⟩, .slice none 0 0, .string ⟨#[]⟩, .slice none 0 0] 46 (0, 0))).drew.drew hgrow7 hown7 (hat7.imp id (by omega)) w9 h9)
    clear hown7 hgrow7 hat7 hlt7 hb7 hd q0 q1 z0 z1 z2 z3 y0 y1 y2 y3 hx hq2 hap hpd hpl
    go_wp2_with fail
    go_end0
    refine ⟨rfl, HE.out _ ?_⟩
    dsimp only [set4]
    first | (left; with_reducible rfl) | (right; with_reducible rfl)

end Go.Proofs.YtmfkefcdddoooaaGreatDoor

/- Many rows of numbers that grow side by side. -/
import Derived.Test.YtonchdhchaiikaaAuBlk
import Derived.Deep.AppendLies
namespace Go.Proofs.Ytonchdhchaiikaa
open Go.RowKit

theorem cell_alloc_old (w : World) (o : Obj) (p : Addr) (h : p.block < w.heap.size) : (w.alloc o).cell? p = w.cell? p := ((Below.refl w.heap.size w).alloc (Nat.le_refl _) o).cell h
theorem frozen_alloc_old (w : World) (o : Obj) (p : Addr) (h : p.block < w.heap.size) : (w.alloc o).frozen? p = w.frozen? p := ((Below.refl w.heap.size w).alloc (Nat.le_refl _) o).frozen h
def iv (l : List Int) : List Value := l.map (Value.int .i64)
theorem iv_length (l : List Int) : (iv l).length = l.length := List.length_map ..
theorem iv_get {l : List Int} {j : Nat} {x : Int} (h : l[j]? = some x) : (iv l)[j]? = some (.int .i64 x) := by simp [iv, h]
/-- rows, each of the call's own, no two in one block -/
structure Rows (w : World) (B : Nat) (rs : List (Value × List Int)) : Prop where
  own : ∀ (i : Nat) (r : Value × List Int), rs[i]? = some r → w.ownsRow B 3 1 r.1 r.2.length (iv r.2)
  apart : ∀ (i j : Nat) (r s : Value × List Int), i ≠ j → rs[i]? = some r → rs[j]? = some s → ∀ b, r.1.ownBlock = some b → s.1.ownBlock ≠ some b
theorem Rows.kept {w w' : World} {B : Nat} {rs : List (Value × List Int)} {row : Option Nat} (h : Rows w B rs) (hg : w.grownBy w' row) (hne : ∀ (i : Nat) (r : Value × List Int), rs[i]? = some r → r.1.ownBlock = none ∨ r.1.ownBlock ≠ row) : Rows w' B rs :=
  ⟨fun i r hr => (h.own i r hr).kept hg (hne i r hr), h.apart⟩
theorem Rows.alloc {w : World} {B : Nat} {rs : List (Value × List Int)} (h : Rows w B rs) (O : Obj) : Rows (w.alloc O) B rs := ⟨fun i r hr => (h.own i r hr).alloc O, h.apart⟩
theorem Rows.drew {w : World} {B : Nat} {rs : List (Value × List Int)} (h : Rows w B rs) : Rows w.drew B rs := ⟨fun i r hr => (h.own i r hr).drew, h.apart⟩
/-- a row's form, its cells -/
theorem Rows.form {w : World} {B : Nat} {rs : List (Value × List Int)} (h : Rows w B rs) {i : Nat} {r : Value × List Int} (hr : rs[i]? = some r) : ∃ ao cap, r.1 = .slice ao r.2.length cap := own_form (h.own i r hr)
theorem Rows.at {w : World} {B : Nat} {rs : List (Value × List Int)} (h : Rows w B rs) {i : Nat} {v : Value} {l : List Int} (hr : rs[i]? = some (v, l)) {j : Nat} {x : Int} (hx : l[j]? = some x) :
    ∃ g cap, v = .slice (some ⟨g, 0, none⟩) l.length cap ∧ w.cell? ⟨g, j, none⟩ = some (.int .i64 x) ∧ w.frozen? ⟨g, j, none⟩ = false ∧ v.ownBlock = some g ∧ B ≤ g ∧ g < w.heap.size := by
  have ho := h.own i _ hr
  have hj : j < l.length := (List.getElem?_eq_some_iff.1 hx).1
  obtain ⟨g, cap, e, hB, hlt⟩ := ho.form (by show 0 < l.length; omega)
  have e2 : v = .slice (some ⟨g, 0, none⟩) l.length cap := e
  subst e2
  have c := ho.cellAt j (by show j < l.length * 1; omega)
  rw [iv_get hx] at c
  exact ⟨g, cap, rfl, c, ho.frozenAt j, rfl, hB, hlt⟩
/-- blocks of another kind stand as they stood -/
def Oth (w w' : World) : Prop := ∀ (b : Nat) (cs : Array Value) (T : TypeId) (fr : Nat × Nat), T ≠ 3 → T ≠ 27 → w.heap[b]? = some (.cells cs T fr) → w'.heap[b]? = some (.cells cs T fr)
theorem Oth.refl (w : World) : Oth w w := fun _ _ _ _ _ _ h => h
theorem Oth.trans {a b c : World} (h : Oth a b) (k : Oth b c) : Oth a c := fun i cs T fr h1 h2 h3 => k i cs T fr h1 h2 (h i cs T fr h1 h2 h3)
theorem heap_lt {w : World} {b : Nat} {O : Obj} (h : w.heap[b]? = some O) : b < w.heap.size := (Array.getElem?_eq_some_iff.1 h).1
theorem Oth.alloc {a w : World} (h : Oth a w) (O : Obj) : Oth a (w.alloc O) := fun i cs T fr h1 h2 h3 => by
  have := h i cs T fr h1 h2 h3
  rw [Below.heap_alloc w O i (heap_lt this)]
  exact this
theorem Oth.drew {a w : World} (h : Oth a w) : Oth a w.drew := h
theorem Oth.store {a w : World} (h : Oth a w) {g : Nat} {cs0 : Array Value} {T0 : TypeId} {fr0 : Nat × Nat} (hg : w.heap[g]? = some (.cells cs0 T0 fr0)) (hT : T0 = 3 ∨ T0 = 27) (j : Nat) (u : Value) : Oth a (w.setCell ⟨g, j, none⟩ u) := fun i cs T fr h1 h2 h3 => by
  have h4 := h i cs T fr h1 h2 h3
  have hne : i ≠ g := by
    intro e
    subst e
    rw [hg] at h4
    have h5 : T0 = T := by injection h4 with h4; injection h4
    subst h5
    rcases hT with e | e
    · exact h1 e
    · exact h2 e
  rw [Below.heap_setCell w ⟨g, j, none⟩ u i hne]
  exact h4
theorem Oth.below {a w w' : World} (h : Oth a w) (hb : Below w.heap.size w w') : Oth a w' := fun i cs T fr h1 h2 h3 => by
  have := h i cs T fr h1 h2 h3
  rw [hb.block i (heap_lt this)]
  exact this
theorem Rows.block {w : World} {B : Nat} {rs : List (Value × List Int)} (h : Rows w B rs) {i : Nat} {v : Value} {l : List Int} (hr : rs[i]? = some (v, l)) {g : Nat} (hg : v.ownBlock = some g) : ∃ cs, w.heap[g]? = some (.cells cs 3 (0, 0)) := by
  rcases (h.own i _ hr).2 with ⟨e, _⟩ | ⟨g', cap, cur, e, _, hb, _⟩
  · have e2 : v = .slice none 0 0 := e
    subst e2
    simp [Value.ownBlock] at hg
  · have e2 : v = .slice (some ⟨g', 0, none⟩) l.length cap := e
    subst e2
    have : g' = g := by simpa [Value.ownBlock] using hg
    subst this
    exact ⟨cur, hb⟩
/-- a store into one row -/
theorem Rows.store {w : World} {B : Nat} {rs : List (Value × List Int)} (h : Rows w B rs) {i g n cap : Nat} {l : List Int} (hr : rs[i]? = some (.slice (some ⟨g, 0, none⟩) n cap, l)) (j : Nat) (x : Int) :
    Rows (w.setCell ⟨g, j, none⟩ (.int .i64 x)) B (rs.set i (.slice (some ⟨g, 0, none⟩) n cap, l.set j x)) := by
  have hil : i < rs.length := (List.getElem?_eq_some_iff.1 hr).1
  have ho := h.own i _ hr
  have hn : n = l.length := by
    obtain ⟨ao, cap', e⟩ := own_form ho
    have e2 : Value.slice (some ⟨g, 0, none⟩) n cap = .slice ao l.length cap' := e
    injection e2
  subst hn
  have hst := ho.stored j (.int .i64 x)
  refine ⟨?_, ?_⟩
  · intro k r hk
    rw [List.getElem?_set] at hk
    by_cases e : i = k
    · subst e
      rw [if_pos rfl, if_pos hil] at hk
      have e2 : (Value.slice (some ⟨g, 0, none⟩) l.length cap, l.set j x) = r := by simpa using hk
      subst e2
      have h1 := hst.1
      show World.ownsRow _ _ _ _ (.slice (some ⟨g, 0, none⟩) l.length cap) (l.set j x).length (iv (l.set j x))
      rw [List.length_set, show iv (l.set j x) = (iv l).set j (.int .i64 x) by simp [iv, List.map_set]]
      exact h1
    · rw [if_neg e] at hk
      refine (h.own k r hk).kept hst.2 (.inr fun e2 => ?_)
      exact h.apart i k _ r e hr hk g rfl e2
  · intro a b r s hab ha hb q hq
    rw [List.getElem?_set] at ha hb
    by_cases e : i = a
    · subst e
      rw [if_pos rfl, if_pos hil] at ha
      have e2 : (Value.slice (some ⟨g, 0, none⟩) l.length cap, l.set j x) = r := by simpa using ha
      subst e2
      rw [if_neg hab] at hb
      exact h.apart i b _ s hab hr hb q hq
    · rw [if_neg e] at ha
      by_cases e3 : i = b
      · subst e3
        rw [if_pos rfl, if_pos hil] at hb
        have e2 : (Value.slice (some ⟨g, 0, none⟩) l.length cap, l.set j x) = s := by simpa using hb
        subst e2
        exact h.apart a i r _ hab ha hr q hq
      · rw [if_neg e3] at hb
        exact h.apart a b r s hab ha hb q hq
/-- a store into a block of another kind -/
theorem Rows.other {w : World} {B : Nat} {rs : List (Value × List Int)} (h : Rows w B rs) {b : Nat} {cs : Array Value} {T : TypeId} {fr : Nat × Nat} (hb : w.heap[b]? = some (.cells cs T fr)) (hT : T ≠ 3) (j : Nat) (u : Value) : Rows (w.setCell ⟨b, j, none⟩ u) B rs := by
  have hg : w.grownBy (w.setCell ⟨b, j, none⟩ u) (some b) := ⟨rfl, rfl, rfl, by simp, fun k _ hk => heap_setCell_other w ⟨b, j, none⟩ k u (fun e => hk (by simp [e]))⟩
  exact h.kept hg fun i r hr => .inr (Lib.ownBlock_ne (h.own i r hr) hb hT)
/-- one row more -/
theorem Rows.put {w : World} {B : Nat} {rs : List (Value × List Int)} (h : Rows w B rs) {v : Value} {l : List Int} (ho : w.ownsRow B 3 1 v l.length (iv l)) (hne : ∀ (i : Nat) (r : Value × List Int), rs[i]? = some r → ∀ b, v.ownBlock = some b → r.1.ownBlock ≠ some b) : Rows w B ((v, l) :: rs) := by
  refine ⟨?_, ?_⟩
  · intro i r hr
    cases i with
    | zero =>
      have e : (v, l) = r := by simpa using hr
      subst e
      exact ho
    | succ i => exact h.own i r (by simpa using hr)
  · intro i j r s hij hr hs b hb
    cases i with
    | zero =>
      have e : (v, l) = r := by simpa using hr
      subst e
      cases j with
      | zero => exact absurd rfl hij
      | succ j => exact hne j s (by simpa using hs) b hb
    | succ i =>
      cases j with
      | zero =>
        have e : (v, l) = s := by simpa using hs
        subst e
        intro h2
        exact hne i r (by simpa using hr) b h2 hb
      | succ j => exact h.apart i j r s (by omega) (by simpa using hr) (by simpa using hs) b hb
theorem Rows.nil (w : World) (B : Nat) : Rows w B [] := ⟨fun i r h => by simp at h, fun i j r s _ h => by simp at h⟩
theorem Rows.putNil {w : World} {B : Nat} {rs : List (Value × List Int)} (h : Rows w B rs) : Rows w B ((.slice none 0 0, []) :: rs) :=
  h.put (World.ownsRow_nil _ _ _ _) fun _ _ _ b hb => by simp [Value.ownBlock] at hb
/-- what an append onto one row leaves behind -/
structure AppI (w w' : World) (B : Nat) (rs : List (Value × List Int)) (i : Nat) (l : List Int) (x : Int) (g cap : Nat) : Prop where
  rows : Rows w' B (rs.set i (.slice (some ⟨g, 0, none⟩) (l.length + 1) cap, l ++ [x]))
  oth : Oth w w'
  keep : ∀ (b : Nat) (cs : Array Value) (T : TypeId) (fr : Nat × Nat), T ≠ 3 → w.heap[b]? = some (.cells cs T fr) → w'.heap[b]? = some (.cells cs T fr)
  below : Below B w w'
theorem AppI.mk' {w w' : World} {B : Nat} {rs : List (Value × List Int)} {i : Nat} {v : Value} {l : List Int} {x : Int} {g cap : Nat} (h : Rows w B rs) (hr : rs[i]? = some (v, l)) (hB : B ≤ w.heap.size)
    (ho : w'.ownsRow B 3 1 (.slice (some ⟨g, 0, none⟩) (l.length + 1) cap) (l.length + 1) (iv l ++ [.int .i64 x])) (hg : w.grownBy w' v.ownBlock) (hat : v.ownBlock = some g ∨ w.heap.size ≤ g) : AppI w w' B rs i l x g cap := by
  have hil : i < rs.length := (List.getElem?_eq_some_iff.1 hr).1
  have hkeep : ∀ (b : Nat) (cs : Array Value) (T : TypeId) (fr : Nat × Nat), T ≠ 3 → w.heap[b]? = some (.cells cs T fr) → w'.heap[b]? = some (.cells cs T fr) := by
    intro b cs T fr hT hb
    rw [hg.block b (heap_lt hb) (fun e => Lib.ownBlock_ne (h.own i _ hr) hb hT e.symm)]
    exact hb
  refine ⟨⟨?_, ?_⟩, fun b cs T fr h1 _ h3 => hkeep b cs T fr h1 h3, hkeep, (Below.refl B w).grown hg hB ?_⟩
  · intro k r hk
    rw [List.getElem?_set] at hk
    by_cases e : i = k
    · subst e
      rw [if_pos rfl, if_pos hil] at hk
      have e2 : (Value.slice (some ⟨g, 0, none⟩) (l.length + 1) cap, l ++ [x]) = r := by simpa using hk
      subst e2
      show World.ownsRow _ _ _ _ (.slice (some ⟨g, 0, none⟩) (l.length + 1) cap) (l ++ [x]).length (iv (l ++ [x]))
      rw [List.length_append, List.length_singleton, show iv (l ++ [x]) = iv l ++ [.int .i64 x] by simp [iv]]
      exact ho
    · rw [if_neg e] at hk
      refine (h.own k r hk).kept hg ?_
      cases hv : r.1.ownBlock with
      | none => exact .inl rfl
      | some b => exact .inr fun e2 => h.apart k i r _ (fun e3 => e e3.symm) hk hr b hv e2.symm
  · have hnew : ∀ (k : Nat) (r : Value × List Int), i ≠ k → rs[k]? = some r → r.1.ownBlock ≠ some g := by
      intro k r hik hk e
      rcases hat with h1 | h1
      · exact h.apart i k _ r hik hr hk g h1 e
      · have := (h.own k r hk).lt g e
        omega
    intro a b r s hab ha hb q hq
    rw [List.getElem?_set] at ha hb
    by_cases e : i = a
    · subst e
      rw [if_pos rfl, if_pos hil] at ha
      have e2 : (Value.slice (some ⟨g, 0, none⟩) (l.length + 1) cap, l ++ [x]) = r := by simpa using ha
      subst e2
      rw [if_neg hab] at hb
      have : g = q := by simpa [Value.ownBlock] using hq
      subst this
      exact hnew b s hab hb
    · rw [if_neg e] at ha
      by_cases e3 : i = b
      · subst e3
        rw [if_pos rfl, if_pos hil] at hb
        have e2 : (Value.slice (some ⟨g, 0, none⟩) (l.length + 1) cap, l ++ [x]) = s := by simpa using hb
        subst e2
        intro e4
        have : g = q := by simpa [Value.ownBlock] using e4
        subst this
        exact hnew a r (fun e5 => e e5) ha hq
      · rw [if_neg e3] at hb
        exact h.apart a b r s hab ha hb q hq
  · intro k hk
    exact ((h.own i _ hr).lt k hk).1
/-- 'r = append(r, x)' onto one of the rows, the number laid in a block of its own -/
theorem wpList_append_int (w : World) (x : Int) {ops : Array Oper} {rest : List Oper} {o : Oper} {a : Act} {Q : Exit → Act → World → Prop} (hgd : o.guard = none) (s y : Operand)
    (ho : o.op = .call { callee := .builtin .append, args := #[s, y], argTypes := #[27, 27] })
    (B : Nat) (rs : List (Value × List Int)) (i : Nat) (v : Value) (l : List Int) (hR : Rows w B rs) (hi : rs[i]? = some (v, l)) (hl : l.length ≤ 1048576) (hB : B ≤ w.heap.size)
    (hs : a.eval s = v) (H : Nat) (hH : w.heap.size = H) (hy : a.eval y = .slice (some ⟨H, 0, none⟩) 1 1)
    (h : ∀ g cap w', AppI w w' B rs i l x g cap → wpList Try.prog ops Q rest (a.put o.dst (.slice (some ⟨g, 0, none⟩) (l.length + 1) cap)) w') :
    wpList Try.prog ops Q (o :: rest) a (w.alloc (.cells #[.int .i64 x] 3 (0, 0))) := by
  obtain ⟨iT, hiT, hT0, hT1, hT2⟩ := info_parts info3
  subst hH
  refine wpList_append_lies (w.alloc (.cells #[.int .i64 x] 3 (0, 0))) hgd s y 27 ho B 3 iT (.int .i64 0) 1 8 Try.underlying27 hiT hT0 hT1 hT2 rfl (by decide) v l.length (iv l) hs ((hR.own i _ hi).alloc _)
    ⟨w.heap.size, 0, none⟩ 1 1 [.int .i64 x] hy rfl ?_ ?_ (by decide) (by unfold maxLen; omega) (by omega) (by simp; omega) (w.heap.size + 1) (by simp) ?_
  · intro j u hu
    have hn := heap_alloc_new w (.cells #[.int .i64 x] 3 (0, 0))
    have hj : j = 0 := by
      have := (List.getElem?_eq_some_iff.1 hu).1
      simp at this
      omega
    subst hj
    have : Value.int .i64 x = u := by simpa using hu
    subst this
    show World.cell? _ ⟨w.heap.size, 0, none⟩ = _
    rw [Lib.cell_of_heap hn]
    rfl
  · intro u hu
    have : u = Value.int .i64 x := by simpa using hu
    subst this
    rfl
  · intro g cap w' how hgr hat hlt
    have hA := AppI.mk' (hR.alloc (.cells #[.int .i64 x] 3 (0, 0))) hi (by simp; omega) how hgr (hat.imp id fun e => by simp; omega)
    exact h g cap w' ⟨hA.rows, (Oth.refl w).alloc _ |>.trans hA.oth, fun b cs T fr hT hb => hA.keep b cs T fr hT ((Below.heap_alloc w _ b (heap_lt hb)).trans hb), ((Below.refl B w).alloc hB _).trans hA.below⟩

theorem infoR : (Try.prog.info? 27).map (fun i => (i.zero, i.size, i.bytes)) = some (some (.slice none 0 0), 1, 24) := by kernel_rfl
/-- 'make([][]int, n)', n small -/
theorem wpList_make_nils (w : World) {ops : Array Oper} {rest : List Oper} {o : Oper} {a : Act} {Q : Exit → Act → World → Prop}
    (hg : o.guard = none) (l c : Operand) (hop : o.op = Op.makeSlice 22 l c) (n : Nat) (hn : n ≤ 1048576) (hl : a.eval l = .int .i64 (n : Int)) (hc : a.eval c = .int .i64 (n : Int))
    (hK : ∀ w', w'.heap[w.heap.size]? = some (.cells (List.replicate n (Value.slice none 0 0)).toArray 27 (0, 0)) → Below w.heap.size w w' → w.heap.size < w'.heap.size → wpList Try.prog ops Q rest (a.put o.dst (.slice (some ⟨w.heap.size, 0, none⟩) n n)) w') :
    wpList Try.prog ops Q (o :: rest) a w := by
  obtain ⟨i, hi, hz0, hz1, hz2⟩ := info_parts infoR
  refine wpList_make_row w hg l c 22 hop 27 i (.slice none 0 0) Try.underlying22 hi hz0 hz1 rfl .i64 .i64 n hl hc (by rw [hz2]; omega) (by omega)
    (hK _ ?_ ((Below.refl _ _).alloc (Nat.le_refl _) _) (by simp))
  rw [heap_alloc_new]
  congr 2
  apply Array.toList_inj.1
  rw [toList_madeCells_one]

theorem Blk.own {w : World} {B g : Nat} {l : List Int} (h : Blk w g l) (hB : B ≤ g) (hl : l.length ≤ maxLen) : w.ownsRow B 3 1 (.slice (some ⟨g, 0, none⟩) l.length l.length) l.length (iv l) :=
  ⟨by rw [iv_length, Nat.mul_one], .inr ⟨g, l.length, _, rfl, hB, h, Nat.le_refl _, hl, by simp, by rw [List.take_of_length_le (by simp)]; rfl⟩⟩
theorem Rows.nils (w : World) (B N : Nat) : Rows w B (List.replicate N (Value.slice none 0 0, [])) := by
  refine ⟨fun i r hr => ?_, fun i j r s _ hr _ b hb => ?_⟩
  · rw [List.getElem?_replicate] at hr
    split at hr
    · have e : (Value.slice none 0 0, ([] : List Int)) = r := by simpa using hr
      subst e
      exact World.ownsRow_nil _ _ _ _
    · cases hr
  · rw [List.getElem?_replicate] at hr
    split at hr
    · have e : (Value.slice none 0 0, ([] : List Int)) = r := by simpa using hr
      subst e
      simp [Value.ownBlock] at hb
    · cases hr

set_option maxRecDepth 100000 in
/-- a letter of a row that was loaded whole -/
theorem index_row (r0 r1 r2 r3 r4 r5 r6 r7 : Int) {j : Nat} {x : Int} (hx : [r0, r1, r2, r3, r4, r5, r6, r7][j]? = some x) (W : World) :
    Sem.run Try.prog (Instr.index 66 (.agg #[.int .i64 r0, .int .i64 r1, .int .i64 r2, .int .i64 r3, .int .i64 r4, .int .i64 r5, .int .i64 r6, .int .i64 r7]) (.int .i64 (j : Int))) W = .ok (.int .i64 x) W := by
  have hj : j < 8 := (List.getElem?_eq_some_iff.1 hx).1
  match j, hj with
  | 0, _ => obtain rfl : r0 = x := by simpa using hx
            (show _ = _; kernel_rfl)
  | 1, _ => obtain rfl : r1 = x := by simpa using hx
            (show _ = _; kernel_rfl)
  | 2, _ => obtain rfl : r2 = x := by simpa using hx
            (show _ = _; kernel_rfl)
  | 3, _ => obtain rfl : r3 = x := by simpa using hx
            (show _ = _; kernel_rfl)
  | 4, _ => obtain rfl : r4 = x := by simpa using hx
            (show _ = _; kernel_rfl)
  | 5, _ => obtain rfl : r5 = x := by simpa using hx
            (show _ = _; kernel_rfl)
  | 6, _ => obtain rfl : r6 = x := by simpa using hx
            (show _ = _; kernel_rfl)
  | 7, _ => obtain rfl : r7 = x := by simpa using hx
            (show _ = _; kernel_rfl)

end Go.Proofs.Ytonchdhchaiikaa

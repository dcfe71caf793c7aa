/- Slices that read as attributes, as tokens. -/
import Derived.Test.YtmfkefcdddoooaaAtts
namespace Go.Proofs.Ytmfkefcdddoooaa
open Go.RowKit

/-- a slice that reads as these attributes, below block B -/
def RdA (w : World) (B : Nat) (v : Value) (al : List U.Att) : Prop := ∃ ao cap, v = .slice ao al.length cap ∧
  ∀ (i : Nat) (x : U.Att), al[i]? = some x → ∃ g o, ao = some ⟨g, o, none⟩ ∧ g < B ∧ w.cell? ⟨g, o + i * 2, none⟩ = some (.string ⟨x.1.toArray⟩) ∧ w.cell? ⟨g, o + i * 2 + 1, none⟩ = some (.string ⟨x.2.toArray⟩)
theorem RdA.keep {w w' : World} {B : Nat} {v : Value} {al : List U.Att} (h : RdA w B v al) (hk : ∀ p : Addr, p.block < B → w'.cell? p = w.cell? p) : RdA w' B v al := by
  obtain ⟨ao, cap, rfl, hc⟩ := h
  refine ⟨ao, cap, rfl, fun i x hx => ?_⟩
  obtain ⟨g, o, e, hb, c1, c2⟩ := hc i x hx
  exact ⟨g, o, e, hb, (hk _ hb).trans c1, (hk _ hb).trans c2⟩
theorem RdA.of_own {w : World} {B n : Nat} {v : Value} {al : List U.Att} (h : w.ownsRow B 48 2 v n (attCells al)) (hn : n = al.length) : RdA w w.heap.size v al := by
  subst hn
  obtain ⟨ao, cap, rfl⟩ := own_form h
  refine ⟨ao, cap, rfl, fun i x hx => ?_⟩
  obtain ⟨g, c, e, c1, c2⟩ := row_att h hx
  injection e with e1 e2 e3
  subst e1
  have hlt : g < w.heap.size := (h.lt g rfl).2
  exact ⟨g, 0, rfl, hlt, by rw [Nat.zero_add]; exact c1, by rw [Nat.zero_add]; exact c2⟩

/-- a slice that reads as these tokens, below block B -/
def RdT (w : World) (B : Nat) (v : Value) (ts : List U.Tok) : Prop := ∃ ao cap, v = .slice ao ts.length cap ∧
  ∀ (i : Nat) (t : U.Tok), ts[i]? = some t → ∃ g o av, ao = some ⟨g, o, none⟩ ∧ g < B ∧ w.cell? ⟨g, o + i * 5, none⟩ = some (.int .i64 t.kind) ∧ w.cell? ⟨g, o + i * 5 + 1, none⟩ = some (.string ⟨t.name.toArray⟩) ∧
    w.cell? ⟨g, o + i * 5 + 2, none⟩ = some av ∧ w.cell? ⟨g, o + i * 5 + 3, none⟩ = some (.bool t.self) ∧ w.cell? ⟨g, o + i * 5 + 4, none⟩ = some (.string ⟨t.text.toArray⟩) ∧ RdA w B av t.attrs ∧ t.attrs.length ≤ 1048576
theorem RdT.keep {w w' : World} {B : Nat} {v : Value} {ts : List U.Tok} (h : RdT w B v ts) (hk : ∀ p : Addr, p.block < B → w'.cell? p = w.cell? p) : RdT w' B v ts := by
  obtain ⟨ao, cap, rfl, hc⟩ := h
  refine ⟨ao, cap, rfl, fun i t ht => ?_⟩
  obtain ⟨g, o, av, e, hb, c0, c1, c2, c3, c4, hA, hl⟩ := hc i t ht
  exact ⟨g, o, av, e, hb, (hk _ hb).trans c0, (hk _ hb).trans c1, (hk _ hb).trans c2, (hk _ hb).trans c3, (hk _ hb).trans c4, hA.keep hk, hl⟩
theorem RdT.below {w w' : World} {B : Nat} {v : Value} {ts : List U.Tok} (h : RdT w B v ts) (hb : Below B w w') : RdT w' B v ts := h.keep fun _ hp => hb.cell hp
theorem RdA.more {w : World} {B B' : Nat} {v : Value} {al : List U.Att} (h : RdA w B v al) (hB : B ≤ B') : RdA w B' v al := by
  obtain ⟨ao, cap, rfl, hc⟩ := h
  refine ⟨ao, cap, rfl, fun i x hx => ?_⟩
  obtain ⟨g, o, e, hb, c1, c2⟩ := hc i x hx
  exact ⟨g, o, e, by omega, c1, c2⟩
theorem RdT.more {w : World} {B B' : Nat} {v : Value} {ts : List U.Tok} (h : RdT w B v ts) (hB : B ≤ B') : RdT w B' v ts := by
  obtain ⟨ao, cap, rfl, hc⟩ := h
  refine ⟨ao, cap, rfl, fun i t ht => ?_⟩
  obtain ⟨g, o, av, e, hb, c0, c1, c2, c3, c4, hA, hl⟩ := hc i t ht
  exact ⟨g, o, av, e, by omega, c0, c1, c2, c3, c4, hA.more hB, hl⟩

/-- the cells of a token in a row -/
theorem row_tok {w : World} {B n : Nat} {v : Value} {l : List (U.Tok × Value)} (h : w.ownsRow B 31 5 v n (tokCells l)) {i : Nat} {x : U.Tok × Value} (hx : l[i]? = some x) :
    ∃ g cap, v = .slice (some ⟨g, 0, none⟩) n cap ∧ w.cell? ⟨g, i * 5, none⟩ = some (.int .i64 (x.1.kind : Nat)) ∧ w.cell? ⟨g, i * 5 + 1, none⟩ = some (.string ⟨x.1.name.toArray⟩) ∧ w.cell? ⟨g, i * 5 + 2, none⟩ = some x.2 ∧ w.cell? ⟨g, i * 5 + 3, none⟩ = some (.bool x.1.self) ∧ w.cell? ⟨g, i * 5 + 4, none⟩ = some (.string ⟨x.1.text.toArray⟩) := by
  have hg : ∀ (l : List (U.Tok × Value)) (i : Nat), l[i]? = some x → (tokCells l)[i * 5]? = some (.int .i64 (x.1.kind : Nat)) ∧ (tokCells l)[i * 5 + 1]? = some (.string ⟨x.1.name.toArray⟩) ∧ (tokCells l)[i * 5 + 2]? = some x.2 ∧ (tokCells l)[i * 5 + 3]? = some (.bool x.1.self) ∧ (tokCells l)[i * 5 + 4]? = some (.string ⟨x.1.text.toArray⟩) := by
    intro l
    induction l with
    | nil => intro i hi; simp at hi
    | cons a l ih =>
      intro i hi
      have e : tokCells (a :: l) = .int .i64 (a.1.kind : Nat) :: .string ⟨a.1.name.toArray⟩ :: a.2 :: .bool a.1.self :: .string ⟨a.1.text.toArray⟩ :: tokCells l := rfl
      cases i with
      | zero => simp at hi; subst hi; rw [e]; exact ⟨rfl, rfl, rfl, rfl, rfl⟩
      | succ i =>
        have := ih i (by simpa using hi)
        rw [e, show (i + 1) * 5 = i * 5 + 1 + 1 + 1 + 1 + 1 by omega]
        simpa using this
  obtain ⟨h0, h1, h2, h3, h4⟩ := hg l i hx
  rcases h.2 with ⟨rfl, hn⟩ | ⟨g, cap, cur, rfl, _⟩
  · have h9 := h.1
    rw [hn] at h9
    have : tokCells l = [] := List.length_eq_zero_iff.1 (by omega)
    rw [this] at h0
    simp at h0
  · have ea : ∀ j, (⟨g, 0, none⟩ : Addr).add j = ⟨g, j, none⟩ := fun j => by cases j <;> simp [Addr.add]
    have c0 := h.cells (g := g) rfl _ _ h0
    have c1 := h.cells (g := g) rfl _ _ h1
    have c2 := h.cells (g := g) rfl _ _ h2
    have c3 := h.cells (g := g) rfl _ _ h3
    have c4 := h.cells (g := g) rfl _ _ h4
    rw [ea] at c0 c1 c2 c3 c4
    exact ⟨g, cap, rfl, c0, c1, c2, c3, c4⟩
theorem RdT.of_own {w : World} {B B2 : Nat} {v : Value} {l : List (U.Tok × Value)} (h : w.ownsRow B 31 5 v l.length (tokCells l)) (ha : ∀ x ∈ l, w.ownsRow B2 48 2 x.2 x.1.attrs.length (attCells x.1.attrs)) (hs : ∀ x ∈ l, x.1.attrs.length ≤ 1048576) : RdT w w.heap.size v (l.map (·.1)) := by
  obtain ⟨ao, cap, rfl⟩ := own_form h
  refine ⟨ao, cap, by rw [List.length_map], fun i t ht => ?_⟩
  obtain ⟨x, hx, rfl⟩ : ∃ x, l[i]? = some x ∧ x.1 = t := by
    rw [List.getElem?_map] at ht
    cases hx : l[i]? with
    | none => rw [hx] at ht; cases ht
    | some x => rw [hx] at ht; exact ⟨x, rfl, by simpa using ht⟩
  obtain ⟨g, cap2, e, c0, c1, c2, c3, c4⟩ := row_tok h hx
  injection e with e1 _ _
  subst e1
  have hm := List.mem_of_getElem? hx
  have hlt : g < w.heap.size := (h.lt g rfl).2
  refine ⟨g, 0, x.2, rfl, hlt, ?_, ?_, ?_, ?_, ?_, RdA.of_own (ha x hm) rfl, hs x hm⟩ <;> rw [Nat.zero_add] <;> assumption

end Go.Proofs.Ytmfkefcdddoooaa

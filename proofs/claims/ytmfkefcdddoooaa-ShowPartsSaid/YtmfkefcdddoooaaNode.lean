/- Nodes in memory. -/
import Derived.Test.YtmfkefcdddoooaaNodeMath
import Derived.Test.YtmfkefcdddoooaaRdKC
namespace Go.Proofs.Ytmfkefcdddoooaa
open Go.RowKit

/-- a slice that reads as these attributes, in blocks of S -/
def RdAS (w : World) (S : Nat → Prop) (v : Value) (al : List U.Att) : Prop := ∃ ao cap, v = .slice ao al.length cap ∧ al.length ≤ cap ∧ cap ≤ maxLen ∧
  ∀ (i : Nat) (x : U.Att), al[i]? = some x → ∃ g o, ao = some ⟨g, o, none⟩ ∧ S g ∧ w.cell? ⟨g, o + i * 2, none⟩ = some (.string ⟨x.1.toArray⟩) ∧ w.cell? ⟨g, o + i * 2 + 1, none⟩ = some (.string ⟨x.2.toArray⟩)
theorem RdAS.rdA {w : World} {B : Nat} {v : Value} {al : List U.Att} (h : RdAS w (· < B) v al) : RdA w B v al := by
  obtain ⟨ao, cap, rfl, _, _, hc⟩ := h
  exact ⟨ao, cap, rfl, hc⟩
theorem RdAS.keep {w w' : World} {S S' : Nat → Prop} (hk : ∀ p : Addr, S p.block → w'.cell? p = w.cell? p) (hS : ∀ b, S b → S' b) {v : Value} {al : List U.Att} (h : RdAS w S v al) : RdAS w' S' v al := by
  obtain ⟨ao, cap, rfl, h1, h2, hc⟩ := h
  refine ⟨ao, cap, rfl, h1, h2, fun i x hx => ?_⟩
  obtain ⟨g, o, e, hb, c1, c2⟩ := hc i x hx
  exact ⟨g, o, e, hS _ hb, (hk _ hb).trans c1, (hk _ hb).trans c2⟩
theorem RdAS.nil (w : World) (S : Nat → Prop) : RdAS w S (.slice none 0 0) [] := ⟨none, 0, rfl, Nat.le_refl _, Nat.zero_le _, fun i x hx => by cases hx⟩
theorem own_cap {w : World} {B : Nat} {e : TypeId} {size n : Nat} {v : Value} {xs : List Value} (h : w.ownsRow B e size v n xs) : ∃ ao cap, v = .slice ao n cap ∧ n ≤ cap ∧ cap ≤ maxLen ∧ (n = 0 ∨ ∃ g, ao = some ⟨g, 0, none⟩ ∧ v.ownBlock = some g) := by
  rcases h.2 with ⟨rfl, rfl⟩ | ⟨g, cap, cur, rfl, _, _, h1, h2, _⟩
  · exact ⟨none, 0, rfl, Nat.le_refl _, Nat.zero_le _, .inl rfl⟩
  · exact ⟨_, cap, rfl, h1, h2, .inr ⟨g, rfl, rfl⟩⟩
theorem RdAS.of_own {w : World} {B : Nat} {S : Nat → Prop} {v : Value} {al : List U.Att} (h : w.ownsRow B 48 2 v al.length (attCells al)) (hS : ∀ g, v.ownBlock = some g → S g) : RdAS w S v al := by
  obtain ⟨ao, cap, rfl, h1, h2, h3⟩ := own_cap h
  refine ⟨ao, cap, rfl, h1, h2, fun i x hx => ?_⟩
  obtain ⟨g, c, e, c1, c2⟩ := row_att h hx
  injection e with e1 e2 e3
  subst e1
  exact ⟨g, 0, rfl, hS g rfl, by rw [Nat.zero_add]; exact c1, by rw [Nat.zero_add]; exact c2⟩

mutual
/-- a node in four cells -/
def RdNd (w : World) (S : Nat → Prop) : U.Nd → Nat → Nat → Prop
  | .mk n a t p, g, o => ∃ av pv, w.cell? ⟨g, o, none⟩ = some (.string ⟨n.toArray⟩) ∧ w.cell? ⟨g, o + 1, none⟩ = some av ∧ w.cell? ⟨g, o + 2, none⟩ = some (.string ⟨t.toArray⟩) ∧ w.cell? ⟨g, o + 3, none⟩ = some pv ∧ RdAS w S av a ∧
      ∃ ao cap, pv = .slice ao p.length cap ∧ p.length ≤ cap ∧ cap ≤ maxLen ∧ (p = [] ∨ ∃ g2 o2, ao = some ⟨g2, o2, none⟩ ∧ S g2 ∧ RdRow w S p g2 o2)
def RdRow (w : World) (S : Nat → Prop) : List U.Nd → Nat → Nat → Prop
  | [], _, _ => True
  | n :: r, g, o => RdNd w S n g o ∧ RdRow w S r g (o + 4)
end
/-- a slice that reads as these nodes, in blocks of S -/
def RdNs (w : World) (S : Nat → Prop) (v : Value) (l : List U.Nd) : Prop := ∃ ao cap, v = .slice ao l.length cap ∧ l.length ≤ cap ∧ cap ≤ maxLen ∧ (l = [] ∨ ∃ g o, ao = some ⟨g, o, none⟩ ∧ S g ∧ RdRow w S l g o)
theorem rdNd_iff {w : World} {S : Nat → Prop} (n : U.Nd) (g o : Nat) : RdNd w S n g o ↔ ∃ av pv, w.cell? ⟨g, o, none⟩ = some (.string ⟨n.name.toArray⟩) ∧ w.cell? ⟨g, o + 1, none⟩ = some av ∧ w.cell? ⟨g, o + 2, none⟩ = some (.string ⟨n.text.toArray⟩) ∧ w.cell? ⟨g, o + 3, none⟩ = some pv ∧ RdAS w S av n.attrs ∧ RdNs w S pv n.parts := by
  cases n
  rw [RdNd]
  exact Iff.rfl
theorem rdRow_get {w : World} {S : Nat → Prop} : ∀ {l : List U.Nd} {g o i : Nat} {n : U.Nd}, RdRow w S l g o → l[i]? = some n → RdNd w S n g (o + i * 4)
  | [], _, _, _, _, _, h => by cases h
  | a :: r, g, o, 0, n, h, hn => by
    rw [RdRow] at h
    simp at hn
    subst hn
    simpa using h.1
  | a :: r, g, o, i + 1, n, h, hn => by
    rw [RdRow] at h
    have := rdRow_get h.2 (by simpa using hn)
    rwa [show o + (i + 1) * 4 = o + 4 + i * 4 by omega]
theorem rdRow_of {w : World} {S : Nat → Prop} : ∀ {l : List U.Nd} {g o : Nat}, (∀ i n, l[i]? = some n → RdNd w S n g (o + i * 4)) → RdRow w S l g o
  | [], _, _, _ => by rw [RdRow]; trivial
  | a :: r, g, o, h => by
    rw [RdRow]
    refine ⟨by simpa using h 0 a rfl, rdRow_of fun i n hn => ?_⟩
    have := h (i + 1) n (by simpa using hn)
    rwa [show o + (i + 1) * 4 = o + 4 + i * 4 by omega] at this
theorem RdNs.get {w : World} {S : Nat → Prop} {v : Value} {l : List U.Nd} (h : RdNs w S v l) {i : Nat} {n : U.Nd} (hn : l[i]? = some n) : ∃ g o cap, v = .slice (some ⟨g, o, none⟩) l.length cap ∧ S g ∧ RdNd w S n g (o + i * 4) := by
  obtain ⟨ao, cap, rfl, _, _, rfl | ⟨g, o, rfl, hS, hr⟩⟩ := h
  · cases hn
  · exact ⟨g, o, cap, rfl, hS, rdRow_get hr hn⟩
theorem RdNs.nil (w : World) (S : Nat → Prop) : RdNs w S (.slice none 0 0) [] := ⟨none, 0, rfl, Nat.le_refl _, Nat.zero_le _, .inl rfl⟩
mutual
theorem rdNd_keep {w w' : World} {S S' : Nat → Prop} (hk : ∀ p : Addr, S p.block → w'.cell? p = w.cell? p) (hS : ∀ b, S b → S' b) : ∀ (n : U.Nd) (g o : Nat), S g → RdNd w S n g o → RdNd w' S' n g o
  | .mk n a t p, g, o, hg, h => by
    rw [RdNd] at h ⊢
    obtain ⟨av, pv, c0, c1, c2, c3, hA, ao, cap, e, h1, h2, h3⟩ := h
    refine ⟨av, pv, (hk _ hg).trans c0, (hk _ hg).trans c1, (hk _ hg).trans c2, (hk _ hg).trans c3, hA.keep hk hS, ao, cap, e, h1, h2, ?_⟩
    rcases h3 with h3 | ⟨g2, o2, e2, hg2, hr⟩
    · exact .inl h3
    · exact .inr ⟨g2, o2, e2, hS _ hg2, rdRow_keep hk hS p g2 o2 hg2 hr⟩
theorem rdRow_keep {w w' : World} {S S' : Nat → Prop} (hk : ∀ p : Addr, S p.block → w'.cell? p = w.cell? p) (hS : ∀ b, S b → S' b) : ∀ (l : List U.Nd) (g o : Nat), S g → RdRow w S l g o → RdRow w' S' l g o
  | [], _, _, _, _ => by rw [RdRow]; trivial
  | n :: r, g, o, hg, h => by
    rw [RdRow] at h ⊢
    exact ⟨rdNd_keep hk hS n g o hg h.1, rdRow_keep hk hS r g (o + 4) hg h.2⟩
end
theorem RdNs.keep {w w' : World} {S S' : Nat → Prop} (hk : ∀ p : Addr, S p.block → w'.cell? p = w.cell? p) (hS : ∀ b, S b → S' b) {v : Value} {l : List U.Nd} (h : RdNs w S v l) : RdNs w' S' v l := by
  obtain ⟨ao, cap, rfl, h1, h2, h3⟩ := h
  refine ⟨ao, cap, rfl, h1, h2, ?_⟩
  rcases h3 with h3 | ⟨g, o, e, hS', hr⟩
  · exact .inl h3
  · exact .inr ⟨g, o, e, hS _ hS', rdRow_keep hk hS l g o hS' hr⟩
theorem RdNs.below {w w' : World} {B B' : Nat} {v : Value} {l : List U.Nd} (h : RdNs w (· < B) v l) (hb : Below B w w') (hB : B ≤ B') : RdNs w' (· < B') v l := h.keep (fun _ hp => hb.cell hp) (fun _ hp => Nat.lt_of_lt_of_le hp hB)

/-- a node with the values of its two slices -/
abbrev NV := U.Nd × Value × Value
def ndCells (l : List NV) : List Value := l.flatMap fun x => [.string ⟨x.1.name.toArray⟩, x.2.1, .string ⟨x.1.text.toArray⟩, x.2.2]
theorem ndCells_length (l : List NV) : (ndCells l).length = l.length * 4 := by
  induction l with
  | nil => rfl
  | cons a l ih =>
    have : ndCells (a :: l) = .string ⟨a.1.name.toArray⟩ :: a.2.1 :: .string ⟨a.1.text.toArray⟩ :: a.2.2 :: ndCells l := rfl
    rw [this]
    simp only [List.length_cons]
    omega
theorem ndCells_append (a b : List NV) : ndCells (a ++ b) = ndCells a ++ ndCells b := by simp [ndCells]
theorem ndCells_get : ∀ (l : List NV) (i : Nat) (x : NV), l[i]? = some x → (ndCells l)[i * 4]? = some (.string ⟨x.1.name.toArray⟩) ∧ (ndCells l)[i * 4 + 1]? = some x.2.1 ∧ (ndCells l)[i * 4 + 2]? = some (.string ⟨x.1.text.toArray⟩) ∧ (ndCells l)[i * 4 + 3]? = some x.2.2
  | [], _, _, h => by cases h
  | a :: l, 0, x, h => by simp at h; subst h; exact ⟨rfl, rfl, rfl, rfl⟩
  | a :: l, i + 1, x, h => by
    have := ndCells_get l i x (by simpa using h)
    have e : ndCells (a :: l) = .string ⟨a.1.name.toArray⟩ :: a.2.1 :: .string ⟨a.1.text.toArray⟩ :: a.2.2 :: ndCells l := rfl
    rw [e, show (i + 1) * 4 = i * 4 + 1 + 1 + 1 + 1 by omega]
    simpa using this
/-- the cells of a node in a row -/
theorem row_nd {w : World} {B n : Nat} {v : Value} {l : List NV} (h : w.ownsRow B 45 4 v n (ndCells l)) {i : Nat} {x : NV} (hx : l[i]? = some x) :
    ∃ g cap, v = .slice (some ⟨g, 0, none⟩) n cap ∧ w.cell? ⟨g, i * 4, none⟩ = some (.string ⟨x.1.name.toArray⟩) ∧ w.cell? ⟨g, i * 4 + 1, none⟩ = some x.2.1 ∧ w.cell? ⟨g, i * 4 + 2, none⟩ = some (.string ⟨x.1.text.toArray⟩) ∧ w.cell? ⟨g, i * 4 + 3, none⟩ = some x.2.2 := by
  obtain ⟨h0, h1, h2, h3⟩ := ndCells_get l i x hx
  rcases h.2 with ⟨rfl, hn⟩ | ⟨g, cap, cur, rfl, _⟩
  · have h9 := h.1
    rw [hn] at h9
    have : ndCells l = [] := List.length_eq_zero_iff.1 (by omega)
    rw [this] at h0
    simp at h0
  · have ea : ∀ j, (⟨g, 0, none⟩ : Addr).add j = ⟨g, j, none⟩ := fun j => by cases j <;> simp [Addr.add]
    have c0 := h.cells (g := g) rfl _ _ h0
    have c1 := h.cells (g := g) rfl _ _ h1
    have c2 := h.cells (g := g) rfl _ _ h2
    have c3 := h.cells (g := g) rfl _ _ h3
    rw [ea] at c0 c1 c2 c3
    exact ⟨g, cap, rfl, c0, c1, c2, c3⟩
/-- a node's two slices read as what they are to hold -/
def Done (w : World) (S : Nat → Prop) (x : NV) : Prop := RdAS w S x.2.1 x.1.attrs ∧ RdNs w S x.2.2 x.1.parts
theorem Done.keep {w w' : World} {S S' : Nat → Prop} (hk : ∀ p : Addr, S p.block → w'.cell? p = w.cell? p) (hS : ∀ b, S b → S' b) {x : NV} (h : Done w S x) : Done w' S' x := ⟨h.1.keep hk hS, h.2.keep hk hS⟩
theorem RdNs.of_own {w : World} {B : Nat} {S : Nat → Prop} {v : Value} {l : List NV} (h : w.ownsRow B 45 4 v l.length (ndCells l)) (hd : ∀ x ∈ l, Done w S x) (hS : ∀ g, v.ownBlock = some g → S g) : RdNs w S v (l.map (·.1)) := by
  obtain ⟨ao, cap, rfl, h1, h2, h3⟩ := own_cap h
  have hl : (l.map (·.1)).length = l.length := List.length_map ..
  refine ⟨ao, cap, by rw [hl], by rw [hl]; exact h1, h2, ?_⟩
  rcases h3 with h3 | ⟨g, rfl, hg⟩
  · left; rw [List.eq_nil_of_length_eq_zero h3]; rfl
  · refine .inr ⟨g, 0, rfl, hS g hg, rdRow_of fun i n hn => ?_⟩
    obtain ⟨x, hx, rfl⟩ : ∃ x, l[i]? = some x ∧ x.1 = n := by
      rw [List.getElem?_map] at hn
      cases hx : l[i]? with
      | none => rw [hx] at hn; cases hn
      | some x => rw [hx] at hn; exact ⟨x, rfl, by simpa using hn⟩
    obtain ⟨g', c', e, c0, c1, c2, c3⟩ := row_nd h hx
    injection e with e1 _ _
    injection e1 with e1
    injection e1 with e1 _ _
    subst e1
    obtain ⟨d1, d2⟩ := hd x (List.mem_of_getElem? hx)
    rw [rdNd_iff, Nat.zero_add]
    exact ⟨x.2.1, x.2.2, c0, c1, c2, c3, d1, d2⟩

end Go.Proofs.Ytmfkefcdddoooaa

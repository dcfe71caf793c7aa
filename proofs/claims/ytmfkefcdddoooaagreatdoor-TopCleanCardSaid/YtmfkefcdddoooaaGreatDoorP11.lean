/- Several texts in one: Node, Names, ShowNames, NRow. -/
import Derived.Outline
import Derived.OwnWalk
import Derived.Deep.AppendLies
import Derived.Test.YtmfkefcdddoooaaGreatDoorP02
import Derived.Test.YtmfkefcdddoooaaGreatDoorP10
import Derived.Test.YtmfkefcdddoooaaGreatDoorP06
import Derived.Test.YtmfkefcdddoooaaGreatDoorP07
import Derived.Test.YtmfkefcdddoooaaGreatDoorP03
namespace Go.Proofs.YtmfkefcdddoooaaGreatDoor
open Go.RowKit

/-- a slice that reads as these attributes, in blocks of S -/
def RdAS (w : World) (S : Nat → Prop) (v : Value) (al : List U.Att) : Prop := ∃ ao cap, v = .slice ao al.length cap ∧ al.length ≤ cap ∧ cap ≤ maxLen ∧
  ∀ (i : Nat) (x : U.Att), al[i]? = some x → ∃ g o, ao = some ⟨g, o, none⟩ ∧ S g ∧ w.cell? ⟨g, o + i * 2, none⟩ = some (.string ⟨x.1.toArray⟩) ∧ w.cell? ⟨g, o + i * 2 + 1, none⟩ = some (.string ⟨x.2.toArray⟩)
theorem RdAS.rdA {w : World} {B : Nat} {v : Value} {al : List U.Att} (h : RdAS w (· < B) v al) : RdA w B v al := by
  obtain ⟨ao, cap, rfl, _, _, hc⟩ := h
  exact ⟨ao, cap, rfl, hc⟩
theorem RdAS.keep {w w' : World} {S S' : Nat → Prop} (hk : ∀ p : Addr, S p.block → w'.cell? p = w.cell? p) (hS : ∀ b, S b → S' b) {v : Value} {al : List U.Att} (h : RdAS w S v al) : RdAS w' S' v al := by
  obtain ⟨ao, cap, rfl, h1, h2, hc⟩ := h
  refine ⟨ao, cap, rfl, h1, h2, fun i x hx => ?_⟩
  obtain ⟨g, o, e, hb, c1, c2⟩ := hc i x hx
  exact ⟨g, o, e, hS _ hb, (hk _ hb).trans c1, (hk _ hb).trans c2⟩
theorem RdAS.nil (w : World) (S : Nat → Prop) : RdAS w S (.slice none 0 0) [] := ⟨none, 0, rfl, Nat.le_refl _, Nat.zero_le _, fun i x hx => by cases hx⟩
theorem own_cap {w : World} {B : Nat} {e : TypeId} {size n : Nat} {v : Value} {xs : List Value} (h : w.ownsRow B e size v n xs) : ∃ ao cap, v = .slice ao n cap ∧ n ≤ cap ∧ cap ≤ maxLen ∧ (n = 0 ∨ ∃ g, ao = some ⟨g, 0, none⟩ ∧ v.ownBlock = some g) := by
  rcases h.2 with ⟨rfl, rfl⟩ | ⟨g, cap, cur, rfl, _, _, h1, h2, _⟩
  · exact ⟨none, 0, rfl, Nat.le_refl _, Nat.zero_le _, .inl rfl⟩
  · exact ⟨_, cap, rfl, h1, h2, .inr ⟨g, rfl, rfl⟩⟩
theorem RdAS.of_own {w : World} {B : Nat} {S : Nat → Prop} {v : Value} {al : List U.Att} (h : w.ownsRow B 54 2 v al.length (attCells al)) (hS : ∀ g, v.ownBlock = some g → S g) : RdAS w S v al := by
  obtain ⟨ao, cap, rfl, h1, h2, h3⟩ := own_cap h
  refine ⟨ao, cap, rfl, h1, h2, fun i x hx => ?_⟩
  obtain ⟨g, c, e, c1, c2⟩ := row_att h hx
  injection e with e1 e2 e3
  subst e1
  exact ⟨g, 0, rfl, hS g rfl, by rw [Nat.zero_add]; exact c1, by rw [Nat.zero_add]; exact c2⟩

mutual
/-- a node in four cells -/
def RdNd (w : World) (S : Nat → Prop) : U.Nd → Nat → Nat → Prop
  | .mk n a t p, g, o => ∃ av pv, w.cell? ⟨g, o, none⟩ = some (.string ⟨n.toArray⟩) ∧ w.cell? ⟨g, o + 1, none⟩ = some av ∧ w.cell? ⟨g, o + 2, none⟩ = some (.string ⟨t.toArray⟩) ∧ w.cell? ⟨g, o + 3, none⟩ = some pv ∧ RdAS w S av a ∧
      ∃ ao cap, pv = .slice ao p.length cap ∧ p.length ≤ cap ∧ cap ≤ maxLen ∧ (p = [] ∨ ∃ g2 o2, ao = some ⟨g2, o2, none⟩ ∧ S g2 ∧ RdRow w S p g2 o2)
def RdRow (w : World) (S : Nat → Prop) : List U.Nd → Nat → Nat → Prop
  | [], _, _ => True
  | n :: r, g, o => RdNd w S n g o ∧ RdRow w S r g (o + 4)
end
/-- a slice that reads as these nodes, in blocks of S -/
def RdNs (w : World) (S : Nat → Prop) (v : Value) (l : List U.Nd) : Prop := ∃ ao cap, v = .slice ao l.length cap ∧ l.length ≤ cap ∧ cap ≤ maxLen ∧ (l = [] ∨ ∃ g o, ao = some ⟨g, o, none⟩ ∧ S g ∧ RdRow w S l g o)
theorem rdNd_iff {w : World} {S : Nat → Prop} (n : U.Nd) (g o : Nat) : RdNd w S n g o ↔ ∃ av pv, w.cell? ⟨g, o, none⟩ = some (.string ⟨n.name.toArray⟩) ∧ w.cell? ⟨g, o + 1, none⟩ = some av ∧ w.cell? ⟨g, o + 2, none⟩ = some (.string ⟨n.text.toArray⟩) ∧ w.cell? ⟨g, o + 3, none⟩ = some pv ∧ RdAS w S av n.attrs ∧ RdNs w S pv n.parts := by
  cases n
  rw [RdNd]
  exact Iff.rfl
theorem rdRow_get {w : World} {S : Nat → Prop} : ∀ {l : List U.Nd} {g o i : Nat} {n : U.Nd}, RdRow w S l g o → l[i]? = some n → RdNd w S n g (o + i * 4)
  | [], _, _, _, _, _, h => by cases h
  | a :: r, g, o, 0, n, h, hn => by
    rw [RdRow] at h
    simp at hn
    subst hn
    simpa using h.1
  | a :: r, g, o, i + 1, n, h, hn => by
    rw [RdRow] at h
    have := rdRow_get h.2 (by simpa using hn)
    rwa [show o + (i + 1) * 4 = o + 4 + i * 4 by omega]
theorem rdRow_of {w : World} {S : Nat → Prop} : ∀ {l : List U.Nd} {g o : Nat}, (∀ i n, l[i]? = some n → RdNd w S n g (o + i * 4)) → RdRow w S l g o
  | [], _, _, _ => by rw [RdRow]; trivial
  | a :: r, g, o, h => by
    rw [RdRow]
    refine ⟨by simpa using h 0 a rfl, rdRow_of fun i n hn => ?_⟩
    have := h (i + 1) n (by simpa using hn)
    rwa [show o + (i + 1) * 4 = o + 4 + i * 4 by omega] at this
theorem RdNs.get {w : World} {S : Nat → Prop} {v : Value} {l : List U.Nd} (h : RdNs w S v l) {i : Nat} {n : U.Nd} (hn : l[i]? = some n) : ∃ g o cap, v = .slice (some ⟨g, o, none⟩) l.length cap ∧ S g ∧ RdNd w S n g (o + i * 4) := by
  obtain ⟨ao, cap, rfl, _, _, rfl | ⟨g, o, rfl, hS, hr⟩⟩ := h
  · cases hn
  · exact ⟨g, o, cap, rfl, hS, rdRow_get hr hn⟩
theorem RdNs.nil (w : World) (S : Nat → Prop) : RdNs w S (.slice none 0 0) [] := ⟨none, 0, rfl, Nat.le_refl _, Nat.zero_le _, .inl rfl⟩
mutual
theorem rdNd_keep {w w' : World} {S S' : Nat → Prop} (hk : ∀ p : Addr, S p.block → w'.cell? p = w.cell? p) (hS : ∀ b, S b → S' b) : ∀ (n : U.Nd) (g o : Nat), S g → RdNd w S n g o → RdNd w' S' n g o
  | .mk n a t p, g, o, hg, h => by
    rw [RdNd] at h ⊢
    obtain ⟨av, pv, c0, c1, c2, c3, hA, ao, cap, e, h1, h2, h3⟩ := h
    refine ⟨av, pv, (hk _ hg).trans c0, (hk _ hg).trans c1, (hk _ hg).trans c2, (hk _ hg).trans c3, hA.keep hk hS, ao, cap, e, h1, h2, ?_⟩
    rcases h3 with h3 | ⟨g2, o2, e2, hg2, hr⟩
    · exact .inl h3
    · exact .inr ⟨g2, o2, e2, hS _ hg2, rdRow_keep hk hS p g2 o2 hg2 hr⟩
theorem rdRow_keep {w w' : World} {S S' : Nat → Prop} (hk : ∀ p : Addr, S p.block → w'.cell? p = w.cell? p) (hS : ∀ b, S b → S' b) : ∀ (l : List U.Nd) (g o : Nat), S g → RdRow w S l g o → RdRow w' S' l g o
  | [], _, _, _, _ => by rw [RdRow]; trivial
  | n :: r, g, o, hg, h => by
    rw [RdRow] at h ⊢
    exact ⟨rdNd_keep hk hS n g o hg h.1, rdRow_keep hk hS r g (o + 4) hg h.2⟩
end
theorem RdNs.keep {w w' : World} {S S' : Nat → Prop} (hk : ∀ p : Addr, S p.block → w'.cell? p = w.cell? p) (hS : ∀ b, S b → S' b) {v : Value} {l : List U.Nd} (h : RdNs w S v l) : RdNs w' S' v l := by
  obtain ⟨ao, cap, rfl, h1, h2, h3⟩ := h
  refine ⟨ao, cap, rfl, h1, h2, ?_⟩
  rcases h3 with h3 | ⟨g, o, e, hS', hr⟩
  · exact .inl h3
  · exact .inr ⟨g, o, e, hS _ hS', rdRow_keep hk hS l g o hS' hr⟩
theorem RdNs.below {w w' : World} {B B' : Nat} {v : Value} {l : List U.Nd} (h : RdNs w (· < B) v l) (hb : Below B w w') (hB : B ≤ B') : RdNs w' (· < B') v l := h.keep (fun _ hp => hb.cell hp) (fun _ hp => Nat.lt_of_lt_of_le hp hB)

/-- a node with the values of its two slices -/
abbrev NV := U.Nd × Value × Value
def ndCells (l : List NV) : List Value := l.flatMap fun x => [.string ⟨x.1.name.toArray⟩, x.2.1, .string ⟨x.1.text.toArray⟩, x.2.2]
theorem ndCells_length (l : List NV) : (ndCells l).length = l.length * 4 := by
  induction l with
  | nil => rfl
  | cons a l ih =>
    have : ndCells (a :: l) = .string ⟨a.1.name.toArray⟩ :: a.2.1 :: .string ⟨a.1.text.toArray⟩ :: a.2.2 :: ndCells l := rfl
    rw [this]
    simp only [List.length_cons]
    omega
theorem ndCells_append (a b : List NV) : ndCells (a ++ b) = ndCells a ++ ndCells b := by simp [ndCells]
theorem ndCells_get : ∀ (l : List NV) (i : Nat) (x : NV), l[i]? = some x → (ndCells l)[i * 4]? = some (.string ⟨x.1.name.toArray⟩) ∧ (ndCells l)[i * 4 + 1]? = some x.2.1 ∧ (ndCells l)[i * 4 + 2]? = some (.string ⟨x.1.text.toArray⟩) ∧ (ndCells l)[i * 4 + 3]? = some x.2.2
  | [], _, _, h => by cases h
  | a :: l, 0, x, h => by simp at h; subst h; exact ⟨rfl, rfl, rfl, rfl⟩
  | a :: l, i + 1, x, h => by
    have := ndCells_get l i x (by simpa using h)
    have e : ndCells (a :: l) = .string ⟨a.1.name.toArray⟩ :: a.2.1 :: .string ⟨a.1.text.toArray⟩ :: a.2.2 :: ndCells l := rfl
    rw [e, show (i + 1) * 4 = i * 4 + 1 + 1 + 1 + 1 by omega]
    simpa using this
/-- the cells of a node in a row -/
theorem row_nd {w : World} {B n : Nat} {v : Value} {l : List NV} (h : w.ownsRow B 46 4 v n (ndCells l)) {i : Nat} {x : NV} (hx : l[i]? = some x) :
    ∃ g cap, v = .slice (some ⟨g, 0, none⟩) n cap ∧ w.cell? ⟨g, i * 4, none⟩ = some (.string ⟨x.1.name.toArray⟩) ∧ w.cell? ⟨g, i * 4 + 1, none⟩ = some x.2.1 ∧ w.cell? ⟨g, i * 4 + 2, none⟩ = some (.string ⟨x.1.text.toArray⟩) ∧ w.cell? ⟨g, i * 4 + 3, none⟩ = some x.2.2 := by
  obtain ⟨h0, h1, h2, h3⟩ := ndCells_get l i x hx
  rcases h.2 with ⟨rfl, hn⟩ | ⟨g, cap, cur, rfl, _⟩
  · have h9 := h.1
    rw [hn] at h9
    have : ndCells l = [] := List.length_eq_zero_iff.1 (by omega)
    rw [this] at h0
    simp at h0
  · have ea : ∀ j, (⟨g, 0, none⟩ : Addr).add j = ⟨g, j, none⟩ := fun j => by cases j <;> simp [Addr.add]
    have c0 := h.cells (g := g) rfl _ _ h0
    have c1 := h.cells (g := g) rfl _ _ h1
    have c2 := h.cells (g := g) rfl _ _ h2
    have c3 := h.cells (g := g) rfl _ _ h3
    rw [ea] at c0 c1 c2 c3
    exact ⟨g, cap, rfl, c0, c1, c2, c3⟩
/-- a node's two slices read as what they are to hold -/
def Done (w : World) (S : Nat → Prop) (x : NV) : Prop := RdAS w S x.2.1 x.1.attrs ∧ RdNs w S x.2.2 x.1.parts
theorem Done.keep {w w' : World} {S S' : Nat → Prop} (hk : ∀ p : Addr, S p.block → w'.cell? p = w.cell? p) (hS : ∀ b, S b → S' b) {x : NV} (h : Done w S x) : Done w' S' x := ⟨h.1.keep hk hS, h.2.keep hk hS⟩
theorem RdNs.of_own {w : World} {B : Nat} {S : Nat → Prop} {v : Value} {l : List NV} (h : w.ownsRow B 46 4 v l.length (ndCells l)) (hd : ∀ x ∈ l, Done w S x) (hS : ∀ g, v.ownBlock = some g → S g) : RdNs w S v (l.map (·.1)) := by
  obtain ⟨ao, cap, rfl, h1, h2, h3⟩ := own_cap h
  have hl : (l.map (·.1)).length = l.length := List.length_map ..
  refine ⟨ao, cap, by rw [hl], by rw [hl]; exact h1, h2, ?_⟩
  rcases h3 with h3 | ⟨g, rfl, hg⟩
  · left; rw [List.eq_nil_of_length_eq_zero h3]; rfl
  · refine .inr ⟨g, 0, rfl, hS g hg, rdRow_of fun i n hn => ?_⟩
    obtain ⟨x, hx, rfl⟩ : ∃ x, l[i]? = some x ∧ x.1 = n := by
      rw [List.getElem?_map] at hn
      cases hx : l[i]? with
      | none => rw [hx] at hn; cases hn
      | some x => rw [hx] at hn; exact ⟨x, rfl, by simpa using hn⟩
    obtain ⟨g', c', e, c0, c1, c2, c3⟩ := row_nd h hx
    injection e with e1 _ _
    injection e1 with e1
    injection e1 with e1 _ _
    subst e1
    obtain ⟨d1, d2⟩ := hd x (List.mem_of_getElem? hx)
    rw [rdNd_iff, Nat.zero_add]
    exact ⟨x.2.1, x.2.2, c0, c1, c2, c3, d1, d2⟩

end Go.Proofs.YtmfkefcdddoooaaGreatDoor

namespace Go.Proofs.YtmfkefcdddoooaaGreatDoor
open Go.RowKit

set_option maxHeartbeats 4000000 in
set_option maxRecDepth 1000000 in
theorem hides_walk (n : List UInt8) (w : World) : Calls Tryz.prog 105 #[.string ⟨n.toArray⟩] w fun e w' => e = .returned (.bool (U.hides n)) ∧ w = w' := by
  go_enter Tryz.func105, Tryz.ntmps105
  by_cases h1 : n = [115, 99, 114, 105, 112, 116]
  · subst h1
    go_wp2_with fail
    go_ret
    exact ⟨rfl, rfl⟩
  · go_wp2_with fail
    go_ret
    exact ⟨rfl, rfl⟩
theorem U.isVoid_no {n : List UInt8} (h : U.isVoid n = false) : (n == [98, 114]) = false ∧ (n == [104, 114]) = false ∧ (n == [105, 109, 103]) = false ∧ (n == [105, 110, 112, 117, 116]) = false := by
  simpa [U.isVoid, and_assoc] using h
theorem U.isVoid_yes {n : List UInt8} (h : U.isVoid n = true) : n = [98, 114] ∨ n = [104, 114] ∨ n = [105, 109, 103] ∨ n = [105, 110, 112, 117, 116] := by
  simpa [U.isVoid, or_assoc] using h

set_option maxHeartbeats 4000000 in
set_option maxRecDepth 1000000 in
theorem void_walk (n : List UInt8) (w : World) : Calls Tryz.prog 106 #[.string ⟨n.toArray⟩] w fun e w' => e = .returned (.bool (U.isVoid n)) ∧ w = w' := by
  cases hr : U.isVoid n with
  | false =>
    obtain ⟨r0, r1, r2, r3⟩ := U.isVoid_no hr
    clear hr
    go_enter Tryz.func106, Tryz.ntmps106
    go_wp2_with fail
    go_ret
    exact ⟨rfl, rfl⟩
  | true =>
    rcases U.isVoid_yes hr with rfl | rfl | rfl | rfl
    all_goals
      clear hr
      go_enter Tryz.func106, Tryz.ntmps106
      go_wp2_with fail
      go_ret
      exact ⟨rfl, rfl⟩
theorem U.endsPar_no {n : List UInt8} (h : U.endsPar n = false) : (n == [112]) = false ∧ (n == [100, 105, 118]) = false ∧ (n == [117, 108]) = false ∧ (n == [111, 108]) = false ∧ (n == [108, 105]) = false ∧ (n == [104, 49]) = false ∧ (n == [104, 50]) = false ∧ (n == [116, 97, 98, 108, 101]) = false ∧ (n == [98, 108, 111, 99, 107, 113, 117, 111, 116, 101]) = false := by
  simpa [U.endsPar, and_assoc] using h
theorem U.endsPar_yes {n : List UInt8} (h : U.endsPar n = true) : n = [112] ∨ n = [100, 105, 118] ∨ n = [117, 108] ∨ n = [111, 108] ∨ n = [108, 105] ∨ n = [104, 49] ∨ n = [104, 50] ∨ n = [116, 97, 98, 108, 101] ∨ n = [98, 108, 111, 99, 107, 113, 117, 111, 116, 101] := by
  simpa [U.endsPar, or_assoc] using h

set_option maxHeartbeats 4000000 in
set_option maxRecDepth 1000000 in
theorem par_walk (n : List UInt8) (w : World) : Calls Tryz.prog 130 #[.string ⟨n.toArray⟩] w fun e w' => e = .returned (.bool (U.endsPar n)) ∧ w = w' := by
  cases hr : U.endsPar n with
  | false =>
    obtain ⟨r0, r1, r2, r3, r4, r5, r6, r7, r8⟩ := U.endsPar_no hr
    clear hr
    go_enter Tryz.func130, Tryz.ntmps130
    go_wp2_with fail
    go_ret
    exact ⟨rfl, rfl⟩
  | true =>
    rcases U.endsPar_yes hr with rfl | rfl | rfl | rfl | rfl | rfl | rfl | rfl | rfl
    all_goals
      clear hr
      go_enter Tryz.func130, Tryz.ntmps130
      go_wp2_with fail
      go_ret
      exact ⟨rfl, rfl⟩

end Go.Proofs.YtmfkefcdddoooaaGreatDoor

namespace Go.Proofs.YtmfkefcdddoooaaGreatDoor
open Go.RowKit

theorem U.SmallNd.out {M : Nat} : ∀ {n : U.Nd}, U.SmallNd M n → n.name.length ≤ M ∧ n.text.length ≤ M ∧ n.attrs.length ≤ M ∧ (∀ x ∈ n.attrs, x.1.length ≤ M ∧ x.2.length ≤ M) ∧ n.parts.length ≤ M ∧ U.SmallNs M n.parts
  | .mk n a t p, h => by rw [U.SmallNd] at h; exact h
theorem RdAS.lt {w : World} {S : Nat → Prop} {v : Value} {al : List U.Att} {B : Nat} (h : RdAS w S v al) (hS : ∀ b, S b → b < B) : RdA w B v al := by
  obtain ⟨ao, cap, rfl, _, _, hc⟩ := h
  refine ⟨ao, cap, rfl, fun i x hx => ?_⟩
  obtain ⟨g, o, e, hg, c0, c1⟩ := hc i x hx
  exact ⟨g, o, e, hS g hg, c0, c1⟩

theorem nd_cells {w : World} {b : Nat} {x0 x1 x2 x3 : Value} {T : TypeId} {f : Nat × Nat} (h : w.heap[b]? = some (.cells #[x0, x1, x2, x3] T f)) : w.cell? ⟨b, 0, none⟩ = some x0 ∧ w.cell? ⟨b, 1, none⟩ = some x1 ∧ w.cell? ⟨b, 2, none⟩ = some x2 ∧ w.cell? ⟨b, 3, none⟩ = some x3 := by
  refine ⟨?_, ?_, ?_, ?_⟩ <;> rw [Lib.cell_of_heap h] <;> rfl
/-- a node as an argument -/
def ndVal (n : U.Nd) (av pv : Value) : Value := .agg #[.string ⟨n.name.toArray⟩, av, .string ⟨n.text.toArray⟩, pv]
def ndObj (n : U.Nd) (av pv : Value) : Obj := .cells #[.string ⟨n.name.toArray⟩, av, .string ⟨n.text.toArray⟩, pv] 46 (0, 0)

set_option maxHeartbeats 4000000 in
set_option maxRecDepth 1000000 in
theorem show_void (n : List UInt8) (w : World) : Calls Tryz.prog 69 #[.string ⟨n.toArray⟩] w fun e w' => e = .returned (.bool (U.isVoid n)) ∧ w = w' := by
  cases hr : U.isVoid n with
  | false =>
    obtain ⟨r0, r1, r2, r3⟩ := U.isVoid_no hr
    clear hr
    go_enter Tryz.func69, Tryz.ntmps69
    go_wp2_with fail
    go_ret
    exact ⟨rfl, rfl⟩
  | true =>
    rcases U.isVoid_yes hr with rfl | rfl | rfl | rfl
    all_goals
      clear hr
      go_enter Tryz.func69, Tryz.ntmps69
      go_wp2_with fail
      go_ret
      exact ⟨rfl, rfl⟩

set_option maxHeartbeats 4000000 in
set_option maxRecDepth 1000000 in
theorem is_text (n : U.Nd) (aa pa : Option Addr) (al ac pl pc : Nat) (w : World) : Calls Tryz.prog 68 #[ndVal n (.slice aa al ac) (.slice pa pl pc)] w fun e w' => e = .returned (.bool n.name.isEmpty) ∧ Below w.heap.size w w' := by
  unfold ndVal
  by_cases h : n.name = []
  · rw [h]
    go_enter Tryz.func68, Tryz.ntmps68
    go_wp2_with fail
    go_ret
    exact ⟨rfl, by first | exact Below.refl _ _ | exact (Below.refl _ w).alloc (Nat.le_refl _) _⟩
  · have e : n.name.isEmpty = false := by
      cases hn : n.name with
      | nil => exact absurd hn h
      | cons a r => rfl
    have h2 : (n.name == []) = false := beq_eq_false_iff_ne.2 h
    rw [e]
    clear h e
    go_enter Tryz.func68, Tryz.ntmps68
    go_wp2_with fail
    go_ret
    exact ⟨rfl, by first | exact Below.refl _ _ | exact (Below.refl _ w).alloc (Nat.le_refl _) _⟩

set_option maxHeartbeats 4000000 in
set_option maxRecDepth 1000000 in
theorem ends_text (v : Value) (l : List U.Nd) (S : Nat → Prop) (w : World) (hR : RdNs w S v l) :
    Calls Tryz.prog 103 #[v] w fun e w' => e = .returned (.bool (U.endT l)) ∧ Below w.heap.size w w' := by
  obtain ⟨ao, cap, rfl, hlc, hcm, _⟩ := id hR
  have hm : l.length ≤ 9223372036854775807 := by unfold maxLen at hcm; omega
  by_cases h0 : l = []
  · subst h0
    go_enter Tryz.func103, Tryz.ntmps103
    go_wp2_with fail
    go_ret
    exact ⟨rfl, Below.refl _ _⟩
  · have hpos : 0 < l.length := List.length_pos_iff.2 h0
    have hx := List.getElem?_eq_getElem (show l.length - 1 < l.length by omega)
    generalize l[l.length - 1]'(show l.length - 1 < l.length by omega) = n at hx
    have hE : U.endT l = n.name.isEmpty := by
      unfold U.endT
      rw [List.getLast?_eq_getElem?, hx]
    rw [hE]
    obtain ⟨g, o, cap2, e0, hg, hn⟩ := hR.get hx
    injection e0 with e1 e2 e3
    subst e1
    obtain ⟨av, pv, c0, c1, c2, c3, hA, hP⟩ := (rdNd_iff n g _).1 hn
    obtain ⟨aa, acap, rfl⟩ : ∃ aa acap, av = .slice aa n.attrs.length acap := by obtain ⟨a, b, e, _⟩ := hA; exact ⟨a, b, e⟩
    obtain ⟨pa, pcap, rfl⟩ : ∃ pa pcap, pv = .slice pa n.parts.length pcap := by obtain ⟨a, b, e, _⟩ := hP; exact ⟨a, b, e⟩
    have hi1 : (0 : Int) ≤ (l.length : Int) - 1 := by omega
    have hi2 : (l.length : Int) - 1 < (l.length : Int) := by omega
    have hi3 : ((l.length : Int) - 1).toNat = l.length - 1 := by omega
    have hi4 : (0 : Int) < (l.length : Int) := by omega
    have hIT := fun W => is_text n aa pa n.attrs.length acap n.parts.length pcap W
    unfold ndVal at hIT
    have HIT := Lib.hid hIT
    clear hIT hR hn hA hP hx hE e2 e3 hcm
    go_enter Tryz.func103, Tryz.ntmps103
    go_wp2_with (go_at_call 68; refine (HIT.out _).mono ?_; rintro e w2 ⟨rfl, hb2⟩)
    go_ret
    exact ⟨rfl, hb2⟩

theorem void_any (n : List UInt8) : U.isVoid n = [[98, 114], [104, 114], [105, 109, 103], [105, 110, 112, 117, 116]].any (fun x => n == x) := by
  simp [U.isVoid, Bool.or_assoc]
theorem raw_any (n : List UInt8) : U.rawName n = [[115, 99, 114, 105, 112, 116], [115, 116, 121, 108, 101], [116, 101, 120, 116, 97, 114, 101, 97], [116, 105, 116, 108, 101]].any (fun x => n == x) := by
  simp [U.rawName, Bool.or_assoc]

set_option maxHeartbeats 4000000 in
set_option maxRecDepth 1000000 in
theorem one_of (s : List UInt8) (xs : List (List UInt8)) (g n cap : Nat) (w : World) (hn : xs.length = n) (hl : n ≤ 100) (hg : g < w.heap.size) (hc : ∀ i x, xs[i]? = some x → w.cell? ⟨g, i, none⟩ = some (.string ⟨x.toArray⟩)) :
    Calls Tryz.prog 97 #[.string ⟨s.toArray⟩, .slice (some ⟨g, 0, none⟩) n cap] w fun e w' => e = .returned (.bool (xs.any fun x => s == x)) ∧ Below w.heap.size w w' := by
  subst hn
  have HC := Lib.hid hc
  clear hc
  go_enter Tryz.func97, Tryz.ntmps97
  go_wp2_with fail
  go_loopw [9] (fun i wr => ∃ k : Nat, k ≤ xs.length ∧ i = .int .i64 k ∧ Below w.heap.size w wr ∧ Hid ((xs.take k).any (fun x => s == x) = false)) (fun i _ => xs.length - (intOf i).toNat)
  case atStart => exact ⟨0, Nat.zero_le _, rfl, Below.refl _ _, rfl⟩
  case round =>
    obtain ⟨k, hk, rfl, hbw, HN⟩ := hrel
    by_cases hlt : k < xs.length
    · have hx := List.getElem?_eq_getElem hlt
      generalize xs[k]'hlt = x at hx
      have c0 := (hbw.cell (p := ⟨g, k, none⟩) hg).trans (HC.out k x hx)
      have hk0 : (0 : Int) ≤ (k : Int) := Int.natCast_nonneg _
      have hk1 : (k : Int) < (xs.length : Int) := by omega
      have HX := Lib.hid hx
      clear hx
      cases hs : (s == x) with
      | true =>
        go_wp2_with fail
        go_ret
        refine ⟨?_, hbw⟩
        have : xs.any (fun x => s == x) = true := List.any_eq_true.2 ⟨x, List.mem_of_getElem? HX.out, hs⟩
        rw [this]
        rfl
      | false =>
        have hN2 : (xs.take (k + 1)).any (fun x => s == x) = false := by
          obtain ⟨hk', e⟩ := List.getElem?_eq_some_iff.1 HX.out
          rw [List.take_succ_eq_append_getElem hk', e, List.any_append, HN.out]
          simp [hs]
        have HN2 := Lib.hid hN2
        clear hN2
        go_wp2_with fail
        go_roundw
        case rel => exact ⟨k + 1, by omega, by go_num, hbw, HN2.out⟩
        case measure => simp [intOf]; omega
    · have hall : xs.take k = xs := List.take_of_length_le (by omega)
      have hN2 := HN.out
      rw [hall] at hN2
      have HN2 := Lib.hid hN2
      clear hN2
      go_wp2_with fail
      go_ret
      exact ⟨by rw [HN2.out]; rfl, hbw⟩

theorem cells_strs {w : World} {b : Nat} {xs : List (List UInt8)} {vs : Array Value} {t : TypeId} {f : Nat × Nat} (h : w.heap[b]? = some (.cells vs t f)) (hv : vs.toList = xs.map fun x => Value.string ⟨x.toArray⟩) : ∀ i x, xs[i]? = some x → w.cell? ⟨b, i, none⟩ = some (.string ⟨x.toArray⟩) := by
  intro i x hx
  rw [Lib.cell_of_heap h]
  have : vs.toList[i]? = some (.string ⟨x.toArray⟩) := by rw [hv, List.getElem?_map, hx]; rfl
  simpa using this

set_option maxHeartbeats 4000000 in
set_option maxRecDepth 1000000 in
theorem ref_void (n : List UInt8) (w : World) : Calls Tryz.prog 65 #[.string ⟨n.toArray⟩] w fun e w' => e = .returned (.bool (U.isVoid n)) ∧ Below w.heap.size w w' := by
  go_enter Tryz.func65, Tryz.ntmps65
  go_wp2_with fail
  refine (one_of n [[98, 114], [104, 114], [105, 109, 103], [105, 110, 112, 117, 116]] _ 4 4 _ rfl (by decide) (by simp) (cells_strs (heap_alloc_new _ _) (by rfl))).mono ?_
  rintro e w2 ⟨rfl, hb2⟩
  go_wp2_with fail
  go_ret
  exact ⟨by simp [U.isVoid, Bool.or_assoc], ((Below.refl _ w).alloc (Nat.le_refl _) _).trans (hb2.mono (by simp))⟩

end Go.Proofs.YtmfkefcdddoooaaGreatDoor

namespace Go.Proofs.YtmfkefcdddoooaaGreatDoor
open Go.RowKit

/-- blocks where the parts may lie: below T, or between lo and hi but for the row's own -/
abbrev Elsew (T lo hi : Nat) (v : Value) (b : Nat) : Prop := b < T ∨ (lo ≤ b ∧ b < hi ∧ some b ≠ v.ownBlock)
/-- blocks below T, or between lo and hi -/
abbrev Within (T lo hi : Nat) (b : Nat) : Prop := b < T ∨ (lo ≤ b ∧ b < hi)
def NRow (T : Nat) (w0 w : World) (v : Value) (xs : List NV) : Prop :=
  w.ownsRow w0.heap.size 46 4 v xs.length (ndCells xs) ∧ (∀ x ∈ xs, Done w (Elsew T w0.heap.size w.heap.size v) x) ∧ Below w0.heap.size w0 w ∧ T ≤ w0.heap.size
theorem NRow.nil {T : Nat} {w0 w : World} (hT : T ≤ w0.heap.size) (h : Below w0.heap.size w0 w) : NRow T w0 w (.slice none 0 0) [] := ⟨World.ownsRow_nil _ _ _ _, (fun x hx => by cases hx), h, hT⟩
theorem NRow.later {T : Nat} {w0 w w2 : World} {v : Value} {xs : List NV} (h : NRow T w0 w v xs) (hb : Below w.heap.size w w2) : NRow T w0 w2 v xs := by
  have h3 := h.2.2.1.size
  have h4 := h.2.2.2
  have h5 := hb.size
  refine ⟨own_keep h.1 hb, fun x hx => (h.2.1 x hx).keep (fun p hp => hb.cell ?_) (fun b hb' => ?_), h.2.2.1.trans (hb.mono h3), h4⟩
  · rcases hp with hp | hp
    · omega
    · exact hp.2.1
  · rcases hb' with hb' | ⟨a, b, c⟩
    · exact .inl hb'
    · exact .inr ⟨a, by omega, c⟩
theorem NRow.alloc {T : Nat} {w0 w : World} {v : Value} {xs : List NV} (h : NRow T w0 w v xs) (O : Obj) : NRow T w0 (w.alloc O) v xs := h.later ((Below.refl _ w).alloc (Nat.le_refl _) O)
theorem NRow.put {T : Nat} {w0 w w2 : World} {v : Value} {g cap n : Nat} {xs : List NV} (h : NRow T w0 w v xs) (x : NV) (hx : Done w (Elsew T w0.heap.size w.heap.size v) x)
    (ho : w2.ownsRow w0.heap.size 46 4 (.slice (some ⟨g, 0, none⟩) n cap) (xs.length + 1) (ndCells xs ++ [.string ⟨x.1.name.toArray⟩, x.2.1, .string ⟨x.1.text.toArray⟩, x.2.2])) (hg : w.grownBy w2 v.ownBlock) (hat : v.ownBlock = some g ∨ w.heap.size ≤ g) :
    NRow T w0 w2 (.slice (some ⟨g, 0, none⟩) n cap) (xs ++ [x]) := by
  have h3 := h.2.2.1.size
  have h4 := h.2.2.2
  have h5 := hg.size
  have hlt : ∀ k, v.ownBlock = some k → w0.heap.size ≤ k := fun k hk => (h.1.lt k hk).1
  have hk : ∀ y : NV, Done w (Elsew T w0.heap.size w.heap.size v) y → Done w2 (Elsew T w0.heap.size w2.heap.size (.slice (some ⟨g, 0, none⟩) n cap)) y := fun y hy => hy.keep (fun p hp => by
    rcases hp with hp | ⟨a, b, c⟩
    · exact hg.cell_far p (by omega) (fun e => by have := hlt p.block e.symm; omega)
    · exact hg.cell_far p b c) (fun b hb => by
    rcases hb with hb | ⟨a, b', c⟩
    · exact .inl hb
    · refine .inr ⟨a, by omega, fun e => ?_⟩
      have e2 : b = g := by simpa [Value.ownBlock] using e
      subst e2
      rcases hat with e3 | e3
      · exact c e3.symm
      · omega)
  refine ⟨?_, ?_, h.2.2.1.grown hg h.2.2.1.size (fun k hk => (h.1.lt k hk).1), h4⟩
  · rw [List.length_append, ndCells_append]
    exact ho
  · intro y hy
    rcases List.mem_append.1 hy with hy | hy
    · exact hk y (h.2.1 y hy)
    · obtain rfl := List.mem_singleton.1 hy
      exact hk y hx
/-- what comes back of it -/
theorem NRow.rd {T : Nat} {w0 w : World} {v : Value} {xs : List NV} (h : NRow T w0 w v xs) : RdNs w (Within T w0.heap.size w.heap.size) v (xs.map (·.1)) := by
  refine RdNs.of_own h.1 (fun x hx => (h.2.1 x hx).keep (fun _ _ => rfl) (fun b hb => ?_)) (fun g hg => .inr (h.1.lt g hg))
  rcases hb with hb | ⟨a, b', _⟩
  · exact .inl hb
  · exact .inr ⟨a, b'⟩
/-- what a call made behind the row: no block of the row's -/
theorem NRow.apart {T : Nat} {w0 w w2 : World} {v : Value} {xs : List NV} (h : NRow T w0 w v xs) {b hi : Nat} (hb : Within T w.heap.size hi b) (hhi : hi ≤ w2.heap.size) : Elsew T w0.heap.size w2.heap.size v b := by
  have h3 := h.2.2.1.size
  rcases hb with hb | ⟨a, b'⟩
  · exact .inl hb
  · refine .inr ⟨by omega, by omega, fun e => ?_⟩
    have := (h.1.lt _ e.symm).2
    omega
theorem cells4 {w : World} {n : Nat} {a b c d : Value} {t : TypeId} (h : w.heap[n]? = some (.cells #[a, b, c, d] t (0, 0))) : ∀ (j : Nat) u, [a, b, c, d][j]? = some u → w.cell? ((⟨n, 0, none⟩ : Addr).add j) = some u := by
  intro j u hj
  have e0 : (⟨n, 0, none⟩ : Addr).add j = ⟨n, j, none⟩ := by cases j <;> simp [Addr.add]
  rw [e0, Lib.cell_of_heap h]
  match j, hj with
  | 0, hj => simpa using hj
  | 1, hj => simpa using hj
  | 2, hj => simpa using hj
  | 3, hj => simpa using hj
  | (j + 4), hj => simp at hj

end Go.Proofs.YtmfkefcdddoooaaGreatDoor

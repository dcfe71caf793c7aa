/- Several texts in one: RdK, RdKC, Node, Bld. -/
import Derived.Outline
import Derived.Test.YtankcnikebcpkaaGreatDoorP01
import Derived.Test.YtankcnikebcpkaaGreatDoorP05
namespace Go.Proofs.YtankcnikebcpkaaGreatDoor
open Go.RowKit

/-- a slice that reads as these tokens, below block B -/
def RdK (w : World) (B : Nat) (v : Value) (l : List U.Tk) : Prop := ∃ ao cap, v = .slice ao l.length cap ∧
  ∀ (i : Nat) (t : U.Tk), l[i]? = some t → ∃ g o av, ao = some ⟨g, o, none⟩ ∧ g < B ∧ w.cell? ⟨g, o + i * 5, none⟩ = some (.int .i64 t.kind) ∧ w.cell? ⟨g, o + i * 5 + 1, none⟩ = some (.string ⟨t.name.toArray⟩) ∧
    w.cell? ⟨g, o + i * 5 + 2, none⟩ = some av ∧ w.cell? ⟨g, o + i * 5 + 3, none⟩ = some (.bool t.self) ∧ w.cell? ⟨g, o + i * 5 + 4, none⟩ = some (.string ⟨t.text.toArray⟩) ∧ RdA w B av t.attrs
theorem RdK.keep {w w' : World} {B : Nat} {v : Value} {ts : List U.Tk} (h : RdK w B v ts) (hk : ∀ p : Addr, p.block < B → w'.cell? p = w.cell? p) : RdK w' B v ts := by
  obtain ⟨ao, cap, rfl, hc⟩ := h
  refine ⟨ao, cap, rfl, fun i t ht => ?_⟩
  obtain ⟨g, o, av, e, hb, c0, c1, c2, c3, c4, hA⟩ := hc i t ht
  exact ⟨g, o, av, e, hb, (hk _ hb).trans c0, (hk _ hb).trans c1, (hk _ hb).trans c2, (hk _ hb).trans c3, (hk _ hb).trans c4, hA.keep hk⟩
theorem RdK.below {w w' : World} {B : Nat} {v : Value} {ts : List U.Tk} (h : RdK w B v ts) (hb : Below B w w') : RdK w' B v ts := h.keep fun _ hp => hb.cell hp
theorem RdA.below {w w' : World} {B : Nat} {v : Value} {ts : List U.Att} (h : RdA w B v ts) (hb : Below B w w') : RdA w' B v ts := h.keep fun _ hp => hb.cell hp
theorem RdK.more {w : World} {B B' : Nat} {v : Value} {ts : List U.Tk} (h : RdK w B v ts) (hB : B ≤ B') : RdK w B' v ts := by
  obtain ⟨ao, cap, rfl, hc⟩ := h
  refine ⟨ao, cap, rfl, fun i t ht => ?_⟩
  obtain ⟨g, o, av, e, hb, c0, c1, c2, c3, c4, hA⟩ := hc i t ht
  exact ⟨g, o, av, e, by omega, c0, c1, c2, c3, c4, hA.more hB⟩
theorem RdT.rdK {w : World} {B : Nat} {v : Value} {ts : List U.Tok} (h : RdT w B v ts) : RdK w B v (ts.map U.Tok.tk) := by
  obtain ⟨ao, cap, rfl, hc⟩ := h
  refine ⟨ao, cap, by rw [List.length_map], fun i t ht => ?_⟩
  rw [List.getElem?_map] at ht
  cases hx : ts[i]? with
  | none => rw [hx] at ht; cases ht
  | some x =>
    rw [hx] at ht
    obtain rfl : x.tk = t := by simpa using ht
    obtain ⟨g, o, av, e, hb, c0, c1, c2, c3, c4, hA, _⟩ := hc i x hx
    exact ⟨g, o, av, e, hb, c0, c1, c2, c3, c4, hA⟩
/-- a beginning, an end of it -/
theorem RdK.take {w : World} {B : Nat} {ao : Option Addr} {n cap : Nat} {l : List U.Tk} (h : RdK w B (.slice ao n cap) l) (k cap2 : Nat) (hk : k ≤ l.length) : RdK w B (.slice ao k cap2) (l.take k) := by
  obtain ⟨ao2, cap', e, hc⟩ := h
  injection e with e1 e2 e3
  subst e1
  have hl : (l.take k).length = k := by rw [List.length_take]; omega
  refine ⟨ao, cap2, by rw [hl], fun i t ht => ?_⟩
  have hi : i < k := by have := (List.getElem?_eq_some_iff.1 ht).1; omega
  rw [List.getElem?_take_of_lt hi] at ht
  exact hc i t ht
theorem RdK.drop {w : World} {B g o n cap : Nat} {l : List U.Tk} (h : RdK w B (.slice (some ⟨g, o, none⟩) n cap) l) (k cap2 : Nat) : RdK w B (.slice (some ⟨g, o + k * 5, none⟩) (l.length - k) cap2) (l.drop k) := by
  obtain ⟨ao2, cap', e, hc⟩ := h
  injection e with e1 e2 e3
  subst e1
  have hl : (l.drop k).length = l.length - k := List.length_drop ..
  refine ⟨some ⟨g, o + k * 5, none⟩, cap2, by rw [hl], fun i t ht => ?_⟩
  rw [List.getElem?_drop] at ht
  obtain ⟨g2, o2, av, e2, hb, c0, c1, c2, c3, c4, hA⟩ := hc (k + i) t ht
  injection e2 with e2
  injection e2 with e3 e4
  subst e3
  subst e4
  have e5 : o + (k + i) * 5 = o + k * 5 + i * 5 := by omega
  rw [e5] at c0 c1 c2 c3 c4
  exact ⟨g, o + k * 5, av, rfl, hb, c0, c1, c2, c3, c4, hA⟩

/-- how long a text may be -/
abbrev most : Nat := 9223372036854775807
/-- there are no more attributes -/
def Fits (M : Nat) (t : U.Tk) : Prop := t.attrs.length ≤ M
theorem Fits.more {M M' : Nat} {t : U.Tk} (h : Fits M t) (hM : M ≤ M') : Fits M' t := Nat.le_trans h hM
/-- nothing in the token is longer -/
def Small (M : Nat) (t : U.Tk) : Prop := t.name.length ≤ M ∧ t.text.length ≤ M ∧ t.attrs.length ≤ M ∧ ∀ a ∈ t.attrs, a.1.length ≤ M ∧ a.2.length ≤ M
theorem Small.more {M M' : Nat} {t : U.Tk} (h : Small M t) (hM : M ≤ M') : Small M' t := ⟨Nat.le_trans h.1 hM, Nat.le_trans h.2.1 hM, Nat.le_trans h.2.2.1 hM, fun a ha => ⟨Nat.le_trans (h.2.2.2 a ha).1 hM, Nat.le_trans (h.2.2.2 a ha).2 hM⟩⟩
theorem Small.fits {M : Nat} {t : U.Tk} (h : Small M t) : Fits M t := h.2.2.1

end Go.Proofs.YtankcnikebcpkaaGreatDoor

namespace Go.Proofs.YtankcnikebcpkaaGreatDoor
open Go.RowKit

/-- no slice is longer than it may be -/
def Cap (v : Value) : Prop := ∀ ao n cap, v = .slice ao n cap → n ≤ cap
theorem Cap.le {ao : Option Addr} {n cap : Nat} (h : Cap (.slice ao n cap)) : n ≤ cap := h ao n cap rfl
theorem Cap.mk {ao : Option Addr} {n cap : Nat} (h : n ≤ cap) : Cap (.slice ao n cap) := fun a b c e => by injection e with _ e2 e3; omega
theorem Cap.of_own {w : World} {B : Nat} {e : TypeId} {size n : Nat} {v : Value} {xs : List Value} (h : w.ownsRow B e size v n xs) : Cap v := by
  intro ao n2 cap hv
  rcases h.2 with ⟨h1, h2⟩ | ⟨g, cap2, cur, h1, hb, hg, r⟩
  · rw [h1] at hv
    injection hv with _ e2 e3
    omega
  · rw [h1] at hv
    injection hv with _ e2 e3
    subst e2
    subst e3
    have h3 := h.1
    first
      | omega
      | exact r.1
def RdKC (w : World) (B : Nat) (v : Value) (l : List U.Tk) : Prop :=
  RdK w B v l ∧ Cap v ∧ ∀ ao n cap, v = .slice ao n cap → ∀ (i : Nat) (t : U.Tk), l[i]? = some t → ∀ g o, ao = some ⟨g, o, none⟩ → ∀ av, w.cell? ⟨g, o + i * 5 + 2, none⟩ = some av → Cap av
theorem RdKC.keep {w w' : World} {B : Nat} {v : Value} {l : List U.Tk} (h : RdKC w B v l) (hk : ∀ p : Addr, p.block < B → w'.cell? p = w.cell? p) : RdKC w' B v l := by
  obtain ⟨h1, h2, h3⟩ := h
  refine ⟨h1.keep hk, h2, fun ao n cap e i t ht g o e2 av hc => ?_⟩
  obtain ⟨ao', cap', e', hcells⟩ := h1
  rw [e] at e'
  injection e' with e1 _ _
  subst e1
  obtain ⟨g', o', av', e3, hb, _, _, c2, _⟩ := hcells i t ht
  rw [e2] at e3
  injection e3 with e3
  injection e3 with e4 e5
  subst e4
  subst e5
  rw [hk _ hb] at hc
  exact h3 ao n cap e i t ht g o e2 av hc
theorem RdKC.below {w w' : World} {B : Nat} {v : Value} {ts : List U.Tk} (h : RdKC w B v ts) (hb : Below B w w') : RdKC w' B v ts := h.keep fun _ hp => hb.cell hp
theorem RdKC.more {w : World} {B B' : Nat} {v : Value} {ts : List U.Tk} (h : RdKC w B v ts) (hB : B ≤ B') : RdKC w B' v ts := ⟨h.1.more hB, h.2.1, h.2.2⟩
/-- a token's cells -/
theorem RdKC.at {w : World} {B : Nat} {ao : Option Addr} {n cap : Nat} {l : List U.Tk} (h : RdKC w B (.slice ao n cap) l) {i : Nat} {t : U.Tk} (ht : l[i]? = some t) :
    ∃ g o aoA capA, ao = some ⟨g, o, none⟩ ∧ g < B ∧ w.cell? ⟨g, o + i * 5, none⟩ = some (.int .i64 t.kind) ∧ w.cell? ⟨g, o + i * 5 + 1, none⟩ = some (.string ⟨t.name.toArray⟩) ∧
      w.cell? ⟨g, o + i * 5 + 2, none⟩ = some (.slice aoA t.attrs.length capA) ∧ w.cell? ⟨g, o + i * 5 + 3, none⟩ = some (.bool t.self) ∧ w.cell? ⟨g, o + i * 5 + 4, none⟩ = some (.string ⟨t.text.toArray⟩) ∧
      RdA w B (.slice aoA t.attrs.length capA) t.attrs ∧ t.attrs.length ≤ capA := by
  obtain ⟨h1, h2, h3⟩ := h
  obtain ⟨ao2, cap2, e, hc⟩ := h1
  injection e with e1 _ _
  subst e1
  obtain ⟨g, o, av, e2, hb, c0, c1, c2, c3, c4, hA⟩ := hc i t ht
  have hcap := h3 ao n cap rfl i t ht g o e2 av c2
  obtain ⟨aoA, capA, rfl, hcA⟩ := id hA
  exact ⟨g, o, aoA, capA, e2, hb, c0, c1, c2, c3, c4, hA, hcap.le⟩
theorem RdKC.len {w : World} {B : Nat} {v : Value} {l : List U.Tk} (h : RdKC w B v l) : ∃ ao cap, v = .slice ao l.length cap ∧ l.length ≤ cap := by
  obtain ⟨⟨ao, cap, rfl, _⟩, h2, _⟩ := h
  exact ⟨ao, cap, rfl, h2.le⟩

end Go.Proofs.YtankcnikebcpkaaGreatDoor

namespace Go.Proofs.YtankcnikebcpkaaGreatDoor
open Go.RowKit

/-- a slice that reads as these attributes, in blocks of S -/
def RdAS (w : World) (S : Nat → Prop) (v : Value) (al : List U.Att) : Prop := ∃ ao cap, v = .slice ao al.length cap ∧ al.length ≤ cap ∧ cap ≤ maxLen ∧
  ∀ (i : Nat) (x : U.Att), al[i]? = some x → ∃ g o, ao = some ⟨g, o, none⟩ ∧ S g ∧ w.cell? ⟨g, o + i * 2, none⟩ = some (.string ⟨x.1.toArray⟩) ∧ w.cell? ⟨g, o + i * 2 + 1, none⟩ = some (.string ⟨x.2.toArray⟩)
theorem RdAS.rdA {w : World} {B : Nat} {v : Value} {al : List U.Att} (h : RdAS w (· < B) v al) : RdA w B v al := by
  obtain ⟨ao, cap, rfl, _, _, hc⟩ := h
  exact ⟨ao, cap, rfl, hc⟩
theorem RdAS.keep {w w' : World} {S S' : Nat → Prop} (hk : ∀ p : Addr, S p.block → w'.cell? p = w.cell? p) (hS : ∀ b, S b → S' b) {v : Value} {al : List U.Att} (h : RdAS w S v al) : RdAS w' S' v al := by
  obtain ⟨ao, cap, rfl, h1, h2, hc⟩ := h
  refine ⟨ao, cap, rfl, h1, h2, fun i x hx => ?_⟩
  obtain ⟨g, o, e, hb, c1, c2⟩ := hc i x hx
  exact ⟨g, o, e, hS _ hb, (hk _ hb).trans c1, (hk _ hb).trans c2⟩
theorem RdAS.nil (w : World) (S : Nat → Prop) : RdAS w S (.slice none 0 0) [] := ⟨none, 0, rfl, Nat.le_refl _, Nat.zero_le _, fun i x hx => by cases hx⟩
theorem own_cap {w : World} {B : Nat} {e : TypeId} {size n : Nat} {v : Value} {xs : List Value} (h : w.ownsRow B e size v n xs) : ∃ ao cap, v = .slice ao n cap ∧ n ≤ cap ∧ cap ≤ maxLen ∧ (n = 0 ∨ ∃ g, ao = some ⟨g, 0, none⟩ ∧ v.ownBlock = some g) := by
  rcases h.2 with ⟨rfl, rfl⟩ | ⟨g, cap, cur, rfl, _, _, h1, h2, _⟩
  · exact ⟨none, 0, rfl, Nat.le_refl _, Nat.zero_le _, .inl rfl⟩
  · exact ⟨_, cap, rfl, h1, h2, .inr ⟨g, rfl, rfl⟩⟩
theorem RdAS.of_own {w : World} {B : Nat} {S : Nat → Prop} {v : Value} {al : List U.Att} (h : w.ownsRow B 52 2 v al.length (attCells al)) (hS : ∀ g, v.ownBlock = some g → S g) : RdAS w S v al := by
  obtain ⟨ao, cap, rfl, h1, h2, h3⟩ := own_cap h
  refine ⟨ao, cap, rfl, h1, h2, fun i x hx => ?_⟩
  obtain ⟨g, c, e, c1, c2⟩ := row_att h hx
  injection e with e1 e2 e3
  subst e1
  exact ⟨g, 0, rfl, hS g rfl, by rw [Nat.zero_add]; exact c1, by rw [Nat.zero_add]; exact c2⟩

mutual
/-- a node in four cells -/
def RdNd (w : World) (S : Nat → Prop) : U.Nd → Nat → Nat → Prop
  | .mk n a t p, g, o => ∃ av pv, w.cell? ⟨g, o, none⟩ = some (.string ⟨n.toArray⟩) ∧ w.cell? ⟨g, o + 1, none⟩ = some av ∧ w.cell? ⟨g, o + 2, none⟩ = some (.string ⟨t.toArray⟩) ∧ w.cell? ⟨g, o + 3, none⟩ = some pv ∧ RdAS w S av a ∧
      ∃ ao cap, pv = .slice ao p.length cap ∧ p.length ≤ cap ∧ cap ≤ maxLen ∧ (p = [] ∨ ∃ g2 o2, ao = some ⟨g2, o2, none⟩ ∧ S g2 ∧ RdRow w S p g2 o2)
def RdRow (w : World) (S : Nat → Prop) : List U.Nd → Nat → Nat → Prop
  | [], _, _ => True
  | n :: r, g, o => RdNd w S n g o ∧ RdRow w S r g (o + 4)
end
/-- a slice that reads as these nodes, in blocks of S -/
def RdNs (w : World) (S : Nat → Prop) (v : Value) (l : List U.Nd) : Prop := ∃ ao cap, v = .slice ao l.length cap ∧ l.length ≤ cap ∧ cap ≤ maxLen ∧ (l = [] ∨ ∃ g o, ao = some ⟨g, o, none⟩ ∧ S g ∧ RdRow w S l g o)
theorem rdNd_iff {w : World} {S : Nat → Prop} (n : U.Nd) (g o : Nat) : RdNd w S n g o ↔ ∃ av pv, w.cell? ⟨g, o, none⟩ = some (.string ⟨n.name.toArray⟩) ∧ w.cell? ⟨g, o + 1, none⟩ = some av ∧ w.cell? ⟨g, o + 2, none⟩ = some (.string ⟨n.text.toArray⟩) ∧ w.cell? ⟨g, o + 3, none⟩ = some pv ∧ RdAS w S av n.attrs ∧ RdNs w S pv n.parts := by
  cases n
  rw [RdNd]
  exact Iff.rfl
theorem rdRow_get {w : World} {S : Nat → Prop} : ∀ {l : List U.Nd} {g o i : Nat} {n : U.Nd}, RdRow w S l g o → l[i]? = some n → RdNd w S n g (o + i * 4)
  | [], _, _, _, _, _, h => by cases h
  | a :: r, g, o, 0, n, h, hn => by
    rw [RdRow] at h
    simp at hn
    subst hn
    simpa using h.1
  | a :: r, g, o, i + 1, n, h, hn => by
    rw [RdRow] at h
    have := rdRow_get h.2 (by simpa using hn)
    rwa [show o + (i + 1) * 4 = o + 4 + i * 4 by omega]
theorem rdRow_of {w : World} {S : Nat → Prop} : ∀ {l : List U.Nd} {g o : Nat}, (∀ i n, l[i]? = some n → RdNd w S n g (o + i * 4)) → RdRow w S l g o
  | [], _, _, _ => by rw [RdRow]; trivial
  | a :: r, g, o, h => by
    rw [RdRow]
    refine ⟨by simpa using h 0 a rfl, rdRow_of fun i n hn => ?_⟩
    have := h (i + 1) n (by simpa using hn)
    rwa [show o + (i + 1) * 4 = o + 4 + i * 4 by omega] at this
theorem RdNs.get {w : World} {S : Nat → Prop} {v : Value} {l : List U.Nd} (h : RdNs w S v l) {i : Nat} {n : U.Nd} (hn : l[i]? = some n) : ∃ g o cap, v = .slice (some ⟨g, o, none⟩) l.length cap ∧ S g ∧ RdNd w S n g (o + i * 4) := by
  obtain ⟨ao, cap, rfl, _, _, rfl | ⟨g, o, rfl, hS, hr⟩⟩ := h
  · cases hn
  · exact ⟨g, o, cap, rfl, hS, rdRow_get hr hn⟩
theorem RdNs.nil (w : World) (S : Nat → Prop) : RdNs w S (.slice none 0 0) [] := ⟨none, 0, rfl, Nat.le_refl _, Nat.zero_le _, .inl rfl⟩
mutual
theorem rdNd_keep {w w' : World} {S S' : Nat → Prop} (hk : ∀ p : Addr, S p.block → w'.cell? p = w.cell? p) (hS : ∀ b, S b → S' b) : ∀ (n : U.Nd) (g o : Nat), S g → RdNd w S n g o → RdNd w' S' n g o
  | .mk n a t p, g, o, hg, h => by
    rw [RdNd] at h ⊢
    obtain ⟨av, pv, c0, c1, c2, c3, hA, ao, cap, e, h1, h2, h3⟩ := h
    refine ⟨av, pv, (hk _ hg).trans c0, (hk _ hg).trans c1, (hk _ hg).trans c2, (hk _ hg).trans c3, hA.keep hk hS, ao, cap, e, h1, h2, ?_⟩
    rcases h3 with h3 | ⟨g2, o2, e2, hg2, hr⟩
    · exact .inl h3
    · exact .inr ⟨g2, o2, e2, hS _ hg2, rdRow_keep hk hS p g2 o2 hg2 hr⟩
theorem rdRow_keep {w w' : World} {S S' : Nat → Prop} (hk : ∀ p : Addr, S p.block → w'.cell? p = w.cell? p) (hS : ∀ b, S b → S' b) : ∀ (l : List U.Nd) (g o : Nat), S g → RdRow w S l g o → RdRow w' S' l g o
  | [], _, _, _, _ => by rw [RdRow]; trivial
  | n :: r, g, o, hg, h => by
    rw [RdRow] at h ⊢
    exact ⟨rdNd_keep hk hS n g o hg h.1, rdRow_keep hk hS r g (o + 4) hg h.2⟩
end
theorem RdNs.keep {w w' : World} {S S' : Nat → Prop} (hk : ∀ p : Addr, S p.block → w'.cell? p = w.cell? p) (hS : ∀ b, S b → S' b) {v : Value} {l : List U.Nd} (h : RdNs w S v l) : RdNs w' S' v l := by
  obtain ⟨ao, cap, rfl, h1, h2, h3⟩ := h
  refine ⟨ao, cap, rfl, h1, h2, ?_⟩
  rcases h3 with h3 | ⟨g, o, e, hS', hr⟩
  · exact .inl h3
  · exact .inr ⟨g, o, e, hS _ hS', rdRow_keep hk hS l g o hS' hr⟩
theorem RdNs.below {w w' : World} {B B' : Nat} {v : Value} {l : List U.Nd} (h : RdNs w (· < B) v l) (hb : Below B w w') (hB : B ≤ B') : RdNs w' (· < B') v l := h.keep (fun _ hp => hb.cell hp) (fun _ hp => Nat.lt_of_lt_of_le hp hB)

/-- a node with the values of its two slices -/
abbrev NV := U.Nd × Value × Value
def ndCells (l : List NV) : List Value := l.flatMap fun x => [.string ⟨x.1.name.toArray⟩, x.2.1, .string ⟨x.1.text.toArray⟩, x.2.2]
theorem ndCells_length (l : List NV) : (ndCells l).length = l.length * 4 := by
  induction l with
  | nil => rfl
  | cons a l ih =>
    have : ndCells (a :: l) = .string ⟨a.1.name.toArray⟩ :: a.2.1 :: .string ⟨a.1.text.toArray⟩ :: a.2.2 :: ndCells l := rfl
    rw [this]
    simp only [List.length_cons]
    omega
theorem ndCells_append (a b : List NV) : ndCells (a ++ b) = ndCells a ++ ndCells b := by simp [ndCells]
theorem ndCells_get : ∀ (l : List NV) (i : Nat) (x : NV), l[i]? = some x → (ndCells l)[i * 4]? = some (.string ⟨x.1.name.toArray⟩) ∧ (ndCells l)[i * 4 + 1]? = some x.2.1 ∧ (ndCells l)[i * 4 + 2]? = some (.string ⟨x.1.text.toArray⟩) ∧ (ndCells l)[i * 4 + 3]? = some x.2.2
  | [], _, _, h => by cases h
  | a :: l, 0, x, h => by simp at h; subst h; exact ⟨rfl, rfl, rfl, rfl⟩
  | a :: l, i + 1, x, h => by
    have := ndCells_get l i x (by simpa using h)
    have e : ndCells (a :: l) = .string ⟨a.1.name.toArray⟩ :: a.2.1 :: .string ⟨a.1.text.toArray⟩ :: a.2.2 :: ndCells l := rfl
    rw [e, show (i + 1) * 4 = i * 4 + 1 + 1 + 1 + 1 by omega]
    simpa using this
/-- the cells of a node in a row -/
theorem row_nd {w : World} {B n : Nat} {v : Value} {l : List NV} (h : w.ownsRow B 48 4 v n (ndCells l)) {i : Nat} {x : NV} (hx : l[i]? = some x) :
    ∃ g cap, v = .slice (some ⟨g, 0, none⟩) n cap ∧ w.cell? ⟨g, i * 4, none⟩ = some (.string ⟨x.1.name.toArray⟩) ∧ w.cell? ⟨g, i * 4 + 1, none⟩ = some x.2.1 ∧ w.cell? ⟨g, i * 4 + 2, none⟩ = some (.string ⟨x.1.text.toArray⟩) ∧ w.cell? ⟨g, i * 4 + 3, none⟩ = some x.2.2 := by
  obtain ⟨h0, h1, h2, h3⟩ := ndCells_get l i x hx
  rcases h.2 with ⟨rfl, hn⟩ | ⟨g, cap, cur, rfl, _⟩
  · have h9 := h.1
    rw [hn] at h9
    have : ndCells l = [] := List.length_eq_zero_iff.1 (by omega)
    rw [this] at h0
    simp at h0
  · have ea : ∀ j, (⟨g, 0, none⟩ : Addr).add j = ⟨g, j, none⟩ := fun j => by cases j <;> simp [Addr.add]
    have c0 := h.cells (g := g) rfl _ _ h0
    have c1 := h.cells (g := g) rfl _ _ h1
    have c2 := h.cells (g := g) rfl _ _ h2
    have c3 := h.cells (g := g) rfl _ _ h3
    rw [ea] at c0 c1 c2 c3
    exact ⟨g, cap, rfl, c0, c1, c2, c3⟩
/-- a node's two slices read as what they are to hold -/
def Done (w : World) (S : Nat → Prop) (x : NV) : Prop := RdAS w S x.2.1 x.1.attrs ∧ RdNs w S x.2.2 x.1.parts
theorem Done.keep {w w' : World} {S S' : Nat → Prop} (hk : ∀ p : Addr, S p.block → w'.cell? p = w.cell? p) (hS : ∀ b, S b → S' b) {x : NV} (h : Done w S x) : Done w' S' x := ⟨h.1.keep hk hS, h.2.keep hk hS⟩
theorem RdNs.of_own {w : World} {B : Nat} {S : Nat → Prop} {v : Value} {l : List NV} (h : w.ownsRow B 48 4 v l.length (ndCells l)) (hd : ∀ x ∈ l, Done w S x) (hS : ∀ g, v.ownBlock = some g → S g) : RdNs w S v (l.map (·.1)) := by
  obtain ⟨ao, cap, rfl, h1, h2, h3⟩ := own_cap h
  have hl : (l.map (·.1)).length = l.length := List.length_map ..
  refine ⟨ao, cap, by rw [hl], by rw [hl]; exact h1, h2, ?_⟩
  rcases h3 with h3 | ⟨g, rfl, hg⟩
  · left; rw [List.eq_nil_of_length_eq_zero h3]; rfl
  · refine .inr ⟨g, 0, rfl, hS g hg, rdRow_of fun i n hn => ?_⟩
    obtain ⟨x, hx, rfl⟩ : ∃ x, l[i]? = some x ∧ x.1 = n := by
      rw [List.getElem?_map] at hn
      cases hx : l[i]? with
      | none => rw [hx] at hn; cases hn
      | some x => rw [hx] at hn; exact ⟨x, rfl, by simpa using hn⟩
    obtain ⟨g', c', e, c0, c1, c2, c3⟩ := row_nd h hx
    injection e with e1 _ _
    injection e1 with e1
    injection e1 with e1 _ _
    subst e1
    obtain ⟨d1, d2⟩ := hd x (List.mem_of_getElem? hx)
    rw [rdNd_iff, Nat.zero_add]
    exact ⟨x.2.1, x.2.2, c0, c1, c2, c3, d1, d2⟩

end Go.Proofs.YtankcnikebcpkaaGreatDoor

namespace Go.Proofs.YtankcnikebcpkaaGreatDoor
open Go.RowKit

/-- the rows that may still grow -/
def mine (ov pv tv : Value) (opl : List NV) : List Value := tv :: ov :: pv :: opl.map (·.2.2)
/-- a block that is neither the builder's nor one of these rows' -/
def Free (w : World) (bp : Nat) (M : List Value) (b : Nat) : Prop := b < w.heap.size ∧ b ≠ bp ∧ ∀ v ∈ M, v.ownBlock ≠ some b
/-- a value's row is another one's -/
def Apt (a b : Value) : Prop := a.ownBlock = none ∨ a.ownBlock ≠ b.ownBlock
structure TBld (N : Nat) (w : World) (bp : Nat) (s : U.Bst) (ov pv tv : Value) (outl opl : List NV) : Prop where
  base : N ≤ bp
  blk : w.heap[bp]? = some (.cells #[ov, pv, tv, .int .i64 (s.cnt : Nat), .string ⟨s.hid.toArray⟩] 86 (0, 0))
  out : w.ownsRow N 48 4 ov outl.length (ndCells outl)
  op : w.ownsRow N 48 4 pv opl.length (ndCells opl)
  tx : w.ownsRow N 9 1 tv s.tx.length (s.tx.map fun t => .string ⟨t.toArray⟩)
  eout : outl.map (·.1) = s.out
  eop : opl.map (·.1) = s.op.reverse
  dout : ∀ x ∈ outl, Done w (Free w bp (mine ov pv tv opl)) x
  dop : ∀ x ∈ opl, RdAS w (Free w bp (mine ov pv tv opl)) x.2.1 x.1.attrs ∧ ∃ pl : List NV, w.ownsRow N 48 4 x.2.2 pl.length (ndCells pl) ∧ pl.map (·.1) = x.1.parts ∧ ∀ y ∈ pl, Done w (Free w bp (mine ov pv tv opl)) y
  apart : (ov :: pv :: opl.map (·.2.2)).Pairwise Apt
/-- from one world to a later one nothing has turned but the builder's and its rows -/
structure Fr (bp : Nat) (w w' : World) (M M' : List Value) : Prop where
  os : w'.os = w.os
  tape : w'.tape = w.tape
  output : w'.output = w.output
  size : w.heap.size ≤ w'.heap.size
  block : ∀ k, Free w bp M k → w'.heap[k]? = w.heap[k]? ∧ Free w' bp M' k
theorem Fr.refl (bp : Nat) (w : World) (M : List Value) : Fr bp w w M M := ⟨rfl, rfl, rfl, Nat.le_refl _, fun _ h => ⟨rfl, h⟩⟩
theorem Fr.trans {bp : Nat} {a b c : World} {M M' M'' : List Value} (h : Fr bp a b M M') (k : Fr bp b c M' M'') : Fr bp a c M M'' :=
  ⟨k.os.trans h.os, k.tape.trans h.tape, k.output.trans h.output, Nat.le_trans h.size k.size, fun i hi => ⟨(k.block i (h.block i hi).2).1.trans (h.block i hi).1, (k.block i (h.block i hi).2).2⟩⟩
theorem Free.more {w w' : World} {bp : Nat} {M : List Value} {b : Nat} (h : Free w bp M b) (hs : w.heap.size ≤ w'.heap.size) : Free w' bp M b := ⟨Nat.lt_of_lt_of_le h.1 hs, h.2⟩
theorem Fr.later {bp : Nat} {w w' : World} {M : List Value} (hb : Below w.heap.size w w') : Fr bp w w' M M := ⟨hb.os, hb.tape, hb.output, hb.size, fun k hk => ⟨hb.block k hk.1, hk.more hb.size⟩⟩
theorem Fr.cell {bp : Nat} {w w' : World} {M M' : List Value} (h : Fr bp w w' M M') {p : Addr} (hp : Free w bp M p.block) : w'.cell? p = w.cell? p := World.cell?_of_block (h.block _ hp).1
theorem Fr.done {bp : Nat} {w w' : World} {M M' : List Value} (h : Fr bp w w' M M') {x : NV} (hx : Done w (Free w bp M) x) : Done w' (Free w' bp M') x := hx.keep (fun _ hp => h.cell hp) (fun b hb => (h.block b hb).2)
theorem Fr.atts {bp : Nat} {w w' : World} {M M' : List Value} (h : Fr bp w w' M M') {v : Value} {al : List U.Att} (hx : RdAS w (Free w bp M) v al) : RdAS w' (Free w' bp M') v al := hx.keep (fun _ hp => h.cell hp) (fun b hb => (h.block b hb).2)
section
variable {N : Nat} {w w' : World} {bp : Nat} {s : U.Bst} {ov pv tv : Value} {outl opl : List NV}
theorem TBld.lt (h : TBld N w bp s ov pv tv outl opl) : bp < w.heap.size := (Array.getElem?_eq_some_iff.1 h.blk).1
theorem TBld.mine_base (h : TBld N w bp s ov pv tv outl opl) : ∀ v ∈ mine ov pv tv opl, ∀ k, v.ownBlock = some k → N ≤ k ∧ k < w.heap.size := by
  intro v hv k hk
  rcases List.mem_cons.1 hv with rfl | hv
  · exact h.tx.lt k hk
  rcases List.mem_cons.1 hv with rfl | hv
  · exact h.out.lt k hk
  rcases List.mem_cons.1 hv with rfl | hv
  · exact h.op.lt k hk
  obtain ⟨x, hx, rfl⟩ := List.mem_map.1 hv
  obtain ⟨_, pl, hp, _⟩ := h.dop x hx
  exact hp.lt k hk
theorem TBld.free_old (h : TBld N w bp s ov pv tv outl opl) {k : Nat} (hk : k < N) : Free w bp (mine ov pv tv opl) k := by
  have h1 := h.base
  have h2 := h.lt
  refine ⟨by omega, by omega, fun v hv e => ?_⟩
  have := (h.mine_base v hv k e).1
  omega
theorem TBld.below (h : TBld N w bp s ov pv tv outl opl) {M' : List Value} (hf : Fr bp w w' (mine ov pv tv opl) M') : Below N w w' := ⟨hf.os, hf.tape, hf.output, hf.size, fun k hk => (hf.block k (h.free_old hk)).1⟩
/-- nothing old has turned -/
theorem TBld.later (h : TBld N w bp s ov pv tv outl opl) (hb : Below w.heap.size w w') : TBld N w' bp s ov pv tv outl opl := by
  have hf : Fr bp w w' (mine ov pv tv opl) (mine ov pv tv opl) := Fr.later hb
  refine ⟨h.base, (hb.block _ h.lt).trans h.blk, own_keep h.out hb, own_keep h.op hb, own_keep h.tx hb, h.eout, h.eop, fun x hx => hf.done (h.dout x hx), fun x hx => ?_, h.apart⟩
  obtain ⟨a, pl, b, c, d⟩ := h.dop x hx
  exact ⟨hf.atts a, pl, own_keep b hb, c, fun y hy => hf.done (d y hy)⟩
theorem TBld.cells (h : TBld N w bp s ov pv tv outl opl) : w.cell? ⟨bp, 0, none⟩ = some ov ∧ w.cell? ⟨bp, 1, none⟩ = some pv ∧ w.cell? ⟨bp, 2, none⟩ = some tv ∧ w.cell? ⟨bp, 3, none⟩ = some (.int .i64 (s.cnt : Nat)) ∧ w.cell? ⟨bp, 4, none⟩ = some (.string ⟨s.hid.toArray⟩) :=
  ⟨by rw [Lib.cell_of_heap h.blk]; rfl, by rw [Lib.cell_of_heap h.blk]; rfl, by rw [Lib.cell_of_heap h.blk]; rfl, by rw [Lib.cell_of_heap h.blk]; rfl, by rw [Lib.cell_of_heap h.blk]; rfl⟩
theorem TBld.unfrozen (h : TBld N w bp s ov pv tv outl opl) : w.frozen? ⟨bp, 0, none⟩ = false ∧ w.frozen? ⟨bp, 1, none⟩ = false ∧ w.frozen? ⟨bp, 2, none⟩ = false ∧ w.frozen? ⟨bp, 3, none⟩ = false ∧ w.frozen? ⟨bp, 4, none⟩ = false :=
  ⟨Lib.frozen_of_heap h.blk 0, Lib.frozen_of_heap h.blk 1, Lib.frozen_of_heap h.blk 2, Lib.frozen_of_heap h.blk 3, Lib.frozen_of_heap h.blk 4⟩
theorem TBld.op_len (h : TBld N w bp s ov pv tv outl opl) : opl.length = s.op.length := by
  have := congrArg List.length h.eop
  simpa using this
theorem TBld.out_len (h : TBld N w bp s ov pv tv outl opl) : outl.length = s.out.length := by
  have := congrArg List.length h.eout
  simpa using this
/-- a row of another type is no row of nodes -/
theorem Apt.symm {a b : Value} (h : Apt a b) : Apt b a := by
  rcases h with h | h
  · cases hb : b.ownBlock with
    | none => exact .inl hb
    | some k => right; rw [hb, h]; simp
  · cases hb : b.ownBlock with
    | none => exact .inl hb
    | some k => right; intro e; exact h e.symm
theorem TBld.tx_apart (h : TBld N w bp s ov pv tv outl opl) : Apt tv ov ∧ Apt tv pv ∧ ∀ x ∈ opl, Apt tv x.2.2 :=
  ⟨own_apart h.tx h.out (by decide), own_apart h.tx h.op (by decide), fun x hx => by obtain ⟨_, pl, hp, _⟩ := h.dop x hx; exact own_apart h.tx hp (by decide)⟩
theorem own_ne_blk {w : World} {B : Nat} {e t : TypeId} {size n : Nat} {v : Value} {xs : List Value} {b : Nat} {cs : Array Value} (h : w.ownsRow B e size v n xs) (hb : w.heap[b]? = some (.cells cs t (0, 0))) (hne : e ≠ t) : v.ownBlock ≠ some b := by
  rcases h.2 with ⟨rfl, _⟩ | ⟨g, cap, cur, rfl, _, hg, _⟩
  · simp [Value.ownBlock]
  · intro e0
    have : g = b := by simpa [Value.ownBlock] using e0
    subst this
    rw [hg] at hb
    injection hb with hb
    injection hb with _ h2 _
    exact hne h2
theorem TBld.rows_ne (h : TBld N w bp s ov pv tv outl opl) : ∀ v ∈ mine ov pv tv opl, v.ownBlock ≠ some bp := by
  intro v hv
  rcases List.mem_cons.1 hv with rfl | hv
  · exact own_ne_blk h.tx h.blk (by decide)
  rcases List.mem_cons.1 hv with rfl | hv
  · exact own_ne_blk h.out h.blk (by decide)
  rcases List.mem_cons.1 hv with rfl | hv
  · exact own_ne_blk h.op h.blk (by decide)
  obtain ⟨x, hx, rfl⟩ := List.mem_map.1 hv
  obtain ⟨_, pl, hp, _⟩ := h.dop x hx
  exact own_ne_blk hp h.blk (by decide)
/-- a row stands where its block stands -/
theorem own_of_block {w w' : World} {B : Nat} {e : TypeId} {size n : Nat} {v : Value} {xs : List Value} (h : w.ownsRow B e size v n xs) (hk : ∀ k, v.ownBlock = some k → w'.heap[k]? = w.heap[k]?) : w'.ownsRow B e size v n xs := by
  refine ⟨h.1, ?_⟩
  rcases h.2 with hn | ⟨g, cap, cur, rfl, hb, hg, r⟩
  · exact .inl hn
  · exact .inr ⟨g, cap, cur, rfl, hb, (hk g rfl).trans hg, r⟩
/-- a block of the builder's is written: only its own cells turn -/
theorem Fr.self (_h : TBld N w bp s ov pv tv outl opl) {M' : List Value} (hos : w'.os = w.os) (htape : w'.tape = w.tape) (hout : w'.output = w.output) (hsz : w.heap.size ≤ w'.heap.size) (hk : ∀ k, k < w.heap.size → k ≠ bp → w'.heap[k]? = w.heap[k]?) (hM : ∀ v ∈ M', v ∈ mine ov pv tv opl ∨ v.ownBlock = none) : Fr bp w w' (mine ov pv tv opl) M' :=
  ⟨hos, htape, hout, hsz, fun k hf => ⟨hk k hf.1 hf.2.1, Nat.lt_of_lt_of_le hf.1 hsz, hf.2.1, fun v hv => by
    rcases hM v hv with h1 | h1
    · exact hf.2.2 v h1
    · rw [h1]; simp⟩⟩
end

end Go.Proofs.YtankcnikebcpkaaGreatDoor

/- Slices that read as tokens and may be cut: no length is beyond its capacity. -/
import Derived.Test.YtmfkefcdddoooaaRdK
namespace Go.Proofs.Ytmfkefcdddoooaa
open Go.RowKit

/-- no slice is longer than it may be -/
def Cap (v : Value) : Prop := ∀ ao n cap, v = .slice ao n cap → n ≤ cap
theorem Cap.le {ao : Option Addr} {n cap : Nat} (h : Cap (.slice ao n cap)) : n ≤ cap := h ao n cap rfl
theorem Cap.mk {ao : Option Addr} {n cap : Nat} (h : n ≤ cap) : Cap (.slice ao n cap) := fun a b c e => by injection e with _ e2 e3; omega
theorem Cap.of_own {w : World} {B : Nat} {e : TypeId} {size n : Nat} {v : Value} {xs : List Value} (h : w.ownsRow B e size v n xs) : Cap v := by
  intro ao n2 cap hv
  rcases h.2 with ⟨h1, h2⟩ | ⟨g, cap2, cur, h1, hb, hg, r⟩
  · rw [h1] at hv
    injection hv with _ e2 e3
    omega
  · rw [h1] at hv
    injection hv with _ e2 e3
    subst e2
    subst e3
    have h3 := h.1
    first
      | omega
      | exact r.1
def RdKC (w : World) (B : Nat) (v : Value) (l : List U.Tk) : Prop :=
  RdK w B v l ∧ Cap v ∧ ∀ ao n cap, v = .slice ao n cap → ∀ (i : Nat) (t : U.Tk), l[i]? = some t → ∀ g o, ao = some ⟨g, o, none⟩ → ∀ av, w.cell? ⟨g, o + i * 5 + 2, none⟩ = some av → Cap av
theorem RdKC.keep {w w' : World} {B : Nat} {v : Value} {l : List U.Tk} (h : RdKC w B v l) (hk : ∀ p : Addr, p.block < B → w'.cell? p = w.cell? p) : RdKC w' B v l := by
  obtain ⟨h1, h2, h3⟩ := h
  refine ⟨h1.keep hk, h2, fun ao n cap e i t ht g o e2 av hc => ?_⟩
  obtain ⟨ao', cap', e', hcells⟩ := h1
  rw [e] at e'
  injection e' with e1 _ _
  subst e1
  obtain ⟨g', o', av', e3, hb, _, _, c2, _⟩ := hcells i t ht
  rw [e2] at e3
  injection e3 with e3
  injection e3 with e4 e5
  subst e4
  subst e5
  rw [hk _ hb] at hc
  exact h3 ao n cap e i t ht g o e2 av hc
theorem RdKC.below {w w' : World} {B : Nat} {v : Value} {ts : List U.Tk} (h : RdKC w B v ts) (hb : Below B w w') : RdKC w' B v ts := h.keep fun _ hp => hb.cell hp
theorem RdKC.more {w : World} {B B' : Nat} {v : Value} {ts : List U.Tk} (h : RdKC w B v ts) (hB : B ≤ B') : RdKC w B' v ts := ⟨h.1.more hB, h.2.1, h.2.2⟩
/-- a token's cells -/
theorem RdKC.at {w : World} {B : Nat} {ao : Option Addr} {n cap : Nat} {l : List U.Tk} (h : RdKC w B (.slice ao n cap) l) {i : Nat} {t : U.Tk} (ht : l[i]? = some t) :
    ∃ g o aoA capA, ao = some ⟨g, o, none⟩ ∧ g < B ∧ w.cell? ⟨g, o + i * 5, none⟩ = some (.int .i64 t.kind) ∧ w.cell? ⟨g, o + i * 5 + 1, none⟩ = some (.string ⟨t.name.toArray⟩) ∧
      w.cell? ⟨g, o + i * 5 + 2, none⟩ = some (.slice aoA t.attrs.length capA) ∧ w.cell? ⟨g, o + i * 5 + 3, none⟩ = some (.bool t.self) ∧ w.cell? ⟨g, o + i * 5 + 4, none⟩ = some (.string ⟨t.text.toArray⟩) ∧
      RdA w B (.slice aoA t.attrs.length capA) t.attrs ∧ t.attrs.length ≤ capA := by
  obtain ⟨h1, h2, h3⟩ := h
  obtain ⟨ao2, cap2, e, hc⟩ := h1
  injection e with e1 _ _
  subst e1
  obtain ⟨g, o, av, e2, hb, c0, c1, c2, c3, c4, hA⟩ := hc i t ht
  have hcap := h3 ao n cap rfl i t ht g o e2 av c2
  obtain ⟨aoA, capA, rfl, hcA⟩ := id hA
  exact ⟨g, o, aoA, capA, e2, hb, c0, c1, c2, c3, c4, hA, hcap.le⟩
theorem RdKC.len {w : World} {B : Nat} {v : Value} {l : List U.Tk} (h : RdKC w B v l) : ∃ ao cap, v = .slice ao l.length cap ∧ l.length ≤ cap := by
  obtain ⟨⟨ao, cap, rfl, _⟩, h2, _⟩ := h
  exact ⟨ao, cap, rfl, h2.le⟩

end Go.Proofs.Ytmfkefcdddoooaa

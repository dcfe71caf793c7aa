/- Slices that read as tokens whose kind is any number. -/
import Derived.Test.YtmfkefcdddoooaaFaultMath
import Derived.Test.YtmfkefcdddoooaaRdT
namespace Go.Proofs.Ytmfkefcdddoooaa
open Go.RowKit

/-- a slice that reads as these tokens, below block B -/
def RdK (w : World) (B : Nat) (v : Value) (l : List U.Tk) : Prop := ∃ ao cap, v = .slice ao l.length cap ∧
  ∀ (i : Nat) (t : U.Tk), l[i]? = some t → ∃ g o av, ao = some ⟨g, o, none⟩ ∧ g < B ∧ w.cell? ⟨g, o + i * 5, none⟩ = some (.int .i64 t.kind) ∧ w.cell? ⟨g, o + i * 5 + 1, none⟩ = some (.string ⟨t.name.toArray⟩) ∧
    w.cell? ⟨g, o + i * 5 + 2, none⟩ = some av ∧ w.cell? ⟨g, o + i * 5 + 3, none⟩ = some (.bool t.self) ∧ w.cell? ⟨g, o + i * 5 + 4, none⟩ = some (.string ⟨t.text.toArray⟩) ∧ RdA w B av t.attrs
theorem RdK.keep {w w' : World} {B : Nat} {v : Value} {ts : List U.Tk} (h : RdK w B v ts) (hk : ∀ p : Addr, p.block < B → w'.cell? p = w.cell? p) : RdK w' B v ts := by
  obtain ⟨ao, cap, rfl, hc⟩ := h
  refine ⟨ao, cap, rfl, fun i t ht => ?_⟩
  obtain ⟨g, o, av, e, hb, c0, c1, c2, c3, c4, hA⟩ := hc i t ht
  exact ⟨g, o, av, e, hb, (hk _ hb).trans c0, (hk _ hb).trans c1, (hk _ hb).trans c2, (hk _ hb).trans c3, (hk _ hb).trans c4, hA.keep hk⟩
theorem RdK.below {w w' : World} {B : Nat} {v : Value} {ts : List U.Tk} (h : RdK w B v ts) (hb : Below B w w') : RdK w' B v ts := h.keep fun _ hp => hb.cell hp
theorem RdA.below {w w' : World} {B : Nat} {v : Value} {ts : List U.Att} (h : RdA w B v ts) (hb : Below B w w') : RdA w' B v ts := h.keep fun _ hp => hb.cell hp
theorem RdK.more {w : World} {B B' : Nat} {v : Value} {ts : List U.Tk} (h : RdK w B v ts) (hB : B ≤ B') : RdK w B' v ts := by
  obtain ⟨ao, cap, rfl, hc⟩ := h
  refine ⟨ao, cap, rfl, fun i t ht => ?_⟩
  obtain ⟨g, o, av, e, hb, c0, c1, c2, c3, c4, hA⟩ := hc i t ht
  exact ⟨g, o, av, e, by omega, c0, c1, c2, c3, c4, hA.more hB⟩
theorem RdT.rdK {w : World} {B : Nat} {v : Value} {ts : List U.Tok} (h : RdT w B v ts) : RdK w B v (ts.map U.Tok.tk) := by
  obtain ⟨ao, cap, rfl, hc⟩ := h
  refine ⟨ao, cap, by rw [List.length_map], fun i t ht => ?_⟩
  rw [List.getElem?_map] at ht
  cases hx : ts[i]? with
  | none => rw [hx] at ht; cases ht
  | some x =>
    rw [hx] at ht
    obtain rfl : x.tk = t := by simpa using ht
    obtain ⟨g, o, av, e, hb, c0, c1, c2, c3, c4, hA, _⟩ := hc i x hx
    exact ⟨g, o, av, e, hb, c0, c1, c2, c3, c4, hA⟩
/-- a beginning, an end of it -/
theorem RdK.take {w : World} {B : Nat} {ao : Option Addr} {n cap : Nat} {l : List U.Tk} (h : RdK w B (.slice ao n cap) l) (k cap2 : Nat) (hk : k ≤ l.length) : RdK w B (.slice ao k cap2) (l.take k) := by
  obtain ⟨ao2, cap', e, hc⟩ := h
  injection e with e1 e2 e3
  subst e1
  have hl : (l.take k).length = k := by rw [List.length_take]; omega
  refine ⟨ao, cap2, by rw [hl], fun i t ht => ?_⟩
  have hi : i < k := by have := (List.getElem?_eq_some_iff.1 ht).1; omega
  rw [List.getElem?_take_of_lt hi] at ht
  exact hc i t ht
theorem RdK.drop {w : World} {B g o n cap : Nat} {l : List U.Tk} (h : RdK w B (.slice (some ⟨g, o, none⟩) n cap) l) (k cap2 : Nat) : RdK w B (.slice (some ⟨g, o + k * 5, none⟩) (l.length - k) cap2) (l.drop k) := by
  obtain ⟨ao2, cap', e, hc⟩ := h
  injection e with e1 e2 e3
  subst e1
  have hl : (l.drop k).length = l.length - k := List.length_drop ..
  refine ⟨some ⟨g, o + k * 5, none⟩, cap2, by rw [hl], fun i t ht => ?_⟩
  rw [List.getElem?_drop] at ht
  obtain ⟨g2, o2, av, e2, hb, c0, c1, c2, c3, c4, hA⟩ := hc (k + i) t ht
  injection e2 with e2
  injection e2 with e3 e4
  subst e3
  subst e4
  have e5 : o + (k + i) * 5 = o + k * 5 + i * 5 := by omega
  rw [e5] at c0 c1 c2 c3 c4
  exact ⟨g, o + k * 5, av, rfl, hb, c0, c1, c2, c3, c4, hA⟩

/-- how long a text may be -/
abbrev most : Nat := 9223372036854775807
/-- there are no more attributes -/
def Fits (M : Nat) (t : U.Tk) : Prop := t.attrs.length ≤ M
theorem Fits.more {M M' : Nat} {t : U.Tk} (h : Fits M t) (hM : M ≤ M') : Fits M' t := Nat.le_trans h hM
/-- nothing in the token is longer -/
def Small (M : Nat) (t : U.Tk) : Prop := t.name.length ≤ M ∧ t.text.length ≤ M ∧ t.attrs.length ≤ M ∧ ∀ a ∈ t.attrs, a.1.length ≤ M ∧ a.2.length ≤ M
theorem Small.more {M M' : Nat} {t : U.Tk} (h : Small M t) (hM : M ≤ M') : Small M' t := ⟨Nat.le_trans h.1 hM, Nat.le_trans h.2.1 hM, Nat.le_trans h.2.2.1 hM, fun a ha => ⟨Nat.le_trans (h.2.2.2 a ha).1 hM, Nat.le_trans (h.2.2.2 a ha).2 hM⟩⟩
theorem Small.fits {M : Nat} {t : U.Tk} (h : Small M t) : Fits M t := h.2.2.1

end Go.Proofs.Ytmfkefcdddoooaa

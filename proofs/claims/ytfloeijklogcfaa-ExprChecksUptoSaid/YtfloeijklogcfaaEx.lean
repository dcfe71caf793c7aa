/- Expressions in memory. -/
import Derived.Test.YtfloeijklogcfaaExMath
import Derived.Test.YtfloeijklogcfaaLaw
namespace Go.Proofs.Ytfloeijklogcfaa
open Go.RowKit

theorem own_cap {w : World} {B : Nat} {e : TypeId} {size n : Nat} {v : Value} {xs : List Value} (h : w.ownsRow B e size v n xs) : ∃ ao cap, v = .slice ao n cap ∧ n ≤ cap ∧ cap ≤ maxLen ∧ (n = 0 ∨ ∃ g, ao = some ⟨g, 0, none⟩ ∧ v.ownBlock = some g) := by
  rcases h.2 with ⟨rfl, rfl⟩ | ⟨g, cap, cur, rfl, _, _, h1, h2, _⟩
  · exact ⟨none, 0, rfl, Nat.le_refl _, Nat.zero_le _, .inl rfl⟩
  · exact ⟨_, cap, rfl, h1, h2, .inr ⟨g, rfl, rfl⟩⟩

mutual
/-- an expression in three cells -/
def RdEx (w : World) (S : Nat → Prop) : U.Ex → Nat → Nat → Prop
  | .mk k t p, g, o => ∃ pv, w.cell? ⟨g, o, none⟩ = some (.int .i64 k) ∧ w.cell? ⟨g, o + 1, none⟩ = some (.int .i64 t) ∧ w.cell? ⟨g, o + 2, none⟩ = some pv ∧
      ∃ ao cap, pv = .slice ao p.length cap ∧ p.length ≤ cap ∧ cap ≤ maxLen ∧ (p = [] ∨ ∃ g2 o2, ao = some ⟨g2, o2, none⟩ ∧ S g2 ∧ RdExR w S p g2 o2)
def RdExR (w : World) (S : Nat → Prop) : List U.Ex → Nat → Nat → Prop
  | [], _, _ => True
  | x :: r, g, o => RdEx w S x g o ∧ RdExR w S r g (o + 3)
end
/-- a slice that reads as these expressions, in blocks of S -/
def RdExs (w : World) (S : Nat → Prop) (v : Value) (l : List U.Ex) : Prop := ∃ ao cap, v = .slice ao l.length cap ∧ l.length ≤ cap ∧ cap ≤ maxLen ∧ (l = [] ∨ ∃ g o, ao = some ⟨g, o, none⟩ ∧ S g ∧ RdExR w S l g o)
theorem rdEx_iff {w : World} {S : Nat → Prop} (x : U.Ex) (g o : Nat) : RdEx w S x g o ↔ ∃ pv, w.cell? ⟨g, o, none⟩ = some (.int .i64 x.kind) ∧ w.cell? ⟨g, o + 1, none⟩ = some (.int .i64 x.type) ∧ w.cell? ⟨g, o + 2, none⟩ = some pv ∧ RdExs w S pv x.parts := by
  cases x
  rw [RdEx]
  exact Iff.rfl
theorem rdExR_get {w : World} {S : Nat → Prop} : ∀ {l : List U.Ex} {g o i : Nat} {x : U.Ex}, RdExR w S l g o → l[i]? = some x → RdEx w S x g (o + i * 3)
  | [], _, _, _, _, _, h => by cases h
  | a :: r, g, o, 0, x, h, hn => by
    rw [RdExR] at h
    simp at hn
    subst hn
    simpa using h.1
  | a :: r, g, o, i + 1, x, h, hn => by
    rw [RdExR] at h
    have := rdExR_get h.2 (by simpa using hn)
    rwa [show o + (i + 1) * 3 = o + 3 + i * 3 by omega]
theorem rdExR_of {w : World} {S : Nat → Prop} : ∀ {l : List U.Ex} {g o : Nat}, (∀ i x, l[i]? = some x → RdEx w S x g (o + i * 3)) → RdExR w S l g o
  | [], _, _, _ => by rw [RdExR]; trivial
  | a :: r, g, o, h => by
    rw [RdExR]
    refine ⟨by simpa using h 0 a rfl, rdExR_of fun i x hn => ?_⟩
    have := h (i + 1) x (by simpa using hn)
    rwa [show o + (i + 1) * 3 = o + 3 + i * 3 by omega] at this
theorem RdExs.get {w : World} {S : Nat → Prop} {v : Value} {l : List U.Ex} (h : RdExs w S v l) {i : Nat} {x : U.Ex} (hn : l[i]? = some x) : ∃ g o cap, v = .slice (some ⟨g, o, none⟩) l.length cap ∧ S g ∧ RdEx w S x g (o + i * 3) := by
  obtain ⟨ao, cap, rfl, _, _, rfl | ⟨g, o, rfl, hS, hr⟩⟩ := h
  · cases hn
  · exact ⟨g, o, cap, rfl, hS, rdExR_get hr hn⟩
theorem RdExs.form {w : World} {S : Nat → Prop} {v : Value} {l : List U.Ex} (h : RdExs w S v l) : ∃ ao cap, v = .slice ao l.length cap ∧ l.length ≤ cap ∧ cap ≤ maxLen := by
  obtain ⟨ao, cap, e, h1, h2, _⟩ := h
  exact ⟨ao, cap, e, h1, h2⟩
theorem RdExs.short {w : World} {S : Nat → Prop} {v : Value} {l : List U.Ex} (h : RdExs w S v l) : l.length ≤ 9223372036854775807 := by
  obtain ⟨ao, cap, e, h1, h2, _⟩ := h
  unfold maxLen at h2
  omega
theorem RdExs.nil (w : World) (S : Nat → Prop) : RdExs w S (.slice none 0 0) [] := ⟨none, 0, rfl, Nat.le_refl _, Nat.zero_le _, .inl rfl⟩
mutual
theorem rdEx_keep {w w' : World} {S S' : Nat → Prop} (hk : ∀ p : Addr, S p.block → w'.cell? p = w.cell? p) (hS : ∀ b, S b → S' b) : ∀ (x : U.Ex) (g o : Nat), S g → RdEx w S x g o → RdEx w' S' x g o
  | .mk k t p, g, o, hg, h => by
    rw [RdEx] at h ⊢
    obtain ⟨pv, c0, c1, c2, ao, cap, e, h1, h2, h3⟩ := h
    refine ⟨pv, (hk _ hg).trans c0, (hk _ hg).trans c1, (hk _ hg).trans c2, ao, cap, e, h1, h2, ?_⟩
    rcases h3 with h3 | ⟨g2, o2, e2, hg2, hr⟩
    · exact .inl h3
    · exact .inr ⟨g2, o2, e2, hS _ hg2, rdExR_keep hk hS p g2 o2 hg2 hr⟩
theorem rdExR_keep {w w' : World} {S S' : Nat → Prop} (hk : ∀ p : Addr, S p.block → w'.cell? p = w.cell? p) (hS : ∀ b, S b → S' b) : ∀ (l : List U.Ex) (g o : Nat), S g → RdExR w S l g o → RdExR w' S' l g o
  | [], _, _, _, _ => by rw [RdExR]; trivial
  | x :: r, g, o, hg, h => by
    rw [RdExR] at h ⊢
    exact ⟨rdEx_keep hk hS x g o hg h.1, rdExR_keep hk hS r g (o + 3) hg h.2⟩
end
theorem RdExs.keep {w w' : World} {S S' : Nat → Prop} (hk : ∀ p : Addr, S p.block → w'.cell? p = w.cell? p) (hS : ∀ b, S b → S' b) {v : Value} {l : List U.Ex} (h : RdExs w S v l) : RdExs w' S' v l := by
  obtain ⟨ao, cap, rfl, h1, h2, h3⟩ := h
  refine ⟨ao, cap, rfl, h1, h2, ?_⟩
  rcases h3 with h3 | ⟨g, o, e, hS', hr⟩
  · exact .inl h3
  · exact .inr ⟨g, o, e, hS _ hS', rdExR_keep hk hS l g o hS' hr⟩
theorem RdExs.below {w w' : World} {B B' : Nat} {v : Value} {l : List U.Ex} (h : RdExs w (· < B) v l) (hb : Below B w w') (hB : B ≤ B') : RdExs w' (· < B') v l := h.keep (fun _ hp => hb.cell hp) (fun _ hp => Nat.lt_of_lt_of_le hp hB)

/-- a value that is an expression -/
def exVal (x : U.Ex) (pv : Value) : Value := .agg #[.int .i64 x.kind, .int .i64 x.type, pv]
def RdE (w : World) (S : Nat → Prop) (v : Value) (x : U.Ex) : Prop := ∃ pv, v = exVal x pv ∧ RdExs w S pv x.parts
theorem RdE.keep {w w' : World} {S S' : Nat → Prop} (hk : ∀ p : Addr, S p.block → w'.cell? p = w.cell? p) (hS : ∀ b, S b → S' b) {v : Value} {x : U.Ex} (h : RdE w S v x) : RdE w' S' v x := by
  obtain ⟨pv, e, h⟩ := h
  exact ⟨pv, e, h.keep hk hS⟩
theorem RdE.below {w w' : World} {B B' : Nat} {v : Value} {x : U.Ex} (h : RdE w (· < B) v x) (hb : Below B w w') (hB : B ≤ B') : RdE w' (· < B') v x := h.keep (fun _ hp => hb.cell hp) (fun _ hp => Nat.lt_of_lt_of_le hp hB)
/-- the cells of an expression that lies in a row -/
theorem RdExs.at {w : World} {S : Nat → Prop} {v : Value} {l : List U.Ex} (h : RdExs w S v l) {i : Nat} {x : U.Ex} (hn : l[i]? = some x) :
    ∃ g o cap pa pcap, v = .slice (some ⟨g, o, none⟩) l.length cap ∧ S g ∧ w.cell? ⟨g, o + i * 3, none⟩ = some (.int .i64 x.kind) ∧ w.cell? ⟨g, o + i * 3 + 1, none⟩ = some (.int .i64 x.type) ∧ w.cell? ⟨g, o + i * 3 + 2, none⟩ = some (.slice pa x.parts.length pcap) ∧ RdExs w S (.slice pa x.parts.length pcap) x.parts := by
  obtain ⟨g, o, cap, e, hS, hr⟩ := h.get hn
  obtain ⟨pv, c0, c1, c2, hP⟩ := (rdEx_iff x g _).1 hr
  obtain ⟨pa, pcap, rfl, _, _⟩ := hP.form
  exact ⟨g, o, cap, pa, pcap, e, hS, c0, c1, c2, hP⟩
theorem RdExs.upTo {w : World} {S : Nat → Prop} {ao : Option Addr} {cap : Nat} {l : List U.Ex} (h : RdExs w S (.slice ao l.length cap) l) (k : Nat) (hk : k ≤ l.length) : RdExs w S (.slice ao k cap) (l.take k) := by
  obtain ⟨ao2, cap2, e, h1, h2, h3⟩ := h
  injection e with e1 _ e3
  subst e1
  subst e3
  have hl : (l.take k).length = k := by rw [List.length_take]; omega
  refine ⟨ao, cap, by rw [hl], by omega, h2, ?_⟩
  rcases h3 with h3 | ⟨g, o, e, hg, hr⟩
  · left; rw [h3, List.take_nil]
  · refine .inr ⟨g, o, e, hg, rdExR_of fun i y hy => ?_⟩
    have hi : i < k := by have := (List.getElem?_eq_some_iff.1 hy).1; omega
    rw [List.getElem?_take_of_lt hi] at hy
    exact rdExR_get hr hy

/-- an expression with the value of its parts -/
abbrev EV := U.Ex × Value
def exCells (l : List EV) : List Value := l.flatMap fun x => [.int .i64 x.1.kind, .int .i64 x.1.type, x.2]
theorem exCells_length (l : List EV) : (exCells l).length = l.length * 3 := by
  induction l with
  | nil => rfl
  | cons a l ih =>
    have : exCells (a :: l) = .int .i64 a.1.kind :: .int .i64 a.1.type :: a.2 :: exCells l := rfl
    rw [this]
    simp only [List.length_cons]
    omega
theorem exCells_append (a b : List EV) : exCells (a ++ b) = exCells a ++ exCells b := by simp [exCells]
theorem exCells_get : ∀ (l : List EV) (i : Nat) (x : EV), l[i]? = some x → (exCells l)[i * 3]? = some (.int .i64 x.1.kind) ∧ (exCells l)[i * 3 + 1]? = some (.int .i64 x.1.type) ∧ (exCells l)[i * 3 + 2]? = some x.2
  | [], _, _, h => by cases h
  | a :: l, 0, x, h => by simp at h; subst h; exact ⟨rfl, rfl, rfl⟩
  | a :: l, i + 1, x, h => by
    have := exCells_get l i x (by simpa using h)
    have e : exCells (a :: l) = .int .i64 a.1.kind :: .int .i64 a.1.type :: a.2 :: exCells l := rfl
    rw [e, show (i + 1) * 3 = i * 3 + 1 + 1 + 1 by omega]
    simpa using this
/-- the cells of an expression in a row of its own -/
theorem row_ex {w : World} {B n : Nat} {v : Value} {l : List EV} (h : w.ownsRow B 24 3 v n (exCells l)) {i : Nat} {x : EV} (hx : l[i]? = some x) :
    ∃ g cap, v = .slice (some ⟨g, 0, none⟩) n cap ∧ w.cell? ⟨g, i * 3, none⟩ = some (.int .i64 x.1.kind) ∧ w.cell? ⟨g, i * 3 + 1, none⟩ = some (.int .i64 x.1.type) ∧ w.cell? ⟨g, i * 3 + 2, none⟩ = some x.2 := by
  obtain ⟨h0, h1, h2⟩ := exCells_get l i x hx
  rcases h.2 with ⟨rfl, hn⟩ | ⟨g, cap, cur, rfl, _⟩
  · have h9 := h.1
    rw [hn] at h9
    have : exCells l = [] := List.length_eq_zero_iff.1 (by omega)
    rw [this] at h0
    simp at h0
  · have ea : ∀ j, (⟨g, 0, none⟩ : Addr).add j = ⟨g, j, none⟩ := fun j => by cases j <;> simp [Addr.add]
    have c0 := h.cells (g := g) rfl _ _ h0
    have c1 := h.cells (g := g) rfl _ _ h1
    have c2 := h.cells (g := g) rfl _ _ h2
    rw [ea] at c0 c1 c2
    exact ⟨g, cap, rfl, c0, c1, c2⟩
theorem RdExs.of_own {w : World} {B : Nat} {S : Nat → Prop} {v : Value} {l : List EV} (h : w.ownsRow B 24 3 v l.length (exCells l)) (hd : ∀ x ∈ l, RdExs w S x.2 x.1.parts) (hS : ∀ g, v.ownBlock = some g → S g) : RdExs w S v (l.map (·.1)) := by
  obtain ⟨ao, cap, rfl, h1, h2, h3⟩ := own_cap h
  have hl : (l.map (·.1)).length = l.length := List.length_map ..
  refine ⟨ao, cap, by rw [hl], by rw [hl]; exact h1, h2, ?_⟩
  rcases h3 with h3 | ⟨g, rfl, hg⟩
  · left; rw [List.eq_nil_of_length_eq_zero h3]; rfl
  · refine .inr ⟨g, 0, rfl, hS g hg, rdExR_of fun i n hn => ?_⟩
    obtain ⟨x, hx, rfl⟩ : ∃ x, l[i]? = some x ∧ x.1 = n := by
      rw [List.getElem?_map] at hn
      cases hx : l[i]? with
      | none => rw [hx] at hn; cases hn
      | some x => rw [hx] at hn; exact ⟨x, rfl, by simpa using hn⟩
    obtain ⟨g', c', e, c0, c1, c2⟩ := row_ex h hx
    injection e with e1 _ _
    injection e1 with e1
    injection e1 with e1 _ _
    subst e1
    rw [rdEx_iff, Nat.zero_add]
    exact ⟨x.2, c0, c1, c2, hd x (List.mem_of_getElem? hx)⟩

end Go.Proofs.Ytfloeijklogcfaa

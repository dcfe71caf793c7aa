/- append([]Attr(nil), attrs...): the attributes copied. -/
import Derived.Test.YtankcnikebcpkaaGreatDoorP11
namespace Go.Proofs.YtankcnikebcpkaaGreatDoor
open Go.RowKit

/-- an append by its own run, as one step of a region that draws its order -/
theorem step_append_by {P : Program} {ops : Array Oper} {o : Oper} {a : Act} {w : World} {K : Act → World → Prop} {Q : Exit → Act → World → Prop} {E : Prop} (hgd : o.guard = none) (s x : Operand) (t : TypeId)
    (ho : o.op = .call { callee := .builtin .append, args := #[s, x], argTypes := #[t, t] }) (v u : Value) (hs : a.eval s = v) (hx : a.eval x = u) {v' : Value} {w' : World}
    (hrun : (Builtin.append_ #[t, t] o.type #[v, u]).run P w = .ok v' w') (h : K (a.put o.dst v') w') : if Region.wanted o (yielded ops a.tmps) = true then Oper.wp P o a w K Q else E := by
  rw [if_pos (by simp [Region.wanted, hgd])]
  unfold Oper.wp execOp
  simp only [ho, resolve, invoke, builtin, Sem.run_bind, Sem.run_pure, Result.andThen_ok, List.map_toArray, List.map_cons, List.map_nil, hs, hx, hrun]
  exact h
theorem att_cells_at {W : World} {N : Nat} {g o n cap : Nat} {al : List U.Att} (h : RdA W N (.slice (some ⟨g, o, none⟩) n cap) al) : ∀ (j : Nat) u, (attCells al)[j]? = some u → W.cell? ((⟨g, o, none⟩ : Addr).add j) = some u := by
  obtain ⟨ao, c, e, hc⟩ := h
  injection e with e1 e2 e3
  subst e1
  have hg : ∀ (l : List U.Att) (k : Nat) (u : Value), (attCells l)[k]? = some u → ∃ i x, l[i]? = some x ∧ ((k = i * 2 ∧ u = .string ⟨x.1.toArray⟩) ∨ (k = i * 2 + 1 ∧ u = .string ⟨x.2.toArray⟩)) := by
    intro l
    induction l with
    | nil => intro k u hu; simp [attCells] at hu
    | cons a l ih =>
      intro k u hu
      have e : attCells (a :: l) = str a.1 :: str a.2 :: attCells l := rfl
      rw [e] at hu
      match k, hu with
      | 0, hu => simp at hu; exact ⟨0, a, rfl, .inl ⟨rfl, hu.symm⟩⟩
      | 1, hu => simp at hu; exact ⟨0, a, rfl, .inr ⟨rfl, hu.symm⟩⟩
      | k + 2, hu =>
        obtain ⟨i, x, hx, h⟩ := ih k u (by simpa using hu)
        refine ⟨i + 1, x, by simpa using hx, ?_⟩
        rcases h with ⟨h1, h2⟩ | ⟨h1, h2⟩
        · exact .inl ⟨by omega, h2⟩
        · exact .inr ⟨by omega, h2⟩
  intro j u hu
  obtain ⟨i, x, hx, h⟩ := hg al j u hu
  obtain ⟨g2, o2, e4, _, c1, c2⟩ := hc i x hx
  injection e4 with e4
  injection e4 with e5 e6 _
  subst e5
  subst e6
  have ea : (⟨g, o, none⟩ : Addr).add j = ⟨g, o + j, none⟩ := by cases j <;> simp [Addr.add]
  rw [ea]
  rcases h with ⟨rfl, rfl⟩ | ⟨rfl, rfl⟩
  · exact c1
  · rw [← Nat.add_assoc]; exact c2
theorem app_atts (W : World) (N : Nat) (ao : Option Addr) (n cap : Nat) (al : List U.Att) (hA : RdA W N (.slice ao n cap) al) (hl : al.length ≤ 1048576) :
    ∃ (v' : Value) (w' : World), (Builtin.append_ #[31, 31] 31 #[.slice none 0 0, .slice ao n cap]).run Tryz.prog W = .ok v' w' ∧ w'.ownsRow W.heap.size 52 2 v' al.length (attCells al) ∧ W.grownBy w' none := by
  obtain ⟨iA, hiA, hA0, hA1, hA2⟩ := info_parts infoAttr
  have hn : n = al.length := by obtain ⟨_, _, e, _⟩ := hA; injection e
  subst hn
  cases hal : al with
  | nil =>
    refine ⟨.slice none 0 0, W, ?_, World.ownsRow_nil _ _ _ _, World.grownBy.refl _ _⟩
    cases ao with
    | none => simp [Builtin.append_, run_underlying Tryz.underlying31, sizeOf, typeInfo, hiA, Builtin.lenOf, Builtin.firstCells]
    | some a => simp [Builtin.append_, run_underlying Tryz.underlying31, sizeOf, typeInfo, hiA, Builtin.lenOf, Builtin.firstCells, loadCells, loadCellsFrom]
  | cons a r =>
    rw [← hal]
    obtain ⟨g, o, e, _⟩ : ∃ g o, ao = some ⟨g, o, none⟩ ∧ True := by
      obtain ⟨ao2, c, e, hc⟩ := hA
      injection e with e1 _ _
      subst e1
      obtain ⟨g, o, e, _⟩ := hc 0 a (by rw [hal]; rfl)
      exact ⟨g, o, e, trivial⟩
    subst e
    obtain ⟨v', w', r1, r2, r3, _⟩ := run_append_own (P := Tryz.prog) W W.heap.size 31 31 52 iA _ 2 32 Tryz.underlying31 hiA hA0 hA1 hA2 rfl (by decide) (.slice none 0 0) 0 [] (World.ownsRow_nil _ _ _ _) ⟨g, o, none⟩ al.length cap (attCells al) (attCells_length al) (att_cells_at hA)
      (by
        intro u hu
        obtain ⟨x, _, hx⟩ := List.mem_flatMap.1 hu
        rcases List.mem_cons.1 hx with rfl | hx
        · rfl
        rcases List.mem_cons.1 hx with rfl | hx
        · rfl
        cases hx) (by unfold maxLen; omega) (by omega) (Nat.le_refl _)
    rw [Nat.zero_add, List.nil_append] at r2
    exact ⟨v', w', r1, r2, r3⟩

end Go.Proofs.YtankcnikebcpkaaGreatDoor

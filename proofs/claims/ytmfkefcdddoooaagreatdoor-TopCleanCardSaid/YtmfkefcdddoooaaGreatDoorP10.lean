/- Several texts in one: TokLaid, RdT, RdK, RdKC. -/
import Derived.Test.YtmfkefcdddoooaaGreatDoorRows
import Derived.LaidMore
import Derived.LaidHandle
import Derived.MakeChecks
import Derived.Stop.LaidErr
import Derived.Deep.DeepHandedRow
import Derived.Deep.DeepWitnessRowRef
import Derived.Lay
import Derived.Shelf.Vars
import Derived.Test.YtmfkefcdddoooaaGreatDoorP09
import Derived.Test.YtmfkefcdddoooaaGreatDoorP07
import Derived.Test.YtmfkefcdddoooaaGreatDoorP02
namespace Go.Proofs.YtmfkefcdddoooaaGreatDoor
open Go.ChangeShapes Go.WideShapes Go.ChangeAt Go.RowKit

theorem gSyn : Tryz.prog.globalNamed "strconv.ErrSyntax" = some 3 := by kernel_rfl
theorem gSynType : (Tryz.prog.globals[3]?).map (·.type) = some 82 := by kernel_rfl
theorem starName : "*" ++ "errors.errorString" = "*errors.errorString" := by decide
theorem rowName (u : TypeId) (h : Tryz.prog.typeName? 3 u = some "*errors.errorString") : u = 177 :=
  typeName_ptr_named (nm := "errors.errorString") (by rw [starName]; kernel_rfl) (by kernel_rfl) (by decide) u (by rw [starName]; exact h)
theorem cellsErr : Tryz.prog.cellsOf 179 = 1 := by kernel_rfl
theorem cellsStr : Tryz.prog.cellsOf 9 = 1 := by kernel_rfl

abbrev laidList : List (String × DataW Unit) := Rows.emitBackRow.laid
/-- what the list gives the walks -/
theorem errS_of_laid {W : World} (h : laidMetH Tryz.prog laidList W) : ErrS W := by
  rw [MakeChecks.laidMetH_plain _ _ _ (by kernel_rfl)] at h
  obtain ⟨a0, s0, hv0, _⟩ := laid_sentinel (laidMet.tail (laidMet.tail (laidMet.tail (laidMet.tail (laidMet.tail h))))) gSyn gSynType Tryz.underlying82 rowName Tryz.underlying177 Tryz.underlying179 rfl rfl Tryz.underlying9 cellsErr cellsStr
  have := World.var?_cell gSyn hv0 0
  exact ⟨_, _, by simpa using this⟩
theorem max_of_shape {W : World} (h : W.ShapedOpen Tryz.prog) : ∃ m, W.cell? ⟨0, 0, none⟩ = some (.int .i64 m) :=
  cell_of_shapedOpen_int (t := 3) (zero := #[.int .i64 0]) h (by decide +kernel) (by kernel_rfl) rfl (by kernel_rfl) (by kernel_rfl) Tryz.underlying3
theorem glob_of {W : World} (h : laidMetH Tryz.prog laidList W) (hs : W.ShapedOpen Tryz.prog) : Glob W := ⟨max_of_shape hs, errS_of_laid h⟩

/-- a heap that meets the list -/
theorem door_met (os : Os) (args : Array Value) : laidMet Tryz.prog laidList ((World.laidAll Tryz.prog os laidList).forCall (fun _ _ => 0) ⟨#[], args, []⟩).memory :=
  laidMet_laidAll _ (by kernel_rfl) (by kernel_rfl)

end Go.Proofs.YtmfkefcdddoooaaGreatDoor

namespace Go.Proofs.YtmfkefcdddoooaaGreatDoor
open Go.RowKit

/-- a slice that reads as these attributes, below block B -/
def RdA (w : World) (B : Nat) (v : Value) (al : List U.Att) : Prop := ∃ ao cap, v = .slice ao al.length cap ∧
  ∀ (i : Nat) (x : U.Att), al[i]? = some x → ∃ g o, ao = some ⟨g, o, none⟩ ∧ g < B ∧ w.cell? ⟨g, o + i * 2, none⟩ = some (.string ⟨x.1.toArray⟩) ∧ w.cell? ⟨g, o + i * 2 + 1, none⟩ = some (.string ⟨x.2.toArray⟩)
theorem RdA.keep {w w' : World} {B : Nat} {v : Value} {al : List U.Att} (h : RdA w B v al) (hk : ∀ p : Addr, p.block < B → w'.cell? p = w.cell? p) : RdA w' B v al := by
  obtain ⟨ao, cap, rfl, hc⟩ := h
  refine ⟨ao, cap, rfl, fun i x hx => ?_⟩
  obtain ⟨g, o, e, hb, c1, c2⟩ := hc i x hx
  exact ⟨g, o, e, hb, (hk _ hb).trans c1, (hk _ hb).trans c2⟩
theorem RdA.of_own {w : World} {B n : Nat} {v : Value} {al : List U.Att} (h : w.ownsRow B 54 2 v n (attCells al)) (hn : n = al.length) : RdA w w.heap.size v al := by
  subst hn
  obtain ⟨ao, cap, rfl⟩ := own_form h
  refine ⟨ao, cap, rfl, fun i x hx => ?_⟩
  obtain ⟨g, c, e, c1, c2⟩ := row_att h hx
  injection e with e1 e2 e3
  subst e1
  have hlt : g < w.heap.size := (h.lt g rfl).2
  exact ⟨g, 0, rfl, hlt, by rw [Nat.zero_add]; exact c1, by rw [Nat.zero_add]; exact c2⟩

/-- a slice that reads as these tokens, below block B -/
def RdT (w : World) (B : Nat) (v : Value) (ts : List U.Tok) : Prop := ∃ ao cap, v = .slice ao ts.length cap ∧
  ∀ (i : Nat) (t : U.Tok), ts[i]? = some t → ∃ g o av, ao = some ⟨g, o, none⟩ ∧ g < B ∧ w.cell? ⟨g, o + i * 5, none⟩ = some (.int .i64 t.kind) ∧ w.cell? ⟨g, o + i * 5 + 1, none⟩ = some (.string ⟨t.name.toArray⟩) ∧
    w.cell? ⟨g, o + i * 5 + 2, none⟩ = some av ∧ w.cell? ⟨g, o + i * 5 + 3, none⟩ = some (.bool t.self) ∧ w.cell? ⟨g, o + i * 5 + 4, none⟩ = some (.string ⟨t.text.toArray⟩) ∧ RdA w B av t.attrs ∧ t.attrs.length ≤ 1048576
theorem RdT.keep {w w' : World} {B : Nat} {v : Value} {ts : List U.Tok} (h : RdT w B v ts) (hk : ∀ p : Addr, p.block < B → w'.cell? p = w.cell? p) : RdT w' B v ts := by
  obtain ⟨ao, cap, rfl, hc⟩ := h
  refine ⟨ao, cap, rfl, fun i t ht => ?_⟩
  obtain ⟨g, o, av, e, hb, c0, c1, c2, c3, c4, hA, hl⟩ := hc i t ht
  exact ⟨g, o, av, e, hb, (hk _ hb).trans c0, (hk _ hb).trans c1, (hk _ hb).trans c2, (hk _ hb).trans c3, (hk _ hb).trans c4, hA.keep hk, hl⟩
theorem RdT.below {w w' : World} {B : Nat} {v : Value} {ts : List U.Tok} (h : RdT w B v ts) (hb : Below B w w') : RdT w' B v ts := h.keep fun _ hp => hb.cell hp
theorem RdA.more {w : World} {B B' : Nat} {v : Value} {al : List U.Att} (h : RdA w B v al) (hB : B ≤ B') : RdA w B' v al := by
  obtain ⟨ao, cap, rfl, hc⟩ := h
  refine ⟨ao, cap, rfl, fun i x hx => ?_⟩
  obtain ⟨g, o, e, hb, c1, c2⟩ := hc i x hx
  exact ⟨g, o, e, by omega, c1, c2⟩
theorem RdT.more {w : World} {B B' : Nat} {v : Value} {ts : List U.Tok} (h : RdT w B v ts) (hB : B ≤ B') : RdT w B' v ts := by
  obtain ⟨ao, cap, rfl, hc⟩ := h
  refine ⟨ao, cap, rfl, fun i t ht => ?_⟩
  obtain ⟨g, o, av, e, hb, c0, c1, c2, c3, c4, hA, hl⟩ := hc i t ht
  exact ⟨g, o, av, e, by omega, c0, c1, c2, c3, c4, hA.more hB, hl⟩

/-- the cells of a token in a row -/
theorem row_tok {w : World} {B n : Nat} {v : Value} {l : List (U.Tok × Value)} (h : w.ownsRow B 33 5 v n (tokCells l)) {i : Nat} {x : U.Tok × Value} (hx : l[i]? = some x) :
    ∃ g cap, v = .slice (some ⟨g, 0, none⟩) n cap ∧ w.cell? ⟨g, i * 5, none⟩ = some (.int .i64 (x.1.kind : Nat)) ∧ w.cell? ⟨g, i * 5 + 1, none⟩ = some (.string ⟨x.1.name.toArray⟩) ∧ w.cell? ⟨g, i * 5 + 2, none⟩ = some x.2 ∧ w.cell? ⟨g, i * 5 + 3, none⟩ = some (.bool x.1.self) ∧ w.cell? ⟨g, i * 5 + 4, none⟩ = some (.string ⟨x.1.text.toArray⟩) := by
  have hg : ∀ (l : List (U.Tok × Value)) (i : Nat), l[i]? = some x → (tokCells l)[i * 5]? = some (.int .i64 (x.1.kind : Nat)) ∧ (tokCells l)[i * 5 + 1]? = some (.string ⟨x.1.name.toArray⟩) ∧ (tokCells l)[i * 5 + 2]? = some x.2 ∧ (tokCells l)[i * 5 + 3]? = some (.bool x.1.self) ∧ (tokCells l)[i * 5 + 4]? = some (.string ⟨x.1.text.toArray⟩) := by
    intro l
    induction l with
    | nil => intro i hi; simp at hi
    | cons a l ih =>
      intro i hi
      have e : tokCells (a :: l) = .int .i64 (a.1.kind : Nat) :: .string ⟨a.1.name.toArray⟩ :: a.2 :: .bool a.1.self :: .string ⟨a.1.text.toArray⟩ :: tokCells l := rfl
      cases i with
      | zero => simp at hi; subst hi; rw [e]; exact ⟨rfl, rfl, rfl, rfl, rfl⟩
      | succ i =>
        have := ih i (by simpa using hi)
        rw [e, show (i + 1) * 5 = i * 5 + 1 + 1 + 1 + 1 + 1 by omega]
        simpa using this
  obtain ⟨h0, h1, h2, h3, h4⟩ := hg l i hx
  rcases h.2 with ⟨rfl, hn⟩ | ⟨g, cap, cur, rfl, _⟩
  · have h9 := h.1
    rw [hn] at h9
    have : tokCells l = [] := List.length_eq_zero_iff.1 (by omega)
    rw [this] at h0
    simp at h0
  · have ea : ∀ j, (⟨g, 0, none⟩ : Addr).add j = ⟨g, j, none⟩ := fun j => by cases j <;> simp [Addr.add]
    have c0 := h.cells (g := g) rfl _ _ h0
    have c1 := h.cells (g := g) rfl _ _ h1
    have c2 := h.cells (g := g) rfl _ _ h2
    have c3 := h.cells (g := g) rfl _ _ h3
    have c4 := h.cells (g := g) rfl _ _ h4
    rw [ea] at c0 c1 c2 c3 c4
    exact ⟨g, cap, rfl, c0, c1, c2, c3, c4⟩
theorem RdT.of_own {w : World} {B B2 : Nat} {v : Value} {l : List (U.Tok × Value)} (h : w.ownsRow B 33 5 v l.length (tokCells l)) (ha : ∀ x ∈ l, w.ownsRow B2 54 2 x.2 x.1.attrs.length (attCells x.1.attrs)) (hs : ∀ x ∈ l, x.1.attrs.length ≤ 1048576) : RdT w w.heap.size v (l.map (·.1)) := by
  obtain ⟨ao, cap, rfl⟩ := own_form h
  refine ⟨ao, cap, by rw [List.length_map], fun i t ht => ?_⟩
  obtain ⟨x, hx, rfl⟩ : ∃ x, l[i]? = some x ∧ x.1 = t := by
    rw [List.getElem?_map] at ht
    cases hx : l[i]? with
    | none => rw [hx] at ht; cases ht
    | some x => rw [hx] at ht; exact ⟨x, rfl, by simpa using ht⟩
  obtain ⟨g, cap2, e, c0, c1, c2, c3, c4⟩ := row_tok h hx
  injection e with e1 _ _
  subst e1
  have hm := List.mem_of_getElem? hx
  have hlt : g < w.heap.size := (h.lt g rfl).2
  refine ⟨g, 0, x.2, rfl, hlt, ?_, ?_, ?_, ?_, ?_, RdA.of_own (ha x hm) rfl, hs x hm⟩ <;> rw [Nat.zero_add] <;> assumption

end Go.Proofs.YtmfkefcdddoooaaGreatDoor

namespace Go.Proofs.YtmfkefcdddoooaaGreatDoor
open Go.RowKit

/-- a slice that reads as these tokens, below block B -/
def RdK (w : World) (B : Nat) (v : Value) (l : List U.Tk) : Prop := ∃ ao cap, v = .slice ao l.length cap ∧
  ∀ (i : Nat) (t : U.Tk), l[i]? = some t → ∃ g o av, ao = some ⟨g, o, none⟩ ∧ g < B ∧ w.cell? ⟨g, o + i * 5, none⟩ = some (.int .i64 t.kind) ∧ w.cell? ⟨g, o + i * 5 + 1, none⟩ = some (.string ⟨t.name.toArray⟩) ∧
    w.cell? ⟨g, o + i * 5 + 2, none⟩ = some av ∧ w.cell? ⟨g, o + i * 5 + 3, none⟩ = some (.bool t.self) ∧ w.cell? ⟨g, o + i * 5 + 4, none⟩ = some (.string ⟨t.text.toArray⟩) ∧ RdA w B av t.attrs
theorem RdK.keep {w w' : World} {B : Nat} {v : Value} {ts : List U.Tk} (h : RdK w B v ts) (hk : ∀ p : Addr, p.block < B → w'.cell? p = w.cell? p) : RdK w' B v ts := by
  obtain ⟨ao, cap, rfl, hc⟩ := h
  refine ⟨ao, cap, rfl, fun i t ht => ?_⟩
  obtain ⟨g, o, av, e, hb, c0, c1, c2, c3, c4, hA⟩ := hc i t ht
  exact ⟨g, o, av, e, hb, (hk _ hb).trans c0, (hk _ hb).trans c1, (hk _ hb).trans c2, (hk _ hb).trans c3, (hk _ hb).trans c4, hA.keep hk⟩
theorem RdK.below {w w' : World} {B : Nat} {v : Value} {ts : List U.Tk} (h : RdK w B v ts) (hb : Below B w w') : RdK w' B v ts := h.keep fun _ hp => hb.cell hp
theorem RdA.below {w w' : World} {B : Nat} {v : Value} {ts : List U.Att} (h : RdA w B v ts) (hb : Below B w w') : RdA w' B v ts := h.keep fun _ hp => hb.cell hp
theorem RdK.more {w : World} {B B' : Nat} {v : Value} {ts : List U.Tk} (h : RdK w B v ts) (hB : B ≤ B') : RdK w B' v ts := by
  obtain ⟨ao, cap, rfl, hc⟩ := h
  refine ⟨ao, cap, rfl, fun i t ht => ?_⟩
  obtain ⟨g, o, av, e, hb, c0, c1, c2, c3, c4, hA⟩ := hc i t ht
  exact ⟨g, o, av, e, by omega, c0, c1, c2, c3, c4, hA.more hB⟩
theorem RdT.rdK {w : World} {B : Nat} {v : Value} {ts : List U.Tok} (h : RdT w B v ts) : RdK w B v (ts.map U.Tok.tk) := by
  obtain ⟨ao, cap, rfl, hc⟩ := h
  refine ⟨ao, cap, by rw [List.length_map], fun i t ht => ?_⟩
  rw [List.getElem?_map] at ht
  cases hx : ts[i]? with
  | none => rw [hx] at ht; cases ht
  | some x =>
    rw [hx] at ht
    obtain rfl : x.tk = t := by simpa using ht
    obtain ⟨g, o, av, e, hb, c0, c1, c2, c3, c4, hA, _⟩ := hc i x hx
    exact ⟨g, o, av, e, hb, c0, c1, c2, c3, c4, hA⟩
/-- a beginning, an end of it -/
theorem RdK.take {w : World} {B : Nat} {ao : Option Addr} {n cap : Nat} {l : List U.Tk} (h : RdK w B (.slice ao n cap) l) (k cap2 : Nat) (hk : k ≤ l.length) : RdK w B (.slice ao k cap2) (l.take k) := by
  obtain ⟨ao2, cap', e, hc⟩ := h
  injection e with e1 e2 e3
  subst e1
  have hl : (l.take k).length = k := by rw [List.length_take]; omega
  refine ⟨ao, cap2, by rw [hl], fun i t ht => ?_⟩
  have hi : i < k := by have := (List.getElem?_eq_some_iff.1 ht).1; omega
  rw [List.getElem?_take_of_lt hi] at ht
  exact hc i t ht
theorem RdK.drop {w : World} {B g o n cap : Nat} {l : List U.Tk} (h : RdK w B (.slice (some ⟨g, o, none⟩) n cap) l) (k cap2 : Nat) : RdK w B (.slice (some ⟨g, o + k * 5, none⟩) (l.length - k) cap2) (l.drop k) := by
  obtain ⟨ao2, cap', e, hc⟩ := h
  injection e with e1 e2 e3
  subst e1
  have hl : (l.drop k).length = l.length - k := List.length_drop ..
  refine ⟨some ⟨g, o + k * 5, none⟩, cap2, by rw [hl], fun i t ht => ?_⟩
  rw [List.getElem?_drop] at ht
  obtain ⟨g2, o2, av, e2, hb, c0, c1, c2, c3, c4, hA⟩ := hc (k + i) t ht
  injection e2 with e2
  injection e2 with e3 e4
  subst e3
  subst e4
  have e5 : o + (k + i) * 5 = o + k * 5 + i * 5 := by omega
  rw [e5] at c0 c1 c2 c3 c4
  exact ⟨g, o + k * 5, av, rfl, hb, c0, c1, c2, c3, c4, hA⟩

/-- how long a text may be -/
abbrev most : Nat := 9223372036854775807
/-- there are no more attributes -/
def Fits (M : Nat) (t : U.Tk) : Prop := t.attrs.length ≤ M
theorem Fits.more {M M' : Nat} {t : U.Tk} (h : Fits M t) (hM : M ≤ M') : Fits M' t := Nat.le_trans h hM
/-- nothing in the token is longer -/
def Small (M : Nat) (t : U.Tk) : Prop := t.name.length ≤ M ∧ t.text.length ≤ M ∧ t.attrs.length ≤ M ∧ ∀ a ∈ t.attrs, a.1.length ≤ M ∧ a.2.length ≤ M
theorem Small.more {M M' : Nat} {t : U.Tk} (h : Small M t) (hM : M ≤ M') : Small M' t := ⟨Nat.le_trans h.1 hM, Nat.le_trans h.2.1 hM, Nat.le_trans h.2.2.1 hM, fun a ha => ⟨Nat.le_trans (h.2.2.2 a ha).1 hM, Nat.le_trans (h.2.2.2 a ha).2 hM⟩⟩
theorem Small.fits {M : Nat} {t : U.Tk} (h : Small M t) : Fits M t := h.2.2.1

end Go.Proofs.YtmfkefcdddoooaaGreatDoor

namespace Go.Proofs.YtmfkefcdddoooaaGreatDoor
open Go.RowKit

/-- no slice is longer than it may be -/
def Cap (v : Value) : Prop := ∀ ao n cap, v = .slice ao n cap → n ≤ cap
theorem Cap.le {ao : Option Addr} {n cap : Nat} (h : Cap (.slice ao n cap)) : n ≤ cap := h ao n cap rfl
theorem Cap.mk {ao : Option Addr} {n cap : Nat} (h : n ≤ cap) : Cap (.slice ao n cap) := fun a b c e => by injection e with _ e2 e3; omega
theorem Cap.of_own {w : World} {B : Nat} {e : TypeId} {size n : Nat} {v : Value} {xs : List Value} (h : w.ownsRow B e size v n xs) : Cap v := by
  intro ao n2 cap hv
  rcases h.2 with ⟨h1, h2⟩ | ⟨g, cap2, cur, h1, hb, hg, r⟩
  · rw [h1] at hv
    injection hv with _ e2 e3
    omega
  · rw [h1] at hv
    injection hv with _ e2 e3
    subst e2
    subst e3
    have h3 := h.1
    first
      | omega
      | exact r.1
def RdKC (w : World) (B : Nat) (v : Value) (l : List U.Tk) : Prop :=
  RdK w B v l ∧ Cap v ∧ ∀ ao n cap, v = .slice ao n cap → ∀ (i : Nat) (t : U.Tk), l[i]? = some t → ∀ g o, ao = some ⟨g, o, none⟩ → ∀ av, w.cell? ⟨g, o + i * 5 + 2, none⟩ = some av → Cap av
theorem RdKC.keep {w w' : World} {B : Nat} {v : Value} {l : List U.Tk} (h : RdKC w B v l) (hk : ∀ p : Addr, p.block < B → w'.cell? p = w.cell? p) : RdKC w' B v l := by
  obtain ⟨h1, h2, h3⟩ := h
  refine ⟨h1.keep hk, h2, fun ao n cap e i t ht g o e2 av hc => ?_⟩
  obtain ⟨ao', cap', e', hcells⟩ := h1
  rw [e] at e'
  injection e' with e1 _ _
  subst e1
  obtain ⟨g', o', av', e3, hb, _, _, c2, _⟩ := hcells i t ht
  rw [e2] at e3
  injection e3 with e3
  injection e3 with e4 e5
  subst e4
  subst e5
  rw [hk _ hb] at hc
  exact h3 ao n cap e i t ht g o e2 av hc
theorem RdKC.below {w w' : World} {B : Nat} {v : Value} {ts : List U.Tk} (h : RdKC w B v ts) (hb : Below B w w') : RdKC w' B v ts := h.keep fun _ hp => hb.cell hp
theorem RdKC.more {w : World} {B B' : Nat} {v : Value} {ts : List U.Tk} (h : RdKC w B v ts) (hB : B ≤ B') : RdKC w B' v ts := ⟨h.1.more hB, h.2.1, h.2.2⟩
/-- a token's cells -/
theorem RdKC.at {w : World} {B : Nat} {ao : Option Addr} {n cap : Nat} {l : List U.Tk} (h : RdKC w B (.slice ao n cap) l) {i : Nat} {t : U.Tk} (ht : l[i]? = some t) :
    ∃ g o aoA capA, ao = some ⟨g, o, none⟩ ∧ g < B ∧ w.cell? ⟨g, o + i * 5, none⟩ = some (.int .i64 t.kind) ∧ w.cell? ⟨g, o + i * 5 + 1, none⟩ = some (.string ⟨t.name.toArray⟩) ∧
      w.cell? ⟨g, o + i * 5 + 2, none⟩ = some (.slice aoA t.attrs.length capA) ∧ w.cell? ⟨g, o + i * 5 + 3, none⟩ = some (.bool t.self) ∧ w.cell? ⟨g, o + i * 5 + 4, none⟩ = some (.string ⟨t.text.toArray⟩) ∧
      RdA w B (.slice aoA t.attrs.length capA) t.attrs ∧ t.attrs.length ≤ capA := by
  obtain ⟨h1, h2, h3⟩ := h
  obtain ⟨ao2, cap2, e, hc⟩ := h1
  injection e with e1 _ _
  subst e1
  obtain ⟨g, o, av, e2, hb, c0, c1, c2, c3, c4, hA⟩ := hc i t ht
  have hcap := h3 ao n cap rfl i t ht g o e2 av c2
  obtain ⟨aoA, capA, rfl, hcA⟩ := id hA
  exact ⟨g, o, aoA, capA, e2, hb, c0, c1, c2, c3, c4, hA, hcap.le⟩
theorem RdKC.len {w : World} {B : Nat} {v : Value} {l : List U.Tk} (h : RdKC w B v l) : ∃ ao cap, v = .slice ao l.length cap ∧ l.length ≤ cap := by
  obtain ⟨⟨ao, cap, rfl, _⟩, h2, _⟩ := h
  exact ⟨ao, cap, rfl, h2.le⟩

end Go.Proofs.YtmfkefcdddoooaaGreatDoor

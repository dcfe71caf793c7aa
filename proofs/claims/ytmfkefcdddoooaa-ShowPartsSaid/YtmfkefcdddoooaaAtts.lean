/- Attributes and tokens as cells; rows of them. -/
import Derived.Test.YtmfkefcdddoooaaProg
import Derived.Test.YtmfkefcdddoooaaTokMath
import Derived.Test.YtmfkefcdddoooaaWords
import Derived.Test.YtmfkefcdddoooaaBytes
import Derived.WalkKit
import Derived.BigCall
import Derived.Below
import Derived.Laws.OwnMore
import Derived.Lib.Builder
import Derived.Outline
namespace Go.Proofs.Ytmfkefcdddoooaa
open Go.RowKit

/-- bytes as a string value -/
def str (l : List UInt8) : Value := .string ⟨l.toArray⟩
/-- attributes as cells -/
def attCells (l : List U.Att) : List Value := l.flatMap fun a => [str a.1, str a.2]
theorem attCells_length (l : List U.Att) : (attCells l).length = l.length * 2 := by
  induction l with
  | nil => rfl
  | cons a l ih =>
    have : attCells (a :: l) = str a.1 :: str a.2 :: attCells l := rfl
    rw [this, List.length_cons, List.length_cons, List.length_cons, ih]
    omega
theorem attCells_append (a b : List U.Att) : attCells (a ++ b) = attCells a ++ attCells b := by simp [attCells]
theorem infoAttr : (Try.prog.info? 48).map (fun i => (i.zero, i.size, i.bytes)) = some (some (.agg #[.string .empty, .string .empty]), 2, 32) := by kernel_rfl
theorem infoTok : (Try.prog.info? 31).map (fun i => (i.zero, i.size, i.bytes)) = some (some (.agg #[.int .i64 0, .string .empty, .slice none 0 0, .bool false, .string .empty]), 5, 72) := by kernel_rfl

/-- a token's five cells -/
def tokBlock (n : List UInt8) : Obj := .cells #[.int .i64 0, str n, .slice none 0 0, .bool false, .string ⟨#[]⟩] 31 (0, 0)
theorem own_keep {w w' : World} {base : Nat} {e : TypeId} {size n : Nat} {v : Value} {xs : List Value} (h : w.ownsRow base e size v n xs) (hb : Below w.heap.size w w') : w'.ownsRow base e size v n xs :=
  h.kept (row := none) ⟨hb.os, hb.tape, hb.output, hb.size, fun i hi _ => hb.block i hi⟩ (by
    rcases v.ownBlock with _ | b
    · exact .inl rfl
    · right; simp)
theorem str_push (a b : List UInt8) : ByteArray.mk a.toArray ++ ByteArray.mk b.toArray = ByteArray.mk (a ++ b).toArray := by
  apply ByteArray.ext
  simp
theorem str_size (a : List UInt8) : (ByteArray.mk a.toArray).size = a.length := size_of_mk a
theorem cell_alloc_old (w : World) (o : Obj) (p : Addr) (h : p.block < w.heap.size) : (w.alloc o).cell? p = w.cell? p := ((Below.refl w.heap.size w).alloc (Nat.le_refl _) o).cell h
theorem firsts_le : ∀ (l acc : List U.Att), (U.firsts acc l).length ≤ acc.length + l.length
  | [], acc => by simp [U.firsts]
  | a :: l, acc => by
    rw [U.firsts]
    have := firsts_le l (if acc.all (fun c => c.1 != a.1) = true then acc ++ [a] else acc)
    rw [List.length_cons]
    split at this
    · rw [if_pos (by assumption)]; rw [List.length_append, List.length_cons, List.length_nil] at this; omega
    · rw [if_neg (by assumption)]; omega
theorem firsts_append : ∀ (l m acc : List U.Att), U.firsts acc (l ++ m) = U.firsts (U.firsts acc l) m
  | [], m, acc => rfl
  | a :: l, m, acc => by rw [List.cons_append, U.firsts, U.firsts, firsts_append l m]
theorem firsts_one (acc : List U.Att) (a : U.Att) : U.firsts acc [a] = if acc.all (fun c => c.1 != a.1) = true then acc ++ [a] else acc := by simp [U.firsts]
theorem firsts_take {l : List U.Att} {i : Nat} {x : U.Att} (h : l[i]? = some x) : U.firsts [] (l.take (i + 1)) = if (U.firsts [] (l.take i)).all (fun c => c.1 != x.1) = true then U.firsts [] (l.take i) ++ [x] else U.firsts [] (l.take i) := by
  obtain ⟨hk, e⟩ := List.getElem?_eq_some_iff.1 h
  rw [List.take_succ_eq_append_getElem hk, e, firsts_append, firsts_one]
theorem all_take {l : List U.Att} {j : Nat} {x : U.Att} (p : U.Att → Bool) (h : l[j]? = some x) : (l.take (j + 1)).all p = ((l.take j).all p && p x) := by
  obtain ⟨hk, e⟩ := List.getElem?_eq_some_iff.1 h
  rw [List.take_succ_eq_append_getElem hk, e, List.all_append]
  simp
/-- the cells of an attribute in a row -/
theorem row_att {w : World} {B n : Nat} {v : Value} {l : List U.Att} (h : w.ownsRow B 48 2 v n (attCells l)) {i : Nat} {x : U.Att} (hx : l[i]? = some x) :
    ∃ g cap, v = .slice (some ⟨g, 0, none⟩) n cap ∧ w.cell? ⟨g, i * 2, none⟩ = some (.string ⟨x.1.toArray⟩) ∧ w.cell? ⟨g, i * 2 + 1, none⟩ = some (.string ⟨x.2.toArray⟩) := by
  have hg : ∀ (l : List U.Att) (i : Nat), l[i]? = some x → (attCells l)[i * 2]? = some (str x.1) ∧ (attCells l)[i * 2 + 1]? = some (str x.2) := by
    intro l
    induction l with
    | nil => intro i hi; simp at hi
    | cons a l ih =>
      intro i hi
      have e : attCells (a :: l) = str a.1 :: str a.2 :: attCells l := rfl
      cases i with
      | zero => simp at hi; subst hi; rw [e]; exact ⟨rfl, rfl⟩
      | succ i =>
        have := ih i (by simpa using hi)
        rw [e]
        rw [show (i + 1) * 2 = i * 2 + 1 + 1 by omega]
        simpa using this
  obtain ⟨h0, h1⟩ := hg l i hx
  rcases h.2 with ⟨rfl, hn⟩ | ⟨g, cap, cur, rfl, _⟩
  · have h2 := h.1
    rw [hn] at h2
    have : (attCells l) = [] := List.length_eq_zero_iff.1 (by omega)
    rw [this] at h0
    simp at h0
  · have c0 := h.cells (g := g) rfl _ _ h0
    have c1 := h.cells (g := g) rfl _ _ h1
    have ea : ∀ j, (⟨g, 0, none⟩ : Addr).add j = ⟨g, j, none⟩ := fun j => by unfold Addr.add; split <;> simp_all
    rw [ea] at c0 c1
    exact ⟨g, cap, rfl, c0, c1⟩

theorem own_base {w : World} {B B' : Nat} {e : TypeId} {size n : Nat} {v : Value} {xs : List Value} (h : w.ownsRow B e size v n xs) (hB : B' ≤ B) : w.ownsRow B' e size v n xs := by
  refine ⟨h.1, ?_⟩
  rcases h.2 with h0 | ⟨g, cap, cur, hv, hb, r⟩
  · exact .inl h0
  · exact .inr ⟨g, cap, cur, hv, Nat.le_trans hB hb, r⟩
/-- tokens as cells, each with the value of its attributes' slice -/
def tokCells (l : List (U.Tok × Value)) : List Value := l.flatMap fun x => [.int .i64 (x.1.kind : Nat), .string ⟨x.1.name.toArray⟩, x.2, .bool x.1.self, .string ⟨x.1.text.toArray⟩]
theorem tokCells_length (l : List (U.Tok × Value)) : (tokCells l).length = l.length * 5 := by
  induction l with
  | nil => rfl
  | cons a l ih =>
    have : tokCells (a :: l) = .int .i64 (a.1.kind : Nat) :: .string ⟨a.1.name.toArray⟩ :: a.2 :: .bool a.1.self :: .string ⟨a.1.text.toArray⟩ :: tokCells l := rfl
    rw [this]
    simp only [List.length_cons]
    omega
theorem tokCells_append (a b : List (U.Tok × Value)) : tokCells (a ++ b) = tokCells a ++ tokCells b := by simp [tokCells]

/-- rows of different types lie in different blocks -/
theorem own_apart {w : World} {B B' : Nat} {e e' : TypeId} {n n' z z' : Nat} {v v' : Value} {xs xs' : List Value} (h : w.ownsRow B e z v n xs) (h' : w.ownsRow B' e' z' v' n' xs') (hne : e ≠ e') : v.ownBlock = none ∨ v.ownBlock ≠ v'.ownBlock := by
  rcases h.2 with ⟨rfl, _⟩ | ⟨g, cap, cur, rfl, _, hg, _⟩
  · exact .inl rfl
  right
  rcases h'.2 with ⟨rfl, _⟩ | ⟨g', cap', cur', rfl, _, hg', _⟩
  · simp [Value.ownBlock]
  · intro e0
    have : g = g' := by simpa [Value.ownBlock] using e0
    subst this
    rw [hg] at hg'
    injection hg' with hg'
    injection hg' with _ h2 _
    exact hne h2

theorem below_drewN {B : Nat} {a w : World} (h : Below B a w) (n : Nat) : Below B a (w.drewN n) := ⟨h.os, h.tape, h.output, h.size, h.block⟩

end Go.Proofs.Ytmfkefcdddoooaa

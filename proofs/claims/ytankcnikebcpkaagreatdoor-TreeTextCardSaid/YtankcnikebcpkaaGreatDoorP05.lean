/- Several texts in one: Words, Bytes, Atts, RdT. -/
import Derived.Test.YtankcnikebcpkaaGreatDoorProg
import Derived.WalkKit
import Derived.BigCall
import Derived.Below
import Derived.Laws.OwnMore
import Derived.Lib.Hide
import Derived.Lib.OthersKept
import Derived.WalkLawsBesides
import Derived.WalkSpells
import Derived.BigQuiet
import Derived.Deep.QuietTactic
import Derived.Lib.Strings
import Derived.Lib.Builder
import Derived.Outline
import Derived.Test.YtankcnikebcpkaaGreatDoorP01
import Derived.Test.YtankcnikebcpkaaGreatDoorP00
namespace Go.Proofs.YtankcnikebcpkaaGreatDoor
open Go.RowKit

/-- numbers as cells -/
def ints (l : List Nat) : List Value := l.map fun k : Nat => Value.int .i64 (k : Int)
theorem ints_length (l : List Nat) : (ints l).length = l.length := by simp [ints]
theorem ints_append (a b : List Nat) : ints (a ++ b) = ints a ++ ints b := by simp [ints]
theorem ints_one (k : Nat) : ints [k] = [.int .i64 k] := rfl
theorem ints_get {l : List Nat} {j : Nat} {k : Nat} (h : l[j]? = some k) : (ints l)[j]? = some (.int .i64 (k : Int)) := by simp [ints, h]

theorem info3 : (Tryz.prog.info? 3).map (fun i => (i.zero, i.size, i.bytes)) = some (some (.int .i64 0), 1, 8) := by kernel_rfl
theorem info5 : (Tryz.prog.info? 5).map (fun i => (i.zero, i.size, i.bytes)) = some (some (.int .u8 0), 1, 1) := by kernel_rfl

/-- a row of the call's own is no iterator -/
theorem own_ne_iter {w : World} {base : Nat} {e : TypeId} {size n : Nat} {v : Value} {xs : List Value} {k : Nat} {s : ByteArray} {pos : Nat}
    (h : w.ownsRow base e size v n xs) (hk : w.heap[k]? = some (.stringIter s pos)) : v.ownBlock ≠ some k := by
  rcases h.2 with ⟨rfl, _⟩ | ⟨g, cap, cur, rfl, _, hg, _⟩
  · simp [Value.ownBlock]
  · intro e
    have : g = k := by simpa [Value.ownBlock] using e
    subst this
    rw [hg] at hk
    cases hk

theorem own_form {w : World} {base : Nat} {e : TypeId} {size n : Nat} {v : Value} {xs : List Value} (h : w.ownsRow base e size v n xs) : ∃ ao cap, v = .slice ao n cap := by
  rcases h.2 with ⟨rfl, rfl⟩ | ⟨g, cap, cur, rfl, _⟩
  · exact ⟨none, 0, rfl⟩
  · exact ⟨_, _, rfl⟩

theorem iter_lt {w : World} {k : Nat} {s : ByteArray} {pos : Nat} (hk : w.heap[k]? = some (.stringIter s pos)) : k < w.heap.size :=
  (Array.getElem?_eq_some_iff.1 hk).1

/-- a row of the call's own, while an iterator moves on -/
theorem own_iterAt {w : World} {base : Nat} {e : TypeId} {size n : Nat} {v : Value} {xs : List Value} {k : Nat} {s : ByteArray} {pos : Nat}
    (h : w.ownsRow base e size v n xs) (hk : w.heap[k]? = some (.stringIter s pos)) (pos' : Nat) : (w.iterAt k s pos').ownsRow base e size v n xs := by
  have hne := own_ne_iter h hk
  refine ⟨h.1, ?_⟩
  rcases h.2 with h0 | ⟨g, cap, cur, hv, hb, hg, r⟩
  · exact .inl h0
  · refine .inr ⟨g, cap, cur, hv, hb, ?_, r⟩
    have : g ≠ k := by
      intro e
      subst e
      subst hv
      exact hne rfl
    rw [Lib.iterAt_other _ _ _ _ _ this]
    exact hg

/-- a slice's address, and the numbers that lie there, below block B -/
def Rd (w : World) (B : Nat) (ao : Option Addr) (zs : List Int) : Prop :=
  ∀ (k : Nat) (z : Int), zs[k]? = some z → ∃ ad, ao = some ad ∧ ad.block < B ∧ w.cell? (ad.add k) = some (.int .i64 z)

theorem add_block (a : Addr) (n : Nat) : (a.add n).block = a.block := by unfold Addr.add; split <;> rfl

theorem Rd.keep {w w' : World} {B : Nat} {ao : Option Addr} {zs : List Int} (h : Rd w B ao zs) (hk : ∀ p : Addr, p.block < B → w'.cell? p = w.cell? p) : Rd w' B ao zs := by
  intro k z hz
  obtain ⟨ad, e, hb, hc⟩ := h k z hz
  exact ⟨ad, e, hb, (hk _ (by rw [add_block]; exact hb)).trans hc⟩
theorem Rd.below {w w' : World} {B : Nat} {ao : Option Addr} {zs : List Int} (h : Rd w B ao zs) (hb : Below B w w') : Rd w' B ao zs := h.keep fun _ hp => hb.cell hp
theorem Rd.more {w : World} {B B' : Nat} {ao : Option Addr} {zs : List Int} (h : Rd w B ao zs) (hB : B ≤ B') : Rd w B' ao zs := by
  intro k z hz
  obtain ⟨ad, e, hb, hc⟩ := h k z hz
  exact ⟨ad, e, by omega, hc⟩
theorem Rd.of_own {w : World} {B n cap : Nat} {e : TypeId} {ao : Option Addr} {l : List Nat} (h : w.ownsRow B e 1 (.slice ao n cap) n (ints l)) : Rd w w.heap.size ao (l.map Int.ofNat) := by
  intro k z hz
  have hl : l.length = n := by have := h.1; rw [ints_length] at this; omega
  have hk : k < l.length := by
    have := (List.getElem?_eq_some_iff.1 hz).1
    simpa using this
  rcases h.2 with ⟨hv, h0⟩ | ⟨g, cap', cur, hv, hb, hg, _⟩
  · omega
  · injection hv with hv _ _
    subst hv
    refine ⟨_, rfl, (Array.getElem?_eq_some_iff.1 hg).1, ?_⟩
    have := h.cells (g := g) rfl k (.int .i64 (l[k] : Int)) (ints_get (List.getElem?_eq_getElem hk))
    rw [this]
    simp at hz
    obtain ⟨x, hx, e⟩ := hz
    rw [List.getElem?_eq_getElem hk] at hx
    injection hx with hx
    rw [hx, e]

end Go.Proofs.YtankcnikebcpkaaGreatDoor

namespace Go.Proofs.YtankcnikebcpkaaGreatDoor
open Go.RowKit

theorem toList_length (s : ByteArray) : s.data.toList.length = s.size := by rw [Array.length_toList]; rfl
theorem byte_eq {b : UInt8} {k : Nat} (hk : k < 256) : (b.toNat = k) ↔ b = UInt8.ofNat k := by
  constructor
  · intro h; exact (U.ofNat_eq h.symm).symm
  · rintro rfl; simp; omega
theorem drop_byte {l : List UInt8} {k : Nat} {b : UInt8} (h : l[k]? = some b) : l.drop k = b :: l.drop (k + 1) := by
  obtain ⟨hk, e⟩ := List.getElem?_eq_some_iff.1 h
  rw [List.drop_eq_getElem_cons hk, e]
theorem get_byte {s : ByteArray} {k : Nat} {b : UInt8} (h : s.data.toList[k]? = some b) : (s.get! k) = b := by
  obtain ⟨hk, e⟩ := List.getElem?_eq_some_iff.1 h
  rw [toList_length] at hk
  have hk2 : k < s.data.size := hk
  simp only [ByteArray.get!]
  rw [getElem!_pos s.data k hk2]
  simpa using e

theorem byte_get (s : ByteArray) {k : Nat} (h : k < s.size) : s.data.toList[k]? = some (s[k]'h) := by
  have h2 : k < s.data.size := h
  rw [Array.getElem?_toList, getElem?_pos s.data k h2]
  rfl

theorem beq_yes {b : UInt8} {n : Int} (h : (b.toNat : Int) = n) : ((b.toNat : Int) == n) = true := by rw [h]; simp
theorem beq_no {b : UInt8} {n : Int} (h : (b.toNat : Int) ≠ n) : ((b.toNat : Int) == n) = false := by simpa using h

def strSize : Value → Nat
  | .string s => s.size
  | _ => 0
theorem len_list (s : ByteArray) : s.data.toList.length = s.size := by rw [Array.length_toList]; rfl
theorem list_of_mk (l : List UInt8) : (ByteArray.mk l.toArray).data.toList = l := by simp
theorem size_of_mk (l : List UInt8) : (ByteArray.mk l.toArray).size = l.length := by show l.toArray.size = _; simp
theorem mk_of_list (s : ByteArray) : ByteArray.mk s.data.toList.toArray = s := by cases s; simp

end Go.Proofs.YtankcnikebcpkaaGreatDoor

namespace Go.Proofs.YtankcnikebcpkaaGreatDoor
open Go.RowKit

/-- bytes as a string value -/
def str (l : List UInt8) : Value := .string ⟨l.toArray⟩
/-- attributes as cells -/
def attCells (l : List U.Att) : List Value := l.flatMap fun a => [str a.1, str a.2]
theorem attCells_length (l : List U.Att) : (attCells l).length = l.length * 2 := by
  induction l with
  | nil => rfl
  | cons a l ih =>
    have : attCells (a :: l) = str a.1 :: str a.2 :: attCells l := rfl
    rw [this, List.length_cons, List.length_cons, List.length_cons, ih]
    omega
theorem attCells_append (a b : List U.Att) : attCells (a ++ b) = attCells a ++ attCells b := by simp [attCells]
theorem infoAttr : (Tryz.prog.info? 52).map (fun i => (i.zero, i.size, i.bytes)) = some (some (.agg #[.string .empty, .string .empty]), 2, 32) := by kernel_rfl
theorem infoTok : (Tryz.prog.info? 33).map (fun i => (i.zero, i.size, i.bytes)) = some (some (.agg #[.int .i64 0, .string .empty, .slice none 0 0, .bool false, .string .empty]), 5, 72) := by kernel_rfl

/-- a token's five cells -/
def tokBlock (n : List UInt8) : Obj := .cells #[.int .i64 0, str n, .slice none 0 0, .bool false, .string ⟨#[]⟩] 33 (0, 0)
theorem own_keep {w w' : World} {base : Nat} {e : TypeId} {size n : Nat} {v : Value} {xs : List Value} (h : w.ownsRow base e size v n xs) (hb : Below w.heap.size w w') : w'.ownsRow base e size v n xs :=
  h.kept (row := none) ⟨hb.os, hb.tape, hb.output, hb.size, fun i hi _ => hb.block i hi⟩ (by
    rcases v.ownBlock with _ | b
    · exact .inl rfl
    · right; simp)
theorem str_push (a b : List UInt8) : ByteArray.mk a.toArray ++ ByteArray.mk b.toArray = ByteArray.mk (a ++ b).toArray := by
  apply ByteArray.ext
  simp
theorem str_size (a : List UInt8) : (ByteArray.mk a.toArray).size = a.length := size_of_mk a
theorem cell_alloc_old (w : World) (o : Obj) (p : Addr) (h : p.block < w.heap.size) : (w.alloc o).cell? p = w.cell? p := ((Below.refl w.heap.size w).alloc (Nat.le_refl _) o).cell h
theorem firsts_le : ∀ (l acc : List U.Att), (U.firsts acc l).length ≤ acc.length + l.length
  | [], acc => by simp [U.firsts]
  | a :: l, acc => by
    rw [U.firsts]
    have := firsts_le l (if acc.all (fun c => c.1 != a.1) = true then acc ++ [a] else acc)
    rw [List.length_cons]
    split at this
    · rw [if_pos (by assumption)]; rw [List.length_append, List.length_cons, List.length_nil] at this; omega
    · rw [if_neg (by assumption)]; omega
theorem firsts_append : ∀ (l m acc : List U.Att), U.firsts acc (l ++ m) = U.firsts (U.firsts acc l) m
  | [], m, acc => rfl
  | a :: l, m, acc => by rw [List.cons_append, U.firsts, U.firsts, firsts_append l m]
theorem firsts_one (acc : List U.Att) (a : U.Att) : U.firsts acc [a] = if acc.all (fun c => c.1 != a.1) = true then acc ++ [a] else acc := by simp [U.firsts]
theorem firsts_take {l : List U.Att} {i : Nat} {x : U.Att} (h : l[i]? = some x) : U.firsts [] (l.take (i + 1)) = if (U.firsts [] (l.take i)).all (fun c => c.1 != x.1) = true then U.firsts [] (l.take i) ++ [x] else U.firsts [] (l.take i) := by
  obtain ⟨hk, e⟩ := List.getElem?_eq_some_iff.1 h
  rw [List.take_succ_eq_append_getElem hk, e, firsts_append, firsts_one]
theorem all_take {l : List U.Att} {j : Nat} {x : U.Att} (p : U.Att → Bool) (h : l[j]? = some x) : (l.take (j + 1)).all p = ((l.take j).all p && p x) := by
  obtain ⟨hk, e⟩ := List.getElem?_eq_some_iff.1 h
  rw [List.take_succ_eq_append_getElem hk, e, List.all_append]
  simp
/-- the cells of an attribute in a row -/
theorem row_att {w : World} {B n : Nat} {v : Value} {l : List U.Att} (h : w.ownsRow B 52 2 v n (attCells l)) {i : Nat} {x : U.Att} (hx : l[i]? = some x) :
    ∃ g cap, v = .slice (some ⟨g, 0, none⟩) n cap ∧ w.cell? ⟨g, i * 2, none⟩ = some (.string ⟨x.1.toArray⟩) ∧ w.cell? ⟨g, i * 2 + 1, none⟩ = some (.string ⟨x.2.toArray⟩) := by
  have hg : ∀ (l : List U.Att) (i : Nat), l[i]? = some x → (attCells l)[i * 2]? = some (str x.1) ∧ (attCells l)[i * 2 + 1]? = some (str x.2) := by
    intro l
    induction l with
    | nil => intro i hi; simp at hi
    | cons a l ih =>
      intro i hi
      have e : attCells (a :: l) = str a.1 :: str a.2 :: attCells l := rfl
      cases i with
      | zero => simp at hi; subst hi; rw [e]; exact ⟨rfl, rfl⟩
      | succ i =>
        have := ih i (by simpa using hi)
        rw [e]
        rw [show (i + 1) * 2 = i * 2 + 1 + 1 by omega]
        simpa using this
  obtain ⟨h0, h1⟩ := hg l i hx
  rcases h.2 with ⟨rfl, hn⟩ | ⟨g, cap, cur, rfl, _⟩
  · have h2 := h.1
    rw [hn] at h2
    have : (attCells l) = [] := List.length_eq_zero_iff.1 (by omega)
    rw [this] at h0
    simp at h0
  · have c0 := h.cells (g := g) rfl _ _ h0
    have c1 := h.cells (g := g) rfl _ _ h1
    have ea : ∀ j, (⟨g, 0, none⟩ : Addr).add j = ⟨g, j, none⟩ := fun j => by unfold Addr.add; split <;> simp_all
    rw [ea] at c0 c1
    exact ⟨g, cap, rfl, c0, c1⟩

theorem own_base {w : World} {B B' : Nat} {e : TypeId} {size n : Nat} {v : Value} {xs : List Value} (h : w.ownsRow B e size v n xs) (hB : B' ≤ B) : w.ownsRow B' e size v n xs := by
  refine ⟨h.1, ?_⟩
  rcases h.2 with h0 | ⟨g, cap, cur, hv, hb, r⟩
  · exact .inl h0
  · exact .inr ⟨g, cap, cur, hv, Nat.le_trans hB hb, r⟩
/-- tokens as cells, each with the value of its attributes' slice -/
def tokCells (l : List (U.Tok × Value)) : List Value := l.flatMap fun x => [.int .i64 (x.1.kind : Nat), .string ⟨x.1.name.toArray⟩, x.2, .bool x.1.self, .string ⟨x.1.text.toArray⟩]
theorem tokCells_length (l : List (U.Tok × Value)) : (tokCells l).length = l.length * 5 := by
  induction l with
  | nil => rfl
  | cons a l ih =>
    have : tokCells (a :: l) = .int .i64 (a.1.kind : Nat) :: .string ⟨a.1.name.toArray⟩ :: a.2 :: .bool a.1.self :: .string ⟨a.1.text.toArray⟩ :: tokCells l := rfl
    rw [this]
    simp only [List.length_cons]
    omega
theorem tokCells_append (a b : List (U.Tok × Value)) : tokCells (a ++ b) = tokCells a ++ tokCells b := by simp [tokCells]

/-- rows of different types lie in different blocks -/
theorem own_apart {w : World} {B B' : Nat} {e e' : TypeId} {n n' z z' : Nat} {v v' : Value} {xs xs' : List Value} (h : w.ownsRow B e z v n xs) (h' : w.ownsRow B' e' z' v' n' xs') (hne : e ≠ e') : v.ownBlock = none ∨ v.ownBlock ≠ v'.ownBlock := by
  rcases h.2 with ⟨rfl, _⟩ | ⟨g, cap, cur, rfl, _, hg, _⟩
  · exact .inl rfl
  right
  rcases h'.2 with ⟨rfl, _⟩ | ⟨g', cap', cur', rfl, _, hg', _⟩
  · simp [Value.ownBlock]
  · intro e0
    have : g = g' := by simpa [Value.ownBlock] using e0
    subst this
    rw [hg] at hg'
    injection hg' with hg'
    injection hg' with _ h2 _
    exact hne h2

theorem below_drewN {B : Nat} {a w : World} (h : Below B a w) (n : Nat) : Below B a (w.drewN n) := ⟨h.os, h.tape, h.output, h.size, h.block⟩

end Go.Proofs.YtankcnikebcpkaaGreatDoor

namespace Go.Proofs.YtankcnikebcpkaaGreatDoor
open Go.RowKit

/-- a slice that reads as these attributes, below block B -/
def RdA (w : World) (B : Nat) (v : Value) (al : List U.Att) : Prop := ∃ ao cap, v = .slice ao al.length cap ∧
  ∀ (i : Nat) (x : U.Att), al[i]? = some x → ∃ g o, ao = some ⟨g, o, none⟩ ∧ g < B ∧ w.cell? ⟨g, o + i * 2, none⟩ = some (.string ⟨x.1.toArray⟩) ∧ w.cell? ⟨g, o + i * 2 + 1, none⟩ = some (.string ⟨x.2.toArray⟩)
theorem RdA.keep {w w' : World} {B : Nat} {v : Value} {al : List U.Att} (h : RdA w B v al) (hk : ∀ p : Addr, p.block < B → w'.cell? p = w.cell? p) : RdA w' B v al := by
  obtain ⟨ao, cap, rfl, hc⟩ := h
  refine ⟨ao, cap, rfl, fun i x hx => ?_⟩
  obtain ⟨g, o, e, hb, c1, c2⟩ := hc i x hx
  exact ⟨g, o, e, hb, (hk _ hb).trans c1, (hk _ hb).trans c2⟩
theorem RdA.of_own {w : World} {B n : Nat} {v : Value} {al : List U.Att} (h : w.ownsRow B 52 2 v n (attCells al)) (hn : n = al.length) : RdA w w.heap.size v al := by
  subst hn
  obtain ⟨ao, cap, rfl⟩ := own_form h
  refine ⟨ao, cap, rfl, fun i x hx => ?_⟩
  obtain ⟨g, c, e, c1, c2⟩ := row_att h hx
  injection e with e1 e2 e3
  subst e1
  have hlt : g < w.heap.size := (h.lt g rfl).2
  exact ⟨g, 0, rfl, hlt, by rw [Nat.zero_add]; exact c1, by rw [Nat.zero_add]; exact c2⟩

/-- a slice that reads as these tokens, below block B -/
def RdT (w : World) (B : Nat) (v : Value) (ts : List U.Tok) : Prop := ∃ ao cap, v = .slice ao ts.length cap ∧
  ∀ (i : Nat) (t : U.Tok), ts[i]? = some t → ∃ g o av, ao = some ⟨g, o, none⟩ ∧ g < B ∧ w.cell? ⟨g, o + i * 5, none⟩ = some (.int .i64 t.kind) ∧ w.cell? ⟨g, o + i * 5 + 1, none⟩ = some (.string ⟨t.name.toArray⟩) ∧
    w.cell? ⟨g, o + i * 5 + 2, none⟩ = some av ∧ w.cell? ⟨g, o + i * 5 + 3, none⟩ = some (.bool t.self) ∧ w.cell? ⟨g, o + i * 5 + 4, none⟩ = some (.string ⟨t.text.toArray⟩) ∧ RdA w B av t.attrs ∧ t.attrs.length ≤ 1048576
theorem RdT.keep {w w' : World} {B : Nat} {v : Value} {ts : List U.Tok} (h : RdT w B v ts) (hk : ∀ p : Addr, p.block < B → w'.cell? p = w.cell? p) : RdT w' B v ts := by
  obtain ⟨ao, cap, rfl, hc⟩ := h
  refine ⟨ao, cap, rfl, fun i t ht => ?_⟩
  obtain ⟨g, o, av, e, hb, c0, c1, c2, c3, c4, hA, hl⟩ := hc i t ht
  exact ⟨g, o, av, e, hb, (hk _ hb).trans c0, (hk _ hb).trans c1, (hk _ hb).trans c2, (hk _ hb).trans c3, (hk _ hb).trans c4, hA.keep hk, hl⟩
theorem RdT.below {w w' : World} {B : Nat} {v : Value} {ts : List U.Tok} (h : RdT w B v ts) (hb : Below B w w') : RdT w' B v ts := h.keep fun _ hp => hb.cell hp
theorem RdA.more {w : World} {B B' : Nat} {v : Value} {al : List U.Att} (h : RdA w B v al) (hB : B ≤ B') : RdA w B' v al := by
  obtain ⟨ao, cap, rfl, hc⟩ := h
  refine ⟨ao, cap, rfl, fun i x hx => ?_⟩
  obtain ⟨g, o, e, hb, c1, c2⟩ := hc i x hx
  exact ⟨g, o, e, by omega, c1, c2⟩
theorem RdT.more {w : World} {B B' : Nat} {v : Value} {ts : List U.Tok} (h : RdT w B v ts) (hB : B ≤ B') : RdT w B' v ts := by
  obtain ⟨ao, cap, rfl, hc⟩ := h
  refine ⟨ao, cap, rfl, fun i t ht => ?_⟩
  obtain ⟨g, o, av, e, hb, c0, c1, c2, c3, c4, hA, hl⟩ := hc i t ht
  exact ⟨g, o, av, e, by omega, c0, c1, c2, c3, c4, hA.more hB, hl⟩

/-- the cells of a token in a row -/
theorem row_tok {w : World} {B n : Nat} {v : Value} {l : List (U.Tok × Value)} (h : w.ownsRow B 33 5 v n (tokCells l)) {i : Nat} {x : U.Tok × Value} (hx : l[i]? = some x) :
    ∃ g cap, v = .slice (some ⟨g, 0, none⟩) n cap ∧ w.cell? ⟨g, i * 5, none⟩ = some (.int .i64 (x.1.kind : Nat)) ∧ w.cell? ⟨g, i * 5 + 1, none⟩ = some (.string ⟨x.1.name.toArray⟩) ∧ w.cell? ⟨g, i * 5 + 2, none⟩ = some x.2 ∧ w.cell? ⟨g, i * 5 + 3, none⟩ = some (.bool x.1.self) ∧ w.cell? ⟨g, i * 5 + 4, none⟩ = some (.string ⟨x.1.text.toArray⟩) := by
  have hg : ∀ (l : List (U.Tok × Value)) (i : Nat), l[i]? = some x → (tokCells l)[i * 5]? = some (.int .i64 (x.1.kind : Nat)) ∧ (tokCells l)[i * 5 + 1]? = some (.string ⟨x.1.name.toArray⟩) ∧ (tokCells l)[i * 5 + 2]? = some x.2 ∧ (tokCells l)[i * 5 + 3]? = some (.bool x.1.self) ∧ (tokCells l)[i * 5 + 4]? = some (.string ⟨x.1.text.toArray⟩) := by
    intro l
    induction l with
    | nil => intro i hi; simp at hi
    | cons a l ih =>
      intro i hi
      have e : tokCells (a :: l) = .int .i64 (a.1.kind : Nat) :: .string ⟨a.1.name.toArray⟩ :: a.2 :: .bool a.1.self :: .string ⟨a.1.text.toArray⟩ :: tokCells l := rfl
      cases i with
      | zero => simp at hi; subst hi; rw [e]; exact ⟨rfl, rfl, rfl, rfl, rfl⟩
      | succ i =>
        have := ih i (by simpa using hi)
        rw [e, show (i + 1) * 5 = i * 5 + 1 + 1 + 1 + 1 + 1 by omega]
        simpa using this
  obtain ⟨h0, h1, h2, h3, h4⟩ := hg l i hx
  rcases h.2 with ⟨rfl, hn⟩ | ⟨g, cap, cur, rfl, _⟩
  · have h9 := h.1
    rw [hn] at h9
    have : tokCells l = [] := List.length_eq_zero_iff.1 (by omega)
    rw [this] at h0
    simp at h0
  · have ea : ∀ j, (⟨g, 0, none⟩ : Addr).add j = ⟨g, j, none⟩ := fun j => by cases j <;> simp [Addr.add]
    have c0 := h.cells (g := g) rfl _ _ h0
    have c1 := h.cells (g := g) rfl _ _ h1
    have c2 := h.cells (g := g) rfl _ _ h2
    have c3 := h.cells (g := g) rfl _ _ h3
    have c4 := h.cells (g := g) rfl _ _ h4
    rw [ea] at c0 c1 c2 c3 c4
    exact ⟨g, cap, rfl, c0, c1, c2, c3, c4⟩
theorem RdT.of_own {w : World} {B B2 : Nat} {v : Value} {l : List (U.Tok × Value)} (h : w.ownsRow B 33 5 v l.length (tokCells l)) (ha : ∀ x ∈ l, w.ownsRow B2 52 2 x.2 x.1.attrs.length (attCells x.1.attrs)) (hs : ∀ x ∈ l, x.1.attrs.length ≤ 1048576) : RdT w w.heap.size v (l.map (·.1)) := by
  obtain ⟨ao, cap, rfl⟩ := own_form h
  refine ⟨ao, cap, by rw [List.length_map], fun i t ht => ?_⟩
  obtain ⟨x, hx, rfl⟩ : ∃ x, l[i]? = some x ∧ x.1 = t := by
    rw [List.getElem?_map] at ht
    cases hx : l[i]? with
    | none => rw [hx] at ht; cases ht
    | some x => rw [hx] at ht; exact ⟨x, rfl, by simpa using ht⟩
  obtain ⟨g, cap2, e, c0, c1, c2, c3, c4⟩ := row_tok h hx
  injection e with e1 _ _
  subst e1
  have hm := List.mem_of_getElem? hx
  have hlt : g < w.heap.size := (h.lt g rfl).2
  refine ⟨g, 0, x.2, rfl, hlt, ?_, ?_, ?_, ?_, ?_, RdA.of_own (ha x hm) rfl, hs x hm⟩ <;> rw [Nat.zero_add] <;> assumption

end Go.Proofs.YtankcnikebcpkaaGreatDoor

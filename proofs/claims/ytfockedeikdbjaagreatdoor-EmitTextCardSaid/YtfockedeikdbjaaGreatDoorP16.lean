/- Several texts in one: NameMath, RefName, Calm. -/
import Derived.Lib.DecodeN
import Derived.Shelf.GgClosure.StringsIndexFunc
import Derived.Outline
import Derived.WalkSpells
import Derived.Deep.QuietTactic
import Derived.BigQuiet
import Derived.Deep.Quiet
import Derived.Shelf.Abstract
import Derived.Laws.EntriesVeiled
import Derived.Test.YtfockedeikdbjaaGreatDoorP02
import Derived.Test.YtfockedeikdbjaaGreatDoorP05
namespace Go.Proofs.YtfockedeikdbjaaGreatDoor

/-- a rune that no name may have -/
def otherR (x : Nat) : Bool := !(decide (97 ≤ x) && decide (x ≤ 122)) && (!(x == 45) && (decide (x < 48) || decide (57 < x)))
theorem other_high {x : Nat} (h : 128 ≤ x) : otherR x = true := by
  unfold otherR
  rw [decide_eq_false (by omega : ¬ x ≤ 122), beq_eq_false_iff_ne.2 (by omega : x ≠ 45), decide_eq_true (by omega : 57 < x)]
  simp
theorem other_byte (b : UInt8) : otherR b.toNat = !U.nameB2 b := by
  unfold otherR U.nameB2 U.small
  have e : (b == 45) = (b.toNat == 45) := by
    rw [Bool.eq_iff_iff, beq_iff_eq, beq_iff_eq]
    constructor
    · rintro rfl; rfl
    · intro h; exact UInt8.toNat.inj h
  rw [e]
  have e2 : (decide (b.toNat < 48) || decide (57 < b.toNat)) = !(decide (48 ≤ b.toNat) && decide (b.toNat ≤ 57)) := by
    rw [Bool.not_and, ← decide_not, ← decide_not, decide_eq_decide.2 (Nat.not_le (a := 48)), decide_eq_decide.2 (Nat.not_le (b := 57))]
  rw [e2]
  simp only [Bool.not_or]
  rw [Bool.and_assoc]
theorem decodeN_high (n b0 b1 b2 b3 : Nat) (h : 128 ≤ b0) : 128 ≤ (Lib.decodeN n b0 b1 b2 b3).1 := by
  unfold Lib.decodeN
  rw [if_neg (by omega)]
  repeat' split
  all_goals first | omega | (simp only; omega) | (rename_i h2; simp only; omega)
theorem get_bang (s : ByteArray) {k : Nat} (h : k < s.size) : s.get! k = s[k]'h := by
  have : s.data[k]! = s.data[k]'h := getElem!_pos s.data k h
  exact this
theorem idx_other (s : ByteArray) : ∀ (f pos : Nat), s.size ≤ pos + f → decide (0 ≤ Lib.idxFuncFrom otherR true s f pos) = !((s.data.toList.drop pos).all U.nameB2)
  | 0, pos, h => by
    have hl : s.data.toList.length = s.size := by rw [Array.length_toList]; rfl
    rw [List.drop_eq_nil_of_le (by omega)]
    rfl
  | f + 1, pos, h => by
    have hl : s.data.toList.length = s.size := by rw [Array.length_toList]; rfl
    unfold Lib.idxFuncFrom
    by_cases hp : pos < s.size
    · rw [if_pos hp]
      have hg : s.data.toList[pos]'(by omega) = s.get! pos := by rw [get_bang s hp]; rfl
      rw [List.drop_eq_getElem_cons (by omega : pos < s.data.toList.length), List.all_cons, hg, Lib.decode_at]
      by_cases hb : (s.get! pos).toNat < 128
      · have hd : ∀ n b1 b2 b3, Lib.decodeN n (s.get! pos).toNat b1 b2 b3 = ((s.get! pos).toNat, 1) := fun n b1 b2 b3 => by simp [Lib.decodeN, hb]
        rw [hd]
        simp only
        rw [other_byte]
        cases hn : U.nameB2 (s.get! pos) with
        | false =>
          rw [if_pos (by rfl)]
          rw [decide_eq_true (by omega)]
          rfl
        | true =>
          rw [if_neg (by simp), Bool.true_and]
          exact idx_other s f (pos + 1) (by omega)
      · have hd := decodeN_high (s.size - pos) (s.get! pos).toNat (s.get! (pos + 1)).toNat (s.get! (pos + 2)).toNat (s.get! (pos + 3)).toNat (by omega)
        rw [if_pos (other_high hd), decide_eq_true (by omega)]
        have hn : U.nameB2 (s.get! pos) = false := by
          have h1 := other_byte (s.get! pos)
          rw [other_high (by omega)] at h1
          simpa using h1.symm
        rw [hn]
        rfl
    · rw [if_neg hp, List.drop_eq_nil_of_le (by omega)]
      rfl
theorem idx_name (s : ByteArray) : decide (0 ≤ Lib.idxFunc otherR true s) = !(s.data.toList.all U.nameB2) := idx_other s s.size 0 (by omega)

end Go.Proofs.YtfockedeikdbjaaGreatDoor

namespace Go.Proofs.YtfockedeikdbjaaGreatDoor
open Go.RowKit

theorem isName_iff (l : List UInt8) : U.isName l = true ↔ 1 ≤ l.length ∧ l.length ≤ 12 ∧ (∀ b, l[0]? = some b → U.small b = true) ∧ l.all U.nameB2 = true := by
  cases l with
  | nil => simp [U.isName]
  | cons c r =>
    unfold U.isName
    rw [Bool.and_eq_true, Bool.and_eq_true, decide_eq_true_eq, List.all_cons, Bool.and_eq_true]
    constructor
    · rintro ⟨⟨h1, h2⟩, h3⟩
      refine ⟨by simp, by simp; omega, ?_, (U.small_facts h1).2, h2⟩
      intro b hb
      simp at hb
      exact hb ▸ h1
    · rintro ⟨_, h2, h3, h4⟩
      refine ⟨⟨h3 c rfl, h4.2⟩, ?_⟩
      simp at h2
      omega
theorem small_iff (b : UInt8) : U.small b = true ↔ 97 ≤ b.toNat ∧ b.toNat ≤ 122 := by
  unfold U.small
  rw [Bool.and_eq_true, decide_eq_true_eq, decide_eq_true_eq]
theorem nameB2_iff (b : UInt8) : U.nameB2 b = true ↔ (97 ≤ b.toNat ∧ b.toNat ≤ 122) ∨ b.toNat = 45 ∨ (48 ≤ b.toNat ∧ b.toNat ≤ 57) := by
  unfold U.nameB2
  rw [Bool.or_eq_true, Bool.or_eq_true, small_iff, Bool.and_eq_true, decide_eq_true_eq, decide_eq_true_eq, beq_iff_eq]
  have : b = 45 ↔ b.toNat = 45 := ⟨fun h => by rw [h]; rfl, fun h => UInt8.toNat.inj h⟩
  rw [this]
  omega
theorem all_grow {l : List UInt8} {k : Nat} {b : UInt8} (h : (l.take k).all U.nameB2 = true) (hb : l[k]? = some b) (hn : U.nameB2 b = true) : (l.take (k + 1)).all U.nameB2 = true := by
  obtain ⟨hk, e⟩ := List.getElem?_eq_some_iff.1 hb
  rw [List.take_succ_eq_append_getElem hk, e, List.all_append, h]
  simp [hn]
theorem not_name {l : List UInt8} {k : Nat} {b : UInt8} (hb : l[k]? = some b) (hn : U.nameB2 b = false ∨ (k = 0 ∧ U.small b = false)) : U.isName l = false := by
  cases h : U.isName l with
  | false => rfl
  | true =>
    obtain ⟨_, _, h3, h4⟩ := (isName_iff l).1 h
    rcases hn with hn | ⟨rfl, hn⟩
    · have := List.all_eq_true.1 h4 b (List.mem_of_getElem? hb)
      rw [hn] at this
      cases this
    · have := h3 b hb
      rw [hn] at this
      cases this


end Go.Proofs.YtfockedeikdbjaaGreatDoor

namespace Go.Proofs.YtfockedeikdbjaaGreatDoor
open Go.RowKit

/-- a region that draws its order, whose operations are quiet in a class of worlds: a callee may leave any world of the class -/
theorem wp_calm {P : Program} {id : Nat} {Q : Exit → Act → World → Prop} {a : Act} {w : World} {l : List Oper} (X : Type) (F : X → World) (hm : P.follows .mixedOrders = true) (hB : Region.lexB .any l.toArray = true) (hC : ∃ x, w.drew = F x)
    (h : wpQuiet P l.toArray (fun w' => ∃ x, w' = F x) (fun a' => ∀ w', (∃ x, w' = F x) → Q .normal a' w') l a) : (Code.region id l.toArray true).wp P Q a w :=
  wp_region_quiet (C := fun w' => ∃ x, w' = F x) hm hB hC (by simpa using h)
/-- the worlds behind one in which a cell holds something -/
theorem cell_class {wr : World} {p : Addr} {v : Value} (c0 : wr.cell? p = some v) (hp : p.block < wr.heap.size) :
    ∃ (X : Type) (F : X → World), (∀ x, (F x).cell? p = some v) ∧ (∀ x, Below wr.heap.size wr (F x)) ∧ (∃ x, wr.drew = F x) ∧ (∀ x w2, Below (F x).heap.size (F x) w2 → ∃ y, w2 = F y) :=
  ⟨{w' // Below wr.heap.size wr w'}, Subtype.val, fun x => (x.2.cell hp).trans c0, fun x => x.2, ⟨⟨wr.drew, below_drewN (Below.refl _ _) 1⟩, rfl⟩, fun x w2 h => ⟨⟨w2, x.2.trans (h.mono x.2.size)⟩, rfl⟩⟩

end Go.Proofs.YtfockedeikdbjaaGreatDoor

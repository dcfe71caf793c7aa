/- Words for memory that the walks share: a slice that reads as a list of numbers or of bytes; an iterator's block beside a row of the call's own. -/
import Derived.Test.YtonchdhchaiikaaRunes
import Derived.Test.YtonchdhchaiikaaProg
import Derived.WalkKit
import Derived.BigCall
import Derived.Below
import Derived.Laws.OwnMore
import Derived.Lib.Hide
import Derived.Lib.OthersKept
import Derived.WalkLawsBesides
import Derived.WalkSpells
import Derived.BigQuiet
import Derived.Deep.QuietTactic
namespace Go.Proofs.Ytonchdhchaiikaa
open Go.RowKit

/-- numbers as cells -/
def ints (l : List Nat) : List Value := l.map fun k : Nat => Value.int .i64 (k : Int)
theorem ints_length (l : List Nat) : (ints l).length = l.length := by simp [ints]
theorem ints_append (a b : List Nat) : ints (a ++ b) = ints a ++ ints b := by simp [ints]
theorem ints_one (k : Nat) : ints [k] = [.int .i64 k] := rfl
theorem ints_get {l : List Nat} {j : Nat} {k : Nat} (h : l[j]? = some k) : (ints l)[j]? = some (.int .i64 (k : Int)) := by simp [ints, h]

theorem info3 : (Try.prog.info? 3).map (fun i => (i.zero, i.size, i.bytes)) = some (some (.int .i64 0), 1, 8) := by kernel_rfl
theorem info5 : (Try.prog.info? 5).map (fun i => (i.zero, i.size, i.bytes)) = some (some (.int .u8 0), 1, 1) := by kernel_rfl

/-- a row of the call's own is no iterator -/
theorem own_ne_iter {w : World} {base : Nat} {e : TypeId} {size n : Nat} {v : Value} {xs : List Value} {k : Nat} {s : ByteArray} {pos : Nat}
    (h : w.ownsRow base e size v n xs) (hk : w.heap[k]? = some (.stringIter s pos)) : v.ownBlock ≠ some k := by
  rcases h.2 with ⟨rfl, _⟩ | ⟨g, cap, cur, rfl, _, hg, _⟩
  · simp [Value.ownBlock]
  · intro e
    have : g = k := by simpa [Value.ownBlock] using e
    subst this
    rw [hg] at hk
    cases hk

theorem own_form {w : World} {base : Nat} {e : TypeId} {size n : Nat} {v : Value} {xs : List Value} (h : w.ownsRow base e size v n xs) : ∃ ao cap, v = .slice ao n cap := by
  rcases h.2 with ⟨rfl, rfl⟩ | ⟨g, cap, cur, rfl, _⟩
  · exact ⟨none, 0, rfl⟩
  · exact ⟨_, _, rfl⟩

theorem iter_lt {w : World} {k : Nat} {s : ByteArray} {pos : Nat} (hk : w.heap[k]? = some (.stringIter s pos)) : k < w.heap.size :=
  (Array.getElem?_eq_some_iff.1 hk).1

/-- a row of the call's own, while an iterator moves on -/
theorem own_iterAt {w : World} {base : Nat} {e : TypeId} {size n : Nat} {v : Value} {xs : List Value} {k : Nat} {s : ByteArray} {pos : Nat}
    (h : w.ownsRow base e size v n xs) (hk : w.heap[k]? = some (.stringIter s pos)) (pos' : Nat) : (w.iterAt k s pos').ownsRow base e size v n xs := by
  have hne := own_ne_iter h hk
  refine ⟨h.1, ?_⟩
  rcases h.2 with h0 | ⟨g, cap, cur, hv, hb, hg, r⟩
  · exact .inl h0
  · refine .inr ⟨g, cap, cur, hv, hb, ?_, r⟩
    have : g ≠ k := by
      intro e
      subst e
      subst hv
      exact hne rfl
    rw [Lib.iterAt_other _ _ _ _ _ this]
    exact hg

/-- a slice's address, and the numbers that lie there, below block B -/
def Rd (w : World) (B : Nat) (ao : Option Addr) (zs : List Int) : Prop :=
  ∀ (k : Nat) (z : Int), zs[k]? = some z → ∃ ad, ao = some ad ∧ ad.block < B ∧ w.cell? (ad.add k) = some (.int .i64 z)

theorem add_block (a : Addr) (n : Nat) : (a.add n).block = a.block := by unfold Addr.add; split <;> rfl

theorem Rd.keep {w w' : World} {B : Nat} {ao : Option Addr} {zs : List Int} (h : Rd w B ao zs) (hk : ∀ p : Addr, p.block < B → w'.cell? p = w.cell? p) : Rd w' B ao zs := by
  intro k z hz
  obtain ⟨ad, e, hb, hc⟩ := h k z hz
  exact ⟨ad, e, hb, (hk _ (by rw [add_block]; exact hb)).trans hc⟩
theorem Rd.below {w w' : World} {B : Nat} {ao : Option Addr} {zs : List Int} (h : Rd w B ao zs) (hb : Below B w w') : Rd w' B ao zs := h.keep fun _ hp => hb.cell hp
theorem Rd.more {w : World} {B B' : Nat} {ao : Option Addr} {zs : List Int} (h : Rd w B ao zs) (hB : B ≤ B') : Rd w B' ao zs := by
  intro k z hz
  obtain ⟨ad, e, hb, hc⟩ := h k z hz
  exact ⟨ad, e, by omega, hc⟩
theorem Rd.of_own {w : World} {B n cap : Nat} {e : TypeId} {ao : Option Addr} {l : List Nat} (h : w.ownsRow B e 1 (.slice ao n cap) n (ints l)) : Rd w w.heap.size ao (l.map Int.ofNat) := by
  intro k z hz
  have hl : l.length = n := by have := h.1; rw [ints_length] at this; omega
  have hk : k < l.length := by
    have := (List.getElem?_eq_some_iff.1 hz).1
    simpa using this
  rcases h.2 with ⟨hv, h0⟩ | ⟨g, cap', cur, hv, hb, hg, _⟩
  · omega
  · injection hv with hv _ _
    subst hv
    refine ⟨_, rfl, (Array.getElem?_eq_some_iff.1 hg).1, ?_⟩
    have := h.cells (g := g) rfl k (.int .i64 (l[k] : Int)) (ints_get (List.getElem?_eq_getElem hk))
    rw [this]
    simp at hz
    obtain ⟨x, hx, e⟩ := hz
    rw [List.getElem?_eq_getElem hk] at hx
    injection hx with hx
    rw [hx, e]

end Go.Proofs.Ytonchdhchaiikaa

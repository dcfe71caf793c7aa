/- A region that draws its order, whose callees may make memory. -/
import Derived.Test.YtmfkefcdddoooaaAtts
import Derived.WalkSpells
import Derived.Deep.QuietTactic
import Derived.BigQuiet
import Derived.Deep.Quiet
import Derived.Shelf.Abstract
import Derived.Laws.EntriesVeiled
namespace Go.Proofs.Ytmfkefcdddoooaa
open Go.RowKit

/-- a region that draws its order, whose operations are quiet in a class of worlds: a callee may leave any world of the class -/
theorem wp_calm {P : Program} {id : Nat} {Q : Exit → Act → World → Prop} {a : Act} {w : World} {l : List Oper} (X : Type) (F : X → World) (hm : P.follows .mixedOrders = true) (hB : Region.lexB .any l.toArray = true) (hC : ∃ x, w.drew = F x)
    (h : wpQuiet P l.toArray (fun w' => ∃ x, w' = F x) (fun a' => ∀ w', (∃ x, w' = F x) → Q .normal a' w') l a) : (Code.region id l.toArray true).wp P Q a w :=
  wp_region_quiet (C := fun w' => ∃ x, w' = F x) hm hB hC (by simpa using h)
/-- the worlds behind one in which a cell holds something -/
theorem cell_class {wr : World} {p : Addr} {v : Value} (c0 : wr.cell? p = some v) (hp : p.block < wr.heap.size) :
    ∃ (X : Type) (F : X → World), (∀ x, (F x).cell? p = some v) ∧ (∀ x, Below wr.heap.size wr (F x)) ∧ (∃ x, wr.drew = F x) ∧ (∀ x w2, Below (F x).heap.size (F x) w2 → ∃ y, w2 = F y) :=
  ⟨{w' // Below wr.heap.size wr w'}, Subtype.val, fun x => (x.2.cell hp).trans c0, fun x => x.2, ⟨⟨wr.drew, below_drewN (Below.refl _ _) 1⟩, rfl⟩, fun x w2 h => ⟨⟨w2, x.2.trans (h.mono x.2.size)⟩, rfl⟩⟩

end Go.Proofs.Ytmfkefcdddoooaa

/- A row of bytes as a string. -/
import Derived.Test.YtfloeijklogcfaaWords
import Derived.Laws.IdiomStrings
import Derived.Lib.BufferRead
namespace Go.Proofs.Ytfloeijklogcfaa
open Go.RowKit

theorem str_of_row {w : World} {B : Nat} {v : Value} {l : List UInt8} (h : w.ownsRow B 5 1 v l.length (Lib.byteCells l)) :
    (convert 41 9 v).run Try.prog w = .ok (.string ⟨l.toArray⟩) w := by
  rcases h.2 with ⟨rfl, h0⟩ | ⟨g, cap, cur, rfl, hb, hg, _⟩
  · have : l = [] := List.length_eq_zero_iff.1 h0
    subst this
    exact Lib.run_convert_nil_bytes w _ _ _ 0 Try.underlying41 Try.underlying5 Try.underlying9
  · exact run_convert_bytes_back w _ _ _ _ cap l Try.underlying41 Try.underlying5 Try.underlying9 (fun j hj => by
      exact h.cells (g := g) rfl j _ (by simp [Lib.byteCells, hj]))

end Go.Proofs.Ytfloeijklogcfaa

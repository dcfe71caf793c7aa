/-
  For all arguments: ShowParts returns true, and the arguments read as before: nodes are serialized one by one.
-/
import Derived.Test.YtmfkefcdddoooaaOpen
import Derived.Test.YtmfkefcdddoooaaShowPartsW
namespace Go.Proofs.Ytmfkefcdddoooaa
open Go.ChangeShapes Go.WideShapes Go.ChangeAt Go.RowKit
section
variable {H : Type} {enc : TypeId × Value → H} {P : Program}
/-- a slice of numbers, a number -/
theorem open_int_row2 {t e : TypeId} {base : Nat} {W : World} {v : Value} {d : DataW H} {p : List MemPlace} (ht : P.underlying t = some (.slice e)) (he : P.underlying e = some (.int .i64)) (hc : P.cellsOf e = 1)
    (hval : Value.okWide P W .any base t v) (h : DataW.Trod enc P W 0 (fun _ => true) true t v d p) :
    ∃ (ao : Option Addr) (cap : Nat) (xs : List Int), v = .slice ao xs.length cap ∧ xs.length ≤ cap ∧ cap ≤ maxLen ∧ Rd W W.heap.size ao xs ∧ xs.length ≤ maxLen ∧ (∀ n ∈ xs, (Lit.int .i64 n).wf = true) := by
  obtain ⟨a0, len, cap, rfl⟩ := okWide_slice ht hval
  obtain ⟨fuel, hf⟩ := h
  rcases open_ints ht he hc hf with ⟨hcs, hx⟩ | ⟨a, len', cap', zs, hcs, _, hl, hm, hz, hx, hcell, hwz⟩
  · simp [Value.cells] at hcs
    obtain ⟨rfl, rfl, rfl⟩ := hcs
    exact ⟨none, 0, [], rfl, Nat.zero_le _, Nat.zero_le _, fun k z hk => by simp at hk, Nat.zero_le _, fun n hn => by cases hn⟩
  · simp [Value.cells] at hcs
    obtain ⟨rfl, rfl, rfl⟩ := hcs
    simp only [if_true] at hz
    have hlen : (zs.take len).length = len := by rw [List.length_take]; omega
    refine ⟨some a, cap, zs.take len, by rw [hlen], by rw [hlen]; exact hl, hm, ?_, by omega, fun n hn => hwz n (List.mem_of_mem_take hn)⟩
    intro k z hk
    have hk2 : k < len := by
      have := (List.getElem?_eq_some_iff.1 hk).1
      omega
    have hc' := hcell k (by omega)
    rw [List.getElem?_take_of_lt hk2] at hk
    have e2 : zs.getD k 0 = z := by rw [List.getD_eq_getElem?_getD, hk]; rfl
    rw [e2] at hc'
    refine ⟨a, rfl, ?_, hc'⟩
    have := cell_lt hc'
    rwa [add_block] at this

theorem open_row_int2 {f : Func} {s : ChangeSpec} {apart : Bool} {t e u : TypeId} {base : Nat} {W : World} {args : Array Value} {ds gs : List (DataW H)} {before : List MemPlace}
    (hp : f.params = #[t, u]) (ht : P.underlying t = some (.slice e)) (he : P.underlying e = some (.int .i64)) (hc : P.cellsOf e = 1) (hu : P.underlying u = some (.int .i64)) (hv : s.vars = [])
    (hval : ∀ (j : Nat) t v, f.params[j]? = some t → args[j]? = some v → Value.okWide P W .any base t v)
    (hW : DataW.Whole enc P f.params.toList s.vars apart W args.toList ds gs before) :
    ∃ (ao : Option Addr) (ca : Nat) (xs : List Int) (n : Int) (d1 : DataW H), args = #[.slice ao xs.length ca, .int .i64 n] ∧ ds = [d1, .lit (.int .i64 n)] ∧ gs = [] ∧ xs.length ≤ ca ∧ ca ≤ maxLen ∧ Rd W W.heap.size ao xs ∧ xs.length ≤ maxLen ∧ (∀ n ∈ xs, (Lit.int .i64 n).wf = true) ∧ (Lit.int .i64 n).wf = true := by
  obtain ⟨p, q, hA, hV, _⟩ := hW
  rw [hp] at hA hval
  rw [hv] at hV
  obtain ⟨rfl, rfl⟩ := trodVars_none hV
  obtain ⟨v0, vs0, d0, ds0, p0, q0, hargs, rfl, rfl, h0, r0⟩ := trodAll_cons hA
  obtain ⟨v1, vs1, d1, ds1, p1, q1, rfl, rfl, rfl, h1, r1⟩ := trodAll_cons r0
  obtain ⟨rfl, rfl, rfl⟩ := trodAll_nil r1
  obtain rfl : args = #[v0, v1] := by cases args; simp_all
  obtain ⟨ao, ca, xs, rfl, hc1, hc2, hr1, hm1, hw1⟩ := open_int_row2 ht he hc (hval 0 t v0 rfl rfl) h0
  obtain ⟨n, rfl, rfl, rfl, hn⟩ := open_int hu (hval 1 u v1 rfl rfl) h1
  exact ⟨ao, ca, xs, n, d0, rfl, rfl, rfl, hc1, hc2, hr1, hm1, hw1, hn⟩
end

end Go.Proofs.Ytmfkefcdddoooaa

namespace Go.Proofs.Ytmfkefcdddoooaa.showParts
open Go.ChangeShapes Go.WideShapes Go.ChangeAt Go.RowKit

set_option maxRecDepth 100000 in
theorem lifted (os : Os) (started : os.Started) (H : Type) (enc : TypeId × Value → H) :
    ReturnsInHanded {} Try.checked os 8 .any (Rows.showPartsSpec.pre6 enc Try.prog Try.f8 Rows.showPartsRow.domain false) (Rows.showPartsSpec.post enc Try.prog Try.f8 false true false false) := by
  refine returnsInHanded_of_change (C := Try.checked) own started (by kernel_rfl) Try.func8
    (ChangeSpec.witness6 (enc := enc) (C := Try.checked) false ⟨#[], #[.slice none 0 0, .int .i64 0], []⟩ 8 (by kernel_rfl) (by kernel_rfl) (by kernel_rfl) (by kernel_rfl)) ?_
  intro W base args ds gs before hval hW _ _
  obtain ⟨ao, cap, xs, n, d1, rfl, rfl, rfl, hc1, hc2, hR, _⟩ := open_row_int2 Try.params8 Try.underlying22 Try.underlying3 (by kernel_rfl) Try.underlying3 rfl hval hW
  refine (showparts_walk ao cap xs n W hc1 hc2 hR).mono fun e W' ⟨he, hbw⟩ => ?_
  subst he
  exact ⟨_, rfl, law_post laidOut (by decide +kernel) (by kernel_rfl) Try.underlying4 rfl rfl hW hbw⟩

theorem proved : Rows.ShowPartsSaid :=
  OpenClaim.holds_of_wide 8 Try.f8 rfl rfl rfl rfl rfl rfl rfl ⟨rfl, rfl, rfl, rfl, rfl⟩ rfl rfl rfl rfl rfl (by kernel_rfl) Try.func8 (by kernel_rfl)
    (of_decide_eq_true (by kernel_rfl)) (by unfold Func.isWrapper; first | (rw [if_pos (by decide +kernel)]; kernel_rfl) | (rw [if_neg (by decide +kernel)]; exact ⟨rfl, rfl⟩))
    (fun os started H enc _ => lifted os started H enc)
end Go.Proofs.Ytmfkefcdddoooaa.showParts

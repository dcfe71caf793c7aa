/- The arguments of a law, opened: a slice of numbers and a number; two slices; two slices and a bool. -/
import Derived.Test.YtkmjngpgngkalaaDoorOpen
namespace Go.Proofs.YtkmjngpgngkalaaDoor
open Go.ChangeShapes Go.WideShapes Go.ChangeAt Go.RowKit
section
variable {H : Type} {enc : TypeId × Value → H} {P : Program}
/-- a slice of numbers, a number -/
theorem open_row_int {f : Func} {s : ChangeSpec} {apart : Bool} {t e u : TypeId} {base : Nat} {W : World} {args : Array Value} {ds gs : List (DataW H)} {before : List MemPlace}
    (hp : f.params = #[t, u]) (ht : P.underlying t = some (.slice e)) (he : P.underlying e = some (.int .i64)) (hc : P.cellsOf e = 1) (hu : P.underlying u = some (.int .i64)) (hv : s.vars = [])
    (hval : ∀ (j : Nat) t v, f.params[j]? = some t → args[j]? = some v → Value.okWide P W .any base t v)
    (hW : DataW.Whole enc P f.params.toList s.vars apart W args.toList ds gs before) :
    ∃ (ao : Option Addr) (ca : Nat) (xs : List Int) (n : Int) (d1 : DataW H), args = #[.slice ao xs.length ca, .int .i64 n] ∧ ds = [d1, .lit (.int .i64 n)] ∧ gs = [] ∧ Rd W W.heap.size ao xs ∧ xs.length ≤ maxLen ∧ (∀ n ∈ xs, (Lit.int .i64 n).wf = true) ∧ (Lit.int .i64 n).wf = true := by
  obtain ⟨p, q, hA, hV, _⟩ := hW
  rw [hp] at hA hval
  rw [hv] at hV
  obtain ⟨rfl, rfl⟩ := trodVars_none hV
  obtain ⟨v0, vs0, d0, ds0, p0, q0, hargs, rfl, rfl, h0, r0⟩ := trodAll_cons hA
  obtain ⟨v1, vs1, d1, ds1, p1, q1, rfl, rfl, rfl, h1, r1⟩ := trodAll_cons r0
  obtain ⟨rfl, rfl, rfl⟩ := trodAll_nil r1
  obtain rfl : args = #[v0, v1] := by cases args; simp_all
  obtain ⟨ao, ca, xs, rfl, hr1, hm1, hw1⟩ := open_int_row ht he hc (hval 0 t v0 rfl rfl) h0
  obtain ⟨n, rfl, rfl, rfl, hn⟩ := open_int hu (hval 1 u v1 rfl rfl) h1
  exact ⟨ao, ca, xs, n, d0, rfl, rfl, rfl, hr1, hm1, hw1, hn⟩
/-- two slices of numbers, a bool -/
theorem open_two_rows_bool {f : Func} {s : ChangeSpec} {apart : Bool} {t e u : TypeId} {base : Nat} {W : World} {args : Array Value} {ds gs : List (DataW H)} {before : List MemPlace}
    (hp : f.params = #[t, t, u]) (ht : P.underlying t = some (.slice e)) (he : P.underlying e = some (.int .i64)) (hc : P.cellsOf e = 1) (hu : P.underlying u = some .bool) (hv : s.vars = [])
    (hval : ∀ (j : Nat) t v, f.params[j]? = some t → args[j]? = some v → Value.okWide P W .any base t v)
    (hW : DataW.Whole enc P f.params.toList s.vars apart W args.toList ds gs before) :
    ∃ (ao : Option Addr) (ca : Nat) (xs : List Int) (bo : Option Addr) (cb : Nat) (ys : List Int) (b : Bool) (d1 d2 : DataW H), args = #[.slice ao xs.length ca, .slice bo ys.length cb, .bool b] ∧ ds = [d1, d2, .lit (.bool b)] ∧ gs = [] ∧ Rd W W.heap.size ao xs ∧ Rd W W.heap.size bo ys ∧ xs.length ≤ maxLen ∧ ys.length ≤ maxLen ∧
      (∀ n ∈ xs, (Lit.int .i64 n).wf = true) ∧ (∀ n ∈ ys, (Lit.int .i64 n).wf = true) := by
  obtain ⟨p, q, hA, hV, _⟩ := hW
  rw [hp] at hA hval
  rw [hv] at hV
  obtain ⟨rfl, rfl⟩ := trodVars_none hV
  obtain ⟨v0, vs0, d0, ds0, p0, q0, hargs, rfl, rfl, h0, r0⟩ := trodAll_cons hA
  obtain ⟨v1, vs1, d1, ds1, p1, q1, rfl, rfl, rfl, h1, r1⟩ := trodAll_cons r0
  obtain ⟨v2, vs2, d2, ds2, p2, q2, rfl, rfl, rfl, h2, r2⟩ := trodAll_cons r1
  obtain ⟨rfl, rfl, rfl⟩ := trodAll_nil r2
  obtain rfl : args = #[v0, v1, v2] := by cases args; simp_all
  obtain ⟨ao, ca, xs, rfl, hr1, hm1, hw1⟩ := open_int_row ht he hc (hval 0 t v0 rfl rfl) h0
  obtain ⟨bo, cb, ys, rfl, hr2, hm2, hw2⟩ := open_int_row ht he hc (hval 1 t v1 rfl rfl) h1
  obtain ⟨b, rfl, rfl, rfl⟩ := open_bool hu (hval 2 u v2 rfl rfl) h2
  exact ⟨ao, ca, xs, bo, cb, ys, b, d0, d1, rfl, rfl, rfl, hr1, hr2, hm1, hm2, hw1, hw2⟩
/-- two slices of numbers -/
theorem open_two_rows3 {f : Func} {s : ChangeSpec} {apart : Bool} {t e : TypeId} {base : Nat} {W : World} {args : Array Value} {ds gs : List (DataW H)} {before : List MemPlace}
    (hp : f.params = #[t, t]) (ht : P.underlying t = some (.slice e)) (he : P.underlying e = some (.int .i64)) (hc : P.cellsOf e = 1) (hv : s.vars = [])
    (hval : ∀ (j : Nat) t v, f.params[j]? = some t → args[j]? = some v → Value.okWide P W .any base t v)
    (hW : DataW.Whole enc P f.params.toList s.vars apart W args.toList ds gs before) :
    ∃ (ao : Option Addr) (ca : Nat) (xs : List Int) (bo : Option Addr) (cb : Nat) (ys : List Int) (d1 d2 : DataW H), args = #[.slice ao xs.length ca, .slice bo ys.length cb] ∧ ds = [d1, d2] ∧ gs = [] ∧ Rd W W.heap.size ao xs ∧ Rd W W.heap.size bo ys ∧ xs.length ≤ maxLen ∧ ys.length ≤ maxLen ∧
      (∀ n ∈ xs, (Lit.int .i64 n).wf = true) ∧ (∀ n ∈ ys, (Lit.int .i64 n).wf = true) := by
  obtain ⟨ao, bo, ca, cb, xs, ys, d1, d2, rest⟩ := open_two_rows hp ht he hc hv hval hW
  exact ⟨ao, ca, xs, bo, cb, ys, d1, d2, rest⟩
end
end Go.Proofs.YtkmjngpgngkalaaDoor

/- Arguments that are automata, opened. -/
import Derived.Test.YtonchdhchaiikaaOpen
import Derived.Test.YtonchdhchaiikaaAu
import Derived.Deep.Slices
namespace Go.Proofs.Ytonchdhchaiikaa
open Go.ChangeShapes Go.WideShapes Go.ChangeAt Go.RowKit Go.Deep

section
variable {H : Type} {enc : TypeId × Value → H}
theorem addr_form {W : World} {a : Addr} {v : Value} (h : W.cell? a = some v) : ∃ g o, a = ⟨g, o, none⟩ := by
  obtain ⟨g, o, sp⟩ := a
  cases sp with
  | none => exact ⟨g, o, rfl⟩
  | some q =>
    exfalso
    unfold World.cell? at h
    simp only [Option.isSome_some, if_true] at h
    split at h <;> cases h
/-- a slice of elements of one cell, whatever they read as -/
theorem open_L {α : Type} [Inhabited α] {P : Program} {t e : TypeId} {W : World} {fuel : Nat} {cs : List Value} {x : DataW H × List MemPlace} (ht : P.underlying t = some (.slice e)) (hc : P.cellsOf e = 1) (R : Value → α → Prop)
    (hR : ∀ n v d, DataW.trod enc P W 0 (fun _ => true) true n e [v] = some d → ∃ y, R v y) (h : DataW.trod enc P W 0 (fun _ => true) true fuel t cs = some x) :
    ∃ (ao : Option Addr) (cap : Nat) (l : List α), cs = [.slice ao l.length cap] ∧ RdL R W (· < W.heap.size) (.slice ao l.length cap) l := by
  rcases open_slice1 ht hc h with ⟨rfl, rfl⟩ | ⟨a, len, cap, m, n, V, D, Pl, rfl, _, hl, hm, hmm, rfl, hi⟩
  · exact ⟨none, 0, [], rfl, none, 0, rfl, Nat.le_refl _, Nat.zero_le _, .inl rfl⟩
  · simp only [if_true] at hmm
    subst hmm
    obtain ⟨f, hf⟩ := choose_lt (α := α) (n := len) (p := fun i y => R (V i) y) (fun i hil => hR n (V i) _ (hi i (by omega)).2)
    have hlen : ((List.range len).map f).length = len := by simp
    refine ⟨some a, _, (List.range len).map f, by rw [hlen], some a, _, rfl, by rw [hlen]; exact hl, hm, ?_⟩
    by_cases h0 : len = 0
    · left
      rw [h0]
      rfl
    · right
      have c0 := (hi 0 (by omega)).1
      obtain ⟨g, o, ea⟩ := addr_form c0
      have ea2 : a = ⟨g, o, none⟩ := by
        obtain ⟨g', o', sp⟩ := a
        simp only [Addr.add] at ea
        simp_all
      subst ea2
      have ha : ∀ j, (⟨g, o, none⟩ : Addr).add j = ⟨g, o + j, none⟩ := fun j => by unfold Addr.add; split <;> simp_all
      refine ⟨g, o, rfl, by rw [ha] at c0; exact cell_lt c0, fun i y hy => ?_⟩
      have hil : i < len := by
        have := (List.getElem?_eq_some_iff.1 hy).1
        omega
      have hy2 : f i = y := by
        rw [List.getElem?_map, List.getElem?_range hil] at hy
        simpa using hy
      subst hy2
      have c1 := (hi i (by omega)).1
      rw [ha] at c1
      exact ⟨V i, c1, hf i hil⟩
theorem intCells : Try.prog.cellsOf 3 = 1 := by kernel_rfl
theorem boolCells : Try.prog.cellsOf 4 = 1 := by kernel_rfl
theorem rowCells : Try.prog.cellsOf 27 = 1 := by kernel_rfl
theorem rowsCells : Try.prog.cellsOf 22 = 1 := by kernel_rfl
theorem boolsCells : Try.prog.cellsOf 23 = 1 := by kernel_rfl
theorem auLen : Try.prog.cellsOf 25 = 2 := by kernel_rfl
theorem open_ints1 {W : World} {fuel : Nat} {cs : List Value} {x : DataW H × List MemPlace} (h : DataW.trod enc Try.prog W 0 (fun _ => true) true fuel 27 cs = some x) :
    ∃ (ao : Option Addr) (cap : Nat) (l : List Int), cs = [.slice ao l.length cap] ∧ RdI W (· < W.heap.size) (.slice ao l.length cap) l :=
  open_L Try.underlying27 intCells _ (fun n v d hd => by
    obtain ⟨k, e, _⟩ := DataW.trod_int Try.underlying3 hd
    exact ⟨k, by simpa using e⟩) h
theorem open_bools1 {W : World} {fuel : Nat} {cs : List Value} {x : DataW H × List MemPlace} (h : DataW.trod enc Try.prog W 0 (fun _ => true) true fuel 23 cs = some x) :
    ∃ (ao : Option Addr) (cap : Nat) (l : List Bool), cs = [.slice ao l.length cap] ∧ RdB W (· < W.heap.size) (.slice ao l.length cap) l :=
  open_L Try.underlying23 boolCells _ (fun n v d hd => by
    obtain ⟨k, e, _⟩ := DataW.trod_bool Try.underlying4 hd
    exact ⟨k, by simpa using e⟩) h
theorem open_rows1 {W : World} {fuel : Nat} {cs : List Value} {x : DataW H × List MemPlace} (h : DataW.trod enc Try.prog W 0 (fun _ => true) true fuel 22 cs = some x) :
    ∃ (ao : Option Addr) (cap : Nat) (l : List (List Int)), cs = [.slice ao l.length cap] ∧ RdII W (· < W.heap.size) (.slice ao l.length cap) l :=
  open_L Try.underlying22 rowCells _ (fun n v d hd => by
    obtain ⟨ao, cap, l, e, r⟩ := open_ints1 hd
    exact ⟨l, by have e2 : v = .slice ao l.length cap := by simpa using e
                 rw [e2]; exact r⟩) h
set_option maxRecDepth 100000 in
/-- an automaton as it was read -/
theorem open_au {W : World} {fuel : Nat} {cs : List Value} {x : DataW H × List MemPlace} (h : DataW.trod enc Try.prog W 0 (fun _ => true) true fuel 25 cs = some x) :
    ∃ (a : U.Au) (nv fv : Value), cs = [nv, fv] ∧ RdAu W (· < W.heap.size) nv fv a := by
  obtain ⟨xs, n, _, hx, hl, hxl, hf⟩ := DataW.trod_struct Try.underlying25 h
  rw [auLen] at hl
  match cs, hl with
  | [c0, c1], _ =>
    match xs, hxl with
    | [y0, y1], _ =>
      have h0 : DataW.trod enc Try.prog W 0 (fun _ => true) true n 22 (([c0, c1].drop 0).take (Try.prog.cellsOf 22)) = some y0 := hf 0 _ rfl
      have h1 : DataW.trod enc Try.prog W 0 (fun _ => true) true n 23 (([c0, c1].drop 1).take (Try.prog.cellsOf 23)) = some y1 := hf 1 _ rfl
      rw [rowsCells] at h0
      rw [boolsCells] at h1
      obtain ⟨ao, cap, l, e0, r0⟩ := open_rows1 h0
      obtain ⟨bo, bcap, bl, e1, r1⟩ := open_bools1 h1
      have e0' : c0 = .slice ao l.length cap := by simpa using e0
      have e1' : c1 = .slice bo bl.length bcap := by simpa using e1
      subst e0'
      subst e1'
      exact ⟨⟨l, bl⟩, _, _, rfl, r0, r1⟩
theorem open_au_arg {base : Nat} {W : World} {v : Value} {d : DataW H} {p : List MemPlace} (hval : Value.okWide Try.prog W .any base 25 v) (h : DataW.Trod enc Try.prog W 0 (fun _ => true) true 25 v d p) :
    ∃ (a : U.Au) (nv fv : Value), v = auVal nv fv ∧ RdAu W (· < W.heap.size) nv fv a := by
  obtain ⟨fuel, hf⟩ := h
  obtain ⟨a, nv, fv, hcs, hR⟩ := open_au hf
  obtain ⟨cs, rfl, hsz⟩ := okWide_struct Try.underlying25 hval
  have e : cs.toList = [nv, fv] := by simpa [Value.cells] using hcs
  have e2 : cs = #[nv, fv] := by
    apply Array.toList_inj.1
    rw [e]
  subst e2
  exact ⟨a, nv, fv, rfl, hR⟩
theorem open_ints_arg {base : Nat} {W : World} {v : Value} {d : DataW H} {p : List MemPlace} (hval : Value.okWide Try.prog W .any base 27 v) (h : DataW.Trod enc Try.prog W 0 (fun _ => true) true 27 v d p) :
    ∃ (l : List Int), RdI W (· < W.heap.size) v l := by
  obtain ⟨fuel, hf⟩ := h
  obtain ⟨ao, cap, l, hcs, hR⟩ := open_ints1 hf
  obtain ⟨a0, len, cap0, rfl⟩ := okWide_slice Try.underlying27 hval
  have e : Value.slice a0 len cap0 = .slice ao l.length cap := by simpa [Value.cells] using hcs
  rw [e]
  exact ⟨l, hR⟩
/-- one automaton -/
theorem open_one_au {f : Func} {s : ChangeSpec} {apart : Bool} {base : Nat} {W : World} {args : Array Value} {ds gs : List (DataW H)} {before : List MemPlace}
    (hp : f.params = #[25]) (hv : s.vars = []) (hval : ∀ (j : Nat) t v, f.params[j]? = some t → args[j]? = some v → Value.okWide Try.prog W .any base t v)
    (hW : DataW.Whole enc Try.prog f.params.toList s.vars apart W args.toList ds gs before) :
    ∃ (a : U.Au) (nv fv : Value) (d : DataW H), args = #[auVal nv fv] ∧ ds = [d] ∧ gs = [] ∧ RdAu W (· < W.heap.size) nv fv a := by
  obtain ⟨p, q, hA, hV, _⟩ := hW
  rw [hp] at hA hval
  rw [hv] at hV
  obtain ⟨rfl, rfl⟩ := trodVars_none hV
  obtain ⟨v0, vs0, d0, ds0, p0, q0, hargs, rfl, rfl, h0, r0⟩ := trodAll_cons hA
  obtain ⟨rfl, rfl, rfl⟩ := trodAll_nil r0
  obtain rfl : args = #[v0] := by cases args; simp_all
  obtain ⟨a, nv, fv, rfl, hR⟩ := open_au_arg (hval 0 _ v0 rfl rfl) h0
  exact ⟨a, nv, fv, d0, rfl, rfl, rfl, hR⟩
/-- an automaton, numbers -/
theorem open_au_row {f : Func} {s : ChangeSpec} {apart : Bool} {base : Nat} {W : World} {args : Array Value} {ds gs : List (DataW H)} {before : List MemPlace}
    (hp : f.params = #[25, 27]) (hv : s.vars = []) (hval : ∀ (j : Nat) t v, f.params[j]? = some t → args[j]? = some v → Value.okWide Try.prog W .any base t v)
    (hW : DataW.Whole enc Try.prog f.params.toList s.vars apart W args.toList ds gs before) :
    ∃ (a : U.Au) (nv fv : Value) (l : List Int) (v : Value) (d d1 : DataW H), args = #[auVal nv fv, v] ∧ ds = [d, d1] ∧ gs = [] ∧ RdAu W (· < W.heap.size) nv fv a ∧ RdI W (· < W.heap.size) v l := by
  obtain ⟨p, q, hA, hV, _⟩ := hW
  rw [hp] at hA hval
  rw [hv] at hV
  obtain ⟨rfl, rfl⟩ := trodVars_none hV
  obtain ⟨v0, vs0, d0, ds0, p0, q0, hargs, rfl, rfl, h0, r0⟩ := trodAll_cons hA
  obtain ⟨v1, vs1, d1, ds1, p1, q1, rfl, rfl, rfl, h1, r1⟩ := trodAll_cons r0
  obtain ⟨rfl, rfl, rfl⟩ := trodAll_nil r1
  obtain rfl : args = #[v0, v1] := by cases args; simp_all
  obtain ⟨a, nv, fv, rfl, hR⟩ := open_au_arg (hval 0 _ v0 rfl rfl) h0
  obtain ⟨l, hL⟩ := open_ints_arg (hval 1 _ v1 rfl rfl) h1
  exact ⟨a, nv, fv, l, v1, d0, d1, rfl, rfl, rfl, hR, hL⟩
/-- an automaton, a number -/
theorem open_au_int {f : Func} {s : ChangeSpec} {apart : Bool} {base : Nat} {W : World} {args : Array Value} {ds gs : List (DataW H)} {before : List MemPlace}
    (hp : f.params = #[25, 3]) (hv : s.vars = []) (hval : ∀ (j : Nat) t v, f.params[j]? = some t → args[j]? = some v → Value.okWide Try.prog W .any base t v)
    (hW : DataW.Whole enc Try.prog f.params.toList s.vars apart W args.toList ds gs before) :
    ∃ (a : U.Au) (nv fv : Value) (n : Int) (d d1 : DataW H), args = #[auVal nv fv, .int .i64 n] ∧ ds = [d, d1] ∧ gs = [] ∧ RdAu W (· < W.heap.size) nv fv a ∧ (Lit.int .i64 n).wf = true := by
  obtain ⟨p, q, hA, hV, _⟩ := hW
  rw [hp] at hA hval
  rw [hv] at hV
  obtain ⟨rfl, rfl⟩ := trodVars_none hV
  obtain ⟨v0, vs0, d0, ds0, p0, q0, hargs, rfl, rfl, h0, r0⟩ := trodAll_cons hA
  obtain ⟨v1, vs1, d1, ds1, p1, q1, rfl, rfl, rfl, h1, r1⟩ := trodAll_cons r0
  obtain ⟨rfl, rfl, rfl⟩ := trodAll_nil r1
  obtain rfl : args = #[v0, v1] := by cases args; simp_all
  obtain ⟨a, nv, fv, rfl, hR⟩ := open_au_arg (hval 0 _ v0 rfl rfl) h0
  obtain ⟨n, rfl, rfl, rfl, hn⟩ := open_int Try.underlying3 (hval 1 _ v1 rfl rfl) h1
  exact ⟨a, nv, fv, n, d0, _, rfl, rfl, rfl, hR, hn⟩
/-- two automata -/
theorem open_two_aus {f : Func} {s : ChangeSpec} {apart : Bool} {base : Nat} {W : World} {args : Array Value} {ds gs : List (DataW H)} {before : List MemPlace}
    (hp : f.params = #[25, 25]) (hv : s.vars = []) (hval : ∀ (j : Nat) t v, f.params[j]? = some t → args[j]? = some v → Value.okWide Try.prog W .any base t v)
    (hW : DataW.Whole enc Try.prog f.params.toList s.vars apart W args.toList ds gs before) :
    ∃ (a b : U.Au) (nv fv nw fw : Value) (d d1 : DataW H), args = #[auVal nv fv, auVal nw fw] ∧ ds = [d, d1] ∧ gs = [] ∧ RdAu W (· < W.heap.size) nv fv a ∧ RdAu W (· < W.heap.size) nw fw b := by
  obtain ⟨p, q, hA, hV, _⟩ := hW
  rw [hp] at hA hval
  rw [hv] at hV
  obtain ⟨rfl, rfl⟩ := trodVars_none hV
  obtain ⟨v0, vs0, d0, ds0, p0, q0, hargs, rfl, rfl, h0, r0⟩ := trodAll_cons hA
  obtain ⟨v1, vs1, d1, ds1, p1, q1, rfl, rfl, rfl, h1, r1⟩ := trodAll_cons r0
  obtain ⟨rfl, rfl, rfl⟩ := trodAll_nil r1
  obtain rfl : args = #[v0, v1] := by cases args; simp_all
  obtain ⟨a, nv, fv, rfl, hR⟩ := open_au_arg (hval 0 _ v0 rfl rfl) h0
  obtain ⟨b, nw, fw, rfl, hQ⟩ := open_au_arg (hval 1 _ v1 rfl rfl) h1
  exact ⟨a, b, nv, fv, nw, fw, d0, d1, rfl, rfl, rfl, hR, hQ⟩
end

end Go.Proofs.Ytonchdhchaiikaa

/- Several texts in one: Law, Open, Numbered, IsEnd. -/
import Derived.Test.YtankcnikebcpkaaGreatDoorRows
import Derived.Carry
import Derived.ProofKit
import Derived.OpenShut
import Derived.JoinedCond
import Derived.WalkKit
import Derived.Outline
import Derived.Test.YtankcnikebcpkaaGreatDoorShelf
import Derived.Lib.IndexAny
import Derived.Test.YtankcnikebcpkaaGreatDoorP05
import Derived.Test.YtankcnikebcpkaaGreatDoorParse
import Derived.Test.YtankcnikebcpkaaGreatDoorP02
import Derived.Test.YtankcnikebcpkaaGreatDoorP17
namespace Go.Proofs.YtankcnikebcpkaaGreatDoor
open Go.ChangeShapes Go.WideShapes Go.ChangeAt Go.RowKit
open Go.ChangeMaps (open_string shut_string)

theorem own : ownKnob Tryz.prog.godebug = none := by kernel_rfl
theorem laidOut : laidOutB Tryz.prog = true := by kernel_rfl

section
variable {H : Type} {enc : TypeId × Value → H} {P : Program}

theorem trodAll_later (hl : laidOutB P = true) {W W' : World} (hb : Below W.heap.size W W') {sp : Nat → Bool} :
    ∀ (ts : List TypeId) (vs : List Value) (ds : List (DataW H)) (ps : List MemPlace), (∀ t ∈ ts, P.readableRec t = true ∧ t < P.types.size) →
      DataW.TrodAll enc P W 0 (fun _ => true) true ts vs ds ps → (∀ x ∈ ps, x.block < W.heap.size) → (∀ x ∈ ps, sp x.block = true) → DataW.TrodAll enc P W' 0 sp true ts vs ds ps
  | [], [], [], _, _, h, _, _ => h
  | t :: ts, v :: vs, d :: ds, ps, ht, ⟨p, q, h1, h2, e⟩, hlt, hs => by
    subst e
    have ht0 := ht t (List.mem_cons_self ..)
    exact ⟨p, q, WideElems.Trod_stays hl ht0.1 ht0.2 h1 (fun x hx => hb.same (hlt x (List.mem_append_left _ hx))) (fun x hx => hs x (List.mem_append_left _ hx)),
      trodAll_later hl hb ts vs ds q (fun u hu => ht u (List.mem_cons_of_mem _ hu)) h2 (fun x hx => hlt x (List.mem_append_right _ hx)) (fun x hx => hs x (List.mem_append_right _ hx)), rfl⟩
  | [], [], _ :: _, _, _, h, _, _ => h.elim
  | [], _ :: _, _, _, _, h, _, _ => h.elim
  | _ :: _, [], _, _, _, h, _, _ => h.elim
  | _ :: _, _ :: _, [], _, _, h, _, _ => h.elim

/-- A law's last step: it returned true, and nothing below the heap's old size has turned. -/
theorem law_post {f : Func} {s : ChangeSpec} {apart fresh handsOn : Bool} {tb : TypeId} {W W' : World} {args : Array Value} {ds gs : List (DataW H)} {before : List MemPlace}
    (hl : laidOutB P = true) (hts : ∀ t ∈ f.params.toList, P.readableRec t = true ∧ t < P.types.size) (hr : f.resultTypes = #[tb]) (htb : P.underlying tb = some .bool)
    (hv : s.vars = []) (hfn : s.fn H (ds ++ gs) = { results := [.lit (.bool true)], args := ds })
    (hW : DataW.Whole enc P f.params.toList s.vars apart W args.toList ds gs before) (hb : Below W.heap.size W W') :
    s.post enc P f apart fresh handsOn false W args (.bool true) W' := by
  have hlt : ∀ p ∈ before, p.block < W.heap.size := fun p hp => hW.lt p hp
  have hold : ∀ p ∈ before, (fun b => decide (b < W.heap.size)) p.block = true := fun p hp => by simpa using hlt p hp
  have hW' := hW
  obtain ⟨p, q, hA, hV, hpq, hz, hn⟩ := hW
  rw [hv] at hV
  obtain ⟨hgs, hq⟩ := trodVars_none hV
  subst hq
  subst hgs
  rw [List.append_nil] at hpq
  subst hpq
  have hargs : ∀ sp : Nat → Bool, (∀ p ∈ before, sp p.block = true) → DataW.TrodAll enc P W' 0 sp true f.params.toList args.toList (s.fn H (ds ++ [])).args before := by
    intro sp hs
    rw [hfn]
    exact trodAll_later hl hb _ _ _ _ hts hA hlt hs
  have hres : ∀ (b : Nat) (sp : Nat → Bool) (hd : Bool), DataW.TrodAll enc P W' b sp hd f.resultTypes.toList ((Value.bool true).resultList f.resultTypes.size) (s.fn H (ds ++ [])).results [] := by
    intro b sp hd
    rw [hfn, hr]
    exact trodAll_mk1 (shut_bool htb _)
  have hvars : ∀ sp : Nat → Bool, DataW.TrodVars enc P W' sp s.vars (s.fn H (ds ++ [])).vars [] := by
    intro sp
    rw [hfn, hv]
    exact rfl
  refine ⟨ds, [], before, [], before, [], hW', hres _ _ _, hargs _ hold, hvars _, World.keptBut_mono (fun p hp => ⟨hp, ?_⟩) (hb.frame (· ∈ before)), fun h => by cases h⟩
  exact Or.inr (by simpa using hp)

/-- two strings -/
theorem open_two_strings {f : Func} {s : ChangeSpec} {apart : Bool} {t : TypeId} {base : Nat} {W : World} {args : Array Value} {ds gs : List (DataW H)} {before : List MemPlace}
    (hp : f.params = #[t, t]) (ht : P.underlying t = some .string) (hv : s.vars = [])
    (hval : ∀ (j : Nat) t v, f.params[j]? = some t → args[j]? = some v → Value.okWide P W .any base t v)
    (hW : DataW.Whole enc P f.params.toList s.vars apart W args.toList ds gs before) :
    ∃ a b : ByteArray, args = #[.string a, .string b] ∧ ds = [.lit (.string a.data.toList), .lit (.string b.data.toList)] ∧ gs = [] ∧ a.size ≤ maxLen ∧ b.size ≤ maxLen := by
  obtain ⟨p, q, hA, hV, _⟩ := hW
  rw [hp] at hA hval
  rw [hv] at hV
  obtain ⟨rfl, rfl⟩ := trodVars_none hV
  obtain ⟨v0, vs0, d0, ds0, p0, q0, hargs, rfl, rfl, h0, r0⟩ := trodAll_cons hA
  obtain ⟨v1, vs1, d1, ds1, p1, q1, rfl, rfl, rfl, h1, r1⟩ := trodAll_cons r0
  obtain ⟨rfl, rfl, rfl⟩ := trodAll_nil r1
  obtain rfl : args = #[v0, v1] := by cases args; simp_all
  obtain ⟨a, rfl, rfl, rfl, ha⟩ := open_string ht (hval 0 t v0 rfl rfl) h0
  obtain ⟨b, rfl, rfl, rfl, hb⟩ := open_string ht (hval 1 t v1 rfl rfl) h1
  exact ⟨a, b, rfl, rfl, rfl, ha, hb⟩

theorem cell_lt {w : World} {a : Addr} {v : Value} (h : w.cell? a = some v) : a.block < w.heap.size := by
  rcases Nat.lt_or_ge a.block w.heap.size with hlt | hge
  · exact hlt
  · simp [World.cell?, Array.getElem?_eq_none hge] at h

/-- an argument of type []int -/
theorem open_int_row {t e : TypeId} {base : Nat} {W : World} {v : Value} {d : DataW H} {p : List MemPlace} (ht : P.underlying t = some (.slice e)) (he : P.underlying e = some (.int .i64)) (hc : P.cellsOf e = 1)
    (hval : Value.okWide P W .any base t v) (h : DataW.Trod enc P W 0 (fun _ => true) true t v d p) :
    ∃ (ao : Option Addr) (cap : Nat) (xs : List Int), v = .slice ao xs.length cap ∧ Rd W W.heap.size ao xs ∧ xs.length ≤ maxLen ∧ (∀ n ∈ xs, (Lit.int .i64 n).wf = true) := by
  obtain ⟨a0, len, cap, rfl⟩ := okWide_slice ht hval
  obtain ⟨fuel, hf⟩ := h
  rcases open_ints ht he hc hf with ⟨hcs, hx⟩ | ⟨a, len', cap', zs, hcs, _, hl, hm, hz, hx, hcell, hwz⟩
  · simp [Value.cells] at hcs
    obtain ⟨rfl, rfl, rfl⟩ := hcs
    exact ⟨none, 0, [], rfl, fun k z hk => by simp at hk, Nat.zero_le _, fun n hn => by cases hn⟩
  · simp [Value.cells] at hcs
    obtain ⟨rfl, rfl, rfl⟩ := hcs
    simp only [if_true] at hz
    have hlen : (zs.take len).length = len := by rw [List.length_take]; omega
    refine ⟨some a, cap, zs.take len, by rw [hlen], ?_, by omega, fun n hn => hwz n (List.mem_of_mem_take hn)⟩
    intro k z hk
    have hk2 : k < len := by
      have := (List.getElem?_eq_some_iff.1 hk).1
      omega
    have hc' := hcell k (by omega)
    rw [List.getElem?_take_of_lt hk2] at hk
    have e2 : zs.getD k 0 = z := by rw [List.getD_eq_getElem?_getD, hk]; rfl
    rw [e2] at hc'
    refine ⟨a, rfl, ?_, hc'⟩
    have := cell_lt hc'
    rwa [add_block] at this

/-- two slices of numbers -/
theorem open_two_rows {f : Func} {s : ChangeSpec} {apart : Bool} {t e : TypeId} {base : Nat} {W : World} {args : Array Value} {ds gs : List (DataW H)} {before : List MemPlace}
    (hp : f.params = #[t, t]) (ht : P.underlying t = some (.slice e)) (he : P.underlying e = some (.int .i64)) (hc : P.cellsOf e = 1) (hv : s.vars = [])
    (hval : ∀ (j : Nat) t v, f.params[j]? = some t → args[j]? = some v → Value.okWide P W .any base t v)
    (hW : DataW.Whole enc P f.params.toList s.vars apart W args.toList ds gs before) :
    ∃ (ao bo : Option Addr) (ca cb : Nat) (xs ys : List Int) (d1 d2 : DataW H), args = #[.slice ao xs.length ca, .slice bo ys.length cb] ∧ ds = [d1, d2] ∧ gs = [] ∧ Rd W W.heap.size ao xs ∧ Rd W W.heap.size bo ys ∧ xs.length ≤ maxLen ∧ ys.length ≤ maxLen ∧
      (∀ n ∈ xs, (Lit.int .i64 n).wf = true) ∧ (∀ n ∈ ys, (Lit.int .i64 n).wf = true) := by
  obtain ⟨p, q, hA, hV, _⟩ := hW
  rw [hp] at hA hval
  rw [hv] at hV
  obtain ⟨rfl, rfl⟩ := trodVars_none hV
  obtain ⟨v0, vs0, d0, ds0, p0, q0, hargs, rfl, rfl, h0, r0⟩ := trodAll_cons hA
  obtain ⟨v1, vs1, d1, ds1, p1, q1, rfl, rfl, rfl, h1, r1⟩ := trodAll_cons r0
  obtain ⟨rfl, rfl, rfl⟩ := trodAll_nil r1
  obtain rfl : args = #[v0, v1] := by cases args; simp_all
  obtain ⟨ao, ca, xs, rfl, hr1, hm1, hw1⟩ := open_int_row ht he hc (hval 0 t v0 rfl rfl) h0
  obtain ⟨bo, cb, ys, rfl, hr2, hm2, hw2⟩ := open_int_row ht he hc (hval 1 t v1 rfl rfl) h1
  exact ⟨ao, bo, ca, cb, xs, ys, d0, d1, rfl, rfl, rfl, hr1, hr2, hm1, hm2, hw1, hw2⟩

/-- one slice of numbers -/
theorem open_one_row {f : Func} {s : ChangeSpec} {apart : Bool} {t e : TypeId} {base : Nat} {W : World} {args : Array Value} {ds gs : List (DataW H)} {before : List MemPlace}
    (hp : f.params = #[t]) (ht : P.underlying t = some (.slice e)) (he : P.underlying e = some (.int .i64)) (hc : P.cellsOf e = 1) (hv : s.vars = [])
    (hval : ∀ (j : Nat) t v, f.params[j]? = some t → args[j]? = some v → Value.okWide P W .any base t v)
    (hW : DataW.Whole enc P f.params.toList s.vars apart W args.toList ds gs before) :
    ∃ (ao : Option Addr) (ca : Nat) (xs : List Int) (d1 : DataW H), args = #[.slice ao xs.length ca] ∧ ds = [d1] ∧ gs = [] ∧ Rd W W.heap.size ao xs ∧ xs.length ≤ maxLen ∧ (∀ n ∈ xs, (Lit.int .i64 n).wf = true) := by
  obtain ⟨p, q, hA, hV, _⟩ := hW
  rw [hp] at hA hval
  rw [hv] at hV
  obtain ⟨rfl, rfl⟩ := trodVars_none hV
  obtain ⟨v0, vs0, d0, ds0, p0, q0, hargs, rfl, rfl, h0, r0⟩ := trodAll_cons hA
  obtain ⟨rfl, rfl, rfl⟩ := trodAll_nil r0
  obtain rfl : args = #[v0] := by cases args; simp_all
  obtain ⟨ao, ca, xs, rfl, hr1, hm1, hw1⟩ := open_int_row ht he hc (hval 0 t v0 rfl rfl) h0
  exact ⟨ao, ca, xs, d0, rfl, rfl, rfl, hr1, hm1, hw1⟩

/-- one string -/
theorem open_one_string {f : Func} {s : ChangeSpec} {apart : Bool} {t : TypeId} {base : Nat} {W : World} {args : Array Value} {ds gs : List (DataW H)} {before : List MemPlace}
    (hp : f.params = #[t]) (ht : P.underlying t = some .string) (hv : s.vars = [])
    (hval : ∀ (j : Nat) t v, f.params[j]? = some t → args[j]? = some v → Value.okWide P W .any base t v)
    (hW : DataW.Whole enc P f.params.toList s.vars apart W args.toList ds gs before) :
    ∃ a : ByteArray, args = #[.string a] ∧ ds = [.lit (.string a.data.toList)] ∧ gs = [] ∧ a.size ≤ maxLen := by
  obtain ⟨p, q, hA, hV, _⟩ := hW
  rw [hp] at hA hval
  rw [hv] at hV
  obtain ⟨rfl, rfl⟩ := trodVars_none hV
  obtain ⟨v0, vs0, d0, ds0, p0, q0, hargs, rfl, rfl, h0, r0⟩ := trodAll_cons hA
  obtain ⟨rfl, rfl, rfl⟩ := trodAll_nil r0
  obtain rfl : args = #[v0] := by cases args; simp_all
  obtain ⟨a, rfl, rfl, rfl, ha⟩ := open_string ht (hval 0 t v0 rfl rfl) h0
  exact ⟨a, rfl, rfl, rfl, ha⟩
end

/-- what the bound gives of two strings -/
theorem short_two {H : Type} {a b : ByteArray} (hk : Rows.uptoSmall H ([.lit (.string a.data.toList), .lit (.string b.data.toList)] ++ []) = true) : a.size + b.size ≤ 1048574 := by
  have h : Rows.uptoBulkAll ([DataW.lit (H := H) (.string a.data.toList), .lit (.string b.data.toList)] ++ []) ≤ 1048576 := of_decide_eq_true hk
  simp only [List.cons_append, List.nil_append, Rows.uptoBulkAll, Rows.uptoBulk] at h
  have e : a.data.toList.length = a.size := by rw [Array.length_toList]; rfl
  have e' : b.data.toList.length = b.size := by rw [Array.length_toList]; rfl
  omega
/-- what the bound gives of one string -/
theorem short_one {H : Type} {a : ByteArray} (hk : Rows.uptoSmall H ([.lit (.string a.data.toList)] ++ []) = true) : a.size ≤ 1048575 := by
  have h : Rows.uptoBulkAll ([DataW.lit (H := H) (.string a.data.toList)] ++ []) ≤ 1048576 := of_decide_eq_true hk
  simp only [List.cons_append, List.nil_append, Rows.uptoBulkAll, Rows.uptoBulk] at h
  have e : a.data.toList.length = a.size := by rw [Array.length_toList]; rfl
  omega

end Go.Proofs.YtankcnikebcpkaaGreatDoor

namespace Go.Proofs.YtankcnikebcpkaaGreatDoor
open Go.ChangeShapes Go.WideShapes Go.ChangeAt Go.RowKit
open Go.ChangeMaps (open_string shut_string)

section
variable {H : Type} {enc : TypeId × Value → H} {P : Program}

/-- a string, a bool -/
theorem open_string_bool {f : Func} {s : ChangeSpec} {apart : Bool} {t u : TypeId} {base : Nat} {W : World} {args : Array Value} {ds gs : List (DataW H)} {before : List MemPlace}
    (hp : f.params = #[t, u]) (ht : P.underlying t = some .string) (hu : P.underlying u = some .bool) (hv : s.vars = [])
    (hval : ∀ (j : Nat) t v, f.params[j]? = some t → args[j]? = some v → Value.okWide P W .any base t v)
    (hW : DataW.Whole enc P f.params.toList s.vars apart W args.toList ds gs before) :
    ∃ a : ByteArray, ∃ p : Bool, args = #[.string a, .bool p] ∧ ds = [.lit (.string a.data.toList), .lit (.bool p)] ∧ gs = [] ∧ a.size ≤ maxLen := by
  obtain ⟨p, q, hA, hV, _⟩ := hW
  rw [hp] at hA hval
  rw [hv] at hV
  obtain ⟨rfl, rfl⟩ := trodVars_none hV
  obtain ⟨v0, vs0, d0, ds0, p0, q0, hargs, rfl, rfl, h0, r0⟩ := trodAll_cons hA
  obtain ⟨v1, vs1, d1, ds1, p1, q1, rfl, rfl, rfl, h1, r1⟩ := trodAll_cons r0
  obtain ⟨rfl, rfl, rfl⟩ := trodAll_nil r1
  obtain rfl : args = #[v0, v1] := by cases args; simp_all
  obtain ⟨a, rfl, rfl, rfl, ha⟩ := open_string ht (hval 0 t v0 rfl rfl) h0
  obtain ⟨p, rfl, rfl, rfl⟩ := open_bool hu (hval 1 u v1 rfl rfl) h1
  exact ⟨a, p, rfl, rfl, rfl, ha⟩

/-- two strings, a bool -/
theorem open_two_strings_bool {f : Func} {s : ChangeSpec} {apart : Bool} {t u : TypeId} {base : Nat} {W : World} {args : Array Value} {ds gs : List (DataW H)} {before : List MemPlace}
    (hp : f.params = #[t, t, u]) (ht : P.underlying t = some .string) (hu : P.underlying u = some .bool) (hv : s.vars = [])
    (hval : ∀ (j : Nat) t v, f.params[j]? = some t → args[j]? = some v → Value.okWide P W .any base t v)
    (hW : DataW.Whole enc P f.params.toList s.vars apart W args.toList ds gs before) :
    ∃ a : ByteArray, ∃ b : ByteArray, ∃ p : Bool, args = #[.string a, .string b, .bool p] ∧ ds = [.lit (.string a.data.toList), .lit (.string b.data.toList), .lit (.bool p)] ∧ gs = [] ∧ a.size ≤ maxLen ∧ b.size ≤ maxLen := by
  obtain ⟨p, q, hA, hV, _⟩ := hW
  rw [hp] at hA hval
  rw [hv] at hV
  obtain ⟨rfl, rfl⟩ := trodVars_none hV
  obtain ⟨v0, vs0, d0, ds0, p0, q0, hargs, rfl, rfl, h0, r0⟩ := trodAll_cons hA
  obtain ⟨v1, vs1, d1, ds1, p1, q1, rfl, rfl, rfl, h1, r1⟩ := trodAll_cons r0
  obtain ⟨v2, vs2, d2, ds2, p2, q2, rfl, rfl, rfl, h2, r2⟩ := trodAll_cons r1
  obtain ⟨rfl, rfl, rfl⟩ := trodAll_nil r2
  obtain rfl : args = #[v0, v1, v2] := by cases args; simp_all
  obtain ⟨a, rfl, rfl, rfl, ha⟩ := open_string ht (hval 0 t v0 rfl rfl) h0
  obtain ⟨b, rfl, rfl, rfl, hb⟩ := open_string ht (hval 1 t v1 rfl rfl) h1
  obtain ⟨p, rfl, rfl, rfl⟩ := open_bool hu (hval 2 u v2 rfl rfl) h2
  exact ⟨a, b, p, rfl, rfl, rfl, ha, hb⟩

/-- a string, two bools -/
theorem open_string_two_bools {f : Func} {s : ChangeSpec} {apart : Bool} {t u : TypeId} {base : Nat} {W : World} {args : Array Value} {ds gs : List (DataW H)} {before : List MemPlace}
    (hp : f.params = #[t, u, u]) (ht : P.underlying t = some .string) (hu : P.underlying u = some .bool) (hv : s.vars = [])
    (hval : ∀ (j : Nat) t v, f.params[j]? = some t → args[j]? = some v → Value.okWide P W .any base t v)
    (hW : DataW.Whole enc P f.params.toList s.vars apart W args.toList ds gs before) :
    ∃ a : ByteArray, ∃ p : Bool, ∃ q : Bool, args = #[.string a, .bool p, .bool q] ∧ ds = [.lit (.string a.data.toList), .lit (.bool p), .lit (.bool q)] ∧ gs = [] ∧ a.size ≤ maxLen := by
  obtain ⟨p, q, hA, hV, _⟩ := hW
  rw [hp] at hA hval
  rw [hv] at hV
  obtain ⟨rfl, rfl⟩ := trodVars_none hV
  obtain ⟨v0, vs0, d0, ds0, p0, q0, hargs, rfl, rfl, h0, r0⟩ := trodAll_cons hA
  obtain ⟨v1, vs1, d1, ds1, p1, q1, rfl, rfl, rfl, h1, r1⟩ := trodAll_cons r0
  obtain ⟨v2, vs2, d2, ds2, p2, q2, rfl, rfl, rfl, h2, r2⟩ := trodAll_cons r1
  obtain ⟨rfl, rfl, rfl⟩ := trodAll_nil r2
  obtain rfl : args = #[v0, v1, v2] := by cases args; simp_all
  obtain ⟨a, rfl, rfl, rfl, ha⟩ := open_string ht (hval 0 t v0 rfl rfl) h0
  obtain ⟨p, rfl, rfl, rfl⟩ := open_bool hu (hval 1 u v1 rfl rfl) h1
  obtain ⟨q, rfl, rfl, rfl⟩ := open_bool hu (hval 2 u v2 rfl rfl) h2
  exact ⟨a, p, q, rfl, rfl, rfl, ha⟩

/-- a number -/
theorem open_one_int {f : Func} {s : ChangeSpec} {apart : Bool} {v : TypeId} {base : Nat} {W : World} {args : Array Value} {ds gs : List (DataW H)} {before : List MemPlace}
    (hp : f.params = #[v]) (hn : P.underlying v = some (.int .i64)) (hv : s.vars = [])
    (hval : ∀ (j : Nat) t v, f.params[j]? = some t → args[j]? = some v → Value.okWide P W .any base t v)
    (hW : DataW.Whole enc P f.params.toList s.vars apart W args.toList ds gs before) :
    ∃ n : Int, args = #[.int .i64 n] ∧ ds = [.lit (.int .i64 n)] ∧ gs = [] ∧ (Lit.int .i64 n).wf = true := by
  obtain ⟨p, q, hA, hV, _⟩ := hW
  rw [hp] at hA hval
  rw [hv] at hV
  obtain ⟨rfl, rfl⟩ := trodVars_none hV
  obtain ⟨v0, vs0, d0, ds0, p0, q0, hargs, rfl, rfl, h0, r0⟩ := trodAll_cons hA
  obtain ⟨rfl, rfl, rfl⟩ := trodAll_nil r0
  obtain rfl : args = #[v0] := by cases args; simp_all
  obtain ⟨n, rfl, rfl, rfl, hn⟩ := open_int hn (hval 0 v v0 rfl rfl) h0
  exact ⟨n, rfl, rfl, rfl, hn⟩
end

theorem short_sb {H : Type} {a : ByteArray} {p : Bool} (hk : Rows.uptoSmall H ([.lit (.string a.data.toList), .lit (.bool p)] ++ []) = true) : a.size ≤ 1048574 := by
  have h : Rows.uptoBulkAll ([DataW.lit (H := H) (.string a.data.toList), DataW.lit (H := H) (.bool p)] ++ []) ≤ 1048576 := of_decide_eq_true hk
  simp only [List.cons_append, List.nil_append, Rows.uptoBulkAll, Rows.uptoBulk] at h
  have ea : a.data.toList.length = a.size := by rw [Array.length_toList]; rfl
  omega

theorem short_ssb {H : Type} {a b : ByteArray} {p : Bool} (hk : Rows.uptoSmall H ([.lit (.string a.data.toList), .lit (.string b.data.toList), .lit (.bool p)] ++ []) = true) : a.size + b.size ≤ 1048573 := by
  have h : Rows.uptoBulkAll ([DataW.lit (H := H) (.string a.data.toList), DataW.lit (H := H) (.string b.data.toList), DataW.lit (H := H) (.bool p)] ++ []) ≤ 1048576 := of_decide_eq_true hk
  simp only [List.cons_append, List.nil_append, Rows.uptoBulkAll, Rows.uptoBulk] at h
  have ea : a.data.toList.length = a.size := by rw [Array.length_toList]; rfl
  have eb : b.data.toList.length = b.size := by rw [Array.length_toList]; rfl
  omega

theorem short_sbb {H : Type} {a : ByteArray} {p q : Bool} (hk : Rows.uptoSmall H ([.lit (.string a.data.toList), .lit (.bool p), .lit (.bool q)] ++ []) = true) : a.size ≤ 1048573 := by
  have h : Rows.uptoBulkAll ([DataW.lit (H := H) (.string a.data.toList), DataW.lit (H := H) (.bool p), DataW.lit (H := H) (.bool q)] ++ []) ≤ 1048576 := of_decide_eq_true hk
  simp only [List.cons_append, List.nil_append, Rows.uptoBulkAll, Rows.uptoBulk] at h
  have ea : a.data.toList.length = a.size := by rw [Array.length_toList]; rfl
  omega

end Go.Proofs.YtankcnikebcpkaaGreatDoor

namespace Go.Proofs.YtankcnikebcpkaaGreatDoor
open Go.RowKit

/-- the variable strconv.ErrSyntax holds an error -/
def ErrS (w : World) : Prop := ∃ te pe, w.cell? ⟨3, 0, none⟩ = some (.iface te pe)
theorem ErrS.below {w w' : World} (h : ErrS w) (hb : Below w.heap.size w w') : ErrS w' := by
  obtain ⟨te, pe, hc⟩ := h
  exact ⟨te, pe, (hb.cell (cell_lt hc)).trans hc⟩

set_option maxHeartbeats 1000000 in
set_option maxRecDepth 100000 in
/-- strconv.ParseUint, behind the inner one: its number; or an error -/
theorem public_parse (base : Int) (t : ByteArray) (hmax : t.size ≤ 7) (v : Value) (n : Nat) (good : Bool) (w : World) (hS : ErrS w)
    (hin : Calls Tryz.prog 118 #[.string t, .int .i64 base, .int .i64 32] w fun e w' => e = .returned v ∧ Below w.heap.size w w')
    (hv : v = if good = true then .tuple #[.int .u64 n, .nilIface] else .tuple #[.int .u64 0, .iface 144 (.int .i64 2)]) :
    Calls Tryz.prog 106 #[.string t, .int .i64 base, .int .i64 32] w fun e w' => (if good = true then e = .returned (.tuple #[.int .u64 n, .nilIface]) else ∃ N, e = .returned (.tuple #[.int .u64 0, .iface 146 (.pointer (some ⟨N, 0, none⟩))])) ∧ Below w.heap.size w w' := by
  cases good
  · simp only [Bool.false_eq_true, if_false] at hv ⊢
    subst hv
    go_enter Tryz.func106, Tryz.ntmps106
    go_wp2_with fail
    refine hin.mono ?_
    rintro e w1 ⟨rfl, b1⟩
    obtain ⟨te, pe, hc⟩ := hS.below b1
    go_wp2_with fail
    refine (Tryz.strconv_toError_syntax _ t base 32 (.iface te pe) w1 (by omega) hc (.inr ⟨te, pe, rfl⟩)).mono ?_
    rintro e w2 ⟨N, rfl, _, _, b2⟩
    go_wp2_with fail
    go_ret2
    exact ⟨⟨N, rfl⟩, b1.trans (b2.mono b1.size)⟩
  · simp only [if_true] at hv ⊢
    subst hv
    go_enter Tryz.func106, Tryz.ntmps106
    go_wp2_with fail
    refine hin.mono ?_
    rintro e w1 ⟨rfl, b1⟩
    go_wp2_with fail
    go_ret2
    exact ⟨rfl, b1⟩

/-- a code point, or none -/
def ptV : Option Nat → Value
  | some n => .tuple #[.int .i32 n, .bool true]
  | none => .tuple #[.int .i32 0, .bool false]

set_option maxHeartbeats 1000000 in
set_option maxRecDepth 100000 in
theorem parse_empty (base : Int) (t : ByteArray) (h0 : t.size = 0) (w : World) :
    Calls Tryz.prog 118 #[.string t, .int .i64 base, .int .i64 32] w fun e w' => e = .returned (.tuple #[.int .u64 0, .iface 144 (.int .i64 2)]) ∧ Below w.heap.size w w' := by
  obtain rfl : t = ⟨#[]⟩ := by
    cases t with
    | mk a =>
      have : a.size = 0 := h0
      rw [Array.eq_empty_of_size_eq_zero this]
  go_enter Tryz.func118, Tryz.ntmps118
  go_wp2
  go_ret2
  exact ⟨rfl, Below.refl _ _⟩
theorem nil_of_size {t : ByteArray} (h : t.size = 0) : t.data.toList = [] := List.length_eq_zero_iff.1 (by rw [len_list]; exact h)
theorem ne_of_size {t : ByteArray} (h : t.size ≠ 0) : t.data.toList ≠ [] := fun e => h (by rw [← len_list, e]; rfl)
theorem parse10_any (t : ByteArray) (hmax : t.size ≤ 7) (w : World) :
    Calls Tryz.prog 118 #[.string t, .int .i64 10, .int .i64 32] w fun e w' => e = .returned (parsed 144 10 t.data.toList) ∧ Below w.heap.size w w' := by
  by_cases h0 : t.size = 0
  · rw [nil_of_size h0]; exact parse_empty 10 t h0 w
  · exact parse10 t h0 hmax w
theorem parse16_any (t : ByteArray) (hmax : t.size ≤ 7) (w : World) :
    Calls Tryz.prog 118 #[.string t, .int .i64 16, .int .i64 32] w fun e w' => e = .returned (parsed 144 16 t.data.toList) ∧ Below w.heap.size w w' := by
  by_cases h0 : t.size = 0
  · rw [nil_of_size h0]; exact parse_empty 16 t h0 w
  · exact parse16 t h0 hmax w
/-- both, at the outer one -/
theorem public10 (t : ByteArray) (hmax : t.size ≤ 7) (w : World) (hS : ErrS w) :
    Calls Tryz.prog 106 #[.string t, .int .i64 10, .int .i64 32] w fun e w' => (if (decide (t.data.toList ≠ []) && U.allDig 10 t.data.toList) = true then e = .returned (.tuple #[.int .u64 (U.val 10 0 t.data.toList : Nat), .nilIface]) else ∃ N, e = .returned (.tuple #[.int .u64 0, .iface 146 (.pointer (some ⟨N, 0, none⟩))])) ∧ Below w.heap.size w w' :=
  public_parse 10 t hmax _ _ _ w hS (parse10_any t hmax w) rfl
theorem public16 (t : ByteArray) (hmax : t.size ≤ 7) (w : World) (hS : ErrS w) :
    Calls Tryz.prog 106 #[.string t, .int .i64 16, .int .i64 32] w fun e w' => (if (decide (t.data.toList ≠ []) && U.allDig 16 t.data.toList) = true then e = .returned (.tuple #[.int .u64 (U.val 16 0 t.data.toList : Nat), .nilIface]) else ∃ N, e = .returned (.tuple #[.int .u64 0, .iface 146 (.pointer (some ⟨N, 0, none⟩))])) ∧ Below w.heap.size w w' :=
  public_parse 16 t hmax _ _ _ w hS (parse16_any t hmax w) rfl

theorem point_zero : U.point 0 = 65533 := by decide
theorem point_no {n : Nat} (h : U.isL n = false) : U.point n = 65533 := by unfold U.point; rw [if_pos (by simp [h])]
theorem point_yes {n : Nat} (h0 : n ≠ 0) (h : U.isL n = true) : U.point n = n := by unfold U.point; rw [if_neg (by simp [h, h0])]

set_option maxHeartbeats 4000000 in
set_option maxRecDepth 1000000 in
theorem numbered_walk (t : ByteArray) (hmax : t.size ≤ 7) (w : World) (hS : ErrS w) :
    Calls Tryz.prog 86 #[.string t] w fun e w' => e = .returned (ptV (U.numOf t.data.toList)) ∧ Below w.heap.size w w' := by
  have hll := len_list t
  by_cases h0 : t.size = 0
  · have hnil := nil_of_size h0
    have r1 := public10 t hmax
    rw [hnil] at r1 ⊢
    obtain rfl : t = ⟨#[]⟩ := by
      cases t with
      | mk a =>
        have : a.size = 0 := h0
        rw [Array.eq_empty_of_size_eq_zero this]
    clear hnil hll
    go_enter Tryz.func86, Tryz.ntmps86
    go_wp2_with fail
    refine (r1 _ hS).mono ?_
    rintro e w1 hr
    have hf : (decide (([] : List UInt8) ≠ []) && U.allDig 10 []) = false := rfl
    rw [hf] at hr
    simp only [Bool.false_eq_true, if_false] at hr
    obtain ⟨⟨N, rfl⟩, b1⟩ := hr
    go_wp2_with fail
    go_ret2
    exact ⟨rfl, b1⟩
  have hpos : 0 < t.size := by omega
  have hb := (t[0]'hpos).toNat_lt
  have hcons : t.data.toList = (t[0]'hpos) :: t.data.toList.drop 1 := by
    have hg := byte_get t hpos
    have := drop_byte hg
    simpa using this
  have hemp : t.toList.isEmpty = false := by
    rw [← decide_eq_emptyBytes]
    exact decide_eq_false (fun h => h0 (by rw [h]; rfl))
  have hex : (t.extract 1 t.size).data.toList = t.data.toList.drop 1 := by
    rw [Lib.extract_data]
    exact List.take_of_length_le (by simp)
  have hexs : (t.extract 1 t.size).size ≤ 6 := by rw [ByteArray.size_extract]; omega
  by_cases hx : ((t[0]'hpos).toNat : Int) = 120
  · have t1 := beq_yes hx
    have hc : t[0]'hpos = 120 := (byte_eq (k := 120) (by decide)).1 (by omega)
    have r1 := public16 (t.extract 1 t.size) (by omega)
    have HNO := Lib.hid (show U.numOf t.data.toList = U.numIn 16 6 (t.data.toList.drop 1) by
      conv => lhs; rw [hcons, U.numOf_cons, if_pos (by rw [hc]; decide)])
    have hlen : (t.data.toList.drop 1).length ≤ 6 := by rw [List.length_drop]; omega
    rw [hex] at r1
    clear hcons hex hc
    go_enter Tryz.func86, Tryz.ntmps86
    go_wp2_with fail
    refine (r1 _ hS).mono ?_
    rintro e w1 hr
    generalize t.data.toList.drop 1 = D at *
    cases hgood : (decide (D ≠ []) && U.allDig 16 D)
    · rw [hgood] at hr
      simp only [Bool.false_eq_true, if_false] at hr
      have HV := Lib.hid (show U.numIn 16 6 D = none by rw [U.numIn_short hlen, if_neg (by rw [hgood]; simp)])
      clear hgood
      obtain ⟨⟨N, rfl⟩, b1⟩ := hr
      go_wp2_with fail
      go_ret2
      rw [HNO.out, HV.out]
      exact ⟨rfl, b1⟩
    · rw [hgood] at hr
      simp only [if_true] at hr
      have hall : U.allDig 16 D = true := by
        rw [Bool.and_eq_true] at hgood
        exact hgood.2
      have hsm := U.val_small hall (by decide) (by omega)
      have HV := Lib.hid (show U.numIn 16 6 D = some (U.point (U.val 16 0 D)) by rw [U.numIn_short hlen, if_pos hgood])
      clear hgood hall
      generalize U.val 16 0 D = n at *
      obtain ⟨rfl, b1⟩ := hr
      have hve := U.valid_eq (n := n)
      by_cases hn : n = 0
      · subst hn
        clear hve
        go_wp2_with fail
        go_ret2
        rw [HNO.out, HV.out, point_zero]
        exact ⟨rfl, b1⟩
      · have hz : ((n : Int) == 0) = false := by simpa using hn
        cases hL : U.isL n
        · have HP := Lib.hid (point_no hL)
          rw [hL] at hve
          clear hL hn
          go_wp2_with (refine (Tryz.utf8_ValidRune _ _).mono ?_; rintro e w2 ⟨rfl, rfl⟩)
          go_ret2
          rw [HNO.out, HV.out, HP.out]
          exact ⟨rfl, b1⟩
        · have HP := Lib.hid (point_yes hn hL)
          rw [hL] at hve
          clear hL hn
          go_wp2_with (refine (Tryz.utf8_ValidRune _ _).mono ?_; rintro e w2 ⟨rfl, rfl⟩)
          go_ret2
          rw [HNO.out, HV.out, HP.out]
          exact ⟨rfl, b1⟩
  by_cases hX : ((t[0]'hpos).toNat : Int) = 88
  · have t1 := beq_yes hX
    have hc : t[0]'hpos = 88 := (byte_eq (k := 88) (by decide)).1 (by omega)
    have r1 := public16 (t.extract 1 t.size) (by omega)
    have HNO := Lib.hid (show U.numOf t.data.toList = U.numIn 16 6 (t.data.toList.drop 1) by
      conv => lhs; rw [hcons, U.numOf_cons, if_pos (by rw [hc]; decide)])
    have hlen : (t.data.toList.drop 1).length ≤ 6 := by rw [List.length_drop]; omega
    rw [hex] at r1
    clear hcons hex hc
    have t2 := beq_no hx
    go_enter Tryz.func86, Tryz.ntmps86
    go_wp2_with fail
    refine (r1 _ hS).mono ?_
    rintro e w1 hr
    generalize t.data.toList.drop 1 = D at *
    cases hgood : (decide (D ≠ []) && U.allDig 16 D)
    · rw [hgood] at hr
      simp only [Bool.false_eq_true, if_false] at hr
      have HV := Lib.hid (show U.numIn 16 6 D = none by rw [U.numIn_short hlen, if_neg (by rw [hgood]; simp)])
      clear hgood
      obtain ⟨⟨N, rfl⟩, b1⟩ := hr
      go_wp2_with fail
      go_ret2
      rw [HNO.out, HV.out]
      exact ⟨rfl, b1⟩
    · rw [hgood] at hr
      simp only [if_true] at hr
      have hall : U.allDig 16 D = true := by
        rw [Bool.and_eq_true] at hgood
        exact hgood.2
      have hsm := U.val_small hall (by decide) (by omega)
      have HV := Lib.hid (show U.numIn 16 6 D = some (U.point (U.val 16 0 D)) by rw [U.numIn_short hlen, if_pos hgood])
      clear hgood hall
      generalize U.val 16 0 D = n at *
      obtain ⟨rfl, b1⟩ := hr
      have hve := U.valid_eq (n := n)
      by_cases hn : n = 0
      · subst hn
        clear hve
        go_wp2_with fail
        go_ret2
        rw [HNO.out, HV.out, point_zero]
        exact ⟨rfl, b1⟩
      · have hz : ((n : Int) == 0) = false := by simpa using hn
        cases hL : U.isL n
        · have HP := Lib.hid (point_no hL)
          rw [hL] at hve
          clear hL hn
          go_wp2_with (refine (Tryz.utf8_ValidRune _ _).mono ?_; rintro e w2 ⟨rfl, rfl⟩)
          go_ret2
          rw [HNO.out, HV.out, HP.out]
          exact ⟨rfl, b1⟩
        · have HP := Lib.hid (point_yes hn hL)
          rw [hL] at hve
          clear hL hn
          go_wp2_with (refine (Tryz.utf8_ValidRune _ _).mono ?_; rintro e w2 ⟨rfl, rfl⟩)
          go_ret2
          rw [HNO.out, HV.out, HP.out]
          exact ⟨rfl, b1⟩
  have t1 := beq_no hx
  have t2 := beq_no hX
  have r1 := public10 t hmax
  have HNO := Lib.hid (show U.numOf t.data.toList = U.numIn 10 7 t.data.toList by
    conv => lhs; rw [hcons, U.numOf_cons, if_neg (by
      rintro (e | e)
      · exact hx (by rw [e]; rfl)
      · exact hX (by rw [e]; rfl))]
    rw [← hcons])
  have hlen : t.data.toList.length ≤ 7 := by omega
  clear hcons hex hx hX
  go_enter Tryz.func86, Tryz.ntmps86
  go_wp2_with fail
  refine (r1 _ hS).mono ?_
  rintro e w1 hr
  cases hgood : (decide (t.data.toList ≠ []) && U.allDig 10 t.data.toList)
  · rw [hgood] at hr
    simp only [Bool.false_eq_true, if_false] at hr
    have HV := Lib.hid (show U.numIn 10 7 t.data.toList = none by rw [U.numIn_short hlen, if_neg (by rw [hgood]; simp)])
    clear hgood
    obtain ⟨⟨N, rfl⟩, b1⟩ := hr
    go_wp2_with fail
    go_ret2
    rw [HNO.out, HV.out]
    exact ⟨rfl, b1⟩
  · rw [hgood] at hr
    simp only [if_true] at hr
    have hall : U.allDig 10 t.data.toList = true := by
      rw [Bool.and_eq_true] at hgood
      exact hgood.2
    have hsm := U.val_small hall (by decide) (by omega)
    have HV := Lib.hid (show U.numIn 10 7 t.data.toList = some (U.point (U.val 10 0 t.data.toList)) by rw [U.numIn_short hlen, if_pos hgood])
    clear hgood hall
    generalize U.val 10 0 t.data.toList = n at *
    obtain ⟨rfl, b1⟩ := hr
    have hve := U.valid_eq (n := n)
    by_cases hn : n = 0
    · subst hn
      clear hve
      go_wp2_with fail
      go_ret2
      rw [HNO.out, HV.out, point_zero]
      exact ⟨rfl, b1⟩
    · have hz : ((n : Int) == 0) = false := by simpa using hn
      cases hL : U.isL n
      · have HP := Lib.hid (point_no hL)
        rw [hL] at hve
        clear hL hn
        go_wp2_with (refine (Tryz.utf8_ValidRune _ _).mono ?_; rintro e w2 ⟨rfl, rfl⟩)
        go_ret2
        rw [HNO.out, HV.out, HP.out]
        exact ⟨rfl, b1⟩
      · have HP := Lib.hid (point_yes hn hL)
        rw [hL] at hve
        clear hL hn
        go_wp2_with (refine (Tryz.utf8_ValidRune _ _).mono ?_; rintro e w2 ⟨rfl, rfl⟩)
        go_ret2
        rw [HNO.out, HV.out, HP.out]
        exact ⟨rfl, b1⟩

end Go.Proofs.YtankcnikebcpkaaGreatDoor

namespace Go.Proofs.YtankcnikebcpkaaGreatDoor
open Go.RowKit

namespace U
theorem low1_beq {a k : UInt8} (hk : k.toNat < 65) : (low1 a == k) = (a == k) := by
  unfold low1
  split
  · rename_i h
    have h1 : (a == k) = false := beq_eq_false_iff_ne.2 (fun e => by subst e; omega)
    have h2 : (UInt8.ofNat (a.toNat + 32) == k) = false := beq_eq_false_iff_ne.2 (fun e => by
      subst e
      simp only [UInt8.toNat_ofNat'] at hk
      omega)
    rw [h1, h2]
  · rfl
theorem low1_isSp (c : UInt8) : isSp (low1 c) = isSp c := by
  unfold isSp
  rw [low1_beq (by decide), low1_beq (by decide), low1_beq (by decide), low1_beq (by decide)]
def stopAt (c : UInt8) : Bool := isSp c || c == 47 || c == 62
theorem stopAt_contains (c : UInt8) : ([32, 9, 10, 12, 47, 62] : List UInt8).contains c = stopAt c := by
  rw [Bool.eq_iff_iff]
  simp [stopAt, isSp, or_assoc]
/-- an end tag of this name begins here (the text is lowered) -/
def endAt (n l : List UInt8) : Bool := List.isPrefixOf (60 :: 47 :: n) l && (match l.drop (2 + n.length) with
  | [] => false
  | c :: _ => stopAt c)
theorem prefix_take (n : List UInt8) : ∀ (l : List UInt8), n.isPrefixOf l = (l.take n.length == n) := by
  induction n with
  | nil => intro l; simp
  | cons a n ih =>
    intro l
    cases l with
    | nil => simp [List.isPrefixOf]
    | cons b l =>
      rw [List.isPrefixOf_cons_cons, ih l, List.length_cons, List.take_succ_cons]
      show (a == b && _) = (b == a && _)
      rw [Bool.beq_comm]
      rfl
theorem low_take (l : List UInt8) (k : Nat) : low (l.take k) = (low l).take k := by simp [low]
theorem low_drop (l : List UInt8) (k : Nat) : low (l.drop k) = (low l).drop k := by simp [low]
theorem rawEnd_low (n l : List UInt8) : rawEnd n l = endAt n (low l) := by
  unfold rawEnd endAt
  rw [← low_drop]
  cases hd : l.drop (2 + n.length) with
  | nil => simp [low]
  | cons c r =>
    have hl := congrArg List.length hd
    simp only [List.length_drop, List.length_cons] at hl
    have e1 : low (c :: r) = low1 c :: low r := rfl
    rw [e1]
    simp only
    unfold stopAt
    rw [low1_isSp, low1_beq (by decide), low1_beq (by decide)]
    congr 1
    match l, hl with
    | a :: b :: u, _ =>
      have e2 : low (a :: b :: u) = low1 a :: low1 b :: low u := rfl
      rw [e2, List.isPrefixOf_cons_cons, List.isPrefixOf_cons_cons, prefix_take]
      have e3 : ((60 : UInt8) == low1 a) = (a == 60) := by rw [Bool.beq_comm]; exact low1_beq (by decide)
      have e4 : ((47 : UInt8) == low1 b) = (b == 47) := by rw [Bool.beq_comm]; exact low1_beq (by decide)
      rw [e3, e4]
      simp only [List.take_succ_cons, List.take_zero, List.drop_succ_cons, List.drop_zero, low_take]
      show (a == 60 && (b == 47 && true) && _) = _
      rw [Bool.and_true, Bool.and_assoc]
    | [a], hl => simp only [List.length_cons, List.length_nil] at hl; omega
    | [], hl => simp at hl
end U

theorem mk_append (a b : List UInt8) : ByteArray.mk a.toArray ++ ByteArray.mk b.toArray = ByteArray.mk (a ++ b).toArray := by
  apply ByteArray.ext
  simp

set_option maxHeartbeats 4000000 in
set_option maxRecDepth 100000 in
theorem is_end (n s : ByteArray) (w : World) (hn : n.size ≤ 1048576) : Calls Tryz.prog 62 #[.string n, .string s] w fun e w' => e = .returned (.bool (U.endAt n.data.toList s.data.toList)) ∧ w' = w := by
  have hp : (ByteArray.mk #[60, 47] ++ n).data.toList = 60 :: 47 :: n.data.toList := by simp [ByteArray.data_append]
  have hcp := fun w => Tryz.strings_CutPrefix s (ByteArray.mk #[60, 47] ++ n) w
  rw [hp] at hcp
  have hln := len_list n
  unfold U.endAt
  unfold Lib.trimPrefix Lib.hasPrefix at hcp
  have e0 : (60 :: 47 :: n.data.toList).length = 2 + n.data.toList.length := by rw [List.length_cons, List.length_cons]; omega
  rw [e0] at hcp
  cases hpre : List.isPrefixOf (60 :: 47 :: n.data.toList) s.data.toList with
  | false =>
    rw [hpre] at hcp
    simp only [Bool.false_eq_true, if_false] at hcp
    rw [Bool.false_and]
    clear hp
    go_enter Tryz.func62, Tryz.ntmps62
    go_wp2_with (refine (hcp _).mono ?_; rintro e w' ⟨rfl, rfl⟩)
    go_ret
    exact ⟨rfl, rfl⟩
  | true =>
    rw [hpre] at hcp
    simp only [if_true] at hcp
    cases hd : s.data.toList.drop (2 + n.data.toList.length) with
    | nil =>
      rw [hd] at hcp
      clear hp hpre
      go_enter Tryz.func62, Tryz.ntmps62
      go_wp2_with (refine (hcp _).mono ?_; rintro e w' ⟨rfl, rfl⟩)
      go_ret
      exact ⟨rfl, rfl⟩
    | cons c r =>
      rw [hd] at hcp
      have hi := fun w => Tryz.strings_IndexByte (ByteArray.mk #[32, 9, 10, 12, 47, 62]) (c.toNat : Int) w
      have hcs := Lib.contains_iff_indexByte [32, 9, 10, 12, 47, 62] c
      rw [U.stopAt_contains] at hcs
      have hbk : ((c.toNat : Int)).toNat.toUInt8 = c := by simp
      rw [hbk] at hi
      have hlist : (ByteArray.mk #[32, 9, 10, 12, 47, 62]).data.toList = [32, 9, 10, 12, 47, 62] := rfl
      rw [hlist] at hi
      generalize Lib.indexByte [32, 9, 10, 12, 47, 62] c = ix at hi hcs
      have hne : (ByteArray.mk (c :: r).toArray).toList.isEmpty = false := by rw [Lib.toList_data]; rfl
      clear hp hpre hd
      simp only [Bool.true_and]
      go_enter Tryz.func62, Tryz.ntmps62
      go_wp2_with (first | (refine (hcp _).mono ?_; rintro e w' ⟨rfl, rfl⟩) | (refine (hi _).mono ?_; rintro e w' ⟨rfl, rfl⟩))
      go_ret
      exact ⟨by rw [hcs]; rfl, rfl⟩

end Go.Proofs.YtankcnikebcpkaaGreatDoor

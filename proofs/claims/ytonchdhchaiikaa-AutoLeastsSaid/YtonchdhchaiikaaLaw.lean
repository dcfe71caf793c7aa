/- The last step of every law: what was there below the heap's old size stands as it stood; so each argument reads as it read. -/
import Derived.Test.YtonchdhchaiikaaRows
import Derived.Carry
import Derived.ProofKit
import Derived.OpenShut
import Derived.JoinedCond
import Derived.WalkKit
import Derived.Test.YtonchdhchaiikaaWords
namespace Go.Proofs.Ytonchdhchaiikaa
open Go.ChangeShapes Go.WideShapes Go.ChangeAt Go.RowKit
open Go.ChangeMaps (open_string shut_string)

theorem own : ownKnob Try.prog.godebug = none := by kernel_rfl
theorem laidOut : laidOutB Try.prog = true := by kernel_rfl

section
variable {H : Type} {enc : TypeId × Value → H} {P : Program}

theorem trodAll_later (hl : laidOutB P = true) {W W' : World} (hb : Below W.heap.size W W') {sp : Nat → Bool} :
    ∀ (ts : List TypeId) (vs : List Value) (ds : List (DataW H)) (ps : List MemPlace), (∀ t ∈ ts, P.readableRec t = true ∧ t < P.types.size) →
      DataW.TrodAll enc P W 0 (fun _ => true) true ts vs ds ps → (∀ x ∈ ps, x.block < W.heap.size) → (∀ x ∈ ps, sp x.block = true) → DataW.TrodAll enc P W' 0 sp true ts vs ds ps
  | [], [], [], _, _, h, _, _ => h
  | t :: ts, v :: vs, d :: ds, ps, ht, ⟨p, q, h1, h2, e⟩, hlt, hs => by
    subst e
    have ht0 := ht t (List.mem_cons_self ..)
    exact ⟨p, q, WideElems.Trod_stays hl ht0.1 ht0.2 h1 (fun x hx => hb.same (hlt x (List.mem_append_left _ hx))) (fun x hx => hs x (List.mem_append_left _ hx)),
      trodAll_later hl hb ts vs ds q (fun u hu => ht u (List.mem_cons_of_mem _ hu)) h2 (fun x hx => hlt x (List.mem_append_right _ hx)) (fun x hx => hs x (List.mem_append_right _ hx)), rfl⟩
  | [], [], _ :: _, _, _, h, _, _ => h.elim
  | [], _ :: _, _, _, _, h, _, _ => h.elim
  | _ :: _, [], _, _, _, h, _, _ => h.elim
  | _ :: _, _ :: _, [], _, _, h, _, _ => h.elim

/-- A law's last step: it returned true, and nothing below the heap's old size has turned. -/
theorem law_post {f : Func} {s : ChangeSpec} {apart fresh handsOn : Bool} {tb : TypeId} {W W' : World} {args : Array Value} {ds gs : List (DataW H)} {before : List MemPlace}
    (hl : laidOutB P = true) (hts : ∀ t ∈ f.params.toList, P.readableRec t = true ∧ t < P.types.size) (hr : f.resultTypes = #[tb]) (htb : P.underlying tb = some .bool)
    (hv : s.vars = []) (hfn : s.fn H (ds ++ gs) = { results := [.lit (.bool true)], args := ds })
    (hW : DataW.Whole enc P f.params.toList s.vars apart W args.toList ds gs before) (hb : Below W.heap.size W W') :
    s.post enc P f apart fresh handsOn false W args (.bool true) W' := by
  have hlt : ∀ p ∈ before, p.block < W.heap.size := fun p hp => hW.lt p hp
  have hold : ∀ p ∈ before, (fun b => decide (b < W.heap.size)) p.block = true := fun p hp => by simpa using hlt p hp
  have hW' := hW
  obtain ⟨p, q, hA, hV, hpq, hz, hn⟩ := hW
  rw [hv] at hV
  obtain ⟨hgs, hq⟩ := trodVars_none hV
  subst hq
  subst hgs
  rw [List.append_nil] at hpq
  subst hpq
  have hargs : ∀ sp : Nat → Bool, (∀ p ∈ before, sp p.block = true) → DataW.TrodAll enc P W' 0 sp true f.params.toList args.toList (s.fn H (ds ++ [])).args before := by
    intro sp hs
    rw [hfn]
    exact trodAll_later hl hb _ _ _ _ hts hA hlt hs
  have hres : ∀ (b : Nat) (sp : Nat → Bool) (hd : Bool), DataW.TrodAll enc P W' b sp hd f.resultTypes.toList ((Value.bool true).resultList f.resultTypes.size) (s.fn H (ds ++ [])).results [] := by
    intro b sp hd
    rw [hfn, hr]
    exact trodAll_mk1 (shut_bool htb _)
  have hvars : ∀ sp : Nat → Bool, DataW.TrodVars enc P W' sp s.vars (s.fn H (ds ++ [])).vars [] := by
    intro sp
    rw [hfn, hv]
    exact rfl
  refine ⟨ds, [], before, [], before, [], hW', hres _ _ _, hargs _ hold, hvars _, World.keptBut_mono (fun p hp => ⟨hp, ?_⟩) (hb.frame (· ∈ before)), fun h => by cases h⟩
  exact Or.inr (by simpa using hp)

/-- two strings -/
theorem open_two_strings {f : Func} {s : ChangeSpec} {apart : Bool} {t : TypeId} {base : Nat} {W : World} {args : Array Value} {ds gs : List (DataW H)} {before : List MemPlace}
    (hp : f.params = #[t, t]) (ht : P.underlying t = some .string) (hv : s.vars = [])
    (hval : ∀ (j : Nat) t v, f.params[j]? = some t → args[j]? = some v → Value.okWide P W .any base t v)
    (hW : DataW.Whole enc P f.params.toList s.vars apart W args.toList ds gs before) :
    ∃ a b : ByteArray, args = #[.string a, .string b] ∧ ds = [.lit (.string a.data.toList), .lit (.string b.data.toList)] ∧ gs = [] ∧ a.size ≤ maxLen ∧ b.size ≤ maxLen := by
  obtain ⟨p, q, hA, hV, _⟩ := hW
  rw [hp] at hA hval
  rw [hv] at hV
  obtain ⟨rfl, rfl⟩ := trodVars_none hV
  obtain ⟨v0, vs0, d0, ds0, p0, q0, hargs, rfl, rfl, h0, r0⟩ := trodAll_cons hA
  obtain ⟨v1, vs1, d1, ds1, p1, q1, rfl, rfl, rfl, h1, r1⟩ := trodAll_cons r0
  obtain ⟨rfl, rfl, rfl⟩ := trodAll_nil r1
  obtain rfl : args = #[v0, v1] := by cases args; simp_all
  obtain ⟨a, rfl, rfl, rfl, ha⟩ := open_string ht (hval 0 t v0 rfl rfl) h0
  obtain ⟨b, rfl, rfl, rfl, hb⟩ := open_string ht (hval 1 t v1 rfl rfl) h1
  exact ⟨a, b, rfl, rfl, rfl, ha, hb⟩

theorem cell_lt {w : World} {a : Addr} {v : Value} (h : w.cell? a = some v) : a.block < w.heap.size := by
  rcases Nat.lt_or_ge a.block w.heap.size with hlt | hge
  · exact hlt
  · simp [World.cell?, Array.getElem?_eq_none hge] at h

/-- an argument of type []int -/
theorem open_int_row {t e : TypeId} {base : Nat} {W : World} {v : Value} {d : DataW H} {p : List MemPlace} (ht : P.underlying t = some (.slice e)) (he : P.underlying e = some (.int .i64)) (hc : P.cellsOf e = 1)
    (hval : Value.okWide P W .any base t v) (h : DataW.Trod enc P W 0 (fun _ => true) true t v d p) :
    ∃ (ao : Option Addr) (cap : Nat) (xs : List Int), v = .slice ao xs.length cap ∧ Rd W W.heap.size ao xs ∧ xs.length ≤ maxLen ∧ (∀ n ∈ xs, (Lit.int .i64 n).wf = true) := by
  obtain ⟨a0, len, cap, rfl⟩ := okWide_slice ht hval
  obtain ⟨fuel, hf⟩ := h
  rcases open_ints ht he hc hf with ⟨hcs, hx⟩ | ⟨a, len', cap', zs, hcs, _, hl, hm, hz, hx, hcell, hwz⟩
  · simp [Value.cells] at hcs
    obtain ⟨rfl, rfl, rfl⟩ := hcs
    exact ⟨none, 0, [], rfl, fun k z hk => by simp at hk, Nat.zero_le _, fun n hn => by cases hn⟩
  · simp [Value.cells] at hcs
    obtain ⟨rfl, rfl, rfl⟩ := hcs
    simp only [if_true] at hz
    have hlen : (zs.take len).length = len := by rw [List.length_take]; omega
    refine ⟨some a, cap, zs.take len, by rw [hlen], ?_, by omega, fun n hn => hwz n (List.mem_of_mem_take hn)⟩
    intro k z hk
    have hk2 : k < len := by
      have := (List.getElem?_eq_some_iff.1 hk).1
      omega
    have hc' := hcell k (by omega)
    rw [List.getElem?_take_of_lt hk2] at hk
    have e2 : zs.getD k 0 = z := by rw [List.getD_eq_getElem?_getD, hk]; rfl
    rw [e2] at hc'
    refine ⟨a, rfl, ?_, hc'⟩
    have := cell_lt hc'
    rwa [add_block] at this

/-- two slices of numbers -/
theorem open_two_rows {f : Func} {s : ChangeSpec} {apart : Bool} {t e : TypeId} {base : Nat} {W : World} {args : Array Value} {ds gs : List (DataW H)} {before : List MemPlace}
    (hp : f.params = #[t, t]) (ht : P.underlying t = some (.slice e)) (he : P.underlying e = some (.int .i64)) (hc : P.cellsOf e = 1) (hv : s.vars = [])
    (hval : ∀ (j : Nat) t v, f.params[j]? = some t → args[j]? = some v → Value.okWide P W .any base t v)
    (hW : DataW.Whole enc P f.params.toList s.vars apart W args.toList ds gs before) :
    ∃ (ao bo : Option Addr) (ca cb : Nat) (xs ys : List Int) (d1 d2 : DataW H), args = #[.slice ao xs.length ca, .slice bo ys.length cb] ∧ ds = [d1, d2] ∧ gs = [] ∧ Rd W W.heap.size ao xs ∧ Rd W W.heap.size bo ys ∧ xs.length ≤ maxLen ∧ ys.length ≤ maxLen ∧
      (∀ n ∈ xs, (Lit.int .i64 n).wf = true) ∧ (∀ n ∈ ys, (Lit.int .i64 n).wf = true) := by
  obtain ⟨p, q, hA, hV, _⟩ := hW
  rw [hp] at hA hval
  rw [hv] at hV
  obtain ⟨rfl, rfl⟩ := trodVars_none hV
  obtain ⟨v0, vs0, d0, ds0, p0, q0, hargs, rfl, rfl, h0, r0⟩ := trodAll_cons hA
  obtain ⟨v1, vs1, d1, ds1, p1, q1, rfl, rfl, rfl, h1, r1⟩ := trodAll_cons r0
  obtain ⟨rfl, rfl, rfl⟩ := trodAll_nil r1
  obtain rfl : args = #[v0, v1] := by cases args; simp_all
  obtain ⟨ao, ca, xs, rfl, hr1, hm1, hw1⟩ := open_int_row ht he hc (hval 0 t v0 rfl rfl) h0
  obtain ⟨bo, cb, ys, rfl, hr2, hm2, hw2⟩ := open_int_row ht he hc (hval 1 t v1 rfl rfl) h1
  exact ⟨ao, bo, ca, cb, xs, ys, d0, d1, rfl, rfl, rfl, hr1, hr2, hm1, hm2, hw1, hw2⟩

/-- one slice of numbers -/
theorem open_one_row {f : Func} {s : ChangeSpec} {apart : Bool} {t e : TypeId} {base : Nat} {W : World} {args : Array Value} {ds gs : List (DataW H)} {before : List MemPlace}
    (hp : f.params = #[t]) (ht : P.underlying t = some (.slice e)) (he : P.underlying e = some (.int .i64)) (hc : P.cellsOf e = 1) (hv : s.vars = [])
    (hval : ∀ (j : Nat) t v, f.params[j]? = some t → args[j]? = some v → Value.okWide P W .any base t v)
    (hW : DataW.Whole enc P f.params.toList s.vars apart W args.toList ds gs before) :
    ∃ (ao : Option Addr) (ca : Nat) (xs : List Int) (d1 : DataW H), args = #[.slice ao xs.length ca] ∧ ds = [d1] ∧ gs = [] ∧ Rd W W.heap.size ao xs ∧ xs.length ≤ maxLen ∧ (∀ n ∈ xs, (Lit.int .i64 n).wf = true) := by
  obtain ⟨p, q, hA, hV, _⟩ := hW
  rw [hp] at hA hval
  rw [hv] at hV
  obtain ⟨rfl, rfl⟩ := trodVars_none hV
  obtain ⟨v0, vs0, d0, ds0, p0, q0, hargs, rfl, rfl, h0, r0⟩ := trodAll_cons hA
  obtain ⟨rfl, rfl, rfl⟩ := trodAll_nil r0
  obtain rfl : args = #[v0] := by cases args; simp_all
  obtain ⟨ao, ca, xs, rfl, hr1, hm1, hw1⟩ := open_int_row ht he hc (hval 0 t v0 rfl rfl) h0
  exact ⟨ao, ca, xs, d0, rfl, rfl, rfl, hr1, hm1, hw1⟩

/-- one string -/
theorem open_one_string {f : Func} {s : ChangeSpec} {apart : Bool} {t : TypeId} {base : Nat} {W : World} {args : Array Value} {ds gs : List (DataW H)} {before : List MemPlace}
    (hp : f.params = #[t]) (ht : P.underlying t = some .string) (hv : s.vars = [])
    (hval : ∀ (j : Nat) t v, f.params[j]? = some t → args[j]? = some v → Value.okWide P W .any base t v)
    (hW : DataW.Whole enc P f.params.toList s.vars apart W args.toList ds gs before) :
    ∃ a : ByteArray, args = #[.string a] ∧ ds = [.lit (.string a.data.toList)] ∧ gs = [] ∧ a.size ≤ maxLen := by
  obtain ⟨p, q, hA, hV, _⟩ := hW
  rw [hp] at hA hval
  rw [hv] at hV
  obtain ⟨rfl, rfl⟩ := trodVars_none hV
  obtain ⟨v0, vs0, d0, ds0, p0, q0, hargs, rfl, rfl, h0, r0⟩ := trodAll_cons hA
  obtain ⟨rfl, rfl, rfl⟩ := trodAll_nil r0
  obtain rfl : args = #[v0] := by cases args; simp_all
  obtain ⟨a, rfl, rfl, rfl, ha⟩ := open_string ht (hval 0 t v0 rfl rfl) h0
  exact ⟨a, rfl, rfl, rfl, ha⟩
end

/-- what the bound gives of two strings -/
theorem short_two {H : Type} {a b : ByteArray} (hk : Rows.uptoSmall H ([.lit (.string a.data.toList), .lit (.string b.data.toList)] ++ []) = true) : a.size + b.size ≤ 1048574 := by
  have h : Rows.uptoBulkAll ([DataW.lit (H := H) (.string a.data.toList), .lit (.string b.data.toList)] ++ []) ≤ 1048576 := of_decide_eq_true hk
  simp only [List.cons_append, List.nil_append, Rows.uptoBulkAll, Rows.uptoBulk] at h
  have e : a.data.toList.length = a.size := by rw [Array.length_toList]; rfl
  have e' : b.data.toList.length = b.size := by rw [Array.length_toList]; rfl
  omega
/-- what the bound gives of one string -/
theorem short_one {H : Type} {a : ByteArray} (hk : Rows.uptoSmall H ([.lit (.string a.data.toList)] ++ []) = true) : a.size ≤ 1048575 := by
  have h : Rows.uptoBulkAll ([DataW.lit (H := H) (.string a.data.toList)] ++ []) ≤ 1048576 := of_decide_eq_true hk
  simp only [List.cons_append, List.nil_append, Rows.uptoBulkAll, Rows.uptoBulk] at h
  have e : a.data.toList.length = a.size := by rw [Array.length_toList]; rfl
  omega

end Go.Proofs.Ytonchdhchaiikaa

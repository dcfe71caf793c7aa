/- Several texts in one: Words, Law, Open, Bytes. -/
import Derived.Test.YtmfkefcdddoooaaGreatDoorProg
import Derived.WalkKit
import Derived.BigCall
import Derived.Below
import Derived.Laws.OwnMore
import Derived.Lib.Hide
import Derived.Lib.OthersKept
import Derived.WalkLawsBesides
import Derived.WalkSpells
import Derived.BigQuiet
import Derived.Deep.QuietTactic
import Derived.Test.YtmfkefcdddoooaaGreatDoorRows
import Derived.Carry
import Derived.ProofKit
import Derived.OpenShut
import Derived.JoinedCond
import Derived.Lib.Strings
import Derived.Test.YtmfkefcdddoooaaGreatDoorP00
namespace Go.Proofs.YtmfkefcdddoooaaGreatDoor
open Go.RowKit

/-- numbers as cells -/
def ints (l : List Nat) : List Value := l.map fun k : Nat => Value.int .i64 (k : Int)
theorem ints_length (l : List Nat) : (ints l).length = l.length := by simp [ints]
theorem ints_append (a b : List Nat) : ints (a ++ b) = ints a ++ ints b := by simp [ints]
theorem ints_one (k : Nat) : ints [k] = [.int .i64 k] := rfl
theorem ints_get {l : List Nat} {j : Nat} {k : Nat} (h : l[j]? = some k) : (ints l)[j]? = some (.int .i64 (k : Int)) := by simp [ints, h]

theorem info3 : (Tryz.prog.info? 3).map (fun i => (i.zero, i.size, i.bytes)) = some (some (.int .i64 0), 1, 8) := by kernel_rfl
theorem info5 : (Tryz.prog.info? 5).map (fun i => (i.zero, i.size, i.bytes)) = some (some (.int .u8 0), 1, 1) := by kernel_rfl

/-- a row of the call's own is no iterator -/
theorem own_ne_iter {w : World} {base : Nat} {e : TypeId} {size n : Nat} {v : Value} {xs : List Value} {k : Nat} {s : ByteArray} {pos : Nat}
    (h : w.ownsRow base e size v n xs) (hk : w.heap[k]? = some (.stringIter s pos)) : v.ownBlock ≠ some k := by
  rcases h.2 with ⟨rfl, _⟩ | ⟨g, cap, cur, rfl, _, hg, _⟩
  · simp [Value.ownBlock]
  · intro e
    have : g = k := by simpa [Value.ownBlock] using e
    subst this
    rw [hg] at hk
    cases hk

theorem own_form {w : World} {base : Nat} {e : TypeId} {size n : Nat} {v : Value} {xs : List Value} (h : w.ownsRow base e size v n xs) : ∃ ao cap, v = .slice ao n cap := by
  rcases h.2 with ⟨rfl, rfl⟩ | ⟨g, cap, cur, rfl, _⟩
  · exact ⟨none, 0, rfl⟩
  · exact ⟨_, _, rfl⟩

theorem iter_lt {w : World} {k : Nat} {s : ByteArray} {pos : Nat} (hk : w.heap[k]? = some (.stringIter s pos)) : k < w.heap.size :=
  (Array.getElem?_eq_some_iff.1 hk).1

/-- a row of the call's own, while an iterator moves on -/
theorem own_iterAt {w : World} {base : Nat} {e : TypeId} {size n : Nat} {v : Value} {xs : List Value} {k : Nat} {s : ByteArray} {pos : Nat}
    (h : w.ownsRow base e size v n xs) (hk : w.heap[k]? = some (.stringIter s pos)) (pos' : Nat) : (w.iterAt k s pos').ownsRow base e size v n xs := by
  have hne := own_ne_iter h hk
  refine ⟨h.1, ?_⟩
  rcases h.2 with h0 | ⟨g, cap, cur, hv, hb, hg, r⟩
  · exact .inl h0
  · refine .inr ⟨g, cap, cur, hv, hb, ?_, r⟩
    have : g ≠ k := by
      intro e
      subst e
      subst hv
      exact hne rfl
    rw [Lib.iterAt_other _ _ _ _ _ this]
    exact hg

/-- a slice's address, and the numbers that lie there, below block B -/
def Rd (w : World) (B : Nat) (ao : Option Addr) (zs : List Int) : Prop :=
  ∀ (k : Nat) (z : Int), zs[k]? = some z → ∃ ad, ao = some ad ∧ ad.block < B ∧ w.cell? (ad.add k) = some (.int .i64 z)

theorem add_block (a : Addr) (n : Nat) : (a.add n).block = a.block := by unfold Addr.add; split <;> rfl

theorem Rd.keep {w w' : World} {B : Nat} {ao : Option Addr} {zs : List Int} (h : Rd w B ao zs) (hk : ∀ p : Addr, p.block < B → w'.cell? p = w.cell? p) : Rd w' B ao zs := by
  intro k z hz
  obtain ⟨ad, e, hb, hc⟩ := h k z hz
  exact ⟨ad, e, hb, (hk _ (by rw [add_block]; exact hb)).trans hc⟩
theorem Rd.below {w w' : World} {B : Nat} {ao : Option Addr} {zs : List Int} (h : Rd w B ao zs) (hb : Below B w w') : Rd w' B ao zs := h.keep fun _ hp => hb.cell hp
theorem Rd.more {w : World} {B B' : Nat} {ao : Option Addr} {zs : List Int} (h : Rd w B ao zs) (hB : B ≤ B') : Rd w B' ao zs := by
  intro k z hz
  obtain ⟨ad, e, hb, hc⟩ := h k z hz
  exact ⟨ad, e, by omega, hc⟩
theorem Rd.of_own {w : World} {B n cap : Nat} {e : TypeId} {ao : Option Addr} {l : List Nat} (h : w.ownsRow B e 1 (.slice ao n cap) n (ints l)) : Rd w w.heap.size ao (l.map Int.ofNat) := by
  intro k z hz
  have hl : l.length = n := by have := h.1; rw [ints_length] at this; omega
  have hk : k < l.length := by
    have := (List.getElem?_eq_some_iff.1 hz).1
    simpa using this
  rcases h.2 with ⟨hv, h0⟩ | ⟨g, cap', cur, hv, hb, hg, _⟩
  · omega
  · injection hv with hv _ _
    subst hv
    refine ⟨_, rfl, (Array.getElem?_eq_some_iff.1 hg).1, ?_⟩
    have := h.cells (g := g) rfl k (.int .i64 (l[k] : Int)) (ints_get (List.getElem?_eq_getElem hk))
    rw [this]
    simp at hz
    obtain ⟨x, hx, e⟩ := hz
    rw [List.getElem?_eq_getElem hk] at hx
    injection hx with hx
    rw [hx, e]

end Go.Proofs.YtmfkefcdddoooaaGreatDoor

namespace Go.Proofs.YtmfkefcdddoooaaGreatDoor
open Go.ChangeShapes Go.WideShapes Go.ChangeAt Go.RowKit
open Go.ChangeMaps (open_string shut_string)

theorem own : ownKnob Tryz.prog.godebug = none := by kernel_rfl
theorem laidOut : laidOutB Tryz.prog = true := by kernel_rfl

section
variable {H : Type} {enc : TypeId × Value → H} {P : Program}

theorem trodAll_later (hl : laidOutB P = true) {W W' : World} (hb : Below W.heap.size W W') {sp : Nat → Bool} :
    ∀ (ts : List TypeId) (vs : List Value) (ds : List (DataW H)) (ps : List MemPlace), (∀ t ∈ ts, P.readableRec t = true ∧ t < P.types.size) →
      DataW.TrodAll enc P W 0 (fun _ => true) true ts vs ds ps → (∀ x ∈ ps, x.block < W.heap.size) → (∀ x ∈ ps, sp x.block = true) → DataW.TrodAll enc P W' 0 sp true ts vs ds ps
  | [], [], [], _, _, h, _, _ => h
  | t :: ts, v :: vs, d :: ds, ps, ht, ⟨p, q, h1, h2, e⟩, hlt, hs => by
    subst e
    have ht0 := ht t (List.mem_cons_self ..)
    exact ⟨p, q, WideElems.Trod_stays hl ht0.1 ht0.2 h1 (fun x hx => hb.same (hlt x (List.mem_append_left _ hx))) (fun x hx => hs x (List.mem_append_left _ hx)),
      trodAll_later hl hb ts vs ds q (fun u hu => ht u (List.mem_cons_of_mem _ hu)) h2 (fun x hx => hlt x (List.mem_append_right _ hx)) (fun x hx => hs x (List.mem_append_right _ hx)), rfl⟩
  | [], [], _ :: _, _, _, h, _, _ => h.elim
  | [], _ :: _, _, _, _, h, _, _ => h.elim
  | _ :: _, [], _, _, _, h, _, _ => h.elim
  | _ :: _, _ :: _, [], _, _, h, _, _ => h.elim

/-- A law's last step: it returned true, and nothing below the heap's old size has turned. -/
theorem law_post {f : Func} {s : ChangeSpec} {apart fresh handsOn : Bool} {tb : TypeId} {W W' : World} {args : Array Value} {ds gs : List (DataW H)} {before : List MemPlace}
    (hl : laidOutB P = true) (hts : ∀ t ∈ f.params.toList, P.readableRec t = true ∧ t < P.types.size) (hr : f.resultTypes = #[tb]) (htb : P.underlying tb = some .bool)
    (hv : s.vars = []) (hfn : s.fn H (ds ++ gs) = { results := [.lit (.bool true)], args := ds })
    (hW : DataW.Whole enc P f.params.toList s.vars apart W args.toList ds gs before) (hb : Below W.heap.size W W') :
    s.post enc P f apart fresh handsOn false W args (.bool true) W' := by
  have hlt : ∀ p ∈ before, p.block < W.heap.size := fun p hp => hW.lt p hp
  have hold : ∀ p ∈ before, (fun b => decide (b < W.heap.size)) p.block = true := fun p hp => by simpa using hlt p hp
  have hW' := hW
  obtain ⟨p, q, hA, hV, hpq, hz, hn⟩ := hW
  rw [hv] at hV
  obtain ⟨hgs, hq⟩ := trodVars_none hV
  subst hq
  subst hgs
  rw [List.append_nil] at hpq
  subst hpq
  have hargs : ∀ sp : Nat → Bool, (∀ p ∈ before, sp p.block = true) → DataW.TrodAll enc P W' 0 sp true f.params.toList args.toList (s.fn H (ds ++ [])).args before := by
    intro sp hs
    rw [hfn]
    exact trodAll_later hl hb _ _ _ _ hts hA hlt hs
  have hres : ∀ (b : Nat) (sp : Nat → Bool) (hd : Bool), DataW.TrodAll enc P W' b sp hd f.resultTypes.toList ((Value.bool true).resultList f.resultTypes.size) (s.fn H (ds ++ [])).results [] := by
    intro b sp hd
    rw [hfn, hr]
    exact trodAll_mk1 (shut_bool htb _)
  have hvars : ∀ sp : Nat → Bool, DataW.TrodVars enc P W' sp s.vars (s.fn H (ds ++ [])).vars [] := by
    intro sp
    rw [hfn, hv]
    exact rfl
  refine ⟨ds, [], before, [], before, [], hW', hres _ _ _, hargs _ hold, hvars _, World.keptBut_mono (fun p hp => ⟨hp, ?_⟩) (hb.frame (· ∈ before)), fun h => by cases h⟩
  exact Or.inr (by simpa using hp)

/-- two strings -/
theorem open_two_strings {f : Func} {s : ChangeSpec} {apart : Bool} {t : TypeId} {base : Nat} {W : World} {args : Array Value} {ds gs : List (DataW H)} {before : List MemPlace}
    (hp : f.params = #[t, t]) (ht : P.underlying t = some .string) (hv : s.vars = [])
    (hval : ∀ (j : Nat) t v, f.params[j]? = some t → args[j]? = some v → Value.okWide P W .any base t v)
    (hW : DataW.Whole enc P f.params.toList s.vars apart W args.toList ds gs before) :
    ∃ a b : ByteArray, args = #[.string a, .string b] ∧ ds = [.lit (.string a.data.toList), .lit (.string b.data.toList)] ∧ gs = [] ∧ a.size ≤ maxLen ∧ b.size ≤ maxLen := by
  obtain ⟨p, q, hA, hV, _⟩ := hW
  rw [hp] at hA hval
  rw [hv] at hV
  obtain ⟨rfl, rfl⟩ := trodVars_none hV
  obtain ⟨v0, vs0, d0, ds0, p0, q0, hargs, rfl, rfl, h0, r0⟩ := trodAll_cons hA
  obtain ⟨v1, vs1, d1, ds1, p1, q1, rfl, rfl, rfl, h1, r1⟩ := trodAll_cons r0
  obtain ⟨rfl, rfl, rfl⟩ := trodAll_nil r1
  obtain rfl : args = #[v0, v1] := by cases args; simp_all
  obtain ⟨a, rfl, rfl, rfl, ha⟩ := open_string ht (hval 0 t v0 rfl rfl) h0
  obtain ⟨b, rfl, rfl, rfl, hb⟩ := open_string ht (hval 1 t v1 rfl rfl) h1
  exact ⟨a, b, rfl, rfl, rfl, ha, hb⟩

theorem cell_lt {w : World} {a : Addr} {v : Value} (h : w.cell? a = some v) : a.block < w.heap.size := by
  rcases Nat.lt_or_ge a.block w.heap.size with hlt | hge
  · exact hlt
  · simp [World.cell?, Array.getElem?_eq_none hge] at h

/-- an argument of type []int -/
theorem open_int_row {t e : TypeId} {base : Nat} {W : World} {v : Value} {d : DataW H} {p : List MemPlace} (ht : P.underlying t = some (.slice e)) (he : P.underlying e = some (.int .i64)) (hc : P.cellsOf e = 1)
    (hval : Value.okWide P W .any base t v) (h : DataW.Trod enc P W 0 (fun _ => true) true t v d p) :
    ∃ (ao : Option Addr) (cap : Nat) (xs : List Int), v = .slice ao xs.length cap ∧ Rd W W.heap.size ao xs ∧ xs.length ≤ maxLen ∧ (∀ n ∈ xs, (Lit.int .i64 n).wf = true) := by
  obtain ⟨a0, len, cap, rfl⟩ := okWide_slice ht hval
  obtain ⟨fuel, hf⟩ := h
  rcases open_ints ht he hc hf with ⟨hcs, hx⟩ | ⟨a, len', cap', zs, hcs, _, hl, hm, hz, hx, hcell, hwz⟩
  · simp [Value.cells] at hcs
    obtain ⟨rfl, rfl, rfl⟩ := hcs
    exact ⟨none, 0, [], rfl, fun k z hk => by simp at hk, Nat.zero_le _, fun n hn => by cases hn⟩
  · simp [Value.cells] at hcs
    obtain ⟨rfl, rfl, rfl⟩ := hcs
    simp only [if_true] at hz
    have hlen : (zs.take len).length = len := by rw [List.length_take]; omega
    refine ⟨some a, cap, zs.take len, by rw [hlen], ?_, by omega, fun n hn => hwz n (List.mem_of_mem_take hn)⟩
    intro k z hk
    have hk2 : k < len := by
      have := (List.getElem?_eq_some_iff.1 hk).1
      omega
    have hc' := hcell k (by omega)
    rw [List.getElem?_take_of_lt hk2] at hk
    have e2 : zs.getD k 0 = z := by rw [List.getD_eq_getElem?_getD, hk]; rfl
    rw [e2] at hc'
    refine ⟨a, rfl, ?_, hc'⟩
    have := cell_lt hc'
    rwa [add_block] at this

/-- two slices of numbers -/
theorem open_two_rows {f : Func} {s : ChangeSpec} {apart : Bool} {t e : TypeId} {base : Nat} {W : World} {args : Array Value} {ds gs : List (DataW H)} {before : List MemPlace}
    (hp : f.params = #[t, t]) (ht : P.underlying t = some (.slice e)) (he : P.underlying e = some (.int .i64)) (hc : P.cellsOf e = 1) (hv : s.vars = [])
    (hval : ∀ (j : Nat) t v, f.params[j]? = some t → args[j]? = some v → Value.okWide P W .any base t v)
    (hW : DataW.Whole enc P f.params.toList s.vars apart W args.toList ds gs before) :
    ∃ (ao bo : Option Addr) (ca cb : Nat) (xs ys : List Int) (d1 d2 : DataW H), args = #[.slice ao xs.length ca, .slice bo ys.length cb] ∧ ds = [d1, d2] ∧ gs = [] ∧ Rd W W.heap.size ao xs ∧ Rd W W.heap.size bo ys ∧ xs.length ≤ maxLen ∧ ys.length ≤ maxLen ∧
      (∀ n ∈ xs, (Lit.int .i64 n).wf = true) ∧ (∀ n ∈ ys, (Lit.int .i64 n).wf = true) := by
  obtain ⟨p, q, hA, hV, _⟩ := hW
  rw [hp] at hA hval
  rw [hv] at hV
  obtain ⟨rfl, rfl⟩ := trodVars_none hV
  obtain ⟨v0, vs0, d0, ds0, p0, q0, hargs, rfl, rfl, h0, r0⟩ := trodAll_cons hA
  obtain ⟨v1, vs1, d1, ds1, p1, q1, rfl, rfl, rfl, h1, r1⟩ := trodAll_cons r0
  obtain ⟨rfl, rfl, rfl⟩ := trodAll_nil r1
  obtain rfl : args = #[v0, v1] := by cases args; simp_all
  obtain ⟨ao, ca, xs, rfl, hr1, hm1, hw1⟩ := open_int_row ht he hc (hval 0 t v0 rfl rfl) h0
  obtain ⟨bo, cb, ys, rfl, hr2, hm2, hw2⟩ := open_int_row ht he hc (hval 1 t v1 rfl rfl) h1
  exact ⟨ao, bo, ca, cb, xs, ys, d0, d1, rfl, rfl, rfl, hr1, hr2, hm1, hm2, hw1, hw2⟩

/-- one slice of numbers -/
theorem open_one_row {f : Func} {s : ChangeSpec} {apart : Bool} {t e : TypeId} {base : Nat} {W : World} {args : Array Value} {ds gs : List (DataW H)} {before : List MemPlace}
    (hp : f.params = #[t]) (ht : P.underlying t = some (.slice e)) (he : P.underlying e = some (.int .i64)) (hc : P.cellsOf e = 1) (hv : s.vars = [])
    (hval : ∀ (j : Nat) t v, f.params[j]? = some t → args[j]? = some v → Value.okWide P W .any base t v)
    (hW : DataW.Whole enc P f.params.toList s.vars apart W args.toList ds gs before) :
    ∃ (ao : Option Addr) (ca : Nat) (xs : List Int) (d1 : DataW H), args = #[.slice ao xs.length ca] ∧ ds = [d1] ∧ gs = [] ∧ Rd W W.heap.size ao xs ∧ xs.length ≤ maxLen ∧ (∀ n ∈ xs, (Lit.int .i64 n).wf = true) := by
  obtain ⟨p, q, hA, hV, _⟩ := hW
  rw [hp] at hA hval
  rw [hv] at hV
  obtain ⟨rfl, rfl⟩ := trodVars_none hV
  obtain ⟨v0, vs0, d0, ds0, p0, q0, hargs, rfl, rfl, h0, r0⟩ := trodAll_cons hA
  obtain ⟨rfl, rfl, rfl⟩ := trodAll_nil r0
  obtain rfl : args = #[v0] := by cases args; simp_all
  obtain ⟨ao, ca, xs, rfl, hr1, hm1, hw1⟩ := open_int_row ht he hc (hval 0 t v0 rfl rfl) h0
  exact ⟨ao, ca, xs, d0, rfl, rfl, rfl, hr1, hm1, hw1⟩

/-- one string -/
theorem open_one_string {f : Func} {s : ChangeSpec} {apart : Bool} {t : TypeId} {base : Nat} {W : World} {args : Array Value} {ds gs : List (DataW H)} {before : List MemPlace}
    (hp : f.params = #[t]) (ht : P.underlying t = some .string) (hv : s.vars = [])
    (hval : ∀ (j : Nat) t v, f.params[j]? = some t → args[j]? = some v → Value.okWide P W .any base t v)
    (hW : DataW.Whole enc P f.params.toList s.vars apart W args.toList ds gs before) :
    ∃ a : ByteArray, args = #[.string a] ∧ ds = [.lit (.string a.data.toList)] ∧ gs = [] ∧ a.size ≤ maxLen := by
  obtain ⟨p, q, hA, hV, _⟩ := hW
  rw [hp] at hA hval
  rw [hv] at hV
  obtain ⟨rfl, rfl⟩ := trodVars_none hV
  obtain ⟨v0, vs0, d0, ds0, p0, q0, hargs, rfl, rfl, h0, r0⟩ := trodAll_cons hA
  obtain ⟨rfl, rfl, rfl⟩ := trodAll_nil r0
  obtain rfl : args = #[v0] := by cases args; simp_all
  obtain ⟨a, rfl, rfl, rfl, ha⟩ := open_string ht (hval 0 t v0 rfl rfl) h0
  exact ⟨a, rfl, rfl, rfl, ha⟩
end

/-- what the bound gives of two strings -/
theorem short_two {H : Type} {a b : ByteArray} (hk : Rows.uptoSmall H ([.lit (.string a.data.toList), .lit (.string b.data.toList)] ++ []) = true) : a.size + b.size ≤ 1048574 := by
  have h : Rows.uptoBulkAll ([DataW.lit (H := H) (.string a.data.toList), .lit (.string b.data.toList)] ++ []) ≤ 1048576 := of_decide_eq_true hk
  simp only [List.cons_append, List.nil_append, Rows.uptoBulkAll, Rows.uptoBulk] at h
  have e : a.data.toList.length = a.size := by rw [Array.length_toList]; rfl
  have e' : b.data.toList.length = b.size := by rw [Array.length_toList]; rfl
  omega
/-- what the bound gives of one string -/
theorem short_one {H : Type} {a : ByteArray} (hk : Rows.uptoSmall H ([.lit (.string a.data.toList)] ++ []) = true) : a.size ≤ 1048575 := by
  have h : Rows.uptoBulkAll ([DataW.lit (H := H) (.string a.data.toList)] ++ []) ≤ 1048576 := of_decide_eq_true hk
  simp only [List.cons_append, List.nil_append, Rows.uptoBulkAll, Rows.uptoBulk] at h
  have e : a.data.toList.length = a.size := by rw [Array.length_toList]; rfl
  omega

end Go.Proofs.YtmfkefcdddoooaaGreatDoor

namespace Go.Proofs.YtmfkefcdddoooaaGreatDoor
open Go.ChangeShapes Go.WideShapes Go.ChangeAt Go.RowKit
open Go.ChangeMaps (open_string shut_string)

section
variable {H : Type} {enc : TypeId × Value → H} {P : Program}

/-- a string, a bool -/
theorem open_string_bool {f : Func} {s : ChangeSpec} {apart : Bool} {t u : TypeId} {base : Nat} {W : World} {args : Array Value} {ds gs : List (DataW H)} {before : List MemPlace}
    (hp : f.params = #[t, u]) (ht : P.underlying t = some .string) (hu : P.underlying u = some .bool) (hv : s.vars = [])
    (hval : ∀ (j : Nat) t v, f.params[j]? = some t → args[j]? = some v → Value.okWide P W .any base t v)
    (hW : DataW.Whole enc P f.params.toList s.vars apart W args.toList ds gs before) :
    ∃ a : ByteArray, ∃ p : Bool, args = #[.string a, .bool p] ∧ ds = [.lit (.string a.data.toList), .lit (.bool p)] ∧ gs = [] ∧ a.size ≤ maxLen := by
  obtain ⟨p, q, hA, hV, _⟩ := hW
  rw [hp] at hA hval
  rw [hv] at hV
  obtain ⟨rfl, rfl⟩ := trodVars_none hV
  obtain ⟨v0, vs0, d0, ds0, p0, q0, hargs, rfl, rfl, h0, r0⟩ := trodAll_cons hA
  obtain ⟨v1, vs1, d1, ds1, p1, q1, rfl, rfl, rfl, h1, r1⟩ := trodAll_cons r0
  obtain ⟨rfl, rfl, rfl⟩ := trodAll_nil r1
  obtain rfl : args = #[v0, v1] := by cases args; simp_all
  obtain ⟨a, rfl, rfl, rfl, ha⟩ := open_string ht (hval 0 t v0 rfl rfl) h0
  obtain ⟨p, rfl, rfl, rfl⟩ := open_bool hu (hval 1 u v1 rfl rfl) h1
  exact ⟨a, p, rfl, rfl, rfl, ha⟩

/-- two strings, a bool -/
theorem open_two_strings_bool {f : Func} {s : ChangeSpec} {apart : Bool} {t u : TypeId} {base : Nat} {W : World} {args : Array Value} {ds gs : List (DataW H)} {before : List MemPlace}
    (hp : f.params = #[t, t, u]) (ht : P.underlying t = some .string) (hu : P.underlying u = some .bool) (hv : s.vars = [])
    (hval : ∀ (j : Nat) t v, f.params[j]? = some t → args[j]? = some v → Value.okWide P W .any base t v)
    (hW : DataW.Whole enc P f.params.toList s.vars apart W args.toList ds gs before) :
    ∃ a : ByteArray, ∃ b : ByteArray, ∃ p : Bool, args = #[.string a, .string b, .bool p] ∧ ds = [.lit (.string a.data.toList), .lit (.string b.data.toList), .lit (.bool p)] ∧ gs = [] ∧ a.size ≤ maxLen ∧ b.size ≤ maxLen := by
  obtain ⟨p, q, hA, hV, _⟩ := hW
  rw [hp] at hA hval
  rw [hv] at hV
  obtain ⟨rfl, rfl⟩ := trodVars_none hV
  obtain ⟨v0, vs0, d0, ds0, p0, q0, hargs, rfl, rfl, h0, r0⟩ := trodAll_cons hA
  obtain ⟨v1, vs1, d1, ds1, p1, q1, rfl, rfl, rfl, h1, r1⟩ := trodAll_cons r0
  obtain ⟨v2, vs2, d2, ds2, p2, q2, rfl, rfl, rfl, h2, r2⟩ := trodAll_cons r1
  obtain ⟨rfl, rfl, rfl⟩ := trodAll_nil r2
  obtain rfl : args = #[v0, v1, v2] := by cases args; simp_all
  obtain ⟨a, rfl, rfl, rfl, ha⟩ := open_string ht (hval 0 t v0 rfl rfl) h0
  obtain ⟨b, rfl, rfl, rfl, hb⟩ := open_string ht (hval 1 t v1 rfl rfl) h1
  obtain ⟨p, rfl, rfl, rfl⟩ := open_bool hu (hval 2 u v2 rfl rfl) h2
  exact ⟨a, b, p, rfl, rfl, rfl, ha, hb⟩

/-- a string, two bools -/
theorem open_string_two_bools {f : Func} {s : ChangeSpec} {apart : Bool} {t u : TypeId} {base : Nat} {W : World} {args : Array Value} {ds gs : List (DataW H)} {before : List MemPlace}
    (hp : f.params = #[t, u, u]) (ht : P.underlying t = some .string) (hu : P.underlying u = some .bool) (hv : s.vars = [])
    (hval : ∀ (j : Nat) t v, f.params[j]? = some t → args[j]? = some v → Value.okWide P W .any base t v)
    (hW : DataW.Whole enc P f.params.toList s.vars apart W args.toList ds gs before) :
    ∃ a : ByteArray, ∃ p : Bool, ∃ q : Bool, args = #[.string a, .bool p, .bool q] ∧ ds = [.lit (.string a.data.toList), .lit (.bool p), .lit (.bool q)] ∧ gs = [] ∧ a.size ≤ maxLen := by
  obtain ⟨p, q, hA, hV, _⟩ := hW
  rw [hp] at hA hval
  rw [hv] at hV
  obtain ⟨rfl, rfl⟩ := trodVars_none hV
  obtain ⟨v0, vs0, d0, ds0, p0, q0, hargs, rfl, rfl, h0, r0⟩ := trodAll_cons hA
  obtain ⟨v1, vs1, d1, ds1, p1, q1, rfl, rfl, rfl, h1, r1⟩ := trodAll_cons r0
  obtain ⟨v2, vs2, d2, ds2, p2, q2, rfl, rfl, rfl, h2, r2⟩ := trodAll_cons r1
  obtain ⟨rfl, rfl, rfl⟩ := trodAll_nil r2
  obtain rfl : args = #[v0, v1, v2] := by cases args; simp_all
  obtain ⟨a, rfl, rfl, rfl, ha⟩ := open_string ht (hval 0 t v0 rfl rfl) h0
  obtain ⟨p, rfl, rfl, rfl⟩ := open_bool hu (hval 1 u v1 rfl rfl) h1
  obtain ⟨q, rfl, rfl, rfl⟩ := open_bool hu (hval 2 u v2 rfl rfl) h2
  exact ⟨a, p, q, rfl, rfl, rfl, ha⟩

/-- a number -/
theorem open_one_int {f : Func} {s : ChangeSpec} {apart : Bool} {v : TypeId} {base : Nat} {W : World} {args : Array Value} {ds gs : List (DataW H)} {before : List MemPlace}
    (hp : f.params = #[v]) (hn : P.underlying v = some (.int .i64)) (hv : s.vars = [])
    (hval : ∀ (j : Nat) t v, f.params[j]? = some t → args[j]? = some v → Value.okWide P W .any base t v)
    (hW : DataW.Whole enc P f.params.toList s.vars apart W args.toList ds gs before) :
    ∃ n : Int, args = #[.int .i64 n] ∧ ds = [.lit (.int .i64 n)] ∧ gs = [] ∧ (Lit.int .i64 n).wf = true := by
  obtain ⟨p, q, hA, hV, _⟩ := hW
  rw [hp] at hA hval
  rw [hv] at hV
  obtain ⟨rfl, rfl⟩ := trodVars_none hV
  obtain ⟨v0, vs0, d0, ds0, p0, q0, hargs, rfl, rfl, h0, r0⟩ := trodAll_cons hA
  obtain ⟨rfl, rfl, rfl⟩ := trodAll_nil r0
  obtain rfl : args = #[v0] := by cases args; simp_all
  obtain ⟨n, rfl, rfl, rfl, hn⟩ := open_int hn (hval 0 v v0 rfl rfl) h0
  exact ⟨n, rfl, rfl, rfl, hn⟩
end

theorem short_sb {H : Type} {a : ByteArray} {p : Bool} (hk : Rows.uptoSmall H ([.lit (.string a.data.toList), .lit (.bool p)] ++ []) = true) : a.size ≤ 1048574 := by
  have h : Rows.uptoBulkAll ([DataW.lit (H := H) (.string a.data.toList), DataW.lit (H := H) (.bool p)] ++ []) ≤ 1048576 := of_decide_eq_true hk
  simp only [List.cons_append, List.nil_append, Rows.uptoBulkAll, Rows.uptoBulk] at h
  have ea : a.data.toList.length = a.size := by rw [Array.length_toList]; rfl
  omega

theorem short_ssb {H : Type} {a b : ByteArray} {p : Bool} (hk : Rows.uptoSmall H ([.lit (.string a.data.toList), .lit (.string b.data.toList), .lit (.bool p)] ++ []) = true) : a.size + b.size ≤ 1048573 := by
  have h : Rows.uptoBulkAll ([DataW.lit (H := H) (.string a.data.toList), DataW.lit (H := H) (.string b.data.toList), DataW.lit (H := H) (.bool p)] ++ []) ≤ 1048576 := of_decide_eq_true hk
  simp only [List.cons_append, List.nil_append, Rows.uptoBulkAll, Rows.uptoBulk] at h
  have ea : a.data.toList.length = a.size := by rw [Array.length_toList]; rfl
  have eb : b.data.toList.length = b.size := by rw [Array.length_toList]; rfl
  omega

theorem short_sbb {H : Type} {a : ByteArray} {p q : Bool} (hk : Rows.uptoSmall H ([.lit (.string a.data.toList), .lit (.bool p), .lit (.bool q)] ++ []) = true) : a.size ≤ 1048573 := by
  have h : Rows.uptoBulkAll ([DataW.lit (H := H) (.string a.data.toList), DataW.lit (H := H) (.bool p), DataW.lit (H := H) (.bool q)] ++ []) ≤ 1048576 := of_decide_eq_true hk
  simp only [List.cons_append, List.nil_append, Rows.uptoBulkAll, Rows.uptoBulk] at h
  have ea : a.data.toList.length = a.size := by rw [Array.length_toList]; rfl
  omega

end Go.Proofs.YtmfkefcdddoooaaGreatDoor

namespace Go.Proofs.YtmfkefcdddoooaaGreatDoor
open Go.RowKit

theorem toList_length (s : ByteArray) : s.data.toList.length = s.size := by rw [Array.length_toList]; rfl
theorem byte_eq {b : UInt8} {k : Nat} (hk : k < 256) : (b.toNat = k) ↔ b = UInt8.ofNat k := by
  constructor
  · intro h; exact (U.ofNat_eq h.symm).symm
  · rintro rfl; simp; omega
theorem drop_byte {l : List UInt8} {k : Nat} {b : UInt8} (h : l[k]? = some b) : l.drop k = b :: l.drop (k + 1) := by
  obtain ⟨hk, e⟩ := List.getElem?_eq_some_iff.1 h
  rw [List.drop_eq_getElem_cons hk, e]
theorem get_byte {s : ByteArray} {k : Nat} {b : UInt8} (h : s.data.toList[k]? = some b) : (s.get! k) = b := by
  obtain ⟨hk, e⟩ := List.getElem?_eq_some_iff.1 h
  rw [toList_length] at hk
  have hk2 : k < s.data.size := hk
  simp only [ByteArray.get!]
  rw [getElem!_pos s.data k hk2]
  simpa using e

theorem byte_get (s : ByteArray) {k : Nat} (h : k < s.size) : s.data.toList[k]? = some (s[k]'h) := by
  have h2 : k < s.data.size := h
  rw [Array.getElem?_toList, getElem?_pos s.data k h2]
  rfl

theorem beq_yes {b : UInt8} {n : Int} (h : (b.toNat : Int) = n) : ((b.toNat : Int) == n) = true := by rw [h]; simp
theorem beq_no {b : UInt8} {n : Int} (h : (b.toNat : Int) ≠ n) : ((b.toNat : Int) == n) = false := by simpa using h

def strSize : Value → Nat
  | .string s => s.size
  | _ => 0
theorem len_list (s : ByteArray) : s.data.toList.length = s.size := by rw [Array.length_toList]; rfl
theorem list_of_mk (l : List UInt8) : (ByteArray.mk l.toArray).data.toList = l := by simp
theorem size_of_mk (l : List UInt8) : (ByteArray.mk l.toArray).size = l.length := by show l.toArray.size = _; simp
theorem mk_of_list (s : ByteArray) : ByteArray.mk s.data.toList.toArray = s := by cases s; simp

end Go.Proofs.YtmfkefcdddoooaaGreatDoor

/- An argument that is an expression, opened. -/
import Derived.Test.YtfloeijklogcfaaOpen
import Derived.Test.YtfloeijklogcfaaEx
import Derived.Deep.Slices
namespace Go.Proofs.Ytfloeijklogcfaa
open Go.ChangeShapes Go.WideShapes Go.ChangeAt Go.RowKit Go.Deep

section
variable {H : Type} {enc : TypeId × Value → H}
theorem intCells : Try.prog.cellsOf 3 = 1 := by kernel_rfl
theorem exLen : Try.prog.cellsOf 24 = 3 := by kernel_rfl
theorem exsCells : Try.prog.cellsOf 22 = 1 := by kernel_rfl
theorem bulk_le {ds : List (DataW H)} {d : DataW H} (h : d ∈ ds) : Rows.uptoBulk d ≤ Rows.uptoBulkAll ds := by
  induction ds with
  | nil => cases h
  | cons a r ih =>
    rw [Rows.uptoBulkAll]
    rcases List.mem_cons.1 h with rfl | h
    · omega
    · have := ih h; omega
theorem pick_list {α β : Type} (Q : Nat → α → β → Prop) : ∀ (ds : List β), (∀ i d, ds[i]? = some d → ∃ y, Q i y d) → ∃ l : List α, l.length = ds.length ∧ ∀ i y d, l[i]? = some y → ds[i]? = some d → Q i y d := by
  intro ds
  induction ds generalizing Q with
  | nil => intro _; exact ⟨[], rfl, fun i y d h => by cases h⟩
  | cons a r ih =>
    intro h
    obtain ⟨y0, h0⟩ := h 0 a rfl
    obtain ⟨l, hl, hq⟩ := ih (fun i => Q (i + 1)) (fun i d hd => h (i + 1) d (by simpa using hd))
    refine ⟨y0 :: l, by simp [hl], fun i y d hy hd => ?_⟩
    cases i with
    | zero => simp at hy hd; subst hy; subst hd; exact h0
    | succ i => exact hq i y d (by simpa using hy) (by simpa using hd)
theorem cnt_bulk : ∀ (l : List EV) (ds : List (DataW H × List MemPlace)), l.length = ds.length → (∀ (i : Nat) (y : EV) (d : DataW H × List MemPlace), l[i]? = some y → ds[i]? = some d → U.cntE y.1 ≤ Rows.uptoBulk d.1) → U.cntEs (l.map (·.1)) ≤ Rows.uptoBulkAll (ds.map (·.1))
  | [], ds, _, _ => by rw [List.map_nil, U.cntEs_nil]; exact Nat.zero_le _
  | y :: l, [], h, _ => by simp at h
  | y :: l, d :: ds, h, hq => by
    rw [List.map_cons, List.map_cons, U.cntEs_cons, Rows.uptoBulkAll]
    have h0 := hq 0 y d rfl rfl
    have h1 := cnt_bulk l ds (by simpa using h) (fun i y' d' hy hd => hq (i + 1) y' d' (by simpa using hy) (by simpa using hd))
    omega
theorem addr_form {W : World} {a : Addr} {v : Value} (h : W.cell? a = some v) : ∃ g o, a = ⟨g, o, none⟩ := by
  obtain ⟨g, o, sp⟩ := a
  cases sp with
  | none => exact ⟨g, o, rfl⟩
  | some q =>
    exfalso
    unfold World.cell? at h
    simp only [Option.isSome_some, if_true] at h
    split at h <;> cases h
mutual
/-- every number is one of the language -/
def WfE : U.Ex → Prop
  | .mk k t p => (Lit.int .i64 k).wf = true ∧ (Lit.int .i64 t).wf = true ∧ WfEs p
def WfEs : List U.Ex → Prop
  | [] => True
  | x :: r => WfE x ∧ WfEs r
end
theorem wfEs_iff : ∀ (l : List U.Ex), WfEs l ↔ ∀ x ∈ l, WfE x
  | [] => by rw [WfEs]; simp
  | x :: r => by rw [WfEs, wfEs_iff r]; simp
theorem wfE_iff : ∀ (x : U.Ex), WfE x ↔ (Lit.int .i64 x.kind).wf = true ∧ (Lit.int .i64 x.type).wf = true ∧ WfEs x.parts
  | .mk _ _ _ => by rw [WfE]; rfl
set_option maxRecDepth 100000 in
/-- an expression's cells as they were read, where its parts can be read -/
theorem open_ex {W : World} {fuel : Nat} (ih : ∀ n2, n2 < fuel → ∀ (cs : List Value) (x : DataW H × List MemPlace), DataW.trod enc Try.prog W 0 (fun _ => true) true n2 22 cs = some x →
    ∃ (ao : Option Addr) (cap : Nat) (l : List U.Ex), cs = [.slice ao l.length cap] ∧ RdExs W (· < W.heap.size) (.slice ao l.length cap) l ∧ U.cntEs l ≤ Rows.uptoBulk x.1 ∧ WfEs l)
    {cs : List Value} {d : DataW H × List MemPlace} (ht : DataW.trod enc Try.prog W 0 (fun _ => true) true fuel 24 cs = some d) :
    ∃ y : EV, cs = [.int .i64 y.1.kind, .int .i64 y.1.type, y.2] ∧ RdExs W (· < W.heap.size) y.2 y.1.parts ∧ U.cntE y.1 ≤ Rows.uptoBulk d.1 ∧ WfE y.1 := by
  obtain ⟨xs, n2, hn2, hx, hcl, hxl, hf⟩ := DataW.trod_struct Try.underlying24 ht
  rw [exLen] at hcl
  match cs, hcl, xs, hxl with
  | [c0, c1, c2], _, [y0, y1, y2], _ =>
    have h0 : DataW.trod enc Try.prog W 0 (fun _ => true) true n2 3 (([c0, c1, c2].drop 0).take (Try.prog.cellsOf 3)) = some y0 := hf 0 _ rfl
    have h1 : DataW.trod enc Try.prog W 0 (fun _ => true) true n2 3 (([c0, c1, c2].drop 1).take (Try.prog.cellsOf 3)) = some y1 := hf 1 _ rfl
    have h2 : DataW.trod enc Try.prog W 0 (fun _ => true) true n2 22 (([c0, c1, c2].drop 2).take (Try.prog.cellsOf 22)) = some y2 := hf 2 _ rfl
    rw [intCells] at h0 h1
    rw [exsCells] at h2
    obtain ⟨k0, e0, z0, m0⟩ := DataW.trod_int Try.underlying3 h0
    obtain ⟨k1, e1, z1, m1⟩ := DataW.trod_int Try.underlying3 h1
    obtain ⟨po, pcap, pl, e2, hP, b2, s2⟩ := ih n2 (by omega) _ _ h2
    have e0' : c0 = .int .i64 k0 := by simpa using e0
    have e1' : c1 = .int .i64 k1 := by simpa using e1
    have e2' : c2 = .slice po pl.length pcap := by simpa using e2
    have hu : Rows.uptoBulk d.1 = Rows.uptoBulk y0.1 + (Rows.uptoBulk y1.1 + (Rows.uptoBulk y2.1 + 0)) + 1 := by
      rw [hx]
      simp only [List.map, Rows.uptoBulk, Rows.uptoBulkAll]
    refine ⟨(.mk k0 k1 pl, .slice po pl.length pcap), by rw [e0', e1', e2']; rfl, hP, ?_, ?_⟩
    · show U.cntE (.mk _ _ _) ≤ _
      rw [U.cntE]
      omega
    · show WfE (.mk _ _ _)
      rw [WfE]
      exact ⟨m0, m1, s2⟩
set_option maxRecDepth 100000 in
/-- expressions as they were read -/
theorem open_exs {W : World} : ∀ (fuel : Nat) (cs : List Value) (x : DataW H × List MemPlace), DataW.trod enc Try.prog W 0 (fun _ => true) true fuel 22 cs = some x →
    ∃ (ao : Option Addr) (cap : Nat) (l : List U.Ex), cs = [.slice ao l.length cap] ∧ RdExs W (· < W.heap.size) (.slice ao l.length cap) l ∧ U.cntEs l ≤ Rows.uptoBulk x.1 ∧ WfEs l := by
  intro fuel
  induction fuel using Nat.strongRecOn with
  | _ fuel ih =>
  intro cs x h
  rcases DataW.trod_slice Try.underlying22 h with ⟨rfl, rfl⟩ | ⟨a, len, cap, elems, rest, n, hfu, rfl, rfl, _, hl, hm, hlen, hel, _, _⟩
  · exact ⟨none, 0, [], rfl, RdExs.nil _ _, by rw [U.cntEs_nil]; exact Nat.zero_le _, by rw [WfEs]; trivial⟩
  · rw [exLen] at hel
    have hone : ∀ i d, elems[i]? = some d → ∃ y : EV, (W.cell? (a.add (i * 3)) = some (.int .i64 y.1.kind) ∧ W.cell? (a.add (i * 3 + 1)) = some (.int .i64 y.1.type) ∧ W.cell? (a.add (i * 3 + 2)) = some y.2) ∧
        RdExs W (· < W.heap.size) y.2 y.1.parts ∧ U.cntE y.1 ≤ Rows.uptoBulk d.1 ∧ WfE y.1 := by
      intro i d hd
      have hi : i < len := by rw [← hlen]; exact (List.getElem?_eq_some_iff.1 hd).1
      have h0 := hel i hi
      rw [hd] at h0
      obtain ⟨cs', hc, ht⟩ := Option.bind_eq_some_iff.1 h0
      obtain ⟨y, rfl, hP, hb, hw⟩ := open_ex (fun n2 hn2 => ih n2 (by omega)) ht
      obtain ⟨_, _, hat⟩ := World.cells?_some hc
      have k0 := hat 0 (by omega)
      have k1 := hat 1 (by omega)
      have k2 := hat 2 (by omega)
      rw [add_add] at k0 k1 k2
      exact ⟨y, ⟨by rw [Nat.add_zero] at k0; exact k0, k1, k2⟩, hP, hb, hw⟩
    obtain ⟨l, hll, hq⟩ := pick_list _ elems hone
    have hlen2 : (l.map (·.1)).length = len := by rw [List.length_map, hll, hlen]
    have hbulk : Rows.uptoBulk (DataW.slice (elems.map (·.1)) (rest.map (·.1)) : DataW H) = Rows.uptoBulkAll (elems.map (·.1)) + Rows.uptoBulkAll (rest.map (·.1)) + 1 := by
      rw [Rows.uptoBulk]
    refine ⟨some a, cap, l.map (·.1), by rw [hlen2], ⟨some a, cap, rfl, by rw [hlen2]; exact hl, hm, ?_⟩, ?_, ?_⟩
    · cases hel0 : l with
      | nil => left; rfl
      | cons y0 r0 =>
        right
        have hd0 : ∃ d, elems[0]? = some d := by
          cases he : elems with
          | nil => rw [he, hel0] at hll; simp at hll
          | cons d r => exact ⟨d, rfl⟩
        obtain ⟨d0, hd0⟩ := hd0
        obtain ⟨⟨k0, _⟩, _⟩ := hq 0 y0 d0 (by rw [hel0]; rfl) hd0
        rw [Nat.zero_mul] at k0
        obtain ⟨g, o, ea⟩ := addr_form k0
        have ea2 : a = ⟨g, o, none⟩ := by
          obtain ⟨g', o', sp⟩ := a
          simp only [Addr.add] at ea
          split at ea <;> simp_all
        subst ea2
        have ha : ∀ j, (⟨g, o, none⟩ : Addr).add j = ⟨g, o + j, none⟩ := fun j => by unfold Addr.add; split <;> simp_all
        refine ⟨g, o, rfl, by rw [ha] at k0; exact cell_lt k0, ?_⟩
        rw [← hel0]
        refine rdExR_of fun i nd hnd => ?_
        rw [List.getElem?_map] at hnd
        cases hy : l[i]? with
        | none => rw [hy] at hnd; cases hnd
        | some y =>
          rw [hy] at hnd
          obtain rfl : y.1 = nd := by simpa using hnd
          have hdi : ∃ d, elems[i]? = some d := by
            have : i < elems.length := by rw [← hll]; exact (List.getElem?_eq_some_iff.1 hy).1
            exact ⟨_, List.getElem?_eq_getElem this⟩
          obtain ⟨d, hdi⟩ := hdi
          obtain ⟨⟨k0, k1, k2⟩, d1, _⟩ := hq i y d hy hdi
          rw [ha] at k0 k1 k2
          simp only [← Nat.add_assoc] at k1 k2
          rw [rdEx_iff]
          exact ⟨_, k0, k1, k2, d1⟩
    · show U.cntEs _ ≤ Rows.uptoBulk (DataW.slice (elems.map (·.1)) (rest.map (·.1)))
      rw [hbulk]
      have := cnt_bulk l elems hll (fun i y d hy hd => (hq i y d hy hd).2.2.1)
      omega
    · rw [wfEs_iff]
      intro nd hnd
      obtain ⟨y, hy, rfl⟩ := List.mem_map.1 hnd
      obtain ⟨i, hi⟩ := List.getElem?_of_mem hy
      have hdi : ∃ d, elems[i]? = some d := by
        have : i < elems.length := by rw [← hll]; exact (List.getElem?_eq_some_iff.1 hi).1
        exact ⟨_, List.getElem?_eq_getElem this⟩
      obtain ⟨d, hdi⟩ := hdi
      exact (hq i y d hi hdi).2.2.2

theorem short_bulk {d : DataW H} (hk : Rows.uptoSmall H ([d] ++ []) = true) : Rows.uptoBulk d ≤ 1048576 := by
  have h : Rows.uptoBulkAll ([d] ++ []) ≤ 1048576 := of_decide_eq_true hk
  simp only [List.cons_append, List.nil_append, Rows.uptoBulkAll] at h
  omega
set_option maxRecDepth 100000 in
/-- one expression -/
theorem open_one_ex {f : Func} {s : ChangeSpec} {apart : Bool} {base : Nat} {W : World} {args : Array Value} {ds gs : List (DataW H)} {before : List MemPlace}
    (hp : f.params = #[24]) (hv : s.vars = []) (hval : ∀ (j : Nat) t v, f.params[j]? = some t → args[j]? = some v → Value.okWide Try.prog W .any base t v)
    (hW : DataW.Whole enc Try.prog f.params.toList s.vars apart W args.toList ds gs before) :
    ∃ (x : U.Ex) (pv : Value) (d : DataW H), args = #[exVal x pv] ∧ ds = [d] ∧ gs = [] ∧ RdExs W (· < W.heap.size) pv x.parts ∧ U.cntE x ≤ Rows.uptoBulk d ∧ WfE x := by
  obtain ⟨p, q, hA, hV, _⟩ := hW
  rw [hp] at hA hval
  rw [hv] at hV
  obtain ⟨rfl, rfl⟩ := trodVars_none hV
  obtain ⟨v0, vs0, d0, ds0, p0, q0, hargs, rfl, rfl, h0, r0⟩ := trodAll_cons hA
  obtain ⟨rfl, rfl, rfl⟩ := trodAll_nil r0
  obtain rfl : args = #[v0] := by cases args; simp_all
  obtain ⟨fuel, hf⟩ := h0
  obtain ⟨y, hcs, hR, hm, hF⟩ := open_ex (fun n2 _ => open_exs n2) hf
  obtain ⟨cs, rfl, hsz⟩ := okWide_struct Try.underlying24 (hval 0 _ v0 rfl rfl)
  have e : cs.toList = [.int .i64 y.1.kind, .int .i64 y.1.type, y.2] := by simpa [Value.cells] using hcs
  have e2 : cs = #[.int .i64 y.1.kind, .int .i64 y.1.type, y.2] := by
    apply Array.toList_inj.1
    rw [e]
  subst e2
  exact ⟨y.1, y.2, d0, rfl, rfl, rfl, hR, hm, hF⟩
end

end Go.Proofs.Ytfloeijklogcfaa

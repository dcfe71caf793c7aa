/- An argument that is a slice of tokens, opened. -/
import Derived.Test.YtmfkefcdddoooaaOpen
import Derived.Test.YtmfkefcdddoooaaRdKC
import Derived.Deep.Slices
namespace Go.Proofs.Ytmfkefcdddoooaa
open Go.ChangeShapes Go.WideShapes Go.ChangeAt Go.RowKit Go.Deep

section
variable {H : Type} {enc : TypeId × Value → H}

theorem strCells : Try.prog.cellsOf 9 = 1 := by kernel_rfl
theorem intCells : Try.prog.cellsOf 3 = 1 := by kernel_rfl
theorem boolCells : Try.prog.cellsOf 4 = 1 := by kernel_rfl
theorem attsCells : Try.prog.cellsOf 29 = 1 := by kernel_rfl
theorem attLen : Try.prog.cellsOf 48 = 2 := by kernel_rfl
theorem tokLen : Try.prog.cellsOf 31 = 5 := by kernel_rfl

set_option maxRecDepth 100000 in
/-- an attribute as it was read -/
theorem open_att {W : World} {fuel : Nat} {cs : List Value} {x : DataW H × List MemPlace} (h : DataW.trod enc Try.prog W 0 (fun _ => true) true fuel 48 cs = some x) :
    ∃ a : U.Att, cs = [.string ⟨a.1.toArray⟩, .string ⟨a.2.toArray⟩] ∧ a.1.length ≤ maxLen ∧ a.2.length ≤ maxLen ∧ a.1.length ≤ Rows.uptoBulk x.1 ∧ a.2.length ≤ Rows.uptoBulk x.1 := by
  obtain ⟨xs, n, _, hx, hl, hxl, hf⟩ := DataW.trod_struct Try.underlying48 h
  rw [attLen] at hl
  match cs, hl with
  | [c0, c1], _ =>
    match xs, hxl with
    | [y0, y1], _ =>
      have h0 : DataW.trod enc Try.prog W 0 (fun _ => true) true n 9 (([c0, c1].drop 0).take (Try.prog.cellsOf 9)) = some y0 := hf 0 _ rfl
      have h1 : DataW.trod enc Try.prog W 0 (fun _ => true) true n 9 (([c0, c1].drop 1).take (Try.prog.cellsOf 9)) = some y1 := hf 1 _ rfl
      rw [strCells] at h0 h1
      obtain ⟨s0, e0, z0, m0⟩ := DataW.trod_string Try.underlying9 h0
      obtain ⟨s1, e1, z1, m1⟩ := DataW.trod_string Try.underlying9 h1
      have e0' : c0 = .string s0 := by simpa using e0
      have e1' : c1 = .string s1 := by simpa using e1
      have l0 : s0.data.toList.length = s0.size := by rw [Array.length_toList]; rfl
      have l1 : s1.data.toList.length = s1.size := by rw [Array.length_toList]; rfl
      refine ⟨(s0.data.toList, s1.data.toList), by rw [e0', e1'], by rw [l0]; exact m0, by rw [l1]; exact m1, ?_, ?_⟩
      all_goals
        rw [hx, z0, z1]
        simp only [List.map, Rows.uptoBulk, Rows.uptoBulkAll]
        omega
theorem bulk_le {ds : List (DataW H)} {d : DataW H} (h : d ∈ ds) : Rows.uptoBulk d ≤ Rows.uptoBulkAll ds := by
  induction ds with
  | nil => cases h
  | cons a r ih =>
    rw [Rows.uptoBulkAll]
    rcases List.mem_cons.1 h with rfl | h
    · omega
    · have := ih h; omega
theorem bulk_pos (d : DataW H) : 1 ≤ Rows.uptoBulk d := by
  cases d with
  | lit l => cases l <;> simp [Rows.uptoBulk]
  | _ => simp [Rows.uptoBulk]
theorem bulk_len (ds : List (DataW H)) : ds.length ≤ Rows.uptoBulkAll ds := by
  induction ds with
  | nil => exact Nat.zero_le _
  | cons a r ih =>
    rw [Rows.uptoBulkAll, List.length_cons]
    have := bulk_pos a
    omega

set_option maxRecDepth 100000 in
/-- attributes as they were read -/
theorem open_atts {W : World} {fuel : Nat} {cs : List Value} {x : DataW H × List MemPlace} (h : DataW.trod enc Try.prog W 0 (fun _ => true) true fuel 29 cs = some x) :
    ∃ (ao : Option Addr) (cap : Nat) (al : List U.Att), cs = [.slice ao al.length cap] ∧ RdA W W.heap.size (.slice ao al.length cap) al ∧ al.length ≤ cap ∧ al.length ≤ maxLen ∧ (∀ a ∈ al, a.1.length ≤ maxLen ∧ a.2.length ≤ maxLen) ∧
      al.length ≤ Rows.uptoBulk x.1 ∧ ∀ a ∈ al, a.1.length ≤ Rows.uptoBulk x.1 ∧ a.2.length ≤ Rows.uptoBulk x.1 := by
  rcases open_slice Try.underlying29 h with ⟨rfl, rfl⟩ | ⟨a, len, cap, m, n, D, Pl, rfl, _, hl, hm, hmm, rfl, hi⟩
  · exact ⟨none, 0, [], rfl, ⟨none, 0, rfl, fun i y hy => by simp at hy⟩, Nat.le_refl _, Nat.zero_le _, (by intro a ha; cases ha), Nat.zero_le _, (by intro a ha; cases ha)⟩
  · simp only [if_true] at hmm
    subst hmm
    rw [attLen] at hi
    obtain ⟨f, hf⟩ := choose_lt (α := U.Att) (n := len) (p := fun i y => (W.cell? (a.add (i * 2)) = some (.string ⟨y.1.toArray⟩) ∧ W.cell? (a.add (i * 2 + 1)) = some (.string ⟨y.2.toArray⟩)) ∧ y.1.length ≤ maxLen ∧ y.2.length ≤ maxLen ∧ y.1.length ≤ Rows.uptoBulk (D i) ∧ y.2.length ≤ Rows.uptoBulk (D i)) (fun i hil => by
      obtain ⟨cs', hc, ht⟩ := hi i (by omega)
      obtain ⟨y, rfl, r⟩ := open_att ht
      obtain ⟨_, _, hat⟩ := World.cells?_some hc
      have h0 := hat 0 (by omega)
      have h1 := hat 1 (by omega)
      rw [add_add] at h0 h1
      exact ⟨y, ⟨h0, h1⟩, r⟩)
    have hlen : ((List.range len).map f).length = len := by simp
    have hmem : ∀ y ∈ (List.range len).map f, ∃ i, i < len ∧ f i = y := fun y hy => by
      obtain ⟨i, hi2, e⟩ := List.mem_map.1 hy
      exact ⟨i, List.mem_range.1 hi2, e⟩
    have hb : ∀ i, i < len → Rows.uptoBulk (D i) ≤ Rows.uptoBulkAll ((List.range len).map D) := fun i hil => bulk_le (List.mem_map.2 ⟨i, List.mem_range.2 hil, rfl⟩)
    refine ⟨some a, m, (List.range len).map f, by rw [hlen], ?_, by rw [hlen]; exact hl, by rw [hlen]; omega, ?_, ?_, ?_⟩
    · refine ⟨some a, m, rfl, fun i y hy => ?_⟩
      have hil : i < len := by have := (List.getElem?_eq_some_iff.1 hy).1; omega
      have e : f i = y := by
        rw [List.getElem?_map, List.getElem?_range hil] at hy
        simpa using hy
      obtain ⟨⟨h0, h1⟩, _⟩ := hf i hil
      rw [e] at h0 h1
      obtain ⟨g, o, sp⟩ := a
      have hz := (hf 0 (by omega)).1.1
      have hsp : sp = none := by
        have hz2 : W.cell? ⟨g, o, sp⟩ = some (.string ⟨(f 0).1.toArray⟩) := by simpa [Addr.add] using hz
        cases sp with
        | none => rfl
        | some q =>
          unfold World.cell? at hz2
          simp only [Option.isSome_some, if_true] at hz2
          split at hz2 <;> cases hz2
      subst hsp
      have ha : ∀ j, (⟨g, o, none⟩ : Addr).add j = ⟨g, o + j, none⟩ := fun j => by unfold Addr.add; split <;> simp_all
      rw [ha] at h0 h1
      exact ⟨g, o, rfl, cell_lt h0, h0, by rw [Nat.add_assoc]; exact h1⟩
    · intro y hy
      obtain ⟨i, hil, rfl⟩ := hmem y hy
      exact ⟨(hf i hil).2.1, (hf i hil).2.2.1⟩
    · rw [hlen]
      show len ≤ Rows.uptoBulk (DataW.slice ((List.range len).map D) _)
      rw [Rows.uptoBulk]
      have := bulk_len ((List.range len).map D)
      rw [List.length_map, List.length_range] at this
      omega
    · intro y hy
      obtain ⟨i, hil, rfl⟩ := hmem y hy
      have h1 := (hf i hil).2.2.2
      have h2 := hb i hil
      show _ ≤ Rows.uptoBulk (DataW.slice ((List.range len).map D) _) ∧ _ ≤ Rows.uptoBulk (DataW.slice ((List.range len).map D) _)
      rw [Rows.uptoBulk]
      omega
set_option maxRecDepth 100000 in
/-- a token as it was read -/
theorem open_tok {W : World} {fuel : Nat} {cs : List Value} {x : DataW H × List MemPlace} (h : DataW.trod enc Try.prog W 0 (fun _ => true) true fuel 31 cs = some x) :
    ∃ (t : U.Tk) (av : Value), cs = [.int .i64 t.kind, .string ⟨t.name.toArray⟩, av, .bool t.self, .string ⟨t.text.toArray⟩] ∧ RdA W W.heap.size av t.attrs ∧ Cap av ∧ Small maxLen t ∧ Small (Rows.uptoBulk x.1) t := by
  obtain ⟨xs, n, _, hx, hl, hxl, hf⟩ := DataW.trod_struct Try.underlying31 h
  rw [tokLen] at hl
  match cs, hl with
  | [c0, c1, c2, c3, c4], _ =>
    match xs, hxl with
    | [y0, y1, y2, y3, y4], _ =>
      have h0 : DataW.trod enc Try.prog W 0 (fun _ => true) true n 3 (([c0, c1, c2, c3, c4].drop 0).take (Try.prog.cellsOf 3)) = some y0 := hf 0 _ rfl
      have h1 : DataW.trod enc Try.prog W 0 (fun _ => true) true n 9 (([c0, c1, c2, c3, c4].drop 1).take (Try.prog.cellsOf 9)) = some y1 := hf 1 _ rfl
      have h2 : DataW.trod enc Try.prog W 0 (fun _ => true) true n 29 (([c0, c1, c2, c3, c4].drop 2).take (Try.prog.cellsOf 29)) = some y2 := hf 2 _ rfl
      have h3 : DataW.trod enc Try.prog W 0 (fun _ => true) true n 4 (([c0, c1, c2, c3, c4].drop 3).take (Try.prog.cellsOf 4)) = some y3 := hf 3 _ rfl
      have h4 : DataW.trod enc Try.prog W 0 (fun _ => true) true n 9 (([c0, c1, c2, c3, c4].drop 4).take (Try.prog.cellsOf 9)) = some y4 := hf 4 _ rfl
      rw [intCells] at h0
      rw [strCells] at h1 h4
      rw [attsCells] at h2
      rw [boolCells] at h3
      obtain ⟨k, e0, z0, m0⟩ := DataW.trod_int Try.underlying3 h0
      obtain ⟨s1, e1, z1, m1⟩ := DataW.trod_string Try.underlying9 h1
      obtain ⟨ao, cap, al, e2, hA, hcap, m2, m2', b2, b2'⟩ := open_atts h2
      obtain ⟨b, e3, z3⟩ := DataW.trod_bool Try.underlying4 h3
      obtain ⟨s4, e4, z4, m4⟩ := DataW.trod_string Try.underlying9 h4
      have e0' : c0 = .int .i64 k := by simpa using e0
      have e1' : c1 = .string s1 := by simpa using e1
      have e2' : c2 = .slice ao al.length cap := by simpa using e2
      have e3' : c3 = .bool b := by simpa using e3
      have e4' : c4 = .string s4 := by simpa using e4
      have l1 : s1.data.toList.length = s1.size := by rw [Array.length_toList]; rfl
      have l4 : s4.data.toList.length = s4.size := by rw [Array.length_toList]; rfl
      have hu : Rows.uptoBulk x.1 = Rows.uptoBulk y0.1 + (Rows.uptoBulk y1.1 + (Rows.uptoBulk y2.1 + (Rows.uptoBulk y3.1 + (Rows.uptoBulk y4.1 + 0)))) + 1 := by
        rw [hx]
        simp only [List.map, Rows.uptoBulk, Rows.uptoBulkAll]
      have u1 : Rows.uptoBulk y1.1 = s1.data.toList.length + 1 := by rw [z1]; simp only [Rows.uptoBulk]
      have u4 : Rows.uptoBulk y4.1 = s4.data.toList.length + 1 := by rw [z4]; simp only [Rows.uptoBulk]
      refine ⟨⟨k, s1.data.toList, al, b, s4.data.toList⟩, .slice ao al.length cap, by rw [e0', e1', e2', e3', e4'], hA, Cap.mk hcap, ⟨by show s1.data.toList.length ≤ _; rw [l1]; exact m1, by show s4.data.toList.length ≤ _; rw [l4]; exact m4, m2, m2'⟩, ⟨?_, ?_, ?_, ?_⟩⟩
      · show s1.data.toList.length ≤ _; omega
      · show s4.data.toList.length ≤ _; omega
      · show al.length ≤ _; omega
      · intro a ha
        have := b2' a ha
        omega

set_option maxRecDepth 100000 in
/-- tokens as they were read -/
theorem open_toks {W : World} {fuel : Nat} {cs : List Value} {x : DataW H × List MemPlace} (h : DataW.trod enc Try.prog W 0 (fun _ => true) true fuel 23 cs = some x) :
    ∃ (ao : Option Addr) (cap : Nat) (l : List U.Tk), cs = [.slice ao l.length cap] ∧ RdKC W W.heap.size (.slice ao l.length cap) l ∧ l.length ≤ maxLen ∧ (∀ t ∈ l, Small maxLen t) ∧ ∀ t ∈ l, Small (Rows.uptoBulk x.1) t := by
  rcases open_slice Try.underlying23 h with ⟨rfl, rfl⟩ | ⟨a, len, cap, m, n, D, Pl, rfl, _, hl, hm, hmm, rfl, hi⟩
  · refine ⟨none, 0, [], rfl, ⟨⟨none, 0, rfl, fun i y hy => by simp at hy⟩, Cap.mk (Nat.le_refl _), fun ao n cap e i t ht => by simp at ht⟩, Nat.zero_le _, (by intro a ha; cases ha), (by intro a ha; cases ha)⟩
  · simp only [if_true] at hmm
    subst hmm
    rw [tokLen] at hi
    have hex : ∀ i, i < len → ∃ y : U.Tk × Value, (W.cell? (a.add (i * 5)) = some (.int .i64 y.1.kind) ∧ W.cell? (a.add (i * 5 + 1)) = some (.string ⟨y.1.name.toArray⟩) ∧ W.cell? (a.add (i * 5 + 2)) = some y.2 ∧ W.cell? (a.add (i * 5 + 3)) = some (.bool y.1.self) ∧
        W.cell? (a.add (i * 5 + 4)) = some (.string ⟨y.1.text.toArray⟩)) ∧ RdA W W.heap.size y.2 y.1.attrs ∧ Cap y.2 ∧ Small maxLen y.1 ∧ Small (Rows.uptoBulk (D i)) y.1 := fun i hil => by
      obtain ⟨cs', hc, ht⟩ := hi i (by omega)
      obtain ⟨t, av, rfl, r⟩ := open_tok ht
      obtain ⟨_, _, hat⟩ := World.cells?_some hc
      have h0 := hat 0 (by omega)
      have h1 := hat 1 (by omega)
      have h2 := hat 2 (by omega)
      have h3 := hat 3 (by omega)
      have h4 := hat 4 (by omega)
      rw [add_add] at h0 h1 h2 h3 h4
      exact ⟨(t, av), ⟨h0, h1, h2, h3, h4⟩, r⟩
    haveI : Inhabited (U.Tk × Value) := ⟨(⟨0, [], [], false, []⟩, undef)⟩
    obtain ⟨f, hf⟩ := choose_lt hex
    have hlen : ((List.range len).map fun i => (f i).1).length = len := by simp
    have hmem : ∀ y ∈ (List.range len).map (fun i => (f i).1), ∃ i, i < len ∧ (f i).1 = y := fun y hy => by
      obtain ⟨i, hi2, e⟩ := List.mem_map.1 hy
      exact ⟨i, List.mem_range.1 hi2, e⟩
    have hget : ∀ i y, ((List.range len).map fun i => (f i).1)[i]? = some y → i < len ∧ (f i).1 = y := fun i y hy => by
      have hil : i < len := by have := (List.getElem?_eq_some_iff.1 hy).1; omega
      rw [List.getElem?_map, List.getElem?_range hil] at hy
      exact ⟨hil, by simpa using hy⟩
    have hb : ∀ i, i < len → Rows.uptoBulk (D i) ≤ Rows.uptoBulkAll ((List.range len).map D) := fun i hil => bulk_le (List.mem_map.2 ⟨i, List.mem_range.2 hil, rfl⟩)
    have hcells : ∀ i y, ((List.range len).map fun i => (f i).1)[i]? = some y → ∃ g o av, a = ⟨g, o, none⟩ ∧ g < W.heap.size ∧ W.cell? ⟨g, o + i * 5, none⟩ = some (.int .i64 y.kind) ∧ W.cell? ⟨g, o + i * 5 + 1, none⟩ = some (.string ⟨y.name.toArray⟩) ∧
        W.cell? ⟨g, o + i * 5 + 2, none⟩ = some av ∧ W.cell? ⟨g, o + i * 5 + 3, none⟩ = some (.bool y.self) ∧ W.cell? ⟨g, o + i * 5 + 4, none⟩ = some (.string ⟨y.text.toArray⟩) ∧ RdA W W.heap.size av y.attrs ∧ Cap av := fun i y hy => by
      obtain ⟨hil, e⟩ := hget i y hy
      obtain ⟨⟨h0, h1, h2, h3, h4⟩, hA, hC, _⟩ := hf i hil
      rw [e] at h0 h1 h3 h4 hA
      have hz := (hf 0 (by omega)).1.1
      obtain ⟨g, o, sp⟩ := a
      have hsp : sp = none := by
        have hz2 : W.cell? ⟨g, o, sp⟩ = some (.int .i64 (f 0).1.kind) := by simpa [Addr.add] using hz
        cases sp with
        | none => rfl
        | some q =>
          unfold World.cell? at hz2
          simp only [Option.isSome_some, if_true] at hz2
          split at hz2 <;> cases hz2
      subst hsp
      have ha : ∀ j, (⟨g, o, none⟩ : Addr).add j = ⟨g, o + j, none⟩ := fun j => by unfold Addr.add; split <;> simp_all
      rw [ha] at h0 h1 h2 h3 h4
      simp only [← Nat.add_assoc] at h1 h2 h3 h4
      exact ⟨g, o, (f i).2, rfl, cell_lt h0, h0, h1, h2, h3, h4, hA, hC⟩
    refine ⟨some a, m, (List.range len).map fun i => (f i).1, by rw [hlen], ⟨⟨some a, m, rfl, fun i y hy => ?_⟩, Cap.mk (by rw [hlen]; exact hl), fun ao n cap e i t ht g o e2 av hc => ?_⟩, by rw [hlen]; omega, ?_, ?_⟩
    · obtain ⟨g, o, av, rfl, r⟩ := hcells i y hy
      obtain ⟨r0, r1, r2, r3, r4, r5, r6, _⟩ := r
      exact ⟨g, o, av, rfl, r0, r1, r2, r3, r4, r5, r6⟩
    · injection e with e1 _ _
      rw [← e1] at e2
      injection e2 with e2
      obtain ⟨g', o', av', e3, _, _, _, c2, _, _, _, hC⟩ := hcells i t ht
      rw [e2] at e3
      injection e3 with e4 e5
      subst e4
      subst e5
      rw [c2] at hc
      injection hc with hc
      exact hc ▸ hC
    · intro y hy
      obtain ⟨i, hil, rfl⟩ := hmem y hy
      exact (hf i hil).2.2.2.1
    · intro y hy
      obtain ⟨i, hil, rfl⟩ := hmem y hy
      refine (hf i hil).2.2.2.2.more ?_
      have h2 := hb i hil
      show _ ≤ Rows.uptoBulk (DataW.slice ((List.range len).map D) _)
      rw [Rows.uptoBulk]
      omega

set_option maxRecDepth 100000 in
/-- one slice of tokens -/
theorem open_one_toks {f : Func} {s : ChangeSpec} {apart : Bool} {base : Nat} {W : World} {args : Array Value} {ds gs : List (DataW H)} {before : List MemPlace}
    (hp : f.params = #[23]) (hv : s.vars = []) (hval : ∀ (j : Nat) t v, f.params[j]? = some t → args[j]? = some v → Value.okWide Try.prog W .any base t v)
    (hW : DataW.Whole enc Try.prog f.params.toList s.vars apart W args.toList ds gs before) :
    ∃ (ao : Option Addr) (cap : Nat) (l : List U.Tk) (d : DataW H), args = #[.slice ao l.length cap] ∧ ds = [d] ∧ gs = [] ∧ RdKC W W.heap.size (.slice ao l.length cap) l ∧ l.length ≤ maxLen ∧ (∀ t ∈ l, Small maxLen t) ∧ ∀ t ∈ l, Small (Rows.uptoBulk d) t := by
  obtain ⟨p, q, hA, hV, _⟩ := hW
  rw [hp] at hA hval
  rw [hv] at hV
  obtain ⟨rfl, rfl⟩ := trodVars_none hV
  obtain ⟨v0, vs0, d0, ds0, p0, q0, hargs, rfl, rfl, h0, r0⟩ := trodAll_cons hA
  obtain ⟨rfl, rfl, rfl⟩ := trodAll_nil r0
  obtain rfl : args = #[v0] := by cases args; simp_all
  obtain ⟨a0, len, cap0, rfl⟩ := okWide_slice Try.underlying23 (hval 0 _ v0 rfl rfl)
  obtain ⟨fuel, hf⟩ := h0
  obtain ⟨ao, cap, l, hcs, hR, hm, hF, hF2⟩ := open_toks hf
  simp [Value.cells] at hcs
  obtain ⟨rfl, rfl, rfl⟩ := hcs
  exact ⟨_, _, l, d0, rfl, rfl, rfl, hR, hm, hF, hF2⟩
end

end Go.Proofs.Ytmfkefcdddoooaa

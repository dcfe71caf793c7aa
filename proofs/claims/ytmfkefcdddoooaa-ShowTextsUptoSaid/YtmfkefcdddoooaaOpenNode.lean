/- An argument that is a slice of nodes, opened. -/
import Derived.Test.YtmfkefcdddoooaaOpenTok
import Derived.Test.YtmfkefcdddoooaaNode
import Derived.Test.YtmfkefcdddoooaaCntMath
namespace Go.Proofs.Ytmfkefcdddoooaa
open Go.ChangeShapes Go.WideShapes Go.ChangeAt Go.RowKit Go.Deep

section
variable {H : Type} {enc : TypeId × Value → H}
theorem nodeLen : Try.prog.cellsOf 45 = 4 := by kernel_rfl
theorem nodesCells : Try.prog.cellsOf 33 = 1 := by kernel_rfl
set_option maxRecDepth 100000 in
theorem atts_cap {W : World} {fuel : Nat} {cs : List Value} {x : DataW H × List MemPlace} (h : DataW.trod enc Try.prog W 0 (fun _ => true) true fuel 29 cs = some x) {ao : Option Addr} {n cap : Nat} (e : cs = [.slice ao n cap]) : cap ≤ maxLen := by
  rcases open_slice Try.underlying29 h with ⟨rfl, rfl⟩ | ⟨a, len, cap', m, n', D, Pl, rfl, _, hl, hm, hmm, rfl, hi⟩
  · simp at e
    rw [← e.2.2]
    exact Nat.zero_le _
  · simp only [if_true] at hmm
    subst hmm
    simp at e
    rw [← e.2.2]
    exact hm
theorem rdAS_of {W : World} {ao : Option Addr} {cap : Nat} {al : List U.Att} (h : RdA W W.heap.size (.slice ao al.length cap) al) (h1 : al.length ≤ cap) (h2 : cap ≤ maxLen) : RdAS W (· < W.heap.size) (.slice ao al.length cap) al := by
  obtain ⟨ao2, cap2, e, hc⟩ := h
  injection e with e1 _ e3
  subst e1
  subst e3
  exact ⟨ao, cap, rfl, h1, h2, hc⟩
theorem pick_list {α β : Type} (Q : Nat → α → β → Prop) : ∀ (ds : List β), (∀ i d, ds[i]? = some d → ∃ y, Q i y d) → ∃ l : List α, l.length = ds.length ∧ ∀ i y d, l[i]? = some y → ds[i]? = some d → Q i y d := by
  intro ds
  induction ds generalizing Q with
  | nil => intro _; exact ⟨[], rfl, fun i y d h => by cases h⟩
  | cons a r ih =>
    intro h
    obtain ⟨y0, h0⟩ := h 0 a rfl
    obtain ⟨l, hl, hq⟩ := ih (fun i => Q (i + 1)) (fun i d hd => h (i + 1) d (by simpa using hd))
    refine ⟨y0 :: l, by simp [hl], fun i y d hy hd => ?_⟩
    cases i with
    | zero => simp at hy hd; subst hy; subst hd; exact h0
    | succ i => exact hq i y d (by simpa using hy) (by simpa using hd)
theorem cnt_bulk : ∀ (l : List NV) (ds : List (DataW H × List MemPlace)), l.length = ds.length → (∀ (i : Nat) (y : NV) (d : DataW H × List MemPlace), l[i]? = some y → ds[i]? = some d → U.cntN y.1 ≤ Rows.uptoBulk d.1) → U.cntL (l.map (·.1)) ≤ Rows.uptoBulkAll (ds.map (·.1))
  | [], ds, _, _ => by rw [List.map_nil, U.cntL_nil]; exact Nat.zero_le _
  | y :: l, [], h, _ => by simp at h
  | y :: l, d :: ds, h, hq => by
    rw [List.map_cons, List.map_cons, U.cntL_cons, Rows.uptoBulkAll]
    have h0 := hq 0 y d rfl rfl
    have h1 := cnt_bulk l ds (by simpa using h) (fun i y' d' hy hd => hq (i + 1) y' d' (by simpa using hy) (by simpa using hd))
    omega
theorem addr_form {W : World} {a : Addr} {v : Value} (h : W.cell? a = some v) : ∃ g o, a = ⟨g, o, none⟩ := by
  obtain ⟨g, o, sp⟩ := a
  cases sp with
  | none => exact ⟨g, o, rfl⟩
  | some q =>
    exfalso
    unfold World.cell? at h
    simp only [Option.isSome_some, if_true] at h
    split at h <;> cases h
set_option maxRecDepth 100000 in
/-- nodes as they were read -/
theorem open_nodes {W : World} : ∀ (fuel : Nat) (cs : List Value) (x : DataW H × List MemPlace), DataW.trod enc Try.prog W 0 (fun _ => true) true fuel 33 cs = some x →
    ∃ (ao : Option Addr) (cap : Nat) (l : List U.Nd), cs = [.slice ao l.length cap] ∧ RdNs W (· < W.heap.size) (.slice ao l.length cap) l ∧ U.cntL l ≤ Rows.uptoBulk x.1 ∧ U.SmallNs (Rows.uptoBulk x.1) l := by
  intro fuel
  induction fuel using Nat.strongRecOn with
  | _ fuel ih =>
  intro cs x h
  rcases DataW.trod_slice Try.underlying33 h with ⟨rfl, rfl⟩ | ⟨a, len, cap, elems, rest, n, hfu, rfl, rfl, _, hl, hm, hlen, hel, _, _⟩
  · exact ⟨none, 0, [], rfl, RdNs.nil _ _, by rw [U.cntL_nil]; exact Nat.zero_le _, by rw [U.SmallNs]; trivial⟩
  · rw [nodeLen] at hel
    have hone : ∀ i d, elems[i]? = some d → ∃ y : NV, (W.cell? (a.add (i * 4)) = some (.string ⟨y.1.name.toArray⟩) ∧ W.cell? (a.add (i * 4 + 1)) = some y.2.1 ∧ W.cell? (a.add (i * 4 + 2)) = some (.string ⟨y.1.text.toArray⟩) ∧ W.cell? (a.add (i * 4 + 3)) = some y.2.2) ∧
        Done W (· < W.heap.size) y ∧ U.cntN y.1 ≤ Rows.uptoBulk d.1 ∧ U.SmallNd (Rows.uptoBulk d.1) y.1 := by
      intro i d hd
      have hi : i < len := by rw [← hlen]; exact (List.getElem?_eq_some_iff.1 hd).1
      have h0 := hel i hi
      rw [hd] at h0
      obtain ⟨cs', hc, ht⟩ := Option.bind_eq_some_iff.1 h0
      obtain ⟨xs, n2, hn2, hx, hcl, hxl, hf⟩ := DataW.trod_struct Try.underlying45 ht
      rw [nodeLen] at hcl
      obtain ⟨_, _, hat⟩ := World.cells?_some hc
      match cs', hcl, xs, hxl with
      | [c0, c1, c2, c3], _, [y0, y1, y2, y3], _ =>
        have h0 : DataW.trod enc Try.prog W 0 (fun _ => true) true n2 9 (([c0, c1, c2, c3].drop 0).take (Try.prog.cellsOf 9)) = some y0 := hf 0 _ rfl
        have h1 : DataW.trod enc Try.prog W 0 (fun _ => true) true n2 29 (([c0, c1, c2, c3].drop 1).take (Try.prog.cellsOf 29)) = some y1 := hf 1 _ rfl
        have h2 : DataW.trod enc Try.prog W 0 (fun _ => true) true n2 9 (([c0, c1, c2, c3].drop 2).take (Try.prog.cellsOf 9)) = some y2 := hf 2 _ rfl
        have h3 : DataW.trod enc Try.prog W 0 (fun _ => true) true n2 33 (([c0, c1, c2, c3].drop 3).take (Try.prog.cellsOf 33)) = some y3 := hf 3 _ rfl
        rw [strCells] at h0 h2
        rw [attsCells] at h1
        rw [nodesCells] at h3
        obtain ⟨s0, e0, z0, m0⟩ := DataW.trod_string Try.underlying9 h0
        obtain ⟨ao, acap, al, e1, hA, hcap, m1, m1', b1, b1'⟩ := open_atts h1
        have hac := atts_cap h1 e1
        obtain ⟨s2, e2, z2, m2⟩ := DataW.trod_string Try.underlying9 h2
        obtain ⟨po, pcap, pl, e3, hP, c3', s3⟩ := ih n2 (by omega) _ _ h3
        have e0' : c0 = .string s0 := by simpa using e0
        have e1' : c1 = .slice ao al.length acap := by simpa using e1
        have e2' : c2 = .string s2 := by simpa using e2
        have e3' : c3 = .slice po pl.length pcap := by simpa using e3
        have hu : Rows.uptoBulk d.1 = Rows.uptoBulk y0.1 + (Rows.uptoBulk y1.1 + (Rows.uptoBulk y2.1 + (Rows.uptoBulk y3.1 + 0))) + 1 := by
          rw [hx]
          simp only [List.map, Rows.uptoBulk, Rows.uptoBulkAll]
        have u0 : Rows.uptoBulk y0.1 = s0.data.toList.length + 1 := by rw [z0]; simp only [Rows.uptoBulk]
        have u2 : Rows.uptoBulk y2.1 = s2.data.toList.length + 1 := by rw [z2]; simp only [Rows.uptoBulk]
        have k0 := hat 0 (by omega)
        have k1 := hat 1 (by omega)
        have k2 := hat 2 (by omega)
        have k3 := hat 3 (by omega)
        rw [add_add] at k0 k1 k2 k3
        refine ⟨(.mk s0.data.toList al s2.data.toList pl, .slice ao al.length acap, .slice po pl.length pcap), ⟨?_, ?_, ?_, ?_⟩, ⟨rdAS_of hA hcap hac, hP⟩, ?_, ?_⟩
        · rw [Nat.add_zero] at k0; exact k0.trans (by simp [e0', U.Nd.name])
        · exact k1.trans (by simp [e1'])
        · exact k2.trans (by simp [e2', U.Nd.text])
        · exact k3.trans (by simp [e3'])
        · show U.cntN (.mk _ _ _ _) ≤ _
          rw [U.cntN]
          omega
        · show U.SmallNd _ (.mk _ _ _ _)
          rw [U.SmallNd]
          have hpl := U.len_cnt pl
          exact ⟨by omega, by omega, by omega, fun y hy => by have := b1' y hy; omega, by omega, U.SmallNs.more (by omega) _ s3⟩
    obtain ⟨l, hll, hq⟩ := pick_list _ elems hone
    have hlen2 : (l.map (·.1)).length = len := by rw [List.length_map, hll, hlen]
    have hbulk : Rows.uptoBulk (DataW.slice (elems.map (·.1)) (rest.map (·.1)) : DataW H) = Rows.uptoBulkAll (elems.map (·.1)) + Rows.uptoBulkAll (rest.map (·.1)) + 1 := by
      rw [Rows.uptoBulk]
    refine ⟨some a, cap, l.map (·.1), by rw [hlen2], ⟨some a, cap, rfl, by rw [hlen2]; exact hl, hm, ?_⟩, ?_, ?_⟩
    · cases hel0 : l with
      | nil => left; rfl
      | cons y0 r0 =>
        right
        have hd0 : ∃ d, elems[0]? = some d := by
          cases he : elems with
          | nil => rw [he, hel0] at hll; simp at hll
          | cons d r => exact ⟨d, rfl⟩
        obtain ⟨d0, hd0⟩ := hd0
        obtain ⟨⟨k0, _⟩, _⟩ := hq 0 y0 d0 (by rw [hel0]; rfl) hd0
        rw [Nat.zero_mul] at k0
        obtain ⟨g, o, ea⟩ := addr_form k0
        have ea2 : a = ⟨g, o, none⟩ := by
          obtain ⟨g', o', sp⟩ := a
          simp only [Addr.add] at ea
          split at ea <;> simp_all
        subst ea2
        have ha : ∀ j, (⟨g, o, none⟩ : Addr).add j = ⟨g, o + j, none⟩ := fun j => by unfold Addr.add; split <;> simp_all
        refine ⟨g, o, rfl, by rw [ha] at k0; exact cell_lt k0, ?_⟩
        rw [← hel0]
        refine rdRow_of fun i nd hnd => ?_
        rw [List.getElem?_map] at hnd
        cases hy : l[i]? with
        | none => rw [hy] at hnd; cases hnd
        | some y =>
          rw [hy] at hnd
          obtain rfl : y.1 = nd := by simpa using hnd
          have hdi : ∃ d, elems[i]? = some d := by
            have : i < elems.length := by rw [← hll]; exact (List.getElem?_eq_some_iff.1 hy).1
            exact ⟨_, List.getElem?_eq_getElem this⟩
          obtain ⟨d, hdi⟩ := hdi
          obtain ⟨⟨k0, k1, k2, k3⟩, ⟨d1, d2⟩, _⟩ := hq i y d hy hdi
          rw [ha] at k0 k1 k2 k3
          simp only [← Nat.add_assoc] at k1 k2 k3
          rw [rdNd_iff]
          exact ⟨_, _, k0, k1, k2, k3, d1, d2⟩
    · show U.cntL _ ≤ Rows.uptoBulk (DataW.slice (elems.map (·.1)) (rest.map (·.1)))
      rw [hbulk]
      have := cnt_bulk l elems hll (fun i y d hy hd => (hq i y d hy hd).2.2.1)
      omega
    · show U.SmallNs (Rows.uptoBulk (DataW.slice (elems.map (·.1)) (rest.map (·.1)))) _
      rw [hbulk, U.smallNs_iff]
      intro nd hnd
      obtain ⟨y, hy, rfl⟩ := List.mem_map.1 hnd
      obtain ⟨i, hi⟩ := List.getElem?_of_mem hy
      have hdi : ∃ d, elems[i]? = some d := by
        have : i < elems.length := by rw [← hll]; exact (List.getElem?_eq_some_iff.1 hi).1
        exact ⟨_, List.getElem?_eq_getElem this⟩
      obtain ⟨d, hdi⟩ := hdi
      refine U.SmallNd.more ?_ _ (hq i y d hi hdi).2.2.2
      have : Rows.uptoBulk d.1 ≤ Rows.uptoBulkAll (elems.map (·.1)) := bulk_le (List.mem_map.2 ⟨d, List.mem_of_getElem? hdi, rfl⟩)
      omega

theorem short_bulk {d : DataW H} (hk : Rows.uptoSmall H ([d] ++ []) = true) : Rows.uptoBulk d ≤ 1048576 := by
  have h : Rows.uptoBulkAll ([d] ++ []) ≤ 1048576 := of_decide_eq_true hk
  simp only [List.cons_append, List.nil_append, Rows.uptoBulkAll] at h
  omega
set_option maxRecDepth 100000 in
/-- one slice of nodes -/
theorem open_one_nodes {f : Func} {s : ChangeSpec} {apart : Bool} {base : Nat} {W : World} {args : Array Value} {ds gs : List (DataW H)} {before : List MemPlace}
    (hp : f.params = #[33]) (hv : s.vars = []) (hval : ∀ (j : Nat) t v, f.params[j]? = some t → args[j]? = some v → Value.okWide Try.prog W .any base t v)
    (hW : DataW.Whole enc Try.prog f.params.toList s.vars apart W args.toList ds gs before) :
    ∃ (ao : Option Addr) (cap : Nat) (l : List U.Nd) (d : DataW H), args = #[.slice ao l.length cap] ∧ ds = [d] ∧ gs = [] ∧ RdNs W (· < W.heap.size) (.slice ao l.length cap) l ∧ U.cntL l ≤ Rows.uptoBulk d ∧ U.SmallNs (Rows.uptoBulk d) l := by
  obtain ⟨p, q, hA, hV, _⟩ := hW
  rw [hp] at hA hval
  rw [hv] at hV
  obtain ⟨rfl, rfl⟩ := trodVars_none hV
  obtain ⟨v0, vs0, d0, ds0, p0, q0, hargs, rfl, rfl, h0, r0⟩ := trodAll_cons hA
  obtain ⟨rfl, rfl, rfl⟩ := trodAll_nil r0
  obtain rfl : args = #[v0] := by cases args; simp_all
  obtain ⟨a0, len, cap0, rfl⟩ := okWide_slice Try.underlying33 (hval 0 _ v0 rfl rfl)
  obtain ⟨fuel, hf⟩ := h0
  obtain ⟨ao, cap, l, hcs, hR, hm, hF⟩ := open_nodes _ _ _ hf
  simp [Value.cells] at hcs
  obtain ⟨rfl, rfl, rfl⟩ := hcs
  exact ⟨_, _, l, d0, rfl, rfl, rfl, hR, hm, hF⟩
end

end Go.Proofs.Ytmfkefcdddoooaa

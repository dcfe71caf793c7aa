/- tree.Count, and how the document counts. -/
import Derived.Test.YtmfkefcdddoooaaNode
import Derived.Test.YtmfkefcdddoooaaCntMath
import Derived.Deep.LoopGhost
import Derived.Deep.AppendLies
import Derived.OwnWalk
import Derived.Outline
namespace Go.Proofs.Ytmfkefcdddoooaa
open Go.RowKit

theorem take_drop_get {α : Type} {l : List α} {i : Nat} {x : α} (h : l[i]? = some x) : i < l.length := (List.getElem?_eq_some_iff.1 h).1

set_option maxHeartbeats 8000000 in
set_option maxRecDepth 1000000 in
theorem count_walk (c : Nat) : ∀ (l : List U.Nd), U.cntL l ≤ c → U.cntL l ≤ 1048576 → ∀ (v : Value) (w : World), RdNs w (· < w.heap.size) v l →
    Calls Try.prog 35 #[v] w fun e w' => e = .returned (.tuple #[.int .i64 (U.cntL l : Nat), .int .i64 (U.depL l : Nat)]) ∧ Below w.heap.size w w' := by
  induction c using Nat.strongRecOn with
  | _ c ih =>
  intro l hlc hlM v w hR
  have hR0 := hR
  obtain ⟨ao, cap, rfl, hcl, hcm, _⟩ := hR0
  have HR := Lib.hid hR
  have IH := Lib.hid ih
  have hll := U.len_cnt l
  have hdl := U.dep_cnt _ l (Nat.le_refl _)
  clear ih hR hcl hcm
  go_enter Try.func35, Try.ntmps35
  go_wp2_with fail
  go_loopw [2, 3, 10] (fun nn dd i wr => ∃ k : Nat, k ≤ l.length ∧ i = .int .i64 k ∧ nn = .int .i64 (U.cntL (l.take k) : Nat) ∧ dd = .int .i64 (U.depL (l.take k) : Nat) ∧ Below w.heap.size w wr) (fun _ _ i _ => l.length - (intOf i).toNat)
  case atStart => exact ⟨0, Nat.zero_le _, rfl, by rw [List.take_zero, U.cntL_nil]; rfl, by rw [List.take_zero, U.depL_nil]; rfl, Below.refl _ _⟩
  case round =>
    obtain ⟨k, hk, rfl, rfl, rfl, hbw⟩ := hrel
    by_cases hlt : k < l.length
    · have hx := List.getElem?_eq_getElem hlt
      generalize l[k]'hlt = n at hx
      obtain ⟨g, o, cap2, e0, hg, hn⟩ := HR.out.get hx
      injection e0 with e1 e2 e3
      subst e1
      obtain ⟨av, pv, c0, c1, c2, c3, hA, hP⟩ := (rdNd_iff n g _).1 hn
      obtain ⟨aa, acap, rfl⟩ : ∃ aa acap, av = .slice aa n.attrs.length acap := by obtain ⟨a, b, e, _⟩ := hA; exact ⟨a, b, e⟩
      obtain ⟨pa, pcap, rfl⟩ : ∃ pa pcap, pv = .slice pa n.parts.length pcap := by obtain ⟨a, b, e, _⟩ := hP; exact ⟨a, b, e⟩
      have d0 := (hbw.cell (p := ⟨g, o + k * 4, none⟩) hg).trans c0
      have d1 := (hbw.cell (p := ⟨g, o + k * 4 + 1, none⟩) hg).trans c1
      have d2 := (hbw.cell (p := ⟨g, o + k * 4 + 2, none⟩) hg).trans c2
      have d3 := (hbw.cell (p := ⟨g, o + k * 4 + 3, none⟩) hg).trans c3
      have hge := U.cntL_get hx
      have hne := U.cntN_eq n
      have hct := U.cntL_take hx
      have hdt := U.depL_take hx
      have hdn := U.depN_eq n
      have hdp := U.dep_cnt _ n.parts (Nat.le_refl _)
      have hdk := U.dep_cnt _ (l.take k) (Nat.le_refl _)
      have hbO := fun O => hbw.alloc hbw.size O
      have HC := Lib.hid (fun O => IH.out (U.cntL n.parts) (by omega) n.parts (Nat.le_refl _) (by omega) (.slice pa n.parts.length pcap) (wr.alloc O) (hP.below (hbO O) (by have := (hbO O).size; exact this)))
      have HCT := Lib.hid (And.intro hct (And.intro hdt (And.intro hne hdn)))
      have hlz : (k : Int) < (l.length : Int) := by omega
      have s1 : U.cntL n.parts ≤ 1048576 := by omega
      have s2 : U.cntL (l.take k) ≤ 1048576 := by omega
      have s3 : U.depL n.parts ≤ 1048576 := by omega
      have s4 : U.depL (l.take k) ≤ 1048576 := by omega
      clear c0 c1 c2 c3 hn hA hP hct hdt hne hdn hge hdp hdk e2 e3 hx
      go_wp2_with fail
      refine (HC.out _).mono ?_
      rintro e w2 ⟨rfl, hb2⟩
      have HB := Lib.hid ((hbO _).trans (hb2.mono (hbO _).size))
      clear hbO hb2
      go_wp2_with fail
      go_roundw
      case rel =>
        obtain ⟨h1, h2, h3, h4⟩ := HCT.out
        refine ⟨k + 1, by omega, by go_num, ?_, ?_, HB.out⟩
        · rw [h1, h3]; congr 1; try (push_cast; omega)
        · rw [h2, h4]; congr 1; try (push_cast; omega)
      case measure => simp [intOf]; omega
    · obtain rfl : k = l.length := by omega
      have hz : ¬ (l.length : Int) < (l.length : Int) := by omega
      rw [List.take_length]
      have HB := Lib.hid hbw
      clear hbw
      go_wp2_with fail
      go_ret2
      exact ⟨rfl, HB.out⟩

/-- nodes of a slice, with the cells that they lie in -/
theorem rdNs_row {w : World} {S : Nat → Prop} {g o n cap : Nat} {l : List U.Nd} (h : RdNs w S (.slice (some ⟨g, o, none⟩) n cap) l) : ∃ xs : List NV, xs.map (·.1) = l ∧ (∀ x ∈ xs, Done w S x) ∧ ∀ (j : Nat) u, (ndCells xs)[j]? = some u → w.cell? ((⟨g, o, none⟩ : Addr).add j) = some u := by
  obtain ⟨ao, cap', e, _, _, h⟩ := h
  injection e with e1 _ _
  subst e1
  have ea : ∀ j, (⟨g, o, none⟩ : Addr).add j = ⟨g, o + j, none⟩ := fun j => by cases j <;> simp [Addr.add]
  rcases h with rfl | ⟨g2, o2, e, _, hr⟩
  · exact ⟨[], rfl, (fun x hx => by cases hx), fun j u hu => by cases hu⟩
  · injection e with e
    injection e with e3 e4 _
    subst e3
    subst e4
    have hrow : ∀ (l : List U.Nd) (o : Nat), RdRow w S l g o → ∃ xs : List NV, xs.map (·.1) = l ∧ (∀ x ∈ xs, Done w S x) ∧ ∀ (j : Nat) u, (ndCells xs)[j]? = some u → w.cell? ⟨g, o + j, none⟩ = some u := by
      intro l
      induction l with
      | nil => intro o _; exact ⟨[], rfl, (fun x hx => by cases hx), fun j u hu => by cases hu⟩
      | cons n r ih =>
        intro o hr
        rw [RdRow] at hr
        obtain ⟨av, pv, c0, c1, c2, c3, hA, hP⟩ := (rdNd_iff n g o).1 hr.1
        obtain ⟨xs, h1, h2, h3⟩ := ih (o + 4) hr.2
        refine ⟨(n, av, pv) :: xs, by rw [List.map_cons, h1], fun x hx => ?_, fun j u hu => ?_⟩
        · rcases List.mem_cons.1 hx with rfl | hx
          · exact ⟨hA, hP⟩
          · exact h2 x hx
        · have e : ndCells ((n, av, pv) :: xs) = .string ⟨n.name.toArray⟩ :: av :: .string ⟨n.text.toArray⟩ :: pv :: ndCells xs := rfl
          rw [e] at hu
          match j, hu with
          | 0, hu => simp at hu; subst hu; exact c0
          | 1, hu => simp at hu; subst hu; exact c1
          | 2, hu => simp at hu; subst hu; exact c2
          | 3, hu => simp at hu; subst hu; exact c3
          | j + 4, hu =>
            have := h3 j u (by simpa using hu)
            rwa [show o + 4 + j = o + (j + 4) by omega] at this
    obtain ⟨xs, h1, h2, h3⟩ := hrow l o hr
    exact ⟨xs, h1, h2, fun j u hu => by rw [ea]; exact h3 j u hu⟩
theorem done_one {w : World} {S : Nat → Prop} {xs : List NV} (h : ∀ x ∈ xs, Done w S x) : ∀ u ∈ ndCells xs, u.oneCell' = true := by
  intro u hu
  obtain ⟨x, hx, hu⟩ := List.mem_flatMap.1 hu
  obtain ⟨⟨a, b, e1, _⟩, ⟨c, d, e2, _⟩⟩ := h x hx
  simp only [List.mem_cons, List.not_mem_nil, or_false] at hu
  rcases hu with rfl | rfl | rfl | rfl
  · rfl
  · rw [e1]; rfl
  · rfl
  · rw [e2]; rfl

theorem infoNode2 : (Try.prog.info? 45).map (fun i => (i.zero, i.size, i.bytes)) = some (some (.agg #[.string .empty, .slice none 0 0, .string .empty, .slice none 0 0]), 4, 80) := by kernel_rfl
/-- an append of nodes that lie elsewhere -/
theorem app_nodes (W : World) (N : Nat) (v : Value) (xs : List NV) (hown : W.ownsRow N 45 4 v xs.length (ndCells xs)) (hN : N ≤ W.heap.size) (ao : Option Addr) (cap : Nat) (l : List U.Nd) (S : Nat → Prop) (hR : RdNs W S (.slice ao l.length cap) l) (hl : xs.length + l.length ≤ 1048576) :
    ∃ (v' : Value) (w' : World) (ys : List NV), (Builtin.append_ #[33, 33] 33 #[v, .slice ao l.length cap]).run Try.prog W = .ok v' w' ∧ w'.ownsRow N 45 4 v' (xs ++ ys).length (ndCells (xs ++ ys)) ∧ W.grownBy w' v.ownBlock ∧ ys.map (·.1) = l ∧ ∀ y ∈ ys, Done W S y := by
  obtain ⟨iT, hiT, hT0, hT1, hT2⟩ := info_parts infoNode2
  cases hl0 : l with
  | nil =>
    refine ⟨v, W, [], ?_, by rw [List.append_nil]; exact hown, World.grownBy.refl _ _, rfl, (fun y hy => by cases hy)⟩
    show (Builtin.append_ #[33, 33] 33 #[v, .slice ao 0 cap]).run Try.prog W = .ok v W
    obtain ⟨vo, vc, rfl, hvc, _⟩ := own_cap hown
    cases vo with
    | none =>
      have hx : xs.length = 0 ∧ vc = 0 := by
        rcases hown.2 with ⟨e, h0⟩ | ⟨g, c, cur, e, _⟩
        · injection e with _ _ e3; exact ⟨h0, e3⟩
        · cases e
      rw [hx.1, hx.2]
      cases ao with
      | none => simp [Builtin.append_, run_underlying Try.underlying33, sizeOf, typeInfo, hiT, Builtin.lenOf, Builtin.firstCells]
      | some a => simp [Builtin.append_, run_underlying Try.underlying33, sizeOf, typeInfo, hiT, Builtin.lenOf, Builtin.firstCells, loadCells, loadCellsFrom]
    | some b =>
      cases ao with
      | none => simp [Builtin.append_, run_underlying Try.underlying33, sizeOf, typeInfo, hiT, Builtin.lenOf, Builtin.firstCells, hvc, storeCells]
      | some a => simp [Builtin.append_, run_underlying Try.underlying33, sizeOf, typeInfo, hiT, Builtin.lenOf, Builtin.firstCells, loadCells, loadCellsFrom, hvc, storeCells]
  | cons a r =>
    rw [← hl0]
    obtain ⟨g, o, e⟩ : ∃ g o, ao = some ⟨g, o, none⟩ := by
      obtain ⟨_, _, _, e, _⟩ := hR.get (i := 0) (n := a) (by rw [hl0]; rfl)
      injection e with e _ _
      exact ⟨_, _, e⟩
    subst e
    obtain ⟨ys, h1, h2, h3⟩ := rdNs_row hR
    have hyl : ys.length = l.length := by rw [← h1, List.length_map]
    obtain ⟨v', w', r1, r2, r3, _⟩ := run_append_own (P := Try.prog) W N 33 33 45 iT _ 4 80 Try.underlying33 hiT hT0 hT1 hT2 rfl (by decide) v xs.length (ndCells xs) hown ⟨g, o, none⟩ l.length cap (ndCells ys) (by rw [ndCells_length, hyl]) h3 (done_one h2) (by unfold maxLen; omega) (by omega) hN
    refine ⟨v', w', ys, r1, ?_, r3, h1, h2⟩
    rw [List.length_append, hyl, ndCells_append]
    exact r2

end Go.Proofs.Ytmfkefcdddoooaa

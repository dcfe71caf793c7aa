/- show.checkElement, show.checkNode, show.checkList, show.Check. -/
import Derived.Test.YtmfkefcdddoooaaShowNames
import Derived.Test.YtmfkefcdddoooaaCheckAt
import Derived.Test.YtmfkefcdddoooaaCount5
namespace Go.Proofs.Ytmfkefcdddoooaa
open Go.RowKit

/-- one token in a row by itself -/
theorem one_tok {w : World} {b : Nat} {t : U.Tk} {ao : Option Addr} {acap : Nat} {T : TypeId} (h : w.heap[b]? = some (.cells #[.int .i64 t.kind, .string ⟨t.name.toArray⟩, .slice ao t.attrs.length acap, .bool t.self, .string ⟨t.text.toArray⟩] T (0, 0)))
    (hA : RdA w w.heap.size (.slice ao t.attrs.length acap) t.attrs) (hc : t.attrs.length ≤ acap) : RdKC w w.heap.size (.slice (some ⟨b, 0, none⟩) 1 1) [t] := by
  have hb : b < w.heap.size := (Array.getElem?_eq_some_iff.1 h).1
  refine ⟨⟨some ⟨b, 0, none⟩, 1, rfl, fun i x hx => ?_⟩, Cap.mk (Nat.le_refl _), fun ao' n' cap' e i x hx g o e2 av hav => ?_⟩
  · cases i with
    | zero =>
      simp at hx
      subst hx
      refine ⟨b, 0, _, rfl, hb, ?_, ?_, ?_, ?_, ?_, hA⟩ <;> rw [Lib.cell_of_heap h] <;> rfl
    | succ i => simp at hx
  · cases i with
    | zero =>
      simp at hx
      subst hx
      injection e with e1 _ _
      rw [← e1] at e2
      injection e2 with e2
      injection e2 with e3 e4
      subst e3
      subst e4
      rw [Lib.cell_of_heap h] at hav
      have : av = .slice ao t.attrs.length acap := by
        have h9 : some (Value.slice ao t.attrs.length acap) = some av := hav
        injection h9 with h9
        exact h9.symm
      subst this
      exact Cap.mk hc
    | succ i => simp at hx

set_option maxHeartbeats 4000000 in
set_option maxRecDepth 1000000 in
theorem check_element (n : U.Nd) (aa pa : Option Addr) (acap pcap : Nat) (w : World) (hA : RdA w w.heap.size (.slice aa n.attrs.length acap) n.attrs) (hc : n.attrs.length ≤ acap) (hm : acap ≤ maxLen) :
    Calls Try.prog 67 #[ndVal n (.slice aa n.attrs.length acap) (.slice pa n.parts.length pcap)] w fun e w' => e = .returned (.int .i64 (U.elemFault n : Nat)) ∧ Below w.heap.size w w' := by
  have hf : ∀ t ∈ [n.start], Fits most t := fun t ht => by
    obtain rfl := List.mem_singleton.1 ht
    show n.attrs.length ≤ most
    unfold most
    unfold maxLen at hm
    omega
  have hck := fun (b : Nat) (W : World) (T : TypeId) (hB : Below w.heap.size w W) (hb : W.heap[b]? = some (.cells #[.int .i64 1, .string ⟨n.name.toArray⟩, .slice aa n.attrs.length acap, .bool false, .string ⟨n.text.toArray⟩] T (0, 0))) =>
    check_walk (.slice (some ⟨b, 0, none⟩) 1 1) [n.start] W (one_tok (t := n.start) hb ((hA.below hB).more hB.size) hc) (by show 1 ≤ most; decide) hf
  have HV := Lib.hid (fun W => show_void n.name W)
  obtain ⟨F, hF⟩ : ∃ F, U.fault [n.start] = F := ⟨_, rfl⟩
  rw [hF] at hck
  obtain ⟨E, hE0⟩ : ∃ E, U.elemFault n = E := ⟨_, rfl⟩
  rw [hE0]
  have he : E = if F = 0 then (if U.isVoid n.name = true ∧ n.parts ≠ [] then 4 else 0) else F := by rw [← hE0]; unfold U.elemFault; rw [hF]
  have HE := Lib.hid he
  have HCK := Lib.hid hck
  clear hck hA hf hF he hE0
  unfold ndVal
  go_enter Try.func67, Try.ntmps67
  go_wp2_with fail
  have HQ := Lib.hid ((Lib.alloc_old ((w.alloc (ndObj n (.slice aa n.attrs.length acap) (.slice pa n.parts.length pcap))).alloc (.cells #[.int .i64 1, .string ⟨n.name.toArray⟩, .slice aa n.attrs.length acap, .bool false, .string ⟨n.text.toArray⟩] 31 (0, 0))) (.cells #[.int .i64 1, .string ⟨n.name.toArray⟩, .slice aa n.attrs.length acap, .bool false, .string ⟨n.text.toArray⟩] 31 (0, 0)) w.heap.size (by simp; omega)).trans ((Lib.alloc_old (w.alloc (ndObj n (.slice aa n.attrs.length acap) (.slice pa n.parts.length pcap))) (.cells #[.int .i64 1, .string ⟨n.name.toArray⟩, .slice aa n.attrs.length acap, .bool false, .string ⟨n.text.toArray⟩] 31 (0, 0)) w.heap.size (by simp)).trans (heap_alloc_new w (ndObj n (.slice aa n.attrs.length acap) (.slice pa n.parts.length pcap)))))
  have HBE := Lib.hid ((((Below.refl w.heap.size w).alloc (Nat.le_refl _) (ndObj n (.slice aa n.attrs.length acap) (.slice pa n.parts.length pcap))).alloc (by simp) (.cells #[.int .i64 1, .string ⟨n.name.toArray⟩, .slice aa n.attrs.length acap, .bool false, .string ⟨n.text.toArray⟩] 31 (0, 0))).alloc (by simp; omega) (.cells #[.int .i64 1, .string ⟨n.name.toArray⟩, .slice aa n.attrs.length acap, .bool false, .string ⟨n.text.toArray⟩] 31 (0, 0)))
  have HNW := Lib.hid (heap_alloc_new ((w.alloc (ndObj n (.slice aa n.attrs.length acap) (.slice pa n.parts.length pcap))).alloc (.cells #[.int .i64 1, .string ⟨n.name.toArray⟩, .slice aa n.attrs.length acap, .bool false, .string ⟨n.text.toArray⟩] 31 (0, 0))) (.cells #[.int .i64 1, .string ⟨n.name.toArray⟩, .slice aa n.attrs.length acap, .bool false, .string ⟨n.text.toArray⟩] 31 (0, 0)))
  unfold ndObj at HQ HBE HNW
  refine (HCK.out _ _ _ HBE.out (by have h := HNW.out; simpa using h)).mono ?_
  rintro e w2 ⟨rfl, hb2⟩
  have t2 := HBE.out.trans (hb2.mono HBE.out.size)
  have Q2 := Lib.hid ((hb2.block w.heap.size (by simp; omega)).trans HQ.out)
  have u20 := (nd_cells Q2.out).1
  have u23 := (nd_cells Q2.out).2.2.2
  clear hb2 HCK HQ HBE HNW
  by_cases hF0 : F = 0
  · have h1 := HE.out
    rw [if_pos hF0] at h1
    have hFz : ((F : Nat) : Int) = 0 := by omega
    cases hvo : U.isVoid n.name with
    | false =>
      rw [hvo, if_neg (fun h => by cases h.1)] at h1
      rw [hvo] at HV
      subst h1
      clear HE hF0 hvo
      go_wp2_with (go_at_call 54; refine (HV.out _).mono ?_; rintro e w3 ⟨rfl, rfl⟩)
      go_ret
      exact ⟨rfl, t2⟩
    | true =>
      rw [hvo] at HV h1
      by_cases hp : n.parts = []
      · rw [if_neg (fun h => h.2 hp)] at h1
        subst h1
        have hpz : n.parts.length = 0 := by rw [hp]; rfl
        clear HE hF0 hvo
        go_wp2_with (go_at_call 54; refine (HV.out _).mono ?_; rintro e w3 ⟨rfl, rfl⟩)
        go_ret
        exact ⟨rfl, t2⟩
      · rw [if_pos ⟨rfl, hp⟩] at h1
        subst h1
        have hpz : (0 : Int) < (n.parts.length : Int) := by
          have := List.length_pos_iff.2 hp
          omega
        clear HE hF0 hvo
        go_wp2_with (go_at_call 54; refine (HV.out _).mono ?_; rintro e w3 ⟨rfl, rfl⟩)
        go_ret
        exact ⟨rfl, t2⟩
  · have h1 := HE.out
    rw [if_neg hF0] at h1
    subst h1
    have hne : (((E : Nat) : Int) != 0) = true := bne_iff_ne.2 (by omega)
    clear HE hF0
    go_wp2_with fail
    go_ret
    exact ⟨rfl, t2⟩

set_option maxHeartbeats 8000000 in
set_option maxRecDepth 1000000 in
theorem check_node (n : U.Nd) (aa pa : Option Addr) (acap pcap : Nat) (v : Value) (before : List U.Nd) (deep : Nat) (w : World) (hA : RdAS w (· < w.heap.size) (.slice aa n.attrs.length acap) n.attrs) (hB : RdNs w (· < w.heap.size) v before) (hd : deep ≤ 1000) :
    Calls Try.prog 49 #[ndVal n (.slice aa n.attrs.length acap) (.slice pa n.parts.length pcap), v, .int .i64 deep] w fun e w' => e = .returned (.int .i64 (U.nodeFault (U.endT before) deep n : Nat)) ∧ Below w.heap.size w w' := by
  have hcm : n.attrs.length ≤ acap ∧ acap ≤ maxLen := by
    obtain ⟨a, c, e, h1, h2, _⟩ := hA
    injection e with _ _ e3
    subst e3
    exact ⟨h1, h2⟩
  have hIT := fun W => is_text n aa pa n.attrs.length acap n.parts.length pcap W
  have hEL := fun W (h : Below w.heap.size w W) => check_element n aa pa acap pcap W (((hA.lt fun b hb => hb).below h).more h.size) hcm.1 hcm.2
  have hET := fun W (h : Below w.heap.size w W) => ends_text v before (· < W.heap.size) W (hB.below h h.size)
  unfold ndVal at hIT hEL
  have HIT := Lib.hid hIT
  have HEL := Lib.hid hEL
  have HET := Lib.hid hET
  obtain ⟨bo, bcap, rfl⟩ : ∃ bo bcap, v = .slice bo before.length bcap := by obtain ⟨a, b, e, _⟩ := hB; exact ⟨a, b, e⟩
  have HBE := Lib.hid ((Below.refl w.heap.size w).alloc (Nat.le_refl _) (ndObj n (.slice aa n.attrs.length acap) (.slice pa n.parts.length pcap)))
  have HQ := Lib.hid (heap_alloc_new w (ndObj n (.slice aa n.attrs.length acap) (.slice pa n.parts.length pcap)))
  unfold ndObj at HQ HBE
  clear hIT hEL hET hA hB
  unfold ndVal
  by_cases h10 : 10 ≤ deep
  · have hF : U.nodeFault (U.endT before) deep n = 6 := by unfold U.nodeFault; rw [if_pos h10]
    rw [hF]
    have hz : (10 : Int) ≤ (deep : Int) := by omega
    clear h10 hF
    go_enter Try.func49, Try.ntmps49
    go_wp2_with fail
    go_ret
    exact ⟨rfl, HBE.out⟩
  · have hz : ¬ (10 : Int) ≤ (deep : Int) := by omega
    have hF : U.nodeFault (U.endT before) deep n = if n.name = [] then (if n.attrs ≠ [] ∨ n.parts ≠ [] ∨ n.text = [] ∨ U.endT before = true then 4 else 0) else U.elemFault n := by unfold U.nodeFault; rw [if_neg h10]
    rw [hF]
    clear h10 hF
    by_cases hn : n.name = []
    · rw [if_pos hn]
      obtain ⟨R, hR⟩ : ∃ R, (if n.attrs ≠ [] ∨ n.parts ≠ [] ∨ n.text = [] ∨ U.endT before = true then 4 else 0) = R := ⟨_, rfl⟩
      rw [hR]
      have HR := Lib.hid hR
      clear hR
      have hne : n.name.isEmpty = true := List.isEmpty_iff.2 hn
      rw [hne] at HIT
      go_enter Try.func49, Try.ntmps49
      clear hn hne
      go_wp2_with fail
      refine (HIT.out _).mono ?_
      rintro e w2 ⟨rfl, hb2⟩
      have t2 := HBE.out.trans (hb2.mono HBE.out.size)
      have Q2 := Lib.hid ((hb2.block w.heap.size (by simp)).trans HQ.out)
      have u21 := (nd_cells Q2.out).2.1
      have u22 := (nd_cells Q2.out).2.2.1
      have u23 := (nd_cells Q2.out).2.2.2
      clear hb2 HIT HEL HQ HBE
      by_cases ha : n.attrs = []
      · by_cases hp : n.parts = []
        · by_cases ht : n.text = []
          · have h1 := HR.out
            rw [if_pos (.inr (.inr (.inl ht)))] at h1
            subst h1
            rw [ht] at u22
            clear ht HET
            go_wp2_with fail
            go_ret
            exact ⟨rfl, t2⟩
          · have ht2 : (n.text == []) = false := beq_eq_false_iff_ne.2 ht
            cases hE : U.endT before with
            | true =>
              have h1 := HR.out
              rw [if_pos (.inr (.inr (.inr hE)))] at h1
              subst h1
              rw [hE] at HET
              clear ht hE
              go_wp2_with fail
              refine (HET.out _ t2).mono ?_
              rintro e w3 ⟨rfl, hb3⟩
              have t3 := t2.trans (hb3.mono t2.size)
              clear HET hb3
              go_wp2_with fail
              go_ret
              exact ⟨rfl, t3⟩
            | false =>
              have h1 := HR.out
              rw [if_neg (fun h => h.elim (fun h => h ha) fun h => h.elim (fun h => h hp) fun h => h.elim ht fun h => by rw [hE] at h; cases h)] at h1
              subst h1
              rw [hE] at HET
              clear ht hE
              go_wp2_with fail
              refine (HET.out _ t2).mono ?_
              rintro e w3 ⟨rfl, hb3⟩
              have t3 := t2.trans (hb3.mono t2.size)
              clear HET hb3
              go_wp2_with fail
              go_ret
              exact ⟨rfl, t3⟩
        · have h1 := HR.out
          rw [if_pos (.inr (.inl hp))] at h1
          subst h1
          have hpz : (0 : Int) < (n.parts.length : Int) := by
            have := List.length_pos_iff.2 hp
            omega
          clear HET
          go_wp2_with fail
          go_ret
          exact ⟨rfl, t2⟩
      · have h1 := HR.out
        rw [if_pos (.inl ha)] at h1
        subst h1
        have haz : (0 : Int) < (n.attrs.length : Int) := by
          have := List.length_pos_iff.2 ha
          omega
        clear HET
        go_wp2_with fail
        go_ret
        exact ⟨rfl, t2⟩
    · rw [if_neg hn]
      have hne : n.name.isEmpty = false := by
        cases h : n.name with
        | nil => exact absurd h hn
        | cons a r => rfl
      rw [hne] at HIT
      generalize U.elemFault n = F at HEL
      go_enter Try.func49, Try.ntmps49
      clear hn hne
      go_wp2_with fail
      refine (HIT.out _).mono ?_
      rintro e w2 ⟨rfl, hb2⟩
      have t2 := HBE.out.trans (hb2.mono HBE.out.size)
      have Q2 := Lib.hid ((hb2.block w.heap.size (by simp)).trans HQ.out)
      have u20 := (nd_cells Q2.out).1
      have u21 := (nd_cells Q2.out).2.1
      have u22 := (nd_cells Q2.out).2.2.1
      have u23 := (nd_cells Q2.out).2.2.2
      clear hb2 HIT HQ HBE HET
      go_wp2_with fail
      refine (HEL.out _ t2).mono ?_
      rintro e w3 ⟨rfl, hb3⟩
      have t3 := t2.trans (hb3.mono t2.size)
      clear HEL hb3 u20 u21 u22 u23
      go_wp2_with fail
      go_ret
      exact ⟨rfl, t3⟩

set_option maxHeartbeats 8000000 in
set_option maxRecDepth 1000000 in
theorem check_list (c : Nat) : ∀ (l : List U.Nd), U.cntL l ≤ c → U.cntL l ≤ 1048576 → ∀ (v : Value) (deep : Nat), deep ≤ 10 → ∀ (w : World), RdNs w (· < w.heap.size) v l →
    Calls Try.prog 34 #[v, .int .i64 deep] w fun e w' => e = .returned (.int .i64 (U.lFault false deep l : Nat)) ∧ Below w.heap.size w w' := by
  induction c using Nat.strongRecOn with
  | _ c ih =>
  intro l hlc hlM v deep hdeep w hR
  have hR0 := hR
  obtain ⟨ao, cap, rfl, hcl, hcm, hor⟩ := hR0
  obtain ⟨R, hRR⟩ : ∃ R, U.lFault false deep l = R := ⟨_, rfl⟩
  rw [hRR]
  have HRR := Lib.hid hRR
  have HR := Lib.hid hR
  have HOR := Lib.hid hor
  have IH := Lib.hid ih
  have hll := U.len_cnt l
  clear ih hR hcm hRR hor
  go_enter Try.func34, Try.ntmps34
  go_wp2_with fail
  go_loopw [11] (fun i wr => ∃ k : Nat, k ≤ l.length ∧ i = .int .i64 k ∧ Below w.heap.size w wr ∧ Hid (U.lFault (U.endT (l.take k)) deep (l.drop k) = R)) (fun i _ => l.length - (intOf i).toNat)
  case atStart => exact ⟨0, Nat.zero_le _, rfl, Below.refl _ _, HRR.out⟩
  case round =>
    obtain ⟨k, hk, rfl, hbw, HF⟩ := hrel
    by_cases hlt : k < l.length
    · have hx := List.getElem?_eq_getElem hlt
      generalize l[k]'hlt = n at hx
      obtain ⟨g, o, cap2, e0, hg, hn⟩ := HR.out.get hx
      injection e0 with e1 e2 e3
      subst e1
      obtain ⟨av, pv, c0, c1, c2, c3, hA, hP⟩ := (rdNd_iff n g _).1 hn
      obtain ⟨aa, acap, rfl, hac, ham, -⟩ := id hA
      obtain ⟨pa, pcap, rfl, hpc, hpm, -⟩ := id hP
      have d0 := (hbw.cell (p := ⟨g, o + k * 4, none⟩) hg).trans c0
      have d1 := (hbw.cell (p := ⟨g, o + k * 4 + 1, none⟩) hg).trans c1
      have d2 := (hbw.cell (p := ⟨g, o + k * 4 + 2, none⟩) hg).trans c2
      have d3 := (hbw.cell (p := ⟨g, o + k * 4 + 3, none⟩) hg).trans c3
      have hge := U.cntL_get hx
      have hne := U.cntN_eq n
      have hgo := U.lF_go hx HF.out
      have hst := U.lF_stop hx HF.out
      rw [U.ndFault_eq] at hgo hst
      have hk0 : (0 : Int) ≤ (k : Int) := Int.natCast_nonneg _
      have hk1 : (k : Int) < (l.length : Int) := by omega
      have hk2 : (k : Int) ≤ (cap : Int) := by omega
      have HBO := Lib.hid (fun O => hbw.alloc hbw.size O)
      have HQ := Lib.hid (heap_alloc_new wr (ndObj n (.slice aa n.attrs.length acap) (.slice pa n.parts.length pcap)))
      have hTK : ∀ (W : World), Below w.heap.size w W → RdNs W (· < W.heap.size) (.slice (some ⟨g, o, none⟩) k cap) (l.take k) := fun W hB => by
        have hl2 : (l.take k).length = k := by rw [List.length_take]; omega
        obtain ⟨_, _, e, _, h2, h3⟩ := HR.out.below hB hB.size
        injection e with e1 e2 e3
        refine ⟨_, cap, by rw [hl2], by omega, by rw [e3]; exact h2, ?_⟩
        rcases h3 with h3 | ⟨g2, o2, e4, hg2, hr⟩
        · left; rw [h3, List.take_nil]
        · right
          rw [← e1] at e4
          refine ⟨g2, o2, e4, hg2, rdRow_of fun i y hy => ?_⟩
          have hi : i < k := by have := (List.getElem?_eq_some_iff.1 hy).1; omega
          rw [List.getElem?_take_of_lt hi] at hy
          exact rdRow_get hr hy
      have hCN := fun W (hB : Below w.heap.size w W) => check_node n aa pa acap pcap (.slice (some ⟨g, o, none⟩) k cap) (l.take k) deep W (hA.keep (fun _ hp => hB.cell hp) (fun b hb => Nat.lt_of_lt_of_le hb hB.size)) (hTK W hB) (by omega)
      unfold ndVal at hCN
      unfold ndObj at HQ
      have HHP := Lib.hid hP
      clear c0 c1 c2 c3 hn hA hP e2 e3 hac ham hpc hpm hTK
      by_cases hN0 : U.nodeFault (U.endT (l.take k)) deep n = 0
      · rw [hN0, show ((0 : Nat) : Int) = 0 from rfl] at hCN
        rw [if_pos hN0] at hgo hst
        have hd10 : deep + 1 ≤ 10 := by
          have h1 := hN0
          unfold U.nodeFault at h1
          split at h1
          · cases h1
          · omega
        have hRC := fun W (hB : Below w.heap.size w W) => IH.out (U.cntL n.parts) (by omega) n.parts (Nat.le_refl _) (by omega) (.slice pa n.parts.length pcap) (deep + 1) hd10 W (HHP.out.below hB hB.size)
        rw [show ((deep + 1 : Nat) : Int) = (deep : Int) + 1 from by push_cast; rfl] at hRC
        generalize U.lFault false (deep + 1) n.parts = F at hRC hgo hst
        have HCN := Lib.hid hCN
        have HRC := Lib.hid hRC
        have HGO := Lib.hid hgo
        have HST := Lib.hid hst
        clear hCN hRC hgo hst hN0 hge hne hx IH HHP
        go_wp2_with fail
        go_region_with (go_at_call 49; refine (HCN.out _ (HBO.out _).drew).mono ?_; rintro e w3 ⟨rfl, hb3⟩)
        all_goals
          have t3 := (HBO.out _).drew.trans (hb3.mono (HBO.out _).drew.size)
          have Q3 := Lib.hid ((hb3.block wr.heap.size (by simp)).trans HQ.out)
          have u33 := (nd_cells Q3.out).2.2.2
          clear hb3 HCN HQ HBO d0 d1 d2 d3
          go_wp2_with fail
          refine (HRC.out _ t3).mono ?_
          rintro e w4 ⟨rfl, hb4⟩
          have t4 := t3.trans (hb4.mono t3.size)
          clear hb4 HRC u33 Q3
          by_cases hF0 : F = 0
          · have hFz : ((F : Nat) : Int) = 0 := by omega
            have HG2 := Lib.hid (HGO.out hF0)
            clear HGO HST t3 hF0
            go_wp2_with fail
            go_roundw
            case rel => exact ⟨k + 1, by omega, by go_num, t4, HG2.out⟩
            case measure => simp [intOf]; omega
          · have hRF := HST.out hF0
            subst hRF
            have hne2 : (((F : Nat) : Int) != 0) = true := bne_iff_ne.2 (by omega)
            clear HGO HST t3 hF0
            go_wp2_with fail
            go_ret
            exact ⟨rfl, t4⟩
      · rw [if_neg hN0] at hst
        have hRN := hst hN0
        rw [hRN] at hCN hN0
        have hne2 : (((R : Nat) : Int) != 0) = true := bne_iff_ne.2 (by omega)
        have HCN := Lib.hid hCN
        clear hCN hgo hst hRN hge hne hx IH HHP
        go_wp2_with fail
        go_region_with (go_at_call 49; refine (HCN.out _ (HBO.out _).drew).mono ?_; rintro e w3 ⟨rfl, hb3⟩)
        all_goals
          have t3 := (HBO.out _).drew.trans (hb3.mono (HBO.out _).drew.size)
          clear hb3 HCN HQ HBO d0 d1 d2 d3
          go_wp2_with fail
          go_ret
          exact ⟨rfl, t3⟩
    · have hR2 : 0 = R := by
        have h1 := HF.out
        rw [List.drop_eq_nil_of_le (by omega), U.lFault_nil] at h1
        exact h1
      have hz : ¬ (k : Int) < (l.length : Int) := by omega
      subst hR2
      go_wp2_with fail
      go_ret
      exact ⟨rfl, hbw⟩

set_option maxHeartbeats 4000000 in
set_option maxRecDepth 1000000 in
theorem show_check (v : Value) (l : List U.Nd) (w : World) (hR : RdNs w (· < w.heap.size) v l) (hl : U.cntL l ≤ 1048576) :
    Calls Try.prog 16 #[v] w fun e w' => e = .returned (.int .i64 (U.showFault l : Nat)) ∧ Below w.heap.size w w' := by
  have hdl := U.dep_cnt _ l (Nat.le_refl _)
  have H1 := Lib.hid (check_list _ l (Nat.le_refl _) hl v 0 (Nat.zero_le _) w hR)
  have H2 := Lib.hid (fun W (hB : Below w.heap.size w W) => count_walk _ l (Nat.le_refl _) hl v W (hR.below hB hB.size))
  obtain ⟨ao, cap, rfl⟩ : ∃ ao cap, v = .slice ao l.length cap := by obtain ⟨a, b, e, _⟩ := hR; exact ⟨a, b, e⟩
  obtain ⟨R, hRR⟩ : ∃ R, U.showFault l = R := ⟨_, rfl⟩
  rw [hRR]
  unfold U.showFault at hRR
  clear hR
  go_enter Try.func16, Try.ntmps16
  have HRR := Lib.hid hRR
  clear hRR
  go_wp2_with fail
  refine H1.out.mono ?_
  rintro e w1 ⟨rfl, hb1⟩
  clear H1
  have h1 := HRR.out
  clear HRR
  generalize U.lFault false 0 l = F at h1
  by_cases hF : F = 0
  · rw [if_pos hF] at h1
    have hFz : ((F : Nat) : Int) = 0 := by omega
    have HR2 := Lib.hid h1
    clear h1 hF
    go_wp2_with fail
    refine (H2.out _ hb1).mono ?_
    rintro e w2 ⟨rfl, hb2⟩
    have t2 := hb1.trans (hb2.mono hb1.size)
    have h1 := HR2.out
    clear H2 HR2 hb2 hb1
    by_cases hc : 150 < U.cntL l
    · rw [if_pos hc] at h1
      subst h1
      have hcz : (150 : Int) < (U.cntL l : Int) := by omega
      go_wp2_with fail
      go_ret
      exact ⟨rfl, t2⟩
    · rw [if_neg hc] at h1
      subst h1
      have hcz : ¬ (150 : Int) < (U.cntL l : Int) := by omega
      go_wp2_with fail
      go_ret
      exact ⟨rfl, t2⟩
  · rw [if_neg hF] at h1
    subst h1
    have hne2 : (((F : Nat) : Int) != 0) = true := bne_iff_ne.2 (by omega)
    clear H2
    go_wp2_with fail
    go_ret
    exact ⟨rfl, hb1⟩

end Go.Proofs.Ytmfkefcdddoooaa

/- The reference: nodesFault, ShowFault. -/
import Derived.Test.YtmfkefcdddoooaaShowNames
import Derived.Test.YtmfkefcdddoooaaRefAtts
import Derived.Test.YtmfkefcdddoooaaRefCount
namespace Go.Proofs.Ytmfkefcdddoooaa
open Go.RowKit

set_option maxHeartbeats 16000000 in
set_option maxRecDepth 1000000 in
theorem nodes_fault (c : Nat) : ∀ (l : List U.Nd), U.cntL l ≤ c → U.cntL l ≤ 1048576 → U.SmallNs 1048576 l → ∀ (v : Value) (deep : Nat), deep ≤ 10 → ∀ (w : World), RdNs w (· < w.heap.size) v l →
    Calls Try.prog 36 #[v, .int .i64 deep] w fun e w' => e = .returned (.int .i64 (U.lFault false deep l : Nat)) ∧ Below w.heap.size w w' := by
  induction c using Nat.strongRecOn with
  | _ c ih =>
  intro l hlc hlM hsm v deep hdeep w hR
  have hR0 := hR
  obtain ⟨ao, cap, rfl, hcl, hcm, -⟩ := hR0
  obtain ⟨R, hRR⟩ : ∃ R, U.lFault false deep l = R := ⟨_, rfl⟩
  rw [hRR]
  have HRR := Lib.hid hRR
  have HR := Lib.hid hR
  have IH := Lib.hid ih
  have HSM := Lib.hid ((U.smallNs_iff _ _).1 hsm)
  have hll := U.len_cnt l
  clear ih hR hcl hcm hRR hsm
  go_enter Try.func36, Try.ntmps36
  go_wp2_with fail
  go_loopw [12] (fun i wr => ∃ k : Nat, k ≤ l.length ∧ i = .int .i64 k ∧ Below w.heap.size w wr ∧ Hid (U.lFault (U.endT (l.take k)) deep (l.drop k) = R)) (fun i _ => l.length - (intOf i).toNat)
  case atStart => exact ⟨0, Nat.zero_le _, rfl, Below.refl _ _, HRR.out⟩
  case round =>
    obtain ⟨k, hk, rfl, hbw, HF⟩ := hrel
    by_cases hlt : k < l.length
    · have hx := List.getElem?_eq_getElem hlt
      generalize l[k]'hlt = n at hx
      obtain ⟨g, o, cap2, e0, hg, hn⟩ := HR.out.get hx
      injection e0 with e1 e2 e3
      subst e1
      obtain ⟨av, pv, c0, c1, c2, c3, hA, hP⟩ := (rdNd_iff n g _).1 hn
      obtain ⟨aa, acap, rfl, hac, ham, -⟩ := id hA
      obtain ⟨pa, pcap, rfl, hpc, hpm, -⟩ := id hP
      have d0 := (hbw.cell (p := ⟨g, o + k * 4, none⟩) hg).trans c0
      have d1 := (hbw.cell (p := ⟨g, o + k * 4 + 1, none⟩) hg).trans c1
      have d2 := (hbw.cell (p := ⟨g, o + k * 4 + 2, none⟩) hg).trans c2
      have d3 := (hbw.cell (p := ⟨g, o + k * 4 + 3, none⟩) hg).trans c3
      have hge := U.cntL_get hx
      have hne := U.cntN_eq n
      have hgo := U.lF_go hx HF.out
      have hst := U.lF_stop hx HF.out
      rw [U.ndFault_eq] at hgo hst
      obtain ⟨z1, z2, z3, z4, z5, z6⟩ := (HSM.out n (List.mem_of_getElem? hx)).out
      have hk0 : (0 : Int) ≤ (k : Int) := Int.natCast_nonneg _
      have hk1 : (k : Int) < (l.length : Int) := by omega
      by_cases hd : deep = 10
      · have hF : U.nodeFault (U.endT (l.take k)) deep n = 6 := by unfold U.nodeFault; rw [if_pos (by omega)]
        rw [hF, if_neg (by decide)] at hst
        have hR6 := hst (by decide)
        have hdz : (deep : Int) = 10 := by omega
        subst hR6
        clear hgo hst hF c0 c1 c2 c3 hn hA hP e2 e3 hge hne hac ham hpc hpm
        go_wp2_with fail
        go_ret
        exact ⟨rfl, hbw.alloc hbw.size _⟩
      · have hdz : ¬ (deep : Int) = 10 := by omega
        have hF0 : U.nodeFault (U.endT (l.take k)) deep n = if n.name = [] then (if n.attrs ≠ [] ∨ n.parts ≠ [] ∨ n.text = [] ∨ U.endT (l.take k) = true then 4 else 0) else U.elemFault n := by unfold U.nodeFault; rw [if_neg (by omega)]
        by_cases hnm : n.name = []
        · rw [if_pos hnm] at hF0
          by_cases hbad : n.attrs ≠ [] ∨ n.parts ≠ [] ∨ n.text = []
          · rw [if_pos (hbad.elim .inl fun h => h.elim (fun h => .inr (.inl h)) fun h => .inr (.inr (.inl h)))] at hF0
            rw [hF0, if_neg (by decide)] at hst
            have hR4 := hst (by decide)
            subst hR4
            have hnm2 : n.name = [] := hnm
            rw [hnm2] at d0
            by_cases ht : n.text = []
            · rw [ht] at d2
              clear hgo hst hF0 c0 c1 c2 c3 hn hA hP e2 e3 hge hne hac ham hpc hpm hbad hnm hnm2 ht z1 z2 z4
              go_wp2_with fail
              go_ret
              exact ⟨rfl, hbw.alloc hbw.size _⟩
            · have ht2 : (n.text == []) = false := beq_eq_false_iff_ne.2 ht
              have hsum : ¬ (n.attrs.length : Int) + (n.parts.length : Int) = 0 := by
                have h1 : n.attrs.length ≠ 0 ∨ n.parts.length ≠ 0 := by
                  rcases hbad with h | h | h
                  · exact .inl fun e => h (List.eq_nil_of_length_eq_zero e)
                  · exact .inr fun e => h (List.eq_nil_of_length_eq_zero e)
                  · exact absurd h ht
                omega
              clear hgo hst hF0 c0 c1 c2 c3 hn hA hP e2 e3 hge hne hac ham hpc hpm hbad hnm hnm2 ht z1 z2 z4
              go_wp2_with fail
              go_ret
              exact ⟨rfl, hbw.alloc hbw.size _⟩
          · have ha : n.attrs = [] := Classical.byContradiction fun h => hbad (.inl h)
            have hp : n.parts = [] := Classical.byContradiction fun h => hbad (.inr (.inl h))
            have ht : ¬ n.text = [] := fun h => hbad (.inr (.inr h))
            have ht2 : (n.text == []) = false := beq_eq_false_iff_ne.2 ht
            have hal : n.attrs.length = 0 := by rw [ha]; rfl
            have hpl : n.parts.length = 0 := by rw [hp]; rfl
            have hsum : (n.attrs.length : Int) + (n.parts.length : Int) = 0 := by omega
            have hnm2 : n.name = [] := hnm
            rw [hnm2] at d0
            have hF1 : U.nodeFault (U.endT (l.take k)) deep n = if U.endT (l.take k) = true then 4 else 0 := by
              rw [hF0]
              by_cases hE : U.endT (l.take k) = true
              · rw [if_pos hE, if_pos (.inr (.inr (.inr hE)))]
              · rw [if_neg hE, if_neg (fun h => hbad (h.elim .inl fun h => h.elim (fun h => .inr (.inl h)) fun h => h.elim (fun h => .inr (.inr h)) fun h => absurd h hE))]
            rw [hF1, hp, U.lFault_nil] at hgo hst
            by_cases hk00 : k = 0
            · subst hk00
              have hgo2 := hgo (by rw [if_pos]; rw [List.take_zero]; rfl)
              have HGO := Lib.hid hgo2
              have hk3 : ¬ (0 : Int) < 0 := by omega
              simp only [Nat.zero_mul, Nat.add_zero] at d0 d1 d2 d3
              clear hgo2 hgo hst hF0 hF1 c0 c1 c2 c3 hn hA hP e2 e3 hge hne hac ham hpc hpm hbad hnm hnm2 ht z1 z2 z4 ha hp
              go_wp2_with fail
              go_roundw
              case rel => exact ⟨1, by omega, rfl, hbw.alloc hbw.size _, HGO.out⟩
              case measure => simp [intOf]; omega
            · have hxm := List.getElem?_eq_getElem (show k - 1 < l.length by omega)
              generalize l[k - 1]'(show k - 1 < l.length by omega) = m at hxm
              have hEm := U.endT_take hxm
              rw [show k - 1 + 1 = k by omega] at hEm
              obtain ⟨g', o', cap', e0', hg', hm⟩ := HR.out.get hxm
              injection e0' with e1' e2' e3'
              injection e1' with e1'
              injection e1' with e4' e5'
              subst e4'
              subst e5'
              obtain ⟨_, _, m0, _⟩ := (rdNd_iff m g _).1 hm
              have dm := (hbw.cell (p := ⟨g, o + (k - 1) * 4, none⟩) hg).trans m0
              have hqm := fun (e : List UInt8) (he : m.name = e) O => (cell_alloc_old wr O ⟨g, o + (k - 1) * 4, none⟩ (Nat.lt_of_lt_of_le hg hbw.size)).trans (he ▸ dm)
              have hk3 : (0 : Int) < (k : Int) := by omega
              have hk4 : (0 : Int) ≤ (k : Int) - 1 := by omega
              have hk5 : (k : Int) - 1 < (l.length : Int) := by omega
              have hk6 : ((k : Int) - 1).toNat = k - 1 := by omega
              by_cases hmn : m.name = []
              · have hE1 : U.endT (l.take k) = true := by rw [hEm, hmn]; rfl
                rw [if_pos hE1, if_neg (by decide)] at hst
                have hR4 := hst (by decide)
                subst hR4
                have qm := hqm [] hmn
                clear hqm dm
                clear hgo hst hF0 hF1 c0 c1 c2 c3 hn hA hP e2 e3 hge hne hac ham hpc hpm hbad hnm hnm2 ht z1 z2 z4 ha hp m0 hm hmn hE1 hEm e2' e3' hxm
                go_wp2_with fail
                go_ret
                exact ⟨rfl, hbw.alloc hbw.size _⟩
              · have hE1 : ¬ U.endT (l.take k) = true := by
                  rw [hEm]
                  intro h
                  exact hmn (List.isEmpty_iff.1 h)
                rw [if_neg hE1, if_pos rfl] at hgo
                have HGO := Lib.hid (hgo rfl)
                have hmn2 : (m.name == []) = false := beq_eq_false_iff_ne.2 hmn
                have qm := hqm m.name rfl
                clear hqm dm
                clear hgo hst hF0 hF1 c0 c1 c2 c3 hn hA hP e2 e3 hge hne hac ham hpc hpm hbad hnm hnm2 ht z1 z2 z4 ha hp m0 hm hmn hE1 hEm e2' e3' hxm
                go_wp2_with fail
                go_roundw
                case rel => exact ⟨k + 1, by omega, by go_num, hbw.alloc hbw.size _, HGO.out⟩
                case measure => simp [intOf]; omega
        · rw [if_neg hnm, U.elemFault_eq] at hF0
          have hnm2 : (n.name == []) = false := beq_eq_false_iff_ne.2 hnm
          have hbO := fun O => hbw.alloc hbw.size O
          have hNM := fun W => name_may ⟨n.name.toArray⟩ W
          rw [list_of_mk] at hNM
          have HNM := Lib.hid hNM
          clear hNM
          have hAF := fun W (hB : Below w.heap.size w W) => attrs_fault (.slice aa n.attrs.length acap) n.attrs W (((hA.lt fun b hb => hb).below hB).more hB.size) (by unfold most; omega)
          have HAF := Lib.hid hAF
          clear hAF
          have HBO := Lib.hid hbO
          have HQ := Lib.hid (heap_alloc_new wr (ndObj n (.slice aa n.attrs.length acap) (.slice pa n.parts.length pcap)))
          unfold ndObj at HQ
          clear hbO
          by_cases a1 : U.isName n.name = true
          · rw [if_pos a1] at hF0
            rw [a1] at HNM
            by_cases a2 : U.attrsFault n.attrs = 0
            · rw [if_pos a2] at hF0
              rw [a2, show ((0 : Nat) : Int) = 0 from rfl] at HAF
              have hRV := fun W => ref_void n.name W
              have HRV := Lib.hid hRV
              clear hRV
              have hOO := fun (W : World) (b : Nat) (hb : b < W.heap.size) hc => one_of n.name [[115, 99, 114, 105, 112, 116], [115, 116, 121, 108, 101], [116, 101, 120, 116, 97, 114, 101, 97], [116, 105, 116, 108, 101]] b 4 4 W rfl (by decide) hb hc
              rw [← raw_any] at hOO
              have HOO := Lib.hid hOO
              clear hOO
              have HQ := Lib.hid (heap_alloc_new wr (ndObj n (.slice aa n.attrs.length acap) (.slice pa n.parts.length pcap)))
              unfold ndObj at HQ
              have hdz2 : deep + 1 ≤ 10 := by omega
              have hRC := fun W (hB : Below w.heap.size w W) => IH.out (U.cntL n.parts) (by omega) n.parts (Nat.le_refl _) (by omega) z6 (.slice pa n.parts.length pcap) (deep + 1) hdz2 W (hP.below hB hB.size)
              rw [show ((deep + 1 : Nat) : Int) = (deep : Int) + 1 from by push_cast; rfl] at hRC
              have HRC := Lib.hid hRC
              have HGO := Lib.hid hgo
              have HST := Lib.hid hst
              have HF0 := Lib.hid hF0
              clear hRC hgo hst hF0 c0 c1 c2 c3 hn hA hP e2 e3 hge hne hac ham hpc hpm hnm a1 a2 z1 z2 z4 z6 hx IH
              go_wp2_with (go_at_call 50; refine (HNM.out _).mono ?_; rintro e w2 ⟨rfl, rfl⟩)
              refine (HAF.out _ (HBO.out _)).mono ?_
              rintro e w3 ⟨rfl, hb3⟩
              have t3 := (HBO.out _).trans (hb3.mono (HBO.out _).size)
              have Q3 := Lib.hid ((hb3.block wr.heap.size (by simp)).trans HQ.out)
              have u30 := (nd_cells Q3.out).1
              have u32 := (nd_cells Q3.out).2.2.1
              have L3 := Lib.hid (Array.getElem?_eq_some_iff.1 Q3.out).1
              clear hb3 HAF HNM
              by_cases ht : n.text = []
              · rw [ht] at u32
                by_cases hvo : U.isVoid n.name = true
                · rw [hvo] at HRV
                  have HVO := Lib.hid hvo
                  clear hvo
                  go_wp2_with fail
                  refine (HRV.out _).mono ?_
                  rintro e w4 ⟨rfl, hb4⟩
                  have t4 := t3.trans (hb4.mono t3.size)
                  have Q4 := Lib.hid ((hb4.block wr.heap.size L3.out).trans Q3.out)
                  have u40 := (nd_cells Q4.out).1
                  have u43 := (nd_cells Q4.out).2.2.2
                  have L4 := Lib.hid (Array.getElem?_eq_some_iff.1 Q4.out).1
                  clear hb4
                  by_cases hp : n.parts = []
                  · have hpl : n.parts.length = 0 := by rw [hp]; rfl
                    rw [hpl] at u43
                    have HP := Lib.hid hp
                    clear hp
                    cases hrw : U.rawName n.name with
                    | true =>
                      have hR4 : 4 = R := by
                        have h1 := HF0.out
                        rw [if_pos (.inr (.inr hrw))] at h1
                        have h2 := HST.out
                        rw [h1, if_neg (by decide)] at h2
                        exact h2 (by decide)
                      rw [hrw] at HOO
                      subst hR4
                      clear hrw hpl
                      clear HGO HST HF0 HRC HR HRR HF HSM HBO HVO HQ Q3 L3 d0 d1 d2 d3 t3 HP HRV
                      go_wp2_with fail
                      refine (HOO.out _ _ (by simp) (cells_strs (heap_alloc_new _ _) (by rfl))).mono ?_
                      rintro e w5 ⟨rfl, hb5⟩
                      have t5 := (t4.alloc t4.size _).trans (hb5.mono (t4.alloc t4.size _).size)
                      clear hb5 u40 u43 HOO Q4 L4 t4
                      go_wp2_with fail
                      go_ret
                      exact ⟨rfl, t5⟩
                    | false =>
                      have h1 := HF0.out
                      rw [if_neg (fun h => h.elim (fun h => h ht) fun h => h.elim (fun h => h.2 HP.out) fun h => by rw [hrw] at h; cases h)] at h1
                      have hgo := HGO.out
                      have hst := HST.out
                      rw [h1, if_pos rfl] at hgo hst
                      have hRC := HRC.out
                      clear HRC
                      generalize U.lFault false (deep + 1) n.parts = F at hRC hgo hst
                      rw [hrw] at HOO
                      by_cases hF00 : F = 0
                      · rw [hF00, show ((0 : Nat) : Int) = 0 from rfl] at hRC
                        have HG2 := Lib.hid (hgo hF00)
                        have HRC := Lib.hid hRC
                        clear hRC hgo hst h1 hF00 hrw hpl
                        clear HGO HST HF0 HRR HF HSM HBO HVO HQ Q3 L3 d0 d1 d2 d3 t3 HP HRV
                        go_wp2_with fail
                        refine (HOO.out _ _ (by simp) (cells_strs (heap_alloc_new _ _) (by rfl))).mono ?_
                        rintro e w5 ⟨rfl, hb5⟩
                        have t5 := (t4.alloc t4.size _).trans (hb5.mono (t4.alloc t4.size _).size)
                        have Q5 := Lib.hid ((hb5.block wr.heap.size (by have := L4.out; simp; omega)).trans ((Lib.alloc_old w4 _ _ L4.out).trans Q4.out))
                        clear u40 u43 HOO
                        have u53 := (nd_cells Q5.out).2.2.2
                        clear hb5 Q5 Q4 L4 t4
                        go_wp2_with fail
                        refine (HRC.out _ t5).mono ?_
                        rintro e w6 ⟨rfl, hb6⟩
                        have t6 := t5.trans (hb6.mono t5.size)
                        clear hb6 HRC u53 t5
                        go_wp2_with fail
                        go_roundw
                        case rel => exact ⟨k + 1, by omega, by go_num, t6, HG2.out⟩
                        case measure => simp [intOf]; omega
                      · have hRF := hst hF00
                        rw [hRF] at hRC hF00
                        have hne2 : (((R : Nat) : Int) != 0) = true := bne_iff_ne.2 (by omega)
                        have HRC := Lib.hid hRC
                        clear hRC hgo hst h1 hF00 hrw hRF hpl
                        clear HGO HST HF0 HRR HF HSM HBO HVO HQ Q3 L3 d0 d1 d2 d3 t3 HP HRV
                        go_wp2_with fail
                        refine (HOO.out _ _ (by simp) (cells_strs (heap_alloc_new _ _) (by rfl))).mono ?_
                        rintro e w5 ⟨rfl, hb5⟩
                        have t5 := (t4.alloc t4.size _).trans (hb5.mono (t4.alloc t4.size _).size)
                        have Q5 := Lib.hid ((hb5.block wr.heap.size (by have := L4.out; simp; omega)).trans ((Lib.alloc_old w4 _ _ L4.out).trans Q4.out))
                        clear u40 u43 HOO
                        have u53 := (nd_cells Q5.out).2.2.2
                        clear hb5 Q5 Q4 L4 t4
                        go_wp2_with fail
                        refine (HRC.out _ t5).mono ?_
                        rintro e w6 ⟨rfl, hb6⟩
                        have t6 := t5.trans (hb6.mono t5.size)
                        clear hb6 HRC u53 t5
                        go_wp2_with fail
                        go_ret
                        exact ⟨rfl, t6⟩
                  · have hR4 : 4 = R := by
                      have h1 := HF0.out
                      rw [if_pos (.inr (.inl ⟨HVO.out, hp⟩))] at h1
                      have h2 := HST.out
                      rw [h1, if_neg (by decide)] at h2
                      exact h2 (by decide)
                    have hpz : (0 : Int) < (n.parts.length : Int) := by
                      have := List.length_pos_iff.2 hp
                      omega
                    subst hR4
                    go_wp2_with fail
                    go_ret
                    exact ⟨rfl, t4⟩
                · have hvo2 : U.isVoid n.name = false := by simpa using hvo
                  rw [hvo2] at HRV
                  have HVO := Lib.hid hvo
                  clear hvo hvo2
                  go_wp2_with fail
                  refine (HRV.out _).mono ?_
                  rintro e w4 ⟨rfl, hb4⟩
                  have t4 := t3.trans (hb4.mono t3.size)
                  have Q4 := Lib.hid ((hb4.block wr.heap.size L3.out).trans Q3.out)
                  have u40 := (nd_cells Q4.out).1
                  have u43 := (nd_cells Q4.out).2.2.2
                  have L4 := Lib.hid (Array.getElem?_eq_some_iff.1 Q4.out).1
                  clear hb4
                  cases hrw : U.rawName n.name with
                  | true =>
                    have hR4 : 4 = R := by
                      have h1 := HF0.out
                      rw [if_pos (.inr (.inr hrw))] at h1
                      have h2 := HST.out
                      rw [h1, if_neg (by decide)] at h2
                      exact h2 (by decide)
                    rw [hrw] at HOO
                    subst hR4
                    clear hrw
                    go_wp2_with fail
                    refine (HOO.out _ _ (by simp) (cells_strs (heap_alloc_new _ _) (by rfl))).mono ?_
                    rintro e w5 ⟨rfl, hb5⟩
                    have t5 := (t4.alloc t4.size _).trans (hb5.mono (t4.alloc t4.size _).size)
                    have Q5 := Lib.hid ((hb5.block wr.heap.size (by have := L4.out; simp; omega)).trans ((Lib.alloc_old w4 _ _ L4.out).trans Q4.out))
                    clear u40 u43
                    have u53 := (nd_cells Q5.out).2.2.2
                    clear hb5
                    go_wp2_with fail
                    go_ret
                    exact ⟨rfl, t5⟩
                  | false =>
                    have h1 := HF0.out
                    rw [if_neg (fun h => h.elim (fun h => h ht) fun h => h.elim (fun h => HVO.out h.1) fun h => by rw [hrw] at h; cases h)] at h1
                    have hgo := HGO.out
                    have hst := HST.out
                    rw [h1, if_pos rfl] at hgo hst
                    have hRC := HRC.out
                    clear HRC
                    generalize U.lFault false (deep + 1) n.parts = F at hRC hgo hst
                    rw [hrw] at HOO
                    by_cases hF00 : F = 0
                    · rw [hF00, show ((0 : Nat) : Int) = 0 from rfl] at hRC
                      have HG2 := Lib.hid (hgo hF00)
                      have HRC := Lib.hid hRC
                      clear hRC hgo hst h1 hF00 hrw
                      go_wp2_with fail
                      refine (HOO.out _ _ (by simp) (cells_strs (heap_alloc_new _ _) (by rfl))).mono ?_
                      rintro e w5 ⟨rfl, hb5⟩
                      have t5 := (t4.alloc t4.size _).trans (hb5.mono (t4.alloc t4.size _).size)
                      have Q5 := Lib.hid ((hb5.block wr.heap.size (by have := L4.out; simp; omega)).trans ((Lib.alloc_old w4 _ _ L4.out).trans Q4.out))
                      clear u40 u43
                      have u53 := (nd_cells Q5.out).2.2.2
                      clear hb5
                      go_wp2_with fail
                      refine (HRC.out _ t5).mono ?_
                      rintro e w6 ⟨rfl, hb6⟩
                      have t6 := t5.trans (hb6.mono t5.size)
                      clear hb6 HRC HOO HRV Q3 Q4 Q5 L3 L4 u53 t3 t4 t5 HVO HGO HST HF0 HQ
                      go_wp2_with fail
                      go_roundw
                      case rel => exact ⟨k + 1, by omega, by go_num, t6, HG2.out⟩
                      case measure => simp [intOf]; omega
                    · have hRF := hst hF00
                      rw [hRF] at hRC hF00
                      have hne2 : (((R : Nat) : Int) != 0) = true := bne_iff_ne.2 (by omega)
                      have HRC := Lib.hid hRC
                      clear hRC hgo hst h1 hF00 hrw hRF
                      go_wp2_with fail
                      refine (HOO.out _ _ (by simp) (cells_strs (heap_alloc_new _ _) (by rfl))).mono ?_
                      rintro e w5 ⟨rfl, hb5⟩
                      have t5 := (t4.alloc t4.size _).trans (hb5.mono (t4.alloc t4.size _).size)
                      have Q5 := Lib.hid ((hb5.block wr.heap.size (by have := L4.out; simp; omega)).trans ((Lib.alloc_old w4 _ _ L4.out).trans Q4.out))
                      clear u40 u43
                      have u53 := (nd_cells Q5.out).2.2.2
                      clear hb5
                      go_wp2_with fail
                      refine (HRC.out _ t5).mono ?_
                      rintro e w6 ⟨rfl, hb6⟩
                      have t6 := t5.trans (hb6.mono t5.size)
                      clear hb6 HRC HOO HRV Q3 Q4 Q5 L3 L4 u53 t3 t4 t5 HVO HGO HST HF0 HQ
                      go_wp2_with fail
                      go_ret
                      exact ⟨rfl, t6⟩
              · have ht2 : (n.text == []) = false := beq_eq_false_iff_ne.2 ht
                have hR4 : 4 = R := by
                  have h1 := HF0.out
                  rw [if_pos (.inl ht)] at h1
                  have h2 := HST.out
                  rw [h1, if_neg (by decide)] at h2
                  exact h2 (by decide)
                subst hR4
                clear ht
                go_wp2_with fail
                go_ret
                exact ⟨rfl, t3⟩
            · rw [if_neg a2] at hF0
              rw [hF0, if_neg a2] at hst
              have hRA := hst a2
              rw [hRA] at HAF a2
              have hne2 : (((R : Nat) : Int) != 0) = true := bne_iff_ne.2 (by omega)
              clear hgo hst hF0 c0 c1 c2 c3 hn hA hP e2 e3 hge hne hac ham hpc hpm hnm a1 hRA z1 z2 z4
              go_wp2_with (first
                | (go_at_call 50; refine (HNM.out _).mono ?_; rintro e w2 ⟨rfl, rfl⟩)
                | (go_at_call 51; refine (HAF.out _ (HBO.out _)).mono ?_; rintro e w3 ⟨rfl, hb3⟩))
              go_ret
              exact ⟨rfl, (HBO.out _).trans (hb3.mono (HBO.out _).size)⟩
          · rw [if_neg a1] at hF0
            rw [hF0, if_neg (by decide)] at hst
            have hR5 := hst (by decide)
            have a1' : U.isName n.name = false := by simpa using a1
            rw [a1'] at HNM
            subst hR5
            clear hgo hst hF0 c0 c1 c2 c3 hn hA hP e2 e3 hge hne hac ham hpc hpm hnm a1 a1' z1 z2 z4
            go_wp2_with (go_at_call 50; refine (HNM.out _).mono ?_; rintro e w2 ⟨rfl, rfl⟩)
            go_ret
            exact ⟨rfl, HBO.out _⟩
    · have hR2 : 0 = R := by
        have h1 := HF.out
        rw [List.drop_eq_nil_of_le (by omega), U.lFault_nil] at h1
        exact h1
      have hz : ¬ (k : Int) < (l.length : Int) := by omega
      subst hR2
      go_wp2_with fail
      go_ret
      exact ⟨rfl, hbw⟩

set_option maxHeartbeats 4000000 in
set_option maxRecDepth 1000000 in
theorem show_fault (v : Value) (l : List U.Nd) (w : World) (hR : RdNs w (· < w.heap.size) v l) (hl : U.cntL l ≤ 1048576) (hs : U.SmallNs 1048576 l) :
    Calls Try.prog 17 #[v] w fun e w' => e = .returned (.int .i64 (U.showFault l : Nat)) ∧ Below w.heap.size w w' := by
  have hdl := U.dep_cnt _ l (Nat.le_refl _)
  have H1 := Lib.hid (nodes_fault _ l (Nat.le_refl _) hl hs v 0 (Nat.zero_le _) w hR)
  have H2 := Lib.hid (fun W (hB : Below w.heap.size w W) => ref_count l hl v W (hR.below hB hB.size))
  obtain ⟨ao, cap, rfl⟩ : ∃ ao cap, v = .slice ao l.length cap := by obtain ⟨a, b, e, _⟩ := hR; exact ⟨a, b, e⟩
  obtain ⟨R, hRR⟩ : ∃ R, U.showFault l = R := ⟨_, rfl⟩
  rw [hRR]
  unfold U.showFault at hRR
  clear hR hs
  go_enter Try.func17, Try.ntmps17
  have HRR := Lib.hid hRR
  clear hRR
  go_wp2_with fail
  refine H1.out.mono ?_
  rintro e w1 ⟨rfl, hb1⟩
  clear H1
  have h1 := HRR.out
  clear HRR
  generalize U.lFault false 0 l = F at h1
  by_cases hF : F = 0
  · rw [if_pos hF] at h1
    have hFz : ((F : Nat) : Int) = 0 := by omega
    have HR2 := Lib.hid h1
    clear h1 hF
    go_wp2_with fail
    refine (H2.out _ hb1).mono ?_
    rintro e w2 ⟨rfl, hb2⟩
    have t2 := hb1.trans (hb2.mono hb1.size)
    have h1 := HR2.out
    clear H2 HR2 hb2 hb1
    by_cases hc : 150 < U.cntL l
    · rw [if_pos hc] at h1
      subst h1
      have hcz : (150 : Int) < (U.cntL l : Int) := by omega
      go_wp2_with fail
      go_ret
      exact ⟨rfl, t2⟩
    · rw [if_neg hc] at h1
      subst h1
      have hcz : ¬ (150 : Int) < (U.cntL l : Int) := by omega
      go_wp2_with fail
      go_ret
      exact ⟨rfl, t2⟩
  · rw [if_neg hF] at h1
    subst h1
    have hne2 : (((F : Nat) : Int) != 0) = true := bne_iff_ne.2 (by omega)
    clear H2
    go_wp2_with fail
    go_ret
    exact ⟨rfl, hb1⟩

end Go.Proofs.Ytmfkefcdddoooaa

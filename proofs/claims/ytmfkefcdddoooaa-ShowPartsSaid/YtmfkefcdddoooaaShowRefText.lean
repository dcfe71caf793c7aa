/- The reference: nodesText, ShowText. -/
import Derived.Test.YtmfkefcdddoooaaShowRef
import Derived.Test.YtmfkefcdddoooaaStartText
namespace Go.Proofs.Ytmfkefcdddoooaa
open Go.RowKit

/-- the text of nodes -/
def U.shown (l : List U.Nd) : List UInt8 := U.emit (U.lToks l)
theorem U.shown_take {l : List U.Nd} {k : Nat} {n : U.Nd} (h : l[k]? = some n) : U.shown (l.take (k + 1)) = U.shown (l.take k) ++ U.emit (U.ndToks n) := by
  unfold U.shown
  rw [U.lToks_take h, U.emit_append]
theorem U.emit_nd (n : U.Nd) : U.emit (U.ndToks n) = if n.name = [] then U.esc false n.text else U.startE n.name n.attrs false ++ (if U.isVoid n.name = true then [] else U.shown n.parts ++ U.endE n.name) := by
  rw [U.ndToks_eq]
  by_cases h : n.name = []
  · rw [if_pos h, if_pos h]
    simp [U.emit, U.tokE]
  · rw [if_neg h, if_neg h, U.emit_cons]
    by_cases hv : U.isVoid n.name = true
    · rw [if_pos hv, if_pos hv]
      simp [U.tokE, U.emit]
    · rw [if_neg hv, if_neg hv, U.emit_append]
      show _ ++ (U.shown n.parts ++ U.emit [⟨2, n.name, [], false, []⟩]) = _
      simp [U.tokE, U.emit]
mutual
def okN : U.Nd → Prop | .mk n a t p => n.length ≤ 12 ∧ a.length ≤ 4 ∧ (∀ x ∈ a, x.1.length ≤ 12 ∧ x.2.length ≤ 1048576) ∧ t.length ≤ 1048576 ∧ okL p
def okL : List U.Nd → Prop | [] => True | n :: r => okN n ∧ okL r
end
theorem okL_iff : ∀ (l : List U.Nd), okL l ↔ ∀ n ∈ l, okN n
  | [] => by rw [okL]; exact ⟨fun _ n h => (by cases h), fun _ => trivial⟩
  | a :: r => by rw [okL, okL_iff r]; simp
theorem okN.out : ∀ {n : U.Nd}, okN n → n.name.length ≤ 12 ∧ n.attrs.length ≤ 4 ∧ (∀ x ∈ n.attrs, x.1.length ≤ 12 ∧ x.2.length ≤ 1048576) ∧ n.text.length ≤ 1048576 ∧ okL n.parts
  | .mk _ _ _ _, h => by rw [okN] at h; exact h
theorem name_le {n : List UInt8} (h : U.isName n = true) : n.length ≤ 12 := ((isName_iff n).1 h).2.1
mutual
theorem okN_of : ∀ (n : U.Nd) (prev : Bool) (deep : Nat), U.ndFault prev deep n = 0 → U.SmallNd 1048576 n → okN n
  | .mk n a t p, prev, deep, h, hs => by
    rw [U.ndFault] at h
    rw [U.SmallNd] at hs
    obtain ⟨s1, s2, s3, s4, s5, s6⟩ := hs
    by_cases h0 : U.nodeFault prev deep (.mk n a t p) = 0
    · rw [if_pos h0] at h
      have hp := okL_of p _ _ h s6
      unfold U.nodeFault at h0
      split at h0
      · cases h0
      · rw [okN]
        by_cases hn : n = []
        · have hn' : (U.Nd.mk n a t p).name = [] := hn
          rw [if_pos hn'] at h0
          split at h0
          · cases h0
          · rename_i h1
            have e1 : a = [] := Classical.byContradiction fun h => h1 (.inl h)
            subst hn
            subst e1
            exact ⟨by simp, by simp, (fun x hx => by cases hx), s2, hp⟩
        · have hn' : ¬ (U.Nd.mk n a t p).name = [] := hn
          rw [if_neg hn', U.elemFault_zero] at h0
          obtain ⟨e1, ⟨e2, e3, e4⟩, _⟩ := h0
          exact ⟨name_le e1, e3, fun x hx => ⟨name_le (e2 x hx), (s4 x hx).2⟩, s2, hp⟩
    · rw [if_neg h0] at h
      exact absurd h h0
theorem okL_of : ∀ (l : List U.Nd) (prev : Bool) (deep : Nat), U.lFault prev deep l = 0 → U.SmallNs 1048576 l → okL l
  | [], _, _, _, _ => by rw [okL]; trivial
  | n :: l, prev, deep, h, hs => by
    rw [U.lFault_cons] at h
    rw [U.SmallNs] at hs
    by_cases h0 : U.ndFault prev deep n = 0
    · rw [if_pos h0] at h
      rw [okL]
      exact ⟨okN_of n prev deep h0 hs.1, okL_of l _ deep h hs.2⟩
    · rw [if_neg h0] at h
      exact absurd h h0
end

set_option maxHeartbeats 8000000 in
set_option maxRecDepth 1000000 in
theorem nodes_text (c : Nat) : ∀ (l : List U.Nd), U.cntL l ≤ c → U.cntL l ≤ 1048576 → okL l → ∀ (v : Value) (w : World), RdNs w (· < w.heap.size) v l →
    Calls Try.prog 39 #[v] w fun e w' => (∃ T : ByteArray, e = .returned (.string T) ∧ T.data.toList = U.shown l ∧ T.size ≤ 30000000 * U.cntL l) ∧ Below w.heap.size w w' := by
  induction c using Nat.strongRecOn with
  | _ c ih =>
  intro l hlc hlM hok v w hR
  have hR0 := hR
  obtain ⟨ao, cap, rfl, hcl, hcm, -⟩ := hR0
  have HR := Lib.hid hR
  have IH := Lib.hid ih
  have HOK := Lib.hid ((okL_iff l).1 hok)
  have hll := U.len_cnt l
  clear ih hR hcl hcm hok
  go_enter Try.func39, Try.ntmps39
  go_wp2_with fail
  go_loopw [3, 8] (fun tv i wr => ∃ (k : Nat) (T : ByteArray), k ≤ l.length ∧ i = .int .i64 k ∧ tv = .string T ∧ Hid (T.data.toList = U.shown (l.take k)) ∧ T.size ≤ 30000000 * U.cntL (l.take k) ∧ Below w.heap.size w wr) (fun _ i _ => l.length - (intOf i).toNat)
  case atStart => exact ⟨0, ⟨#[]⟩, Nat.zero_le _, rfl, rfl, by show _ = _; unfold U.shown; rw [List.take_zero, U.lToks_nil]; rfl, Nat.zero_le _, Below.refl _ _⟩
  case round =>
    obtain ⟨k, T, hk, rfl, rfl, HT, hTs, hbw⟩ := hrel
    by_cases hlt : k < l.length
    · have hx := List.getElem?_eq_getElem hlt
      generalize l[k]'hlt = n at hx
      obtain ⟨g, o, cap2, e0, hg, hn⟩ := HR.out.get hx
      injection e0 with e1 e2 e3
      subst e1
      obtain ⟨av, pv, c0, c1, c2, c3, hA, hP⟩ := (rdNd_iff n g _).1 hn
      obtain ⟨aa, acap, rfl, hac, ham, -⟩ := id hA
      obtain ⟨pa, pcap, rfl, hpc, hpm, -⟩ := id hP
      have d0 := (hbw.cell (p := ⟨g, o + k * 4, none⟩) hg).trans c0
      have d1 := (hbw.cell (p := ⟨g, o + k * 4 + 1, none⟩) hg).trans c1
      have d2 := (hbw.cell (p := ⟨g, o + k * 4 + 2, none⟩) hg).trans c2
      have d3 := (hbw.cell (p := ⟨g, o + k * 4 + 3, none⟩) hg).trans c3
      have hge := U.cntL_get hx
      have hne := U.cntN_eq n
      have hct := U.cntL_take hx
      have hst := U.shown_take hx
      rw [U.emit_nd] at hst
      obtain ⟨o1, o2, o3, o4, o5⟩ := (HOK.out n (List.mem_of_getElem? hx)).out
      have hk0 : (0 : Int) ≤ (k : Int) := Int.natCast_nonneg _
      have hk1 : (k : Int) < (l.length : Int) := by omega
      have HBO := Lib.hid (fun O => hbw.alloc hbw.size O)
      have HQ := Lib.hid (heap_alloc_new wr (ndObj n (.slice aa n.attrs.length acap) (.slice pa n.parts.length pcap)))
      unfold ndObj at HQ
      by_cases hnm : n.name = []
      · rw [if_pos hnm] at hst
        have hesc := fun W => ref_escape ⟨n.text.toArray⟩ false W (by rw [size_of_mk]; omega)
        rw [list_of_mk] at hesc
        have hel := (U.esc_length false n.text).2
        have hnm2 := hnm
        rw [hnm2] at d0
        obtain ⟨E, hE⟩ : ∃ E, U.esc false n.text = E := ⟨_, rfl⟩
        rw [hE] at hesc hst hel
        have hEs : (ByteArray.mk E.toArray).size = E.length := size_of_mk _
        have hno : ¬ 9223372036854775807 < T.size + E.length := by omega
        have hTz : T.size + E.length ≤ 30000000 * U.cntL (l.take (k + 1)) := by omega
        have HES := Lib.hid hesc
        have HST := Lib.hid hst
        clear hesc hst c0 c1 c2 c3 hn hA hP e2 e3 hge hne hct hac ham hpc hpm hnm hnm2 hE hx o1 o2 o3 o4 o5 hel hTs
        go_wp2_with fail
        refine (HES.out _).mono ?_
        rintro e w3 ⟨rfl, hb3⟩
        have t3 := (HBO.out _).trans (hb3.mono (HBO.out _).size)
        have HTT : Hid ((T ++ ByteArray.mk E.toArray).data.toList = U.shown (l.take (k + 1))) := by
          show _ = _
          rw [HST.out, ← HT.out]
          simp
        have hss : (T ++ ByteArray.mk E.toArray).size ≤ 30000000 * U.cntL (l.take (k + 1)) := by rw [ByteArray.size_append, hEs]; exact hTz
        clear HES hb3 HBO HQ HST HT d0 d1 d2 d3 hTz
        go_wp2_with fail
        go_roundw
        case rel => exact ⟨k + 1, _, by omega, by go_num, rfl, HTT.out, hss, t3⟩
        case measure => simp [intOf]; omega
      · rw [if_neg hnm] at hst
        have hnm2 : (n.name == []) = false := beq_eq_false_iff_ne.2 hnm
        have hns : (ByteArray.mk n.name.toArray).size = n.name.length := size_of_mk _
        have hST := fun W (hB : Below w.heap.size w W) => start_text n.name aa acap n.attrs W (((hA.lt fun b hb => hb).below hB).more hB.size) o1 o2 o3
        have hRC := fun W (hB : Below w.heap.size w W) => IH.out (U.cntL n.parts) (by omega) n.parts (Nat.le_refl _) (by omega) o5 (.slice pa n.parts.length pcap) W (hP.below hB hB.size)
        have HSX := Lib.hid hST
        have HRC := Lib.hid hRC
        have HRV := Lib.hid (fun W => ref_void n.name W)
        have HST := Lib.hid hst
        have hcm : U.cntL (l.take k) + 1 + U.cntL n.parts ≤ 1048576 := by omega
        have hcs : U.cntL (l.take (k + 1)) = U.cntL (l.take k) + 1 + U.cntL n.parts := by omega
        have s1 : (ByteArray.mk #[62]).size = 1 := rfl
        have s2 : (ByteArray.mk #[60, 47]).size = 2 := rfl
        have HCS := Lib.hid hcs
        clear hST hRC hst c0 c1 c2 c3 hn hA hP e2 e3 hge hne hct hac ham hpc hpm hnm hx o2 o3 o4 o5 IH hcs
        go_wp2_with fail
        refine (HSX.out _ (HBO.out _)).mono ?_
        rintro e w3 ⟨⟨T2, rfl, hT2, hz2⟩, hb3⟩
        have t3 := (HBO.out _).trans (hb3.mono (HBO.out _).size)
        have Q3 := Lib.hid ((hb3.block wr.heap.size (by simp)).trans HQ.out)
        have u30 := (nd_cells Q3.out).1
        have L3 := Lib.hid (Array.getElem?_eq_some_iff.1 Q3.out).1
        have HT2 := Lib.hid hT2
        have q1 : ¬ 9223372036854775807 < T2.size + 1 := by omega
        have q2 : ¬ 9223372036854775807 < T.size + (T2.size + 1) := by omega
        clear hT2 hb3 HSX HBO HQ d0 d1 d2 d3
        cases hvo : U.isVoid n.name with
        | true =>
          rw [hvo] at HRV
          have HS2 : Hid (U.shown (l.take (k + 1)) = U.shown (l.take k) ++ U.startE n.name n.attrs false) := by
            show _ = _
            rw [HST.out, if_pos hvo, List.append_nil]
          clear HST hvo HRC
          go_wp2_with fail
          refine (HRV.out _).mono ?_
          rintro e w4 ⟨rfl, hb4⟩
          have t4 := t3.trans (hb4.mono t3.size)
          have HTT : Hid ((T ++ (T2 ++ ByteArray.mk #[62])).data.toList = U.shown (l.take (k + 1))) := by
            show _ = _
            rw [HS2.out, ← HT.out]
            simp [HT2.out, U.startE, U.tailE]
          have hss : (T ++ (T2 ++ ByteArray.mk #[62])).size ≤ 30000000 * U.cntL (l.take (k + 1)) := by
            have := HCS.out
            rw [ByteArray.size_append, ByteArray.size_append, s1]
            omega
          clear HRV hb4 HS2 HT HT2 t3 Q3 L3 u30 HCS
          go_wp2_with fail
          go_roundw
          case rel => exact ⟨k + 1, _, by omega, by go_num, rfl, HTT.out, hss, t4⟩
          case measure => simp [intOf]; omega
        | false =>
          rw [hvo] at HRV
          have HS2 : Hid (U.shown (l.take (k + 1)) = U.shown (l.take k) ++ (U.startE n.name n.attrs false ++ (U.shown n.parts ++ U.endE n.name))) := by
            show _ = _
            rw [HST.out, if_neg (by rw [hvo]; decide)]
          clear HST hvo
          go_wp2_with fail
          refine (HRV.out _).mono ?_
          rintro e w4 ⟨rfl, hb4⟩
          have t4 := t3.trans (hb4.mono t3.size)
          have Q4 := Lib.hid ((hb4.block wr.heap.size L3.out).trans Q3.out)
          have u40 := (nd_cells Q4.out).1
          have u43 := (nd_cells Q4.out).2.2.2
          have L4 := Lib.hid (Array.getElem?_eq_some_iff.1 Q4.out).1
          clear HRV hb4 t3 Q3 L3 u30
          go_wp2_with fail
          go_region_with (go_at_call 39; refine (HRC.out _ t4.drew).mono ?_; rintro e w5 ⟨⟨T3, rfl, hT3, hz3⟩, hb5⟩; have u50 := (nd_cells ((hb5.block wr.heap.size (by simpa using L4.out)).trans Q4.out)).1; have q3 : ¬ 9223372036854775807 < T3.size + 2 := (by omega); have q4 : ¬ 9223372036854775807 < T3.size + 2 + n.name.length := (by omega); have q5 : ¬ 9223372036854775807 < T3.size + 2 + n.name.length + 1 := (by omega); have q6 : ¬ 9223372036854775807 < T.size + (T2.size + 1) + (T3.size + 2 + n.name.length + 1) := (by omega))
          all_goals
            have t5 := t4.drew.trans (hb5.mono t4.drew.size)
            have hTT : (T ++ (T2 ++ ByteArray.mk #[62]) ++ (T3 ++ ByteArray.mk #[60, 47] ++ ByteArray.mk n.name.toArray ++ ByteArray.mk #[62])).data.toList = U.shown (l.take (k + 1)) := by
              rw [HS2.out, ← HT.out]
              simp [HT2.out, hT3, U.startE, U.tailE, U.endE]
            have HTT := Lib.hid hTT
            have hss : (T ++ (T2 ++ ByteArray.mk #[62]) ++ (T3 ++ ByteArray.mk #[60, 47] ++ ByteArray.mk n.name.toArray ++ ByteArray.mk #[62])).size ≤ 30000000 * U.cntL (l.take (k + 1)) := by
              have := HCS.out
              simp only [ByteArray.size_append, s1, s2, hns]
              omega
            clear HRC hb5 HS2 HT HT2 t4 Q4 L4 u40 u43 HCS hTT hT3
            go_wp2_with fail
            go_roundw
            case rel => exact ⟨k + 1, _, by omega, by go_num, rfl, HTT.out, hss, t5⟩
            case measure => simp [intOf]; omega
    · have hall : l.take k = l := List.take_of_length_le (by omega)
      rw [hall] at HT hTs
      have hz : ¬ (k : Int) < (l.length : Int) := by omega
      go_wp2_with fail
      go_ret
      exact ⟨⟨T, rfl, HT.out, hTs⟩, hbw⟩

set_option maxHeartbeats 4000000 in
set_option maxRecDepth 1000000 in
theorem ref_shown (v : Value) (l : List U.Nd) (w : World) (hR : RdNs w (· < w.heap.size) v l) (hl : U.cntL l ≤ 1048576) (hs : U.SmallNs 1048576 l) :
    Calls Try.prog 19 #[v] w fun e w' => e = .returned (.tuple #[.string ⟨(U.showText l).1.toArray⟩, .int .i64 ((U.showText l).2 : Nat)]) ∧ Below w.heap.size w w' := by
  have H1 := Lib.hid (show_fault v l w hR hl hs)
  have HS := Lib.hid hs
  have HR := Lib.hid hR
  obtain ⟨ao, cap, rfl⟩ : ∃ ao cap, v = .slice ao l.length cap := by obtain ⟨a, b, e, _⟩ := hR; exact ⟨a, b, e⟩
  obtain ⟨R, hRR⟩ : ∃ R, U.showText l = R := ⟨_, rfl⟩
  rw [hRR]
  obtain ⟨R1, R2⟩ := R
  have HRR := Lib.hid hRR
  clear hR hRR hs
  go_enter Try.func19, Try.ntmps19
  go_wp2_with fail
  refine H1.out.mono ?_
  rintro e w1 ⟨rfl, hb1⟩
  clear H1
  by_cases h0 : U.showFault l = 0
  · have hFz : ((U.showFault l : Nat) : Int) = 0 := by omega
    obtain ⟨_, _, hl0, hc150⟩ := U.show_ok h0
    have H2 := Lib.hid (nodes_text _ l (Nat.le_refl _) hl (okL_of l false 0 hl0 HS.out) (.slice ao l.length cap) w1 (HR.out.below hb1 hb1.size))
    have h1 := HRR.out
    unfold U.showText at h1
    rw [if_pos h0] at h1
    have HR1 := Lib.hid h1
    clear h1 h0 HS HR hl0 HRR
    go_wp2_with fail
    refine H2.out.mono ?_
    rintro e w2 ⟨⟨T, rfl, hT, hz⟩, hb2⟩
    have t2 := hb1.trans (hb2.mono hb1.size)
    have hTl : T.size = (U.emit (U.lToks l)).length := by rw [← len_list, hT]; rfl
    have h1 := HR1.out
    have hTT : T = ⟨(U.emit (U.lToks l)).toArray⟩ := by
      apply ByteArray.ext
      apply Array.ext'
      rw [hT]
      rfl
    by_cases h6 : 600 < (U.emit (U.lToks l)).length
    · rw [if_pos h6] at h1
      injection h1 with h2 h3
      subst h2
      subst h3
      have hz6 : (600 : Int) < (T.size : Int) := by omega
      clear H2 HR1 hb2 hT hTT h6 hTl
      go_wp2_with fail
      go_ret2
      exact ⟨rfl, t2⟩
    · rw [if_neg h6] at h1
      injection h1 with h2 h3
      subst h3
      have hz6 : ¬ (600 : Int) < (T.size : Int) := by omega
      have hz7 : ¬ (600 : Int) < (R1.length : Int) := by rw [← h2]; omega
      rw [h2] at hTT
      subst hTT
      clear H2 HR1 hb2 hT h6 hTl
      go_wp2_with fail
      go_ret2
      exact ⟨rfl, t2⟩
  · have h1 := HRR.out
    unfold U.showText at h1
    rw [if_neg h0] at h1
    injection h1 with h2 h3
    subst h2
    rw [h3] at h0 ⊢
    have hne : (((R2 : Nat) : Int) != 0) = true := bne_iff_ne.2 (by omega)
    clear h0 h3 HRR HS HR
    go_wp2_with fail
    go_ret2
    exact ⟨rfl, hb1⟩

end Go.Proofs.Ytmfkefcdddoooaa

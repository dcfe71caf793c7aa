/- The document's AutoLeast. -/
import Derived.Test.YtonchdhchaiikaaAuRefCount
import Derived.Test.YtonchdhchaiikaaAuRows
import Derived.Test.YtonchdhchaiikaaAuLeastMath
import Derived.Deep.LoopGhost
namespace Go.Proofs.Ytonchdhchaiikaa
open Go.RowKit

/-- what AutoLeast and Least hand back -/
def LeastPost (r : List Int × Nat) (w : World) (e : Ending) (w' : World) : Prop := ∃ v : Value, e = .returned (.tuple #[v, .int .i64 (r.2 : Nat)]) ∧ RdI w' (· < w'.heap.size) v r.1 ∧ Below w.heap.size w w'
theorem Below.drewNN {B : Nat} {a w : World} (h : Below B a w) (n : Nat) : Below B a (w.drewN n) := ⟨h.os, h.tape, h.output, h.size, h.block⟩
theorem ownsRow_drewN {w : World} {base : Nat} {e : TypeId} {size : Nat} {v : Value} {n : Nat} {xs : List Value} (h : w.ownsRow base e size v n xs) (k : Nat) : (w.drewN k).ownsRow base e size v n xs := h
theorem RdI.of_own {w : World} {B : Nat} {v : Value} {l : List Int} (h : w.ownsRow B 3 1 v l.length (iv l)) : RdI w (· < w.heap.size) v l := by
  have h0 := h
  rcases h.2 with ⟨rfl, hz⟩ | ⟨g, cap, cur, rfl, hb, hg, h1, h2, _⟩
  · exact ⟨none, 0, by rw [hz], by omega, Nat.zero_le _, .inl (List.eq_nil_of_length_eq_zero hz)⟩
  · refine ⟨_, cap, rfl, h1, h2, .inr ⟨g, 0, rfl, heap_lt hg, fun i x hx => ⟨_, ?_, rfl⟩⟩⟩
    rw [Nat.zero_add, h0.cellAt i (by have := (List.getElem?_eq_some_iff.1 hx).1; omega), iv_get hx]
theorem RdI.nil (w : World) (S : Nat → Prop) : RdI w S (.slice none 0 0) [] := ⟨none, 0, rfl, Nat.le_refl _, Nat.zero_le _, .inl rfl⟩
set_option maxHeartbeats 4000000 in
set_option maxRecDepth 1000000 in
theorem ref_least_no (a : U.Au) (nv fv : Value) (w : World) (hR : RdAu w (· < w.heap.size) nv fv a) (hm : a.may = false) :
    Calls Try.prog 21 #[auVal nv fv] w (LeastPost ([], 4) w) := by
  have hbN := (Below.refl w.heap.size w).alloc (Nat.le_refl _) (auObj nv fv)
  have HM := Lib.hid (fun W (hB : Below w.heap.size w W) => ref_may a nv fv W (hR.below hB hB.size))
  rw [hm] at HM
  unfold auObj at hbN
  unfold auVal at HM ⊢
  have HB := Lib.hid hbN
  clear hbN hR hm
  go_enter Try.func21, Try.ntmps21
  go_wp2_with fail
  refine (HM.out _ HB.out).mono ?_
  rintro e w2 ⟨rfl, hb2⟩
  have t2 := HB.out.trans (hb2.mono HB.out.size)
  clear hb2 HM HB
  go_wp2_with fail
  go_ret2
  exact ⟨_, rfl, RdI.nil _ _, t2⟩
set_option maxHeartbeats 4000000 in
set_option maxRecDepth 1000000 in
theorem ref_least (a : U.Au) (nv fv : Value) (w : World) (hR : RdAu w (· < w.heap.size) nv fv a) (hm : a.may = true) (D : List Int) (hD : U.IsD a.next a.final D) :
    Calls Try.prog 21 #[auVal nv fv] w (LeastPost (U.leastD a.next D) w) := by
  have hbN := (Below.refl w.heap.size w).alloc (Nat.le_refl _) (auObj nv fv)
  have HQ2 := Lib.hid (heap_alloc_new w (auObj nv fv))
  have HM := Lib.hid (fun W (hB : Below w.heap.size w W) => ref_may a nv fv W (hR.below hB hB.size))
  have HO := Lib.hid (U.Au.may_iff.1 hm)
  rw [hm] at HM
  obtain ⟨ao, cap, hnv, hnc, hnm⟩ := RdL.form hR.next
  obtain ⟨fo, fcap, hfv, hfc, hfm⟩ := RdL.form hR.final
  have HN := Lib.hid hR.next
  have HF := Lib.hid hR.final
  unfold auObj at hbN HQ2
  unfold auVal at HM ⊢
  have HB := Lib.hid hbN
  obtain ⟨N, hN⟩ : ∃ N, a.next.length = N := ⟨_, rfl⟩
  have hN1 : 1 ≤ N := by rw [← hN]; exact HO.out.one
  have hN40 : N ≤ 40 := by rw [← hN]; exact HO.out.most
  have hFN : a.final.length = N := by rw [← hN]; exact HO.out.fin
  rw [hN] at hnv
  rw [hFN] at hfv
  have HLN := Lib.hid hN
  have HFN := Lib.hid hFN
  have HD := Lib.hid hD
  have hi0 : (0 : Int) < (N : Int) := by omega
  have hNb : (N : Int) ≤ 40 := by omega
  have HNV := Lib.hid hnv
  have HFV := Lib.hid hfv
  obtain ⟨R, hRR⟩ : ∃ R, U.leastD a.next D = R := ⟨_, rfl⟩
  rw [hRR]
  unfold U.leastD at hRR
  have HRR := Lib.hid hRR
  clear hbN hR hnc hnm hfc hfm hm hN hFN hnv hfv hD hRR
  go_enter Try.func21, Try.ntmps21
  go_wp2_with fail
  refine (HM.out _ HB.out).mono ?_
  rintro e w3 ⟨rfl, hb2⟩
  have HC := Lib.hid (CountAt.mk (a := a) (nv := nv) (fv := fv) (N := N) (w := w) (w3 := w3) (HB.out.trans (hb2.mono HB.out.size)) ((hb2.block w.heap.size (by simp)).trans HQ2.out) (by have := hb2.size; simp at this; omega) HLN.out)
  have c00 := (HC.out.cells (Below.refl _ _)).1
  rw [HNV.out] at c00
  clear hb2 HM HB HQ2
  go_wp2_with (at_make; refine wpList_make_blk _ rfl _ _ rfl N (by omega) rfl rfl ?_; intro w4 hk4 hb4 hz4; have c41 := (HC.out.cells hb4).2; rw [HFV.out] at c41)
  clear c00 c41
  have hgL := HC.out.below.size
  generalize hgg : w3.heap.size = gL at hk4 hb4 hz4
  have hgL2 : w.heap.size ≤ gL := by omega
  have HGG := Lib.hid hgg
  clear hgg hgL
  rename World => wo
  go_loopw [25] (fun i wr => ∃ (k : Nat), k ≤ N ∧ i = .int .i64 k ∧ Below gL w3 wr ∧ Blk wr gL ((a.final.take k).map U.farOr ++ List.replicate (N - k) 0)) (fun i _ => N - (intOf i).toNat)
  case atStart => exact ⟨0, Nat.zero_le _, rfl, hb4, hk4⟩
  case round =>
    obtain ⟨k, hk, rfl, hbw, hkw⟩ := hrel
    have hbw3 : Below w3.heap.size w3 wr := by rw [HGG.out]; exact hbw
    by_cases hlt : k < N
    · have hfl := HFN.out
      have hy := List.getElem?_eq_getElem (show k < a.final.length by omega)
      generalize a.final[k]'(by omega) = y at hy
      obtain ⟨gb, o, cap2, pv, e0, hgb, d0, rfl⟩ := RdL.at HF.out hy
      rw [HFV.out] at e0
      injection e0 with e1 e2 e3
      subst e1
      have c3 := (HC.out.cell hbw3 (o := o + k) hgb).trans d0
      have hk0 : (0 : Int) ≤ (k : Int) := Int.natCast_nonneg _
      have hk1 : (k : Int) < (N : Int) := by omega
      have hA := take_map_len U.farOr (show k ≤ a.final.length by omega)
      have hsn := take_map_snoc U.farOr hy
      rw [rep_step hlt] at hkw
      generalize (a.final.take k).map U.farOr = A at hA hsn hkw
      have c4 := hkw.cell (get_mid A _ 0 k hA)
      have f4 := hkw.frozen k
      have hb5 := hbw.setCell (p := ⟨gL, k, none⟩) (Nat.le_refl _) (.int .i64 1000)
      have hk5 := hkw.set k 1000
      rw [set_mid A _ 0 1000 k hA] at hk5
      have hb6 := hb5.setCell (p := ⟨gL, k, none⟩) (Nat.le_refl _) (.int .i64 0)
      have hk6 := hk5.set k 0
      rw [set_mid A _ 1000 0 k hA] at hk6
      have f5 := hk5.frozen k
      have c5 := hk5.cell (get_mid A _ 1000 k hA)
      have HB5 := Lib.hid hb5
      have HK5 := Lib.hid hk5
      have HB6 := Lib.hid hb6
      have HK6 := Lib.hid hk6
      have HSN := Lib.hid hsn
      have HLT := Lib.hid hlt
      clear hfl hy e2 e3 d0 hA hsn hkw hb5 hk5 hbw hlt hb6 hk6 hbw3
      cases y with
      | true =>
        go_wp2_with fail
        go_roundw
        case rel =>
          refine ⟨k + 1, HLT.out, by go_num, HB6.out, ?_⟩
          rw [HSN.out, List.append_assoc]
          exact HK6.out
        case measure => have := HLT.out; simp [intOf]; omega
      | false =>
        go_wp2_with fail
        go_roundw
        case rel =>
          refine ⟨k + 1, HLT.out, by go_num, HB5.out, ?_⟩
          rw [HSN.out, List.append_assoc]
          exact HK5.out
        case measure => have := HLT.out; simp [intOf]; omega
    · rw [show N - k = 0 by omega, List.replicate_zero, List.append_nil, List.take_of_length_le (by rw [HFN.out]; omega)] at hkw
      have haw := U.Aw.start a.next a.final
      rw [HFN.out] at haw
      have HAW := Lib.hid haw
      have c01 := (HC.out.cells hbw3).1
      rw [HNV.out] at c01
      generalize a.final.map U.farOr = E at hkw HAW
      clear haw hbw3
      go_wp2_with fail
      clear c01
      rename World => wo2
      go_loopw [41] (fun i wr => ∃ (r : Nat) (aw : List Int), r ≤ N ∧ i = .int .i64 r ∧ Below gL w3 wr ∧ Blk wr gL aw ∧ Hid (U.Aw a.next a.final N r 0 0 aw)) (fun i _ => N - (intOf i).toNat)
      case atStart => exact ⟨0, E, Nat.zero_le _, rfl, hbw, hkw, HAW.out⟩
      case round =>
        obtain ⟨r, aw, hr, rfl, hbw, hkw, HAW⟩ := hrel
        have hbw3 : Below w3.heap.size w3 wr := by rw [HGG.out]; exact hbw
        by_cases hrl : r < N
        · have c01 := (HC.out.cells hbw3).1
          rw [HNV.out] at c01
          have hr0 : (0 : Int) ≤ (r : Int) := Int.natCast_nonneg _
          have hr1 : (r : Int) < (N : Int) := by omega
          have HRL := Lib.hid hrl
          clear hrl hbw3
          go_wp2_with fail
          clear c01
          rename World => wo3
          go_loopw [46] (fun si wq => ∃ (i : Nat) (aw : List Int), i ≤ N ∧ si = .int .i64 i ∧ Below gL w3 wq ∧ Blk wq gL aw ∧ Hid (U.Aw a.next a.final N r i 0 aw)) (fun si _ => N - (intOf si).toNat)
          case atStart => exact ⟨0, aw, Nat.zero_le _, rfl, hbw, hkw, HAW.out⟩
          case round =>
            obtain ⟨i, aw, hi, rfl, hbw, hkw, HAW⟩ := hrel
            have hbw3 : Below w3.heap.size w3 wr := by rw [HGG.out]; exact hbw
            by_cases hil : i < N
            · have hy := List.getElem?_eq_getElem (show i < a.next.length by have := HLN.out; omega)
              generalize a.next[i]'(by have := HLN.out; omega) = l at hy
              have hrow := HO.out.at hy
              have h8 := hrow.1
              have HR2 := Lib.hid hrow.2
              obtain ⟨gb, o, cap2, pv, e0, hgb, d0, hrv⟩ := RdL.at HN.out hy
              rw [HNV.out] at e0
              injection e0 with e1 e2 e3
              subst e1
              obtain ⟨ro, rcap, rfl, _, _⟩ := RdL.form hrv
              rw [h8] at hrv d0
              have c3 := (HC.out.cell hbw3 (o := o + i) hgb).trans d0
              have hi0 : (0 : Int) ≤ (i : Int) := Int.natCast_nonneg _
              have hi1 : (i : Int) < (N : Int) := by omega
              have HRV := Lib.hid hrv
              have H8 := Lib.hid h8
              have HY := Lib.hid hy
              have HIL := Lib.hid hil
              clear hrv h8 hy hrow d0 e2 e3 hbw3 hil
              go_wp2_with fail
              clear c3
              rename World => wo4
              go_loopw [53] (fun sj wt => ∃ (j : Nat) (aw : List Int), j ≤ 8 ∧ sj = .int .i64 j ∧ Below gL w3 wt ∧ Blk wt gL aw ∧ Hid (U.Aw a.next a.final N r i j aw)) (fun sj _ => 8 - (intOf sj).toNat)
              case atStart => exact ⟨0, aw, by omega, rfl, hbw, hkw, HAW.out⟩
              case round =>
                obtain ⟨j, aw, hj, rfl, hbt, hkt, HAW⟩ := hrel
                have hbt3 : Below w3.heap.size w3 wr := by rw [HGG.out]; exact hbt
                by_cases hj8 : j < 8
                · have hx := List.getElem?_eq_getElem (show j < l.length by have := H8.out; omega)
                  generalize l[j]'(by have := H8.out; omega) = to at hx
                  have hto := HR2.out to (List.mem_of_getElem? hx)
                  rw [HLN.out] at hto
                  obtain ⟨gr, o, cap2, pv, e0, hgr, d0, rfl⟩ := RdL.at HRV.out hx
                  injection e0 with e1 e2 e3
                  subst e1
                  have c4 := (HC.out.cell hbt3 (o := o + j) hgr).trans d0
                  have hj0 : (0 : Int) ≤ (j : Int) := Int.natCast_nonneg _
                  have hj1 : (j : Int) < 8 := by omega
                  by_cases ht0 : to < 0
                  · have HA2 := Lib.hid (HAW.out.skip HY.out hx ht0)
                    have HJ := Lib.hid hj8
                    clear hx d0 e2 e3 hj8 hbt3
                    go_wp2_with fail
                    go_roundw
                    case rel => exact ⟨j + 1, aw, HJ.out, by go_num, hbt, hkt, HA2.out⟩
                    case measure => have := HJ.out; simp [intOf]; omega
                  · obtain ⟨q, rfl⟩ := Int.eq_ofNat_of_zero_le (show 0 ≤ to by omega)
                    have hqN : q < N := by omega
                    have HA2 := Lib.hid (HAW.out.put HIL.out hqN HY.out hx)
                    have hgi := U.lk_of (show i < aw.length by rw [HAW.out.len]; exact HIL.out)
                    have hgq := U.lk_of (show q < aw.length by rw [HAW.out.len]; exact hqN)
                    have hli := HAW.out.lo _ (List.mem_of_getElem? hgi)
                    have hlq := HAW.out.lo _ (List.mem_of_getElem? hgq)
                    generalize U.lk aw i = ai at hgi hli HA2
                    generalize U.lk aw q = aq at hgq hlq HA2
                    have c5 := hkt.cell hgi
                    have c6 := hkt.cell hgq
                    have f5 := hkt.frozen i
                    have hq0 : (0 : Int) ≤ (q : Int) := Int.natCast_nonneg _
                    have hq1 : (q : Int) < (N : Int) := by omega
                    have hai0 := hli.1
                    have hai1 := hli.2
                    have haq0 := hlq.1
                    have haq1 := hlq.2
                    have hwr : IntKind.i64.wrap (aq + 1) = aq + 1 := IntWalk.i64_in _ (by omega)
                    have HK8 := Lib.hid (hkt.set i (min ai (aq + 1))).drew
                    have HB9 := Lib.hid (hbt.setCell (p := ⟨gL, i, none⟩) (Nat.le_refl _) (.int .i64 (min ai (aq + 1)))).drew
                    have hmin : (if aq + 1 < ai then aq + 1 else ai) = min ai (aq + 1) := by split <;> omega
                    have HMIN := Lib.hid hmin
                    have HJ := Lib.hid hj8
                    clear hx d0 e2 e3 hj8 hbt3 hmin hgi hgq hli hlq hkt hbt ht0 hqN
                    go_wp2_with fail
                    go_still_tail 13, (by kernel_rfl)
                    go_wp2_with fail
                    go_roundw
                    case rel =>
                      rw [HMIN.out]
                      exact ⟨j + 1, _, HJ.out, by go_num, HB9.out, HK8.out, HA2.out⟩
                    case measure => have := HJ.out; simp [intOf]; omega
                · go_wp2_with fail
                  go_roundw
                  case rel =>
                    obtain rfl : j = 8 := by omega
                    exact ⟨i + 1, aw, HIL.out, by go_num, hbt, hkt, HAW.out.next HY.out H8.out⟩
                  case measure => have := HIL.out; simp [intOf]; omega
            · go_wp2_with fail
              go_roundw
              case rel =>
                obtain rfl : i = N := by omega
                exact ⟨r + 1, aw, HRL.out, by go_num, hbw, hkw, HAW.out.round HLN.out⟩
              case measure => have := HRL.out; simp [intOf]; omega
        · obtain rfl : r = N := by omega
          have hAD := fun (s : Nat) (hs : s < r) => HAW.out.done HLN.out hN40 HD.out hs
          have hal := HAW.out.len
          have hlo := fun (s : Nat) (hs : s < r) => HAW.out.lo _ (List.mem_of_getElem? (U.lk_of (show s < aw.length by rw [hal]; exact hs)))
          have hat := fun (s : Nat) (hs : s < r) => U.lk_of (show s < aw.length by rw [hal]; exact hs)
          have HAD := Lib.hid hAD
          have HLO := Lib.hid hlo
          have HAT := Lib.hid hat
          have c0 := hkw.cell (hat 0 hN1)
          have h0 := hAD 0 hN1
          have hl0 := hlo 0 hN1
          have hrr := HRR.out
          have HKW := Lib.hid hkw
          have HBW3 := Lib.hid hbw3
          have hge := hkw.lt
          clear hAD hal hlo hat hkw hbw hrl
          by_cases hneg : U.lk D 0 < 0
          · rw [if_pos hneg] at hrr h0
            subst hrr
            rw [h0] at c0
            clear h0 hl0 hneg
            go_wp2_with fail
            go_ret2
            exact ⟨_, rfl, RdI.nil _ _, HC.out.below.trans (HBW3.out.mono HC.out.below.size)⟩
          · rw [if_neg hneg] at hrr h0
            obtain ⟨d0, hd0⟩ := Int.eq_ofNat_of_zero_le (show 0 ≤ U.lk D 0 by omega)
            have hdm := HD.out.most 0
            rw [HLN.out, hd0] at hdm
            rw [hd0, Int.toNat_natCast] at hrr
            rw [h0, hd0] at c0
            subst hrr
            obtain ⟨W, hW⟩ : ∃ W, U.path a.next D d0 0 = W := ⟨_, rfl⟩
            rw [hW]
            have HW := Lib.hid hW
            have HD0 := Lib.hid hd0
            have HDM := Lib.hid hdm
            have hd40 : (d0 : Int) < 1000 := by omega
            have hN1i : (0 : Nat) < r := hN1
            have HN1 := Lib.hid hN1i
            clear hW hd0 hdm h0 hl0 hneg hN1i
            go_wp2_with fail
            rename World => W5
            go_loopg [11, 12] 41 (fun gg s11 s12 wr => ∃ (s d : Nat) (out : List Int), s12 = .int .i64 s ∧ s < r ∧ Hid (U.lk D s = (d : Int)) ∧ d < gg ∧ Hid (d ≤ 40) ∧ Hid (out ++ U.path a.next D d s = W) ∧ Below W5.heap.size W5 wr ∧ Hid (wr.ownsRow W5.heap.size 3 1 s11 out.length (iv out)) ∧ Hid (out.length + d ≤ 40))
            case atStart => exact ⟨0, d0, [], rfl, HN1.out, HD0.out, by have := HDM.out; omega, by have := HDM.out; show _ ≤ _; omega, HW.out, Below.refl _ _, World.ownsRow_nil _ _ _ _, by have := HDM.out; show _ ≤ _; simp; omega⟩
            case round =>
              obtain ⟨s, d, out, rfl, hs, HDS, hdg, HDL, HOW, hbw, HOWN, HOL⟩ := hrel
              have hbw3 := HBW3.out.trans (hbw.mono HBW3.out.size)
              have hkw := HKW.out.below hbw HKW.out.lt
              have cs := hkw.cell (HAT.out s hs)
              rw [HAD.out s hs, HDS.out, if_neg (by omega)] at cs
              have hs0 : (0 : Int) ≤ (s : Int) := Int.natCast_nonneg _
              have hs1 : (s : Int) < (r : Int) := by omega
              cases d with
              | zero =>
                clear hkw
                go_wp2_with fail
                go_ret2
                have h9 := HOW.out
                rw [U.path, List.append_nil] at h9
                refine ⟨u11, rfl, ?_, HC.out.below.trans (hbw3.mono HC.out.below.size)⟩
                have h10 := RdI.of_own HOWN.out
                rw [h9, ← HW.out] at h10
                exact h10
              | succ d =>
                have hy := List.getElem?_eq_getElem (show s < a.next.length by have := HLN.out; omega)
                generalize a.next[s]'(by have := HLN.out; omega) = l at hy
                have hrow := HO.out.at hy
                have h8 := hrow.1
                have HR2 := Lib.hid hrow.2
                obtain ⟨gb, o, cap2, pv, e0, hgb, d0', hrv⟩ := RdL.at HN.out hy
                rw [HNV.out] at e0
                injection e0 with e1 e2 e3
                subst e1
                obtain ⟨ro, rcap, rfl, _, _⟩ := RdL.form hrv
                rw [h8] at hrv d0'
                have c3 := (HC.out.cell hbw3 (o := o + s) hgb).trans d0'
                have c01 := (HC.out.cells hbw3).1
                rw [HNV.out] at c01
                have hany := HD.out.nearer HDS.out hy
                have hd41 : ((d + 1 : Nat) : Int) ≤ 40 := by have := HDL.out; omega
                have hd42 : (0 : Int) < ((d + 1 : Nat) : Int) := by omega
                have HANY := Lib.hid hany
                have HRV := Lib.hid hrv
                have H8 := Lib.hid h8
                have HY := Lib.hid hy
                have HKW6 := Lib.hid hkw
                have HBW6 := Lib.hid hbw
                have hkw6 := hkw.lt
                clear hrv h8 hy hrow d0' e2 e3 hbw3 hany hkw
                go_wp2_with fail
                clear c3 c01 cs
                rename World => W6
                go_loopw [90, 11, 12] (fun sj s11 s12 wq => ∃ (j : Nat), j ≤ 8 ∧ sj = .int .i64 j ∧ s12 = .int .i64 s ∧ Hid (∀ j' y, j' < j → l[j']? = some y → U.near D (d : Int) y = false) ∧ Below W5.heap.size W5 wq ∧ Hid (wq.ownsRow W5.heap.size 3 1 s11 out.length (iv out))) (fun sj _ _ _ => 8 - (intOf sj).toNat)
                case atStart => exact ⟨0, by omega, rfl, rfl, fun j' y h => absurd h (Nat.not_lt_zero _), HBW6.out, HOWN.out⟩
                case round =>
                  obtain ⟨j, hj, rfl, rfl, HNF, hbq, HOQ⟩ := hrel
                  by_cases hj8 : j < 8
                  · have hx := List.getElem?_eq_getElem (show j < l.length by have := H8.out; omega)
                    generalize l[j]'(by have := H8.out; omega) = to at hx
                    have hto := HR2.out to (List.mem_of_getElem? hx)
                    rw [HLN.out] at hto
                    have hbq3 := HBW3.out.trans (hbq.mono HBW3.out.size)
                    obtain ⟨gr, o, cap2, pv, e0, hgr, d0', rfl⟩ := RdL.at HRV.out hx
                    injection e0 with e1 e2 e3
                    subst e1
                    have c4 := (HC.out.cell hbq3 (o := o + j) hgr).trans d0'
                    have hj0 : (0 : Int) ≤ (j : Int) := Int.natCast_nonneg _
                    have hj1 : (j : Int) < 8 := by omega
                    have hkq := HKW.out.below hbq HKW.out.lt
                    have cs := hkq.cell (HAT.out s hs)
                    rw [HAD.out s hs, HDS.out, if_neg (by omega)] at cs
                    have HJ := Lib.hid hj8
                    have HX := Lib.hid hx
                    clear hs
                    by_cases ht0 : to < 0
                    · have hnr : U.near D (d : Int) to = false := by
                        cases h : U.near D (d : Int) to with
                        | false => rfl
                        | true => exact absurd (U.near_iff.1 h).1 (by omega)
                      have HNF2 : Hid (∀ j' y, j' < j + 1 → l[j']? = some y → U.near D (d : Int) y = false) := by
                        show ∀ j' y, _
                        intro j' y h1 h2
                        by_cases e : j' = j
                        · subst e
                          rw [HX.out] at h2
                          obtain rfl : to = y := by simpa using h2
                          exact hnr
                        · exact HNF.out j' y (by omega) h2
                      have hd : decide (0 ≤ to) = false := decide_eq_false (by omega)
                      clear hx d0' e2 e3 hj8 hbq3 hkq hnr
                      go_wp2_with fail
                      go_quiet (fail)
                      go_wp2_with fail
                      go_roundw
                      case rel => exact ⟨j + 1, HJ.out, by go_num, rfl, HNF2.out, Below.drewNN hbq _, ownsRow_drewN HOQ.out _⟩
                      case measure => have := HJ.out; simp [intOf]; omega
                    · obtain ⟨q, rfl⟩ := Int.eq_ofNat_of_zero_le (show 0 ≤ to by omega)
                      have hqN : q < r := by omega
                      have hqc := hkq.cell (HAT.out q hqN)
                      have hql := HLO.out q hqN
                      have hqv := HAD.out q hqN
                      have hd : decide (0 ≤ (q : Int)) = true := decide_eq_true (by omega)
                      have hq0 : (0 : Int) ≤ (q : Int) := Int.natCast_nonneg _
                      have hq1 : (q : Int) < (r : Int) := by omega
                      have hne : (U.lk aw q == ((d + 1 : Nat) : Int) - 1) = U.near D (d : Int) (q : Int) := by
                        rw [hqv, Bool.eq_iff_iff, U.near_iff, Int.toNat_natCast, beq_iff_eq]
                        split <;> omega
                      have hqm := HDL.out
                      generalize U.lk aw q = aq at hqc hql hqv hne
                      have ha0 := hql.1
                      have ha1 := hql.2
                      have hw2 : IntKind.i64.wrap (((d + 1 : Nat) : Int) - 1) = ((d + 1 : Nat) : Int) - 1 := IntWalk.i64_in _ (by omega)
                      cases hnr : U.near D (d : Int) (q : Int) with
                      | false =>
                        rw [hnr] at hne
                        have HNF2 : Hid (∀ j' y, j' < j + 1 → l[j']? = some y → U.near D (d : Int) y = false) := by
                          show ∀ j' y, _
                          intro j' y h1 h2
                          by_cases e : j' = j
                          · subst e
                            rw [HX.out] at h2
                            obtain rfl : (q : Int) = y := by simpa using h2
                            exact hnr
                          · exact HNF.out j' y (by omega) h2
                        clear hx d0' e2 e3 hj8 hbq3 hkq hnr hqv hql hqm ht0 hqN
                        go_wp2_with fail
                        go_quiet (fail)
                        go_wp2_with fail
                        go_roundw
                        case rel => exact ⟨j + 1, HJ.out, by go_num, rfl, HNF2.out, Below.drewNN hbq _, ownsRow_drewN HOQ.out _⟩
                        case measure => have := HJ.out; simp [intOf]; omega
                      | true =>
                        rw [hnr] at hne
                        have hnd := (U.near_iff.1 hnr).2
                        rw [Int.toNat_natCast] at hnd
                        have hpath := U.path_step HY.out HX.out hnr (fun j' y h1 h2 => HNF.out j' y h1 h2)
                        have HND := Lib.hid hnd
                        have hhw := HOW.out
                        rw [hpath] at hhw
                        have HHW : Hid ((out ++ [(j : Int)]) ++ U.path a.next D d q = W) := by show _ = _; rw [List.append_assoc]; exact hhw
                        have hol := HOL.out
                        have HOL2 : Hid ((out ++ [(j : Int)]).length + d ≤ 40) := by show _ ≤ _; rw [List.length_append, List.length_singleton]; omega
                        have hol2 : out.length ≤ 1048576 := by omega
                        have HOL3 := Lib.hid hol2
                        have HQN := Lib.hid hqN
                        have HDL2 : Hid (d ≤ 40) := by show _ ≤ _; omega
                        have hB6 := hbq.size
                        have hR6 := fun nq => Rows.put (Rows.nil (wr.drewN nq) W5.heap.size) (ownsRow_drewN HOQ.out nq) (fun i r hr => by simp at hr)
                        have HR6 := Lib.hid hR6
                        have hB6' : ∀ nq, W5.heap.size ≤ (wr.drewN nq).heap.size := fun _ => hB6
                        have HB6 := Lib.hid hB6'
                        have HGG' := Lib.hid hdg
                        clear hx d0' e2 e3 hj8 hbq3 hkq hnr hqv hql hqm ht0 hqN hnd hpath hhw hol hol2 hB6 hR6 hB6' hdg
                        go_wp2_with fail
                        go_quiet (fail)
                        go_wp2_with (at_builtin; refine wpList_append_int (wr.drewN nq) (j : Int) rfl _ _ rfl W5.heap.size _ 0 _ out (HR6.out nq) rfl HOL3.out (HB6.out nq) rfl wr.heap.size rfl rfl ?_; intro g8 cap8 w8 hA8)
                        go_roundg (d + 1)
                        case measure => exact HGG'.out
                        case rel =>
                          refine ⟨q, d, out ++ [(j : Int)], rfl, HQN.out, HND.out, by omega, HDL2.out, HHW.out, (Below.drewNN hbq nq).trans hA8.below, ?_, HOL2.out⟩
                          have h9 := hA8.rows.own 0 _ rfl
                          rw [List.length_append, List.length_singleton]
                          have h10 : (out ++ [(j : Int)]).length = out.length + 1 := by simp
                          show World.ownsRow _ _ _ _ _ _ _
                          rw [← h10] at h9 ⊢
                          exact h9
                  · exfalso
                    obtain ⟨y, hy1, hy2⟩ := List.any_eq_true.1 HANY.out
                    obtain ⟨j', hj'⟩ := List.getElem?_of_mem hy1
                    have h9 := (List.getElem?_eq_some_iff.1 hj').1
                    rw [HNF.out j' y (by have := H8.out; omega) hj'] at hy2
                    cases hy2

end Go.Proofs.Ytonchdhchaiikaa

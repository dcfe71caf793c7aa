/- auto.Count. -/
import Derived.Test.YtonchdhchaiikaaAuMay
import Derived.Test.YtonchdhchaiikaaAuBlk
import Derived.Test.YtonchdhchaiikaaAuCountMath
namespace Go.Proofs.Ytonchdhchaiikaa
open Go.RowKit

/-- what stands ahead of the loops: the argument's block, May's memory -/
structure CountAt (a : U.Au) (nv fv : Value) (N : Nat) (w w3 : World) : Prop where
  below : Below w.heap.size w w3
  box : w3.heap[w.heap.size]? = some (auObj nv fv)
  size : w.heap.size + 1 ≤ w3.heap.size
  len : a.next.length = N
theorem CountAt.cells {a : U.Au} {nv fv : Value} {N : Nat} {w w3 wr : World} (h : CountAt a nv fv N w w3) (hb : Below w3.heap.size w3 wr) : wr.cell? ⟨w.heap.size, 0, none⟩ = some nv ∧ wr.cell? ⟨w.heap.size, 1, none⟩ = some fv := by
  have := h.size
  exact au_cells ((hb.block w.heap.size (by omega)).trans h.box)
theorem CountAt.cell {a : U.Au} {nv fv : Value} {N : Nat} {w w3 wr : World} (h : CountAt a nv fv N w w3) (hb : Below w3.heap.size w3 wr) {g o : Nat} (hg : g < w.heap.size) : wr.cell? ⟨g, o, none⟩ = w.cell? ⟨g, o, none⟩ :=
  ((h.below.trans (hb.mono h.below.size)).cell (p := ⟨g, o, none⟩) hg)

set_option maxHeartbeats 4000000 in
set_option maxRecDepth 1000000 in
theorem auto_count (a : U.Au) (nv fv : Value) (n : Int) (w : World) (hR : RdAu w (· < w.heap.size) nv fv a) :
    Calls Try.prog 18 #[auVal nv fv, .int .i64 n] w fun e w' => e = .returned (.tuple #[.int .i64 (a.count n).1, .int .i64 ((a.count n).2 : Nat)]) ∧ Below w.heap.size w w' := by
  have hbN := (Below.refl w.heap.size w).alloc (Nat.le_refl _) (auObj nv fv)
  have HQ := Lib.hid (heap_alloc_new w (auObj nv fv))
  obtain ⟨R, hRR⟩ : ∃ R, a.count n = R := ⟨_, rfl⟩
  rw [hRR]
  unfold U.Au.count at hRR
  have HM := Lib.hid (fun W (hB : Below w.heap.size w W) => auto_may a nv fv W (hR.below hB hB.size))
  obtain ⟨ao, cap, hnv, hnc, hnm⟩ := RdL.form hR.next
  obtain ⟨fo, fcap, hfv, hfc, hfm⟩ := RdL.form hR.final
  have HN := Lib.hid hR.next
  have HF := Lib.hid hR.final
  have hbox := hbN
  unfold auObj at hbN HQ
  unfold auVal at HM ⊢
  have HB := Lib.hid hbN
  clear hbN hR hnc hnm hfc hfm hbox
  obtain ⟨m, hm⟩ : ∃ m, a.may = m := ⟨_, rfl⟩
  have hOk : m = true → a.Ok := fun h => U.Au.may_iff.1 (hm.trans h)
  rw [hm] at hRR HM
  clear hm
  cases m with
  | false =>
    rw [if_pos rfl] at hRR
    subst hRR
    clear hOk hnv hfv
    go_enter Try.func18, Try.ntmps18
    go_wp2_with fail
    refine (HM.out _ HB.out).mono ?_
    rintro e w2 ⟨rfl, hb2⟩
    have t2 := HB.out.trans (hb2.mono HB.out.size)
    clear hb2 HM HB HQ
    go_wp2_with fail
    go_ret2
    exact ⟨rfl, t2⟩
  | true =>
    rw [if_neg (by decide)] at hRR
    have HO := Lib.hid (hOk rfl)
    clear hOk
    by_cases hn : n < 0 ∨ 12 < n
    · rw [if_pos hn] at hRR
      subst hRR
      clear hnv hfv
      rcases hn with h0 | h0
      · go_enter Try.func18, Try.ntmps18
        go_wp2_with fail
        refine (HM.out _ HB.out).mono ?_
        rintro e w2 ⟨rfl, hb2⟩
        have t2 := HB.out.trans (hb2.mono HB.out.size)
        clear hb2 HM HB HQ
        go_wp2_with fail
        go_ret2
        exact ⟨rfl, t2⟩
      · have h1 : ¬ n < 0 := by omega
        go_enter Try.func18, Try.ntmps18
        go_wp2_with fail
        refine (HM.out _ HB.out).mono ?_
        rintro e w2 ⟨rfl, hb2⟩
        have t2 := HB.out.trans (hb2.mono HB.out.size)
        clear hb2 HM HB HQ
        go_wp2_with fail
        go_ret2
        exact ⟨rfl, t2⟩
    · rw [if_neg hn] at hRR
      subst hRR
      have h0 : ¬ n < 0 := fun h => hn (.inl h)
      have h12 : ¬ 12 < n := fun h => hn (.inr h)
      obtain ⟨L, rfl⟩ := Int.eq_ofNat_of_zero_le (show 0 ≤ n by omega)
      rw [Int.toNat_natCast]
      have hL12 : L ≤ 12 := by omega
      rw [← HO.out.count_eq L]
      have HQ2 : Hid (((w.alloc (.cells #[nv, fv] 25 (0, 0)))).heap[w.heap.size]? = some (auObj nv fv)) := HQ.out
      obtain ⟨N, hN⟩ : ∃ N, a.next.length = N := ⟨_, rfl⟩
      have hN1 : 1 ≤ N := by rw [← hN]; exact HO.out.one
      have hN40 : N ≤ 40 := by rw [← hN]; exact HO.out.most
      have hFN : a.final.length = N := by rw [← hN]; exact HO.out.fin
      rw [hN] at hnv
      rw [hFN] at hfv
      rw [hN]
      obtain ⟨E, hE⟩ : ∃ E, (List.replicate N (0 : Int)).set 0 1 = E := ⟨_, rfl⟩
      rw [hE]
      have hEl : E.length = N := by rw [← hE]; simp
      have hEn : U.Nn E := by rw [← hE]; exact (U.Nn.zeros N).set 0 (by decide)
      have hEs : E.sum ≤ U.P 0 := by
        rw [← hE]
        have := U.sum_set (List.replicate N 0) 0 1 (by simp; omega)
        have e2 : (List.replicate N (0 : Int))[0]?.getD 0 = 0 := by rw [List.getElem?_replicate, if_pos (by omega)]; rfl
        rw [e2, U.sum_zeros] at this
        rw [show (0 : Int) + 1 = 1 by rfl] at this
        rw [this, U.P]
        exact Int.le_refl _
      obtain ⟨T, hT⟩ : ∃ T, U.fs (U.fwN a.next L E) a.final = T := ⟨_, rfl⟩
      rw [hT]
      have HE := Lib.hid hE
      have HEL := Lib.hid hEl
      have HEN := Lib.hid hEn
      have HES := Lib.hid hEs
      have HT := Lib.hid hT
      have HLN := Lib.hid hN
      have HFN := Lib.hid hFN
      have hi0 : (0 : Int) < (N : Int) := by omega
      have hNb : (N : Int) ≤ 40 := by omega
      have hLb : (L : Int) ≤ 12 := by omega
      have HNV := Lib.hid hnv
      have HFV := Lib.hid hfv
      have hd0 : decide ((L : Int) < 0) = false := decide_eq_false (by omega)
      have hd12 : decide ((12 : Int) < (L : Int)) = false := decide_eq_false (by omega)
      clear hE hEl hEn hEs hT hN hFN hn h0 h12 hnv hfv HQ hL12
      go_enter Try.func18, Try.ntmps18
      go_wp2_with fail
      refine (HM.out _ HB.out).mono ?_
      rintro e w3 ⟨rfl, hb2⟩
      have HC := Lib.hid (CountAt.mk (a := a) (nv := nv) (fv := fv) (N := N) (w := w) (w3 := w3) (HB.out.trans (hb2.mono HB.out.size)) ((hb2.block w.heap.size (by simp)).trans HQ2.out) (by have := hb2.size; simp at this; omega) HLN.out)
      have c00 := (HC.out.cells (Below.refl _ _)).1
      rw [HNV.out] at c00
      clear hb2 HM HB HQ2
      have H0 : Hid ((List.replicate N (0 : Int))[0]? = some 0) := by show _ = _; rw [List.getElem?_replicate, if_pos (by omega)]
      go_wp2_with (at_make; refine wpList_make_blk _ rfl _ _ rfl N (by omega) rfl rfl ?_; intro w4 hk4 hb4 hz4; have f4 := hk4.frozen 0; have c4 := hk4.cell H0.out)
      have hk5 := hk4.set 0 1
      rw [HE.out] at hk5
      have hb5 := hb4.setCell (p := ⟨w3.heap.size, 0, none⟩) (Nat.le_refl _) (.int .i64 1)
      generalize (w4.setCell ⟨w3.heap.size, 0, none⟩ (.int .i64 1)) = w5 at hk5 hb5
      clear hk4 hb4 hz4 f4 c4 w4 hd0 hd12 c00
      go_loopw [33, 6] (fun i v wr => ∃ (k g t : Nat) (W : List Int), k ≤ L ∧ i = .int .i64 k ∧ v = .slice (some ⟨g, 0, none⟩) N N ∧ w3.heap.size ≤ g ∧ Below w3.heap.size w3 wr ∧ Blk wr g W ∧ W.length = N ∧ Hid (U.fs (U.fwN a.next (L - k) W) a.final = T) ∧ Hid (U.Nn W) ∧ Hid (W.sum ≤ U.P k)) (fun i _ _ => L - (intOf i).toNat)
      case atStart => exact ⟨0, _, 0, E, Nat.zero_le _, rfl, rfl, Nat.le_refl _, hb5, hk5, HEL.out, HT.out, HEN.out, HES.out⟩
      case round =>
        obtain ⟨k, g, t, W, hk, rfl, rfl, hg, hbw, hkw, hWl, HT2, HWn, HWs⟩ := hrel
        have hWn := HWn.out
        have hWs := HWs.out
        have hPk := U.P_small (t := k) (by omega)
        by_cases hlt : k < L
        · have hkL : (k : Int) < (L : Int) := by omega
          have hPk1 := U.P_small (t := k + 1) (by omega)
          have hPe : U.P (k + 1) = 8 * U.P k := rfl
          have hT2 := HT2.out
          rw [show L - k = (L - (k + 1)) + 1 by omega, U.fwN, HLN.out] at hT2
          have c01 := HC.out.cells hbw
          rw [HNV.out] at c01
          have c0 := c01.1
          obtain ⟨T2, hTT⟩ : ∃ T2, U.fw a.next W (List.replicate N 0) = T2 := ⟨_, rfl⟩
          rw [hTT] at hT2
          have HTT := Lib.hid hTT
          have HT3 := Lib.hid hT2
          have HKW := Lib.hid hkw
          have HWL := Lib.hid hWl
          have hs0 : (List.replicate N (0 : Int)).sum + 8 * (W.drop 0).sum ≤ U.P (k + 1) := by rw [U.sum_zeros, List.drop_zero]; omega
          have HS0 := Lib.hid hs0
          have HBW := Lib.hid hbw
          have HPK1 := Lib.hid hPk1
          have hgw := hkw.lt
          clear c01 hT2 hTT HT2 hkw hWl hs0 hWn hWs hPk hPk1 hPe hbw
          go_wp2_with (at_make; refine wpList_make_blk _ rfl _ _ rfl N (by omega) rfl rfl ?_; intro w6 hk6 hb6 hz6)
          have hkw6 := HKW.out.below hb6 HKW.out.lt
          have hb7 := HBW.out.trans (hb6.mono HBW.out.size)
          have hg7 := HBW.out.size
          have hne : g ≠ wr.heap.size := by omega
          clear hb6 HBW c0 HKW
          generalize wr.heap.size = g7 at hk6 hz6 hg7 hne
          clear hz6 hgw
          rename World => wo
          go_loopw [41] (fun i wq => ∃ (s : Nat) (v : List Int), s ≤ N ∧ i = .int .i64 s ∧ Below w3.heap.size w3 wq ∧ Blk wq g W ∧ Blk wq g7 v ∧ v.length = N ∧ Hid (U.fw (a.next.drop s) (W.drop s) v = T2) ∧ Hid (U.Nn v) ∧ Hid (v.sum + 8 * (W.drop s).sum ≤ U.P (k + 1))) (fun i _ => N - (intOf i).toNat)
          case atStart => exact ⟨0, _, Nat.zero_le _, rfl, hb7, hkw6, hk6, by simp, HTT.out, U.Nn.zeros N, HS0.out⟩
          case round =>
            obtain ⟨s, v, hs, rfl, hbq, hkq, hk7, hvl, HV, HVn, HVs⟩ := hrel
            by_cases hsl : s < N
            · have hx := List.getElem?_eq_getElem (show s < W.length by have := HWL.out; omega)
              have hd := List.drop_eq_getElem_cons (show s < W.length by have := HWL.out; omega)
              generalize W[s]'(by have := HWL.out; omega) = n at hx hd
              have hy := List.getElem?_eq_getElem (show s < a.next.length by have := HLN.out; omega)
              have hdy := List.drop_eq_getElem_cons (show s < a.next.length by have := HLN.out; omega)
              generalize a.next[s]'(by have := HLN.out; omega) = r at hy hdy
              have hrow := HO.out.at hy
              have h8 := hrow.1
              have HR2 := Lib.hid hrow.2
              have c2 := hkq.cell hx
              obtain ⟨gb, o, cap2, pv, e0, hgb, d0, hrv⟩ := RdL.at HN.out hy
              rw [HNV.out] at e0
              injection e0 with e1 e2 e3
              subst e1
              obtain ⟨ro, rcap, rfl, _, _⟩ := RdL.form hrv
              rw [h8] at hrv d0
              have c3 := (HC.out.cell hbq (o := o + s) hgb).trans d0
              have c01 := HC.out.cells hbq
              rw [HNV.out] at c01
              have c0 := c01.1
              have hk0 : (0 : Int) ≤ (s : Int) := Int.natCast_nonneg _
              have hk1 : (s : Int) < (N : Int) := by omega
              have hn0 := HWn.out n (List.mem_of_getElem? hx)
              have hvs := HVs.out
              have hV := HV.out
              rw [hd, List.sum_cons] at hvs
              rw [hd, hdy, U.fw] at hV
              obtain ⟨V2, hV2⟩ : ∃ V2, U.rowAdd n r v = V2 := ⟨_, rfl⟩
              rw [hV2] at hV
              have hdn := (U.Nn.drop HWn.out (s + 1)).sum
              obtain ⟨D, hD⟩ : ∃ D, (W.drop (s + 1)).sum = D := ⟨_, rfl⟩
              rw [hD] at hvs hdn
              have hs8 : v.sum + (8 - ((0 : Nat) : Int)) * n + 8 * D ≤ U.P (k + 1) := by simp; omega
              have HS8 := Lib.hid hs8
              have HRV := Lib.hid hrv
              have HV3 := Lib.hid hV
              have HV2 := Lib.hid hV2
              have HD := Lib.hid hD
              have HD0 := Lib.hid hdn
              have H8 := Lib.hid h8
              have hnP : n ≤ 68719476736 := by
                have := HVn.out.sum
                have := HPK1.out
                omega
              have HKQ := Lib.hid hkq
              have HK7 := Lib.hid hk7
              have HBQ := Lib.hid hbq
              have HVL := Lib.hid hvl
              clear hvs hV hV2 hD hdn hs8 hrv hd hdy hx hy hrow h8 d0 e2 e3 c01 HV HVs hkq hk7 hbq hvl
              go_wp2_with fail
              clear c0 c2 c3
              rename World => wo2
              go_loopw [52] (fun i wt => ∃ (j : Nat) (v : List Int), j ≤ 8 ∧ i = .int .i64 j ∧ Below w3.heap.size w3 wt ∧ Blk wt g W ∧ Blk wt g7 v ∧ v.length = N ∧ Hid (U.rowAdd n (r.drop j) v = V2) ∧ Hid (U.Nn v) ∧ Hid (v.sum + (8 - (j : Int)) * n + 8 * D ≤ U.P (k + 1))) (fun i _ => 8 - (intOf i).toNat)
              case atStart => exact ⟨0, v, by omega, rfl, HBQ.out, HKQ.out, HK7.out, HVL.out, HV2.out, HVn.out, HS8.out⟩
              case round =>
                obtain ⟨j, v, hj, rfl, hbt, hkt, hkv, hvl, HR3, HVn, HS⟩ := hrel
                by_cases hj8 : j < 8
                · have hx := List.getElem?_eq_getElem (show j < r.length by have := H8.out; omega)
                  have hd := List.drop_eq_getElem_cons (show j < r.length by have := H8.out; omega)
                  generalize r[j]'(by have := H8.out; omega) = to at hx hd
                  have hto := HR2.out to (List.mem_of_getElem? hx)
                  rw [HLN.out] at hto
                  obtain ⟨gr, o, cap2, pv, e0, hgr, d0, rfl⟩ := RdL.at HRV.out hx
                  injection e0 with e1 e2 e3
                  subst e1
                  have c4 := (HC.out.cell hbt (o := o + j) hgr).trans d0
                  have hj0 : (0 : Int) ≤ (j : Int) := Int.natCast_nonneg _
                  have hj1 : (j : Int) < 8 := by omega
                  have hs2 := HS.out
                  rw [show (8 - (j : Int)) * n = (8 - ((j + 1 : Nat) : Int)) * n + n by rw [show (8 : Int) - (j : Int) = (8 - ((j + 1 : Nat) : Int)) + 1 by omega, Int.add_mul, Int.one_mul]] at hs2
                  have hR3 := HR3.out
                  rw [hd, U.rowAdd] at hR3
                  have hmn : 0 ≤ (8 - ((j + 1 : Nat) : Int)) * n := Int.mul_nonneg (by omega) hn0
                  by_cases ht0 : to < 0
                  · rw [show U.addAt v to n = v by unfold U.addAt; rw [if_neg (by omega)]] at hR3
                    have hs3 : v.sum + (8 - ((j + 1 : Nat) : Int)) * n + 8 * D ≤ U.P (k + 1) := by omega
                    have HR4 := Lib.hid hR3
                    have HS3 := Lib.hid hs3
                    have HJ := Lib.hid hj8
                    clear hs2 hs3 hR3 hmn hd hx d0 e2 e3 HR3 HS hj8
                    go_wp2_with fail
                    go_roundw
                    case rel => exact ⟨j + 1, v, by have := HJ.out; omega, by go_num, hbt, hkt, hkv, hvl, HR4.out, HVn.out, HS3.out⟩
                    case measure => have := HJ.out; simp [intOf]; omega
                  · obtain ⟨q, rfl⟩ := Int.eq_ofNat_of_zero_le (show 0 ≤ to by omega)
                    have hq : q < v.length := by omega
                    have hxq := List.getElem?_eq_getElem hq
                    have hss := U.sum_set v q n hq
                    have hxn := HVn.out (v[q]'hq) (List.mem_of_getElem? hxq)
                    have hxs := HVn.out.le_sum (v[q]'hq) (List.mem_of_getElem? hxq)
                    have hadd : U.addAt v (q : Int) n = v.set q (v[q]'hq + n) := by
                      unfold U.addAt
                      rw [if_pos (by omega), Int.toNat_natCast, hxq, Option.getD_some]
                    rw [hadd] at hR3
                    rw [hxq, Option.getD_some] at hss
                    generalize v[q]'hq = x at hxq hss hxn hxs hR3 hadd
                    have c5 := hkv.cell hxq
                    have f5 := hkv.frozen q
                    have hq0 : (0 : Int) ≤ (q : Int) := Int.natCast_nonneg _
                    have hq1 : (q : Int) < (N : Int) := by omega
                    have hp1 := HPK1.out
                    have hd0 := HD0.out
                    have hxb : x ≤ 68719476736 := by omega
                    have hxb2 : x + n ≤ 137438953472 := by omega
                    have hs3 : (v.set q (x + n)).sum + (8 - ((j + 1 : Nat) : Int)) * n + 8 * D ≤ U.P (k + 1) := by rw [hss]; omega
                    have HR4 := Lib.hid hR3
                    have HS3 := Lib.hid hs3
                    have HJ := Lib.hid hj8
                    have hk8 := hkv.set q (x + n)
                    have hk9 := hkt.other (j := q) (v := .int .i64 (x + n)) hne
                    have hb9 := hbt.setCell (p := ⟨g7, q, none⟩) hg7 (.int .i64 (x + n))
                    have HN9 := Lib.hid (HVn.out.set q (x := x + n) (by omega))
                    have HK8 := Lib.hid hk8
                    have HK9 := Lib.hid hk9
                    have HB9 := Lib.hid hb9
                    have HL9 := Lib.hid (show (v.set q (x + n)).length = N by rw [List.length_set]; exact hvl)
                    clear hs2 hs3 hR3 hmn hd hx d0 e2 e3 HR3 HS hj8 hss hxs hxq hadd hp1 hd0 hk8 hk9 hb9 hkt hkv hbt hvl hq ht0
                    go_wp2_with fail
                    go_roundw
                    case rel => exact ⟨j + 1, _, by have := HJ.out; omega, by go_num, HB9.out, HK9.out, HK8.out, HL9.out, HR4.out, HN9.out, HS3.out⟩
                    case measure => have := HJ.out; simp [intOf]; omega
                · go_wp2_with fail
                  go_roundw
                  case rel =>
                    have h9 := HR3.out
                    rw [List.drop_eq_nil_of_le (by have := H8.out; omega), U.rowAdd] at h9
                    subst h9
                    refine ⟨s + 1, v, by omega, by go_num, hbt, hkt, hkv, hvl, HV3.out, HVn.out, ?_⟩
                    have h11 := HS.out
                    have h12 : (8 - (j : Int)) * n = 0 := by rw [show (8 : Int) - (j : Int) = 0 by omega, Int.zero_mul]
                    have h13 := HD.out
                    show _ ≤ _
                    rw [h13]
                    omega
                  case measure => simp [intOf]; omega
            · go_wp2_with fail
              go_roundw
              case rel =>
                have h9 := HV.out
                rw [List.drop_eq_nil_of_le (by rw [HLN.out]; omega)] at h9
                have h10 : v = T2 := by
                  rw [← h9]
                  cases W.drop s <;> rfl
                subst h10
                refine ⟨k + 1, g7, 0, v, by omega, by go_num, rfl, hg7, hbq, hk7, hvl, HT3.out, HVn.out, ?_⟩
                have h11 := HVs.out
                have h12 := ((U.Nn.drop HWn.out s).sum)
                show _ ≤ _
                omega
              case measure => simp [intOf]; omega
        · have c01 := HC.out.cells hbw
          rw [HFV.out] at c01
          have c1 := c01.2
          have hkL : ¬ (k : Int) < (L : Int) := by omega
          have hkk : L - k = 0 := by omega
          have hT2 := HT2.out
          rw [hkk, U.fwN] at hT2
          have HT3 := Lib.hid hT2
          have hss : (0 : Int) + (W.drop 0).sum ≤ 68719476736 := by rw [List.drop_zero]; omega
          have HSS := Lib.hid hss
          clear c01 hT2 HT2 hkk hWn hWs hPk hss
          go_wp2_with fail
          go_loop [71, 12] (fun i sv => ∃ (s : Nat) (S : Int), s ≤ N ∧ i = .int .i64 s ∧ sv = .int .i64 S ∧ 0 ≤ S ∧ Hid (S + (W.drop s).sum ≤ 68719476736) ∧ Hid (S + U.fs (W.drop s) (a.final.drop s) = T)) (fun i _ => N - (intOf i).toNat)
          case atStart => exact ⟨0, 0, Nat.zero_le _, rfl, rfl, Int.le_refl _, HSS.out, by show _ = _; rw [List.drop_zero, List.drop_zero, HT3.out]; omega⟩
          case round =>
            obtain ⟨s, S, hs, rfl, rfl, hS0, HSm, HF2⟩ := hrel
            by_cases hsl : s < N
            · have hx := List.getElem?_eq_getElem (show s < W.length by omega)
              have hd := List.drop_eq_getElem_cons (show s < W.length by omega)
              generalize W[s]'(by omega) = x at hx hd
              have hfl := HFN.out
              have hy := List.getElem?_eq_getElem (show s < a.final.length by omega)
              have hdy := List.drop_eq_getElem_cons (show s < a.final.length by omega)
              generalize a.final[s]'(by omega) = y at hy hdy
              have c2 := hkw.cell hx
              obtain ⟨gb, o, cap2, pv, e0, hgb, d0, rfl⟩ := RdL.at HF.out hy
              rw [HFV.out] at e0
              injection e0 with e1 e2 e3
              subst e1
              have c3 := (HC.out.cell hbw (o := o + s) hgb).trans d0
              have hk0 : (0 : Int) ≤ (s : Int) := Int.natCast_nonneg _
              have hk1 : (s : Int) < (N : Int) := by omega
              have hx0 := HWn.out x (List.mem_of_getElem? hx)
              have hsm := HSm.out
              have hst := HF2.out
              rw [hd, List.sum_cons] at hsm
              rw [hd, hdy, U.fs] at hst
              have hdn := (U.Nn.drop HWn.out (s + 1)).sum
              have hSx : S + x ≤ 68719476736 := by omega
              cases y with
              | true =>
                rw [if_pos rfl] at hst
                have hst2 : S + x + U.fs (W.drop (s + 1)) (a.final.drop (s + 1)) = T := by omega
                have hsm2 : S + x + (W.drop (s + 1)).sum ≤ 68719476736 := by omega
                have HST := Lib.hid hst2
                have HSM := Lib.hid hsm2
                clear hst hst2 hsm hsm2 hdn hd hdy hx hy hfl d0 e2 e3
                go_wp2_with fail
                go_round
                case rel => exact ⟨s + 1, S + x, by omega, by go_num, rfl, by omega, HSM.out, HST.out⟩
                case measure => simp [intOf]; omega
              | false =>
                rw [if_neg (by decide)] at hst
                have hst2 : S + U.fs (W.drop (s + 1)) (a.final.drop (s + 1)) = T := by omega
                have hsm2 : S + (W.drop (s + 1)).sum ≤ 68719476736 := by omega
                have HST := Lib.hid hst2
                have HSM := Lib.hid hsm2
                clear hst hst2 hsm hsm2 hdn hd hdy hx hy hfl d0 e2 e3
                go_wp2_with fail
                go_round
                case rel => exact ⟨s + 1, S, by omega, by go_num, rfl, by omega, HSM.out, HST.out⟩
                case measure => simp [intOf]; omega
            · go_wp2_with fail
              go_ret2
              have h9 := HF2.out
              rw [List.drop_eq_nil_of_le (by omega)] at h9
              have h10 : S = T := by
                have e : U.fs [] (a.final.drop s) = 0 := by cases a.final.drop s <;> rfl
                rw [e] at h9
                omega
              subst h10
              exact ⟨rfl, HC.out.below.trans (hbw.mono HC.out.below.size)⟩

end Go.Proofs.Ytonchdhchaiikaa

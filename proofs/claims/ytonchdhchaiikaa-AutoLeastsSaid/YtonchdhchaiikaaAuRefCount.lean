/- The document's AutoCount. -/
import Derived.Test.YtonchdhchaiikaaAuRefMay
import Derived.Test.YtonchdhchaiikaaAuCount
import Derived.StillTailTactics
import Derived.IntWalk
namespace Go.Proofs.Ytonchdhchaiikaa
open Go.RowKit

theorem set_mid {α : Type} : ∀ (A B : List α) (x y : α) (k : Nat), A.length = k → (A ++ x :: B).set k y = A ++ y :: B
  | [], B, x, y, k, h => by obtain rfl : k = 0 := by simpa using h.symm
                            rfl
  | a :: A, B, x, y, 0, h => by simp at h
  | a :: A, B, x, y, k + 1, h => by
    rw [List.cons_append, List.set_cons_succ, set_mid A B x y k (by simpa using h)]
    rfl
theorem get_mid {α : Type} (A B : List α) (x : α) (k : Nat) (h : A.length = k) : (A ++ x :: B)[k]? = some x := by
  subst h
  simp
theorem rep_step {N k : Nat} (h : k < N) : List.replicate (N - k) (0 : Int) = 0 :: List.replicate (N - (k + 1)) 0 := by
  rw [show N - k = (N - (k + 1)) + 1 by omega, List.replicate_succ]
theorem take_map_snoc {α β : Type} (f : α → β) {l : List α} {k : Nat} {x : α} (hx : l[k]? = some x) : (l.take (k + 1)).map f = (l.take k).map f ++ [f x] := by
  obtain ⟨hk, e⟩ := List.getElem?_eq_some_iff.1 hx
  rw [List.take_succ_eq_append_getElem hk, e]
  simp
theorem take_map_len {α β : Type} (f : α → β) {l : List α} {k : Nat} (h : k ≤ l.length) : ((l.take k).map f).length = k := by simp; omega
set_option maxHeartbeats 4000000 in
set_option maxRecDepth 1000000 in
theorem ref_count (a : U.Au) (nv fv : Value) (n : Int) (w : World) (hR : RdAu w (· < w.heap.size) nv fv a) :
    Calls Try.prog 19 #[auVal nv fv, .int .i64 n] w fun e w' => e = .returned (.tuple #[.int .i64 (a.count n).1, .int .i64 ((a.count n).2 : Nat)]) ∧ Below w.heap.size w w' := by
  have hbN := (Below.refl w.heap.size w).alloc (Nat.le_refl _) (auObj nv fv)
  have HQ := Lib.hid (heap_alloc_new w (auObj nv fv))
  obtain ⟨R, hRR⟩ : ∃ R, a.count n = R := ⟨_, rfl⟩
  rw [hRR]
  unfold U.Au.count at hRR
  have HM := Lib.hid (fun W (hB : Below w.heap.size w W) => ref_may a nv fv W (hR.below hB hB.size))
  obtain ⟨ao, cap, hnv, hnc, hnm⟩ := RdL.form hR.next
  obtain ⟨fo, fcap, hfv, hfc, hfm⟩ := RdL.form hR.final
  have HN := Lib.hid hR.next
  have HF := Lib.hid hR.final
  unfold auObj at hbN HQ
  unfold auVal at HM ⊢
  have HB := Lib.hid hbN
  clear hbN hR hnc hnm hfc hfm
  obtain ⟨m, hm⟩ : ∃ m, a.may = m := ⟨_, rfl⟩
  have hOk : m = true → a.Ok := fun h => U.Au.may_iff.1 (hm.trans h)
  rw [hm] at hRR HM
  clear hm
  cases m with
  | false =>
    rw [if_pos rfl] at hRR
    subst hRR
    clear hOk hnv hfv
    go_enter Try.func19, Try.ntmps19
    go_wp2_with fail
    refine (HM.out _ HB.out).mono ?_
    rintro e w2 ⟨rfl, hb2⟩
    have t2 := HB.out.trans (hb2.mono HB.out.size)
    clear hb2 HM HB HQ
    go_wp2_with fail
    go_ret2
    exact ⟨rfl, t2⟩
  | true =>
    rw [if_neg (by decide)] at hRR
    have HO := Lib.hid (hOk rfl)
    clear hOk
    by_cases hn : n < 0 ∨ 12 < n
    · rw [if_pos hn] at hRR
      subst hRR
      clear hnv hfv
      rcases hn with h0 | h0
      · go_enter Try.func19, Try.ntmps19
        go_wp2_with fail
        refine (HM.out _ HB.out).mono ?_
        rintro e w2 ⟨rfl, hb2⟩
        have t2 := HB.out.trans (hb2.mono HB.out.size)
        clear hb2 HM HB HQ
        go_wp2_with fail
        go_ret2
        exact ⟨rfl, t2⟩
      · have h1 : ¬ n < 0 := by omega
        go_enter Try.func19, Try.ntmps19
        go_wp2_with fail
        refine (HM.out _ HB.out).mono ?_
        rintro e w2 ⟨rfl, hb2⟩
        have t2 := HB.out.trans (hb2.mono HB.out.size)
        clear hb2 HM HB HQ
        go_wp2_with fail
        go_ret2
        exact ⟨rfl, t2⟩
    · rw [if_neg hn] at hRR
      subst hRR
      have h0 : ¬ n < 0 := fun h => hn (.inl h)
      have h12 : ¬ 12 < n := fun h => hn (.inr h)
      obtain ⟨L, rfl⟩ := Int.eq_ofNat_of_zero_le (show 0 ≤ n by omega)
      rw [Int.toNat_natCast]
      have hL12 : L ≤ 12 := by omega
      have HQ2 : Hid (((w.alloc (.cells #[nv, fv] 25 (0, 0)))).heap[w.heap.size]? = some (auObj nv fv)) := HQ.out
      obtain ⟨N, hN⟩ : ∃ N, a.next.length = N := ⟨_, rfl⟩
      have hN1 : 1 ≤ N := by rw [← hN]; exact HO.out.one
      have hN40 : N ≤ 40 := by rw [← hN]; exact HO.out.most
      have hFN : a.final.length = N := by rw [← hN]; exact HO.out.fin
      rw [hN] at hnv
      rw [hFN] at hfv
      obtain ⟨F, hF⟩ : ∃ F, U.bkN a.next L (a.final.map U.one) = F := ⟨_, rfl⟩
      rw [hF]
      have HE := Lib.hid hF
      have HLN := Lib.hid hN
      have HFN := Lib.hid hFN
      have hi0 : (0 : Int) < (N : Int) := by omega
      have hNb : (N : Int) ≤ 40 := by omega
      have hLb : (L : Int) ≤ 12 := by omega
      have HNV := Lib.hid hnv
      have HFV := Lib.hid hfv
      have hd0 : decide ((L : Int) < 0) = false := decide_eq_false (by omega)
      have hd12 : decide ((12 : Int) < (L : Int)) = false := decide_eq_false (by omega)
      have HL12 := Lib.hid hL12
      clear hF hN hFN hn h0 h12 hnv hfv HQ hL12
      go_enter Try.func19, Try.ntmps19
      go_wp2_with fail
      refine (HM.out _ HB.out).mono ?_
      rintro e w3 ⟨rfl, hb2⟩
      have HC := Lib.hid (CountAt.mk (a := a) (nv := nv) (fv := fv) (N := N) (w := w) (w3 := w3) (HB.out.trans (hb2.mono HB.out.size)) ((hb2.block w.heap.size (by simp)).trans HQ2.out) (by have := hb2.size; simp at this; omega) HLN.out)
      have c00 := (HC.out.cells (Below.refl _ _)).1
      rw [HNV.out] at c00
      clear hb2 HM HB HQ2
      go_wp2_with (at_make; refine wpList_make_blk _ rfl _ _ rfl N (by omega) rfl rfl ?_; intro w4 hk4 hb4 hz4; have c41 := (HC.out.cells hb4).2; rw [HFV.out] at c41)
      clear hd0 hd12 c00 c41
      rename World => wo
      go_loopw [30] (fun i wr => ∃ (k : Nat), k ≤ N ∧ i = .int .i64 k ∧ Below w3.heap.size w3 wr ∧ Blk wr w3.heap.size ((a.final.take k).map U.one ++ List.replicate (N - k) 0)) (fun i _ => N - (intOf i).toNat)
      case atStart => exact ⟨0, Nat.zero_le _, rfl, hb4, hk4⟩
      case round =>
        obtain ⟨k, hk, rfl, hbw, hkw⟩ := hrel
        by_cases hlt : k < N
        · have hfl := HFN.out
          have hy := List.getElem?_eq_getElem (show k < a.final.length by omega)
          generalize a.final[k]'(by omega) = y at hy
          obtain ⟨gb, o, cap2, pv, e0, hgb, d0, rfl⟩ := RdL.at HF.out hy
          rw [HFV.out] at e0
          injection e0 with e1 e2 e3
          subst e1
          have c3 := (HC.out.cell hbw (o := o + k) hgb).trans d0
          have hk0 : (0 : Int) ≤ (k : Int) := Int.natCast_nonneg _
          have hk1 : (k : Int) < (N : Int) := by omega
          have hA := take_map_len U.one (show k ≤ a.final.length by omega)
          have hsn := take_map_snoc U.one hy
          rw [rep_step hlt] at hkw
          generalize (a.final.take k).map U.one = A at hA hsn hkw
          have c4 := hkw.cell (get_mid A _ 0 k hA)
          have f4 := hkw.frozen k
          have hb5 := hbw.setCell (p := ⟨w3.heap.size, k, none⟩) (Nat.le_refl _) (.int .i64 1)
          have hk5 := hkw.set k 1
          rw [set_mid A _ 0 1 k hA] at hk5
          have HB5 := Lib.hid hb5
          have HK5 := Lib.hid hk5
          have HSN := Lib.hid hsn
          have HBW := Lib.hid hbw
          have HKW := Lib.hid hkw
          have HLT := Lib.hid hlt
          clear hfl hy e2 e3 d0 hA hsn hkw hb5 hk5 hbw hlt
          cases y with
          | true =>
            go_wp2_with fail
            go_roundw
            case rel =>
              refine ⟨k + 1, HLT.out, by go_num, HB5.out, ?_⟩
              rw [HSN.out, List.append_assoc]
              exact HK5.out
            case measure => have := HLT.out; simp [intOf]; omega
          | false =>
            go_wp2_with fail
            go_roundw
            case rel =>
              refine ⟨k + 1, HLT.out, by go_num, HBW.out, ?_⟩
              rw [HSN.out, List.append_assoc]
              exact HKW.out
            case measure => have := HLT.out; simp [intOf]; omega
        · rw [show N - k = 0 by omega, List.replicate_zero, List.append_nil, List.take_of_length_le (by rw [HFN.out]; omega)] at hkw
          have hal : (a.final.map U.one).length = N := by rw [List.length_map, HFN.out]
          have hup : U.Upto (U.P 0) (a.final.map U.one) := by
            intro x hx
            obtain ⟨b, _, rfl⟩ := List.mem_map.1 hx
            cases b <;> (unfold U.one; rw [U.P]; simp)
          have HAL := Lib.hid hal
          have HUP := Lib.hid hup
          have hge := HC.out.below.size
          generalize a.final.map U.one = E at hkw HE HAL HUP
          clear hal hup
          go_wp2_with fail
          rename World => wo2
          go_loopw [1, 6] (fun i v wr => ∃ (k g t : Nat) (W : List Int), k + t ≤ 12 ∧ i = .int .i64 k ∧ v = .slice (some ⟨g, 0, none⟩) N N ∧ w3.heap.size ≤ g ∧ Below w3.heap.size w3 wr ∧ Blk wr g W ∧ W.length = N ∧ Hid (U.bkN a.next k W = F) ∧ Hid (U.Upto (U.P t) W)) (fun i _ _ => (intOf i).toNat)
          case atStart => exact ⟨L, _, 0, E, HL12.out, rfl, rfl, Nat.le_refl _, hbw, hkw, HAL.out, HE.out, HUP.out⟩
          case round =>
            obtain ⟨k, g, t, W, hk, rfl, rfl, hg, hbw, hkw, hWl, HT2, HWu⟩ := hrel
            by_cases hlt : 0 < k
            · obtain ⟨k, rfl⟩ : ∃ k', k = k' + 1 := ⟨k - 1, by omega⟩
              have hkL : (0 : Int) < ((k + 1 : Nat) : Int) := by omega
              have hkL2 : ((k + 1 : Nat) : Int) ≤ 12 := by omega
              have hPk := U.P_small (t := t) (by omega)
              have hPp := U.P_pos t
              have HKT := Lib.hid hk
              have HPK := Lib.hid hPk
              have HPP := Lib.hid hPp
              have HKW := Lib.hid hkw
              have HBW := Lib.hid hbw
              have HWL := Lib.hid hWl
              clear hk hPk hPp hkw hbw hWl hlt
              go_wp2_with (at_make; refine wpList_make_blk _ rfl _ _ rfl N (by omega) rfl rfl ?_; intro w6 hk6 hb6 hz6; have c61 := (HC.out.cells (HBW.out.trans (hb6.mono HBW.out.size))).1; rw [HNV.out] at c61)
              clear c61
              have hkw6 := HKW.out.below hb6 HKW.out.lt
              have hb7 := HBW.out.trans (hb6.mono HBW.out.size)
              have hg7 := HBW.out.size
              have hgw := HKW.out.lt
              have hne : g ≠ wr.heap.size := by omega
              clear hb6 HBW HKW
              generalize wr.heap.size = g7 at hk6 hz6 hg7 hne
              clear hz6 hgw
              rename World => wo3
              go_loopw [50] (fun i wq => ∃ (s : Nat), s ≤ N ∧ i = .int .i64 s ∧ Below w3.heap.size w3 wq ∧ Blk wq g W ∧ Blk wq g7 ((a.next.take s).map (U.rs W) ++ List.replicate (N - s) 0)) (fun i _ => N - (intOf i).toNat)
              case atStart => exact ⟨0, Nat.zero_le _, rfl, hb7, hkw6, hk6⟩
              case round =>
                obtain ⟨s, hs, rfl, hbq, hkq, hk7⟩ := hrel
                by_cases hsl : s < N
                · have hy := List.getElem?_eq_getElem (show s < a.next.length by have := HLN.out; omega)
                  generalize a.next[s]'(by have := HLN.out; omega) = r at hy
                  have hrow := HO.out.at hy
                  have h8 := hrow.1
                  have HR2 := Lib.hid hrow.2
                  obtain ⟨gb, o, cap2, pv, e0, hgb, d0, hrv⟩ := RdL.at HN.out hy
                  rw [HNV.out] at e0
                  injection e0 with e1 e2 e3
                  subst e1
                  obtain ⟨ro, rcap, rfl, _, _⟩ := RdL.form hrv
                  rw [h8] at hrv d0
                  have c3 := (HC.out.cell hbq (o := o + s) hgb).trans d0
                  have hk0 : (0 : Int) ≤ (s : Int) := Int.natCast_nonneg _
                  have hk1 : (s : Int) < (N : Int) := by omega
                  have hA := take_map_len (U.rs W) (show s ≤ a.next.length by have := HLN.out; omega)
                  have hsn := take_map_snoc (U.rs W) hy
                  rw [rep_step hsl] at hk7
                  obtain ⟨A, hAA⟩ : ∃ A, (a.next.take s).map (U.rs W) = A := ⟨_, rfl⟩
                  rw [hAA] at hA hsn hk7
                  obtain ⟨Z, hZ⟩ : ∃ Z, List.replicate (N - (s + 1)) (0 : Int) = Z := ⟨_, rfl⟩
                  rw [hZ] at hk7
                  obtain ⟨C, hCC⟩ : ∃ C, U.rs W r = C := ⟨_, rfl⟩
                  rw [hCC] at hsn
                  have HCC : Hid ((0 : Int) + U.rs W (r.drop 0) = C) := by show _ = _; rw [List.drop_zero, hCC]; omega
                  have HA := Lib.hid hA
                  have HSN := Lib.hid hsn
                  have HZ := Lib.hid hZ
                  have HRV := Lib.hid hrv
                  have H8 := Lib.hid h8
                  have HKQ := Lib.hid hkq
                  have HK7 := Lib.hid hk7
                  have HBQ := Lib.hid hbq
                  have HSL := Lib.hid hsl
                  clear hA hsn hZ hrv h8 hkq hk7 hbq hy hrow d0 e2 e3 hAA hCC hsl
                  go_wp2_with fail
                  clear c3
                  rename World => wo4
                  go_loopw [57] (fun i wt => ∃ (j : Nat) (c : Int), j ≤ 8 ∧ i = .int .i64 j ∧ Below w3.heap.size w3 wt ∧ Blk wt g W ∧ Blk wt g7 (A ++ c :: Z) ∧ 0 ≤ c ∧ Hid (c ≤ (j : Int) * U.P t) ∧ Hid (c + U.rs W (r.drop j) = C)) (fun i _ => 8 - (intOf i).toNat)
                  case atStart => exact ⟨0, 0, by omega, rfl, HBQ.out, HKQ.out, HK7.out, Int.le_refl _, by show _ ≤ _; simp, HCC.out⟩
                  case round =>
                    obtain ⟨j, c, hj, rfl, hbt, hkt, hkv, hc0, HCM, HR3⟩ := hrel
                    by_cases hj8 : j < 8
                    · have hx := List.getElem?_eq_getElem (show j < r.length by have := H8.out; omega)
                      have hd := List.drop_eq_getElem_cons (show j < r.length by have := H8.out; omega)
                      generalize r[j]'(by have := H8.out; omega) = to at hx hd
                      have hto := HR2.out to (List.mem_of_getElem? hx)
                      rw [HLN.out] at hto
                      obtain ⟨gr, o, cap2, pv, e0, hgr, d0, rfl⟩ := RdL.at HRV.out hx
                      injection e0 with e1 e2 e3
                      subst e1
                      have c4 := (HC.out.cell hbt (o := o + j) hgr).trans d0
                      have hj0 : (0 : Int) ≤ (j : Int) := Int.natCast_nonneg _
                      have hj1 : (j : Int) < 8 := by omega
                      have hR3 := HR3.out
                      rw [hd, U.rs] at hR3
                      have hcm := HCM.out
                      have hpp := HPP.out
                      have hpk := HPK.out
                      have hjp : ((j + 1 : Nat) : Int) * U.P t = (j : Int) * U.P t + U.P t := by rw [Int.natCast_add, Int.add_mul]; omega
                      have hj8p : ((j + 1 : Nat) : Int) * U.P t ≤ 8 * U.P t := Int.mul_le_mul_of_nonneg_right (by omega) (by omega)
                      by_cases ht0 : to < 0
                      · rw [if_neg (by omega), Int.zero_add] at hR3
                        have hcm2 : c ≤ ((j + 1 : Nat) : Int) * U.P t := by omega
                        have HR4 := Lib.hid hR3
                        have HC3 := Lib.hid hcm2
                        have HJ := Lib.hid hj8
                        clear hR3 hcm hcm2 hjp hj8p hpp hpk hd hx d0 e2 e3 HR3 HCM hj8
                        go_wp2_with fail
                        go_roundw
                        case rel => exact ⟨j + 1, c, by have := HJ.out; omega, by go_num, hbt, hkt, hkv, hc0, HC3.out, HR4.out⟩
                        case measure => have := HJ.out; simp [intOf]; omega
                      · obtain ⟨q, rfl⟩ := Int.eq_ofNat_of_zero_le (show 0 ≤ to by omega)
                        have hq : q < W.length := by have := HWL.out; omega
                        have hxq := List.getElem?_eq_getElem hq
                        have hxu := HWu.out (W[q]'hq) (List.mem_of_getElem? hxq)
                        rw [if_pos (by omega), Int.toNat_natCast, hxq, Option.getD_some] at hR3
                        generalize W[q]'hq = x at hxq hxu hR3
                        have c5 := hkt.cell hxq
                        have c6 := hkv.cell (get_mid A Z c s HA.out)
                        have f6 := hkv.frozen s
                        have hq0 : (0 : Int) ≤ (q : Int) := Int.natCast_nonneg _
                        have hq1 : (q : Int) < (N : Int) := by omega
                        have hx0 := hxu.1
                        have hxb : x ≤ 68719476736 := by omega
                        have hcb : c ≤ 549755813888 := by omega
                        have hcm2 : c + x ≤ ((j + 1 : Nat) : Int) * U.P t := by omega
                        have hR4 : (c + x) + U.rs W (r.drop (j + 1)) = C := by omega
                        have hsum : c + x ≤ 618475290624 := by omega
                        have HR4 := Lib.hid hR4
                        have HC3 := Lib.hid hcm2
                        have HJ := Lib.hid hj8
                        have hk8 := (hkv.set s (c + x)).drew
                        rw [set_mid A Z c (c + x) s HA.out] at hk8
                        have hk9 := (hkt.other (j := s) (v := .int .i64 (c + x)) hne).drew
                        have hb9 := (hbt.setCell (p := ⟨g7, s, none⟩) hg7 (.int .i64 (c + x))).drew
                        have HK8 := Lib.hid hk8
                        have HK9 := Lib.hid hk9
                        have HB9 := Lib.hid hb9
                        have hwr : IntKind.i64.wrap (c + x) = c + x := IntWalk.i64_in _ (by omega)
                        clear hR3 hR4 hcm hcm2 hjp hj8p hpp hpk hd hx d0 e2 e3 HR3 HCM hj8 hxq hk8 hk9 hb9 hkt hkv hbt hq ht0 hxu
                        go_wp2_with fail
                        go_still_tail 10, (by kernel_rfl)
                        go_wp2_with fail
                        go_roundw
                        case rel => exact ⟨j + 1, c + x, by have := HJ.out; omega, by go_num, HB9.out, HK9.out, HK8.out, by omega, HC3.out, HR4.out⟩
                        case measure => have := HJ.out; simp [intOf]; omega
                    · go_wp2_with fail
                      go_roundw
                      case rel =>
                        have h9 := HR3.out
                        rw [List.drop_eq_nil_of_le (by have := H8.out; omega), U.rs] at h9
                        obtain rfl : c = C := by omega
                        refine ⟨s + 1, by have := HSL.out; omega, by go_num, hbt, hkt, ?_⟩
                        rw [HSN.out, HZ.out, List.append_assoc]
                        exact hkv
                      case measure => have := HSL.out; simp [intOf]; omega
                · rw [show N - s = 0 by omega, List.replicate_zero, List.append_nil, List.take_of_length_le (by rw [HLN.out]; omega)] at hk7
                  go_wp2_with fail
                  go_roundw
                  case rel =>
                    refine ⟨k, g7, t + 1, U.bk a.next W, by have := HKT.out; omega, by go_num, rfl, hg7, hbq, hk7, by rw [U.bk_length, HLN.out], HT2.out, ?_⟩
                    exact HO.out.bk_upto HWu.out (by have := HPP.out; omega)
                  case measure => simp [intOf]
            · obtain rfl : k = 0 := by omega
              have hx := List.getElem?_eq_getElem (show 0 < W.length by omega)
              have h9 := HT2.out
              rw [U.bkN] at h9
              subst h9
              generalize W[0]'(by omega) = x at hx
              have c0 := hkw.cell hx
              have HX := Lib.hid hx
              clear hx
              go_wp2_with fail
              go_ret2
              refine ⟨?_, HC.out.below.trans (hbw.mono HC.out.below.size)⟩
              rw [HX.out]
              rfl

end Go.Proofs.Ytonchdhchaiikaa

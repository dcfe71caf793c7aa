/- The document's AutoMay. -/
import Derived.Test.YtonchdhchaiikaaAuMay
namespace Go.Proofs.Ytonchdhchaiikaa
open Go.RowKit

theorem any_at {α : Type} {l : List α} {k : Nat} {x : α} (p : α → Bool) (hx : l[k]? = some x) (hp : p x = true) : l.any p = true := List.any_eq_true.2 ⟨x, List.mem_of_getElem? hx, hp⟩

set_option maxHeartbeats 4000000 in
set_option maxRecDepth 1000000 in
theorem ref_may (a : U.Au) (nv fv : Value) (w : World) (hR : RdAu w (· < w.heap.size) nv fv a) :
    Calls Try.prog 10 #[auVal nv fv] w fun e w' => e = .returned (.bool a.may) ∧ Below w.heap.size w w' := by
  obtain ⟨R, hM⟩ : ∃ R, a.may = R := ⟨_, rfl⟩
  rw [hM]
  unfold U.Au.may at hM
  obtain ⟨ao, cap, hn, hcl, hcm⟩ := RdL.form hR.next
  obtain ⟨bo, bcap, hf, _, _⟩ := RdL.form hR.final
  have hN := hR.next
  clear hR
  subst hf
  generalize a.final.length = m at hM
  obtain ⟨ll, hll⟩ : ∃ ll, a.next = ll := ⟨_, rfl⟩
  rw [hll] at hM hN hn hcl
  clear hll
  subst hn
  unfold maxLen at hcm
  have hb1 := (Below.refl w.heap.size w).alloc (Nat.le_refl _) (auObj (.slice ao ll.length cap) (.slice bo m bcap))
  unfold auObj at hb1
  have HB := Lib.hid hb1
  clear hb1
  show Calls Try.prog 10 #[.agg #[.slice ao ll.length cap, .slice bo m bcap]] w _
  by_cases h1 : (ll.length : Int) = 0
  · have hd : decide (1 ≤ ll.length) = false := decide_eq_false (by omega)
    rw [hd, Bool.false_and] at hM
    subst hM
    have hd2 : ((ll.length : Int) == 0) = true := beq_iff_eq.2 h1
    clear hN hd h1
    go_enter Try.func10, Try.ntmps10
    go_wp2_with fail
    go_ret
    exact ⟨rfl, HB.out⟩
  have hd : decide (1 ≤ ll.length) = true := decide_eq_true (by omega)
  rw [hd, Bool.true_and] at hM
  have hd2 : ((ll.length : Int) == 0) = false := beq_eq_false_iff_ne.2 h1
  clear hd h1
  by_cases h2 : (40 : Int) < (ll.length : Int)
  · have hd : decide (ll.length ≤ 40) = false := decide_eq_false (by omega)
    rw [hd, Bool.false_and] at hM
    subst hM
    clear hN hd
    go_enter Try.func10, Try.ntmps10
    go_wp2_with fail
    go_ret
    exact ⟨rfl, HB.out⟩
  have hd : decide (ll.length ≤ 40) = true := decide_eq_true (by omega)
  rw [hd, Bool.true_and] at hM
  clear hd
  by_cases h3 : m = ll.length
  · subst h3
    rw [beq_self_eq_true, Bool.true_and] at hM
    have HM := Lib.hid hM
    have HN := Lib.hid hN
    have hlm : (ll.length : Int) ≤ 40 := by omega
    clear hM hN h2 hcl hcm
    go_enter Try.func10, Try.ntmps10
    go_wp2_with fail
    go_loop [29] (fun i => ∃ k : Nat, k ≤ ll.length ∧ i = .int .i64 k ∧ Hid ((ll.take k).any (U.noRow ll.length) = false)) (fun i => ll.length - (intOf i).toNat)
    case atStart => exact ⟨0, Nat.zero_le _, rfl, rfl⟩
    case round =>
      obtain ⟨k, hk, rfl, HA⟩ := hrel
      by_cases hlt : k < ll.length
      · have hx := List.getElem?_eq_getElem hlt
        generalize ll[k]'hlt = l at hx
        obtain ⟨gb, o, cap2, pv, e0, hg, d0, hr⟩ := RdL.at HN.out hx
        injection e0 with e1 e2 e3
        subst e1
        obtain ⟨lo, lcap, rfl, hlc, hlcm⟩ := RdL.form hr
        unfold maxLen at hlcm
        have c0 := (HB.out.cell (p := ⟨gb, o + k, none⟩) hg).trans d0
        have hk0 : (0 : Int) ≤ (k : Int) := Int.natCast_nonneg _
        have hk1 : (k : Int) < (ll.length : Int) := by omega
        have HX := Lib.hid hx
        have HL := Lib.hid hr
        clear hx hr d0 e2 e3
        by_cases h8 : l.length = 8
        · have hd8 : ((l.length : Int) != 8) = false := by rw [h8]; rfl
          have hl8 : (l.length : Int) ≤ 8 := by omega
          have H8 := Lib.hid h8
          clear h8 hlc hlcm
          go_wp2_with fail
          go_loop [38] (fun i => ∃ j : Nat, j ≤ l.length ∧ i = .int .i64 j ∧ Hid ((l.take j).any (U.noState ll.length) = false)) (fun i => l.length - (intOf i).toNat)
          case atStart => exact ⟨0, Nat.zero_le _, rfl, rfl⟩
          case round =>
            obtain ⟨j, hj, rfl, HJ⟩ := hrel
            by_cases hjlt : j < l.length
            · have hx := List.getElem?_eq_getElem hjlt
              generalize l[j]'hjlt = s at hx
              obtain ⟨ga, oa, cap3, pv, e0, hga, d0, rfl⟩ := RdL.at HL.out hx
              injection e0 with e1 e2 e3
              subst e1
              have c1 := (HB.out.cell (p := ⟨ga, oa + j, none⟩) hga).trans d0
              have hj0 : (0 : Int) ≤ (j : Int) := Int.natCast_nonneg _
              have hj1 : (j : Int) < (l.length : Int) := by omega
              have HXJ := Lib.hid hx
              clear hx d0 e2 e3
              by_cases hs : s < -1
              · go_wp2_with fail
                go_ret
                refine ⟨?_, HB.out⟩
                have hn : U.noRow ll.length l = true := by
                  unfold U.noRow
                  rw [any_at _ HXJ.out (by unfold U.noState; rw [decide_eq_true hs]; rfl), Bool.or_true]
                have := HM.out
                rw [any_at _ HX.out hn] at this
                rw [← this]
                rfl
              · by_cases hs2 : (ll.length : Int) ≤ s
                · go_wp2_with fail
                  go_ret
                  refine ⟨?_, HB.out⟩
                  have hn : U.noRow ll.length l = true := by
                    unfold U.noRow
                    rw [any_at _ HXJ.out (by unfold U.noState; rw [decide_eq_true hs2, Bool.or_true]), Bool.or_true]
                  have := HM.out
                  rw [any_at _ HX.out hn] at this
                  rw [← this]
                  rfl
                · have hsn : s < (ll.length : Int) := by omega
                  go_wp2_with fail
                  go_round
                  case rel => exact ⟨j + 1, by omega, by go_num, take_anyL _ HXJ.out HJ.out (by unfold U.noState; rw [decide_eq_false hs, decide_eq_false hs2]; rfl)⟩
                  case measure => simp [intOf]; omega
            · go_wp2_with fail
              go_round
              case rel =>
                refine ⟨k + 1, by omega, by go_num, take_anyL _ HX.out HA.out ?_⟩
                unfold U.noRow
                have := HJ.out
                rw [List.take_of_length_le (by omega)] at this
                rw [this, H8.out]
                rfl
              case measure => simp [intOf]; omega
        · have hd8 : ((l.length : Int) != 8) = true := bne_iff_ne.2 (by omega)
          have H8 := Lib.hid h8
          clear h8 hlc hlcm
          go_wp2_with fail
          go_ret
          refine ⟨?_, HB.out⟩
          have hn : U.noRow ll.length l = true := by
            unfold U.noRow
            rw [show (l.length != 8) = true from bne_iff_ne.2 H8.out, Bool.true_or]
          have := HM.out
          rw [any_at _ HX.out hn] at this
          rw [← this]
          rfl
      · go_wp2_with fail
        go_ret
        refine ⟨?_, HB.out⟩
        have := HA.out
        rw [List.take_of_length_le (by omega)] at this
        rw [← HM.out, this]
        rfl
  · have hd : (m == ll.length) = false := beq_eq_false_iff_ne.2 h3
    rw [hd, Bool.false_and] at hM
    subst hM
    have hd3 : ((ll.length : Int) != (m : Int)) = true := bne_iff_ne.2 (by omega)
    clear hN hd h3
    go_enter Try.func10, Try.ntmps10
    go_wp2_with fail
    go_ret
    exact ⟨rfl, HB.out⟩

end Go.Proofs.Ytonchdhchaiikaa

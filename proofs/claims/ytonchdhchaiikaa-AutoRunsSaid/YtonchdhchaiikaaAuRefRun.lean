/- The document's wordFault, AutoRun. -/
import Derived.Test.YtonchdhchaiikaaAuRefMay
import Derived.Test.YtonchdhchaiikaaAuRunMath
namespace Go.Proofs.Ytonchdhchaiikaa
open Go.RowKit

def U.wordFault (l : List Int) : Nat := if 40 < l.length then 1 else if l.any U.noLetter = true then 2 else 0
set_option maxHeartbeats 4000000 in
set_option maxRecDepth 1000000 in
theorem word_fault (l : List Int) (v : Value) (w : World) (hL : RdI w (· < w.heap.size) v l) :
    Calls Try.prog 29 #[v] w fun e w' => e = .returned (.int .i64 (U.wordFault l : Nat)) ∧ Below w.heap.size w w' := by
  obtain ⟨lo, lcap, rfl, hlc, hlm⟩ := RdL.form hL
  obtain ⟨R, hRR⟩ : ∃ R, U.wordFault l = R := ⟨_, rfl⟩
  rw [hRR]
  unfold U.wordFault at hRR
  unfold maxLen at hlm
  have hll : (l.length : Int) ≤ 9223372036854775807 := by omega
  have HL := Lib.hid hL
  clear hL hlc hlm
  by_cases h40 : 40 < l.length
  · rw [if_pos h40] at hRR
    subst hRR
    have h40' : (40 : Int) < (l.length : Int) := by omega
    clear h40
    go_enter Try.func29, Try.ntmps29
    go_wp2_with fail
    go_ret
    exact ⟨rfl, Below.refl _ _⟩
  rw [if_neg h40] at hRR
  have h40' : ¬ (40 : Int) < (l.length : Int) := by omega
  have HR := Lib.hid hRR
  clear h40 hRR
  go_enter Try.func29, Try.ntmps29
  go_wp2_with fail
  go_loop [10] (fun i => ∃ k : Nat, k ≤ l.length ∧ i = .int .i64 k ∧ Hid ((l.take k).any U.noLetter = false)) (fun i => l.length - (intOf i).toNat)
  case atStart => exact ⟨0, Nat.zero_le _, rfl, rfl⟩
  case round =>
    obtain ⟨k, hk, rfl, HA⟩ := hrel
    by_cases hlt : k < l.length
    · have hx := List.getElem?_eq_getElem hlt
      generalize l[k]'hlt = x at hx
      obtain ⟨g, o, cap2, pv, e0, hg, d0, rfl⟩ := RdL.at HL.out hx
      injection e0 with e1 e2 e3
      subst e1
      have hk0 : (0 : Int) ≤ (k : Int) := Int.natCast_nonneg _
      have hk1 : (k : Int) < (l.length : Int) := by omega
      have HX := Lib.hid hx
      clear hx e2 e3
      by_cases h0 : x < 0
      · go_wp2_with fail
        go_ret
        refine ⟨?_, Below.refl _ _⟩
        have := HR.out
        rw [if_pos (any_at _ HX.out (by unfold U.noLetter; rw [decide_eq_true h0]; rfl))] at this
        rw [← this]
        rfl
      · by_cases h7 : 7 < x
        · go_wp2_with fail
          go_ret
          refine ⟨?_, Below.refl _ _⟩
          have := HR.out
          rw [if_pos (any_at _ HX.out (by unfold U.noLetter; rw [decide_eq_true (show 8 ≤ x by omega), Bool.or_true]))] at this
          rw [← this]
          rfl
        · go_wp2_with fail
          go_round
          case rel => exact ⟨k + 1, by omega, by go_num, take_anyL _ HX.out HA.out (U.noLetter_false.2 ⟨by omega, by omega⟩)⟩
          case measure => simp [intOf]; omega
    · go_wp2_with fail
      go_ret
      refine ⟨?_, Below.refl _ _⟩
      have h2 := HA.out
      rw [List.take_of_length_le (by omega)] at h2
      have := HR.out
      rw [h2, if_neg (by decide)] at this
      rw [← this]
      rfl
set_option maxHeartbeats 4000000 in
set_option maxRecDepth 1000000 in
theorem ref_run (a : U.Au) (nv fv : Value) (l : List Int) (v : Value) (w : World) (hR : RdAu w (· < w.heap.size) nv fv a) (hL : RdI w (· < w.heap.size) v l) :
    Calls Try.prog 12 #[auVal nv fv, v] w fun e w' => e = .returned (.tuple #[.int .i64 (a.run l).1, .int .i64 ((a.run l).2 : Nat)]) ∧ Below w.heap.size w w' := by
  have hbN := (Below.refl w.heap.size w).alloc (Nat.le_refl _) (auObj nv fv)
  have HQ := Lib.hid (heap_alloc_new w (auObj nv fv))
  obtain ⟨R, hRR⟩ : ∃ R, a.run l = R := ⟨_, rfl⟩
  rw [hRR]
  obtain ⟨lo, lcap, rfl, hlc, hlm⟩ := RdL.form hL
  unfold maxLen at hlm
  have hll : (l.length : Int) ≤ 9223372036854775807 := by omega
  have HM := Lib.hid (fun W (hB : Below w.heap.size w W) => ref_may a nv fv W (hR.below hB hB.size))
  have HC := Lib.hid (fun W (hB : Below w.heap.size w W) => word_fault l (.slice lo l.length lcap) W (hL.below hB hB.size))
  obtain ⟨ao, cap, hn, hnc, hnm⟩ := RdL.form hR.next
  subst hn
  unfold auObj at hbN HQ
  unfold auVal at HM ⊢
  have HB := Lib.hid hbN
  have HL := Lib.hid hL
  have HR := Lib.hid hR.next
  clear hbN hR hL hlc hlm hnc hnm
  obtain ⟨m, hm⟩ : ∃ m, a.may = m := ⟨_, rfl⟩
  have hOk : m = true → a.Ok := fun h => U.Au.may_iff.1 (hm.trans h)
  unfold U.Au.run at hRR
  rw [hm] at hRR HM
  clear hm
  cases m with
  | false =>
    rw [if_pos rfl] at hRR
    subst hRR
    clear hOk HC
    go_enter Try.func12, Try.ntmps12
    go_wp2_with fail
    refine (HM.out _ HB.out).mono ?_
    rintro e w2 ⟨rfl, hb2⟩
    have t2 := HB.out.trans (hb2.mono HB.out.size)
    clear hb2 HM HB HQ
    go_wp2_with fail
    go_ret2
    exact ⟨rfl, t2⟩
  | true =>
    rw [if_neg (by decide)] at hRR
    have HO := Lib.hid (hOk rfl)
    clear hOk
    by_cases hF : U.wordFault l = 0
    · have h40 : ¬ 40 < l.length := by
        intro h
        unfold U.wordFault at hF
        rw [if_pos h] at hF
        cases hF
      have hA : l.any U.noLetter = false := by
        unfold U.wordFault at hF
        rw [if_neg h40] at hF
        cases h : l.any U.noLetter with
        | false => rfl
        | true => rw [h, if_pos rfl] at hF; cases hF
      rw [if_neg h40, hA, if_neg (by decide)] at hRR
      subst hRR
      rw [hF] at HC
      obtain ⟨T, hT⟩ : ∃ T, l.foldl a.step 0 = T := ⟨_, rfl⟩
      rw [hT]
      have HT := Lib.hid hT
      have HA := Lib.hid hA
      have hn1 : (0 : Int) < (a.next.length : Int) := by have := HO.out.one; omega
      have hn2 : (a.next.length : Int) ≤ 40 := by have := HO.out.most; omega
      clear h40 hA hT hF
      go_enter Try.func12, Try.ntmps12
      go_wp2_with fail
      refine (HM.out _ HB.out).mono ?_
      rintro e w2 ⟨rfl, hb2⟩
      have t2 := HB.out.trans (hb2.mono HB.out.size)
      have q2 := (hb2.block w.heap.size (by simp)).trans HQ.out
      have z2 : w.heap.size + 1 ≤ w2.heap.size := by have := hb2.size; simp at this; omega
      clear hb2 HM HB HQ
      go_wp2_with fail
      refine (HC.out _ t2).mono ?_
      rintro e w3 ⟨rfl, hb3⟩
      have t3 := t2.trans (hb3.mono t2.size)
      have q3 := (hb3.block w.heap.size (by omega)).trans q2
      have u0 := (au_cells q3).1
      have u1 := (au_cells q3).2
      have T3 := Lib.hid t3
      clear hb3 HC q2 q3 t2 t3 z2
      go_wp2_with fail
      go_loop [20, 7] (fun i st => ∃ (k s : Nat), k ≤ l.length ∧ i = .int .i64 k ∧ st = .int .i64 s ∧ (s : Int) < (a.next.length : Int) ∧ Hid ((l.drop k).foldl a.step (s : Int) = T)) (fun i _ => l.length - (intOf i).toNat)
      case atStart => exact ⟨0, 0, Nat.zero_le _, rfl, rfl, hn1, HT.out⟩
      case round =>
        obtain ⟨k, s, hk, rfl, rfl, hs, HF⟩ := hrel
        by_cases hlt : k < l.length
        · have hx := List.getElem?_eq_getElem hlt
          have hd := List.drop_eq_getElem_cons hlt
          generalize l[k]'hlt = x at hx hd
          obtain ⟨g, o, cap2, pv, e0, hg, d0, rfl⟩ := RdL.at HL.out hx
          injection e0 with e1 e2 e3
          subst e1
          have c0 := (T3.out.cell (p := ⟨g, o + k, none⟩) hg).trans d0
          have hk0 : (0 : Int) ≤ (k : Int) := Int.natCast_nonneg _
          have hk1 : (k : Int) < (l.length : Int) := by omega
          have hxx := U.all_letters HA.out hx
          obtain ⟨j, rfl⟩ := Int.eq_ofNat_of_zero_le hxx.1
          obtain ⟨rl, z, hl, hz, he, hl8, hz0, hz1⟩ := HO.out.step (s := s) (x := j) (by omega) (by omega)
          obtain ⟨g, o, cap, g2, o2, cap2, e0, hg, hg2, b0, b1⟩ := HR.out.cell hl hz
          injection e0 with e1 e2 e3
          subst e1
          have c1 := (T3.out.cell (p := ⟨g, o + s, none⟩) hg).trans b0
          have c2 := (T3.out.cell (p := ⟨g2, o2 + j, none⟩) hg2).trans b1
          have hs0 : (0 : Int) ≤ (s : Int) := Int.natCast_nonneg _
          have hj0 : (0 : Int) ≤ (j : Int) := Int.natCast_nonneg _
          have hj1 : (j : Int) < (rl.length : Int) := by omega
          have hst := HF.out
          rw [hd, List.foldl_cons, he] at hst
          have HST := Lib.hid hst
          clear hst hxx hd hx d0 b0 b1 e2 e3 he hl hz hl8
          by_cases h0 : z < 0
          · have hz1 : z = -1 := by omega
            subst hz1
            have hT1 := HST.out
            rw [U.Au.fold_no] at hT1
            subst hT1
            go_wp2_with fail
            go_ret2
            exact ⟨rfl, T3.out⟩
          · obtain ⟨y, rfl⟩ := Int.eq_ofNat_of_zero_le (show 0 ≤ z by omega)
            go_wp2_with fail
            go_round
            case rel => exact ⟨k + 1, y, by omega, by go_num, rfl, hz1, HST.out⟩
            case measure => simp [intOf]; omega
        · go_wp2_with fail
          go_ret2
          have := HF.out
          rw [List.drop_eq_nil_of_le (by omega), List.foldl_nil] at this
          subst this
          exact ⟨rfl, T3.out⟩
    · have hne2 : (((U.wordFault l : Nat) : Int) != 0) = true := bne_iff_ne.2 (by omega)
      have hE : R = (0, U.wordFault l) := by
        rw [← hRR]
        unfold U.wordFault at hF ⊢
        by_cases h40 : 40 < l.length
        · rw [if_pos h40, if_pos h40]
        · rw [if_neg h40, if_neg h40]
          rw [if_neg h40] at hF
          by_cases hA : l.any U.noLetter = true
          · rw [if_pos hA, if_pos hA]
          · rw [if_neg hA] at hF
            exact absurd rfl hF
      subst hE
      clear hRR hF
      generalize U.wordFault l = F at HC hne2
      go_enter Try.func12, Try.ntmps12
      go_wp2_with fail
      refine (HM.out _ HB.out).mono ?_
      rintro e w2 ⟨rfl, hb2⟩
      have t2 := HB.out.trans (hb2.mono HB.out.size)
      clear hb2 HM HB HQ
      go_wp2_with fail
      refine (HC.out _ t2).mono ?_
      rintro e w3 ⟨rfl, hb3⟩
      have t3 := t2.trans (hb3.mono t2.size)
      clear hb3 HC
      go_wp2_with fail
      go_ret2
      exact ⟨rfl, t3⟩

end Go.Proofs.Ytonchdhchaiikaa

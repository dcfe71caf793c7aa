/- auto.successor, auto.Run. -/
import Derived.Test.YtonchdhchaiikaaAuMay
import Derived.Test.YtonchdhchaiikaaAuRunMath
namespace Go.Proofs.Ytonchdhchaiikaa
open Go.RowKit

set_option maxHeartbeats 4000000 in
set_option maxRecDepth 1000000 in
theorem au_step (a : U.Au) (nv fv : Value) (s x : Int) (w : World) (hR : RdAu w (· < w.heap.size) nv fv a) (hO : a.Ok) (hs1 : s < (a.next.length : Int)) (hx0 : 0 ≤ x) (hx1 : x < 8) :
    Calls Try.prog 28 #[auVal nv fv, .int .i64 s, .int .i64 x] w fun e w' => e = .returned (.int .i64 (a.step s x)) ∧ Below w.heap.size w w' := by
  have hbN := (Below.refl w.heap.size w).alloc (Nat.le_refl _) (auObj nv fv)
  unfold auObj at hbN
  unfold auVal
  by_cases h0 : s < 0
  · rw [a.step_no x h0]
    have HB := Lib.hid hbN
    clear hbN hR hO
    go_enter Try.func28, Try.ntmps28
    go_wp2_with fail
    go_ret
    exact ⟨rfl, HB.out⟩
  · obtain ⟨k, rfl⟩ := Int.eq_ofNat_of_zero_le (show 0 ≤ s by omega)
    obtain ⟨j, rfl⟩ := Int.eq_ofNat_of_zero_le hx0
    obtain ⟨l, z, hl, hz, he, hl8, _⟩ := hO.step (s := k) (x := j) (by omega) (by omega)
    rw [he]
    obtain ⟨g, o, cap, g2, o2, cap2, rfl, hg, hg2, c0, c1⟩ := hR.next.cell hl hz
    have d0 := (hbN.cell (p := ⟨g, o + k, none⟩) hg).trans c0
    have d1 := (hbN.cell (p := ⟨g2, o2 + j, none⟩) hg2).trans c1
    have hk1 : (k : Int) < (a.next.length : Int) := hs1
    have hj1 : (j : Int) < (l.length : Int) := by omega
    have hk0 : (0 : Int) ≤ (k : Int) := Int.natCast_nonneg _
    have hj0 : (0 : Int) ≤ (j : Int) := Int.natCast_nonneg _
    have HB := Lib.hid hbN
    clear hbN hR hO he hl hz c0 c1 h0 hl8
    go_enter Try.func28, Try.ntmps28
    go_wp2_with fail
    go_ret
    exact ⟨rfl, HB.out⟩
set_option maxHeartbeats 4000000 in
set_option maxRecDepth 1000000 in
/-- func(letter int) bool { return letter < 0 || letter >= api.MaxTypes } -/
theorem no_letter (s : Int) (W : World) :
    Calls Try.prog 27 #[.int .i64 s] W fun e w' => e = .returned (.bool (U.noLetter s)) ∧ Below W.heap.size W w' := by
  obtain ⟨R, hR⟩ : ∃ R, U.noLetter s = R := ⟨_, rfl⟩
  rw [hR]
  unfold U.noLetter at hR
  by_cases h0 : s < 0
  · have hd : decide (s < 0) = true := decide_eq_true h0
    rw [hd] at hR
    subst hR
    go_enter Try.func27, Try.ntmps27
    go_wp2_with fail
    go_ret
    exact ⟨rfl, (Below.refl _ _)⟩
  · have hd : decide (s < 0) = false := decide_eq_false h0
    rw [hd, Bool.false_or] at hR
    have HR := Lib.hid hR
    clear hR
    go_enter Try.func27, Try.ntmps27
    go_wp2_with fail
    go_ret
    exact ⟨by rw [← HR.out]; rfl, (Below.refl _ _)⟩
set_option maxHeartbeats 4000000 in
set_option maxRecDepth 1000000 in
theorem auto_run (a : U.Au) (nv fv : Value) (l : List Int) (v : Value) (w : World) (hR : RdAu w (· < w.heap.size) nv fv a) (hL : RdI w (· < w.heap.size) v l) :
    Calls Try.prog 11 #[auVal nv fv, v] w fun e w' => e = .returned (.tuple #[.int .i64 (a.run l).1, .int .i64 ((a.run l).2 : Nat)]) ∧ Below w.heap.size w w' := by
  have hbN := (Below.refl w.heap.size w).alloc (Nat.le_refl _) (auObj nv fv)
  have HQ := Lib.hid (heap_alloc_new w (auObj nv fv))
  obtain ⟨R, hRR⟩ : ∃ R, a.run l = R := ⟨_, rfl⟩
  rw [hRR]
  unfold U.Au.run at hRR
  obtain ⟨lo, lcap, rfl, hlc, hlm⟩ := RdL.form hL
  unfold maxLen at hlm
  have hll : (l.length : Int) ≤ 9223372036854775807 := by omega
  have HM := Lib.hid (fun W (hB : Below w.heap.size w W) => auto_may a nv fv W (hR.below hB hB.size))
  have HC := Lib.hid (fun W (hB : Below w.heap.size w W) => contains_I 27 #[] (enters_of Try.func27 (by kernel_rfl) rfl) U.noLetter (.slice lo l.length lcap) l W (hL.below hB hB.size)
    (fun W' x hB' => (no_letter x W').mono fun e w' h => ⟨h.1, hB'.trans (h.2.mono hB'.size)⟩))
  have HS := Lib.hid (fun (hO : a.Ok) s x (h1 : s < (a.next.length : Int)) (h2 : 0 ≤ x) (h3 : x < 8) W (hB : Below w.heap.size w W) => au_step a nv fv s x W (hR.below hB hB.size) hO h1 h2 h3)
  unfold auObj at hbN HQ
  unfold auVal at HM HS ⊢
  have HB := Lib.hid hbN
  have HL := Lib.hid hL
  clear hbN hR hL hlc hlm
  obtain ⟨m, hm⟩ : ∃ m, a.may = m := ⟨_, rfl⟩
  have hOk : m = true → a.Ok := fun h => U.Au.may_iff.1 (hm.trans h)
  rw [hm] at hRR HM
  clear hm
  cases m with
  | false =>
    rw [if_pos rfl] at hRR
    subst hRR
    clear hOk
    go_enter Try.func11, Try.ntmps11
    go_wp2_with fail
    refine (HM.out _ HB.out).mono ?_
    rintro e w2 ⟨rfl, hb2⟩
    have t2 := HB.out.trans (hb2.mono HB.out.size)
    clear hb2 HM HC HS HB HQ
    go_wp2_with fail
    go_ret2
    exact ⟨rfl, t2⟩
  | true =>
    rw [if_neg (by decide)] at hRR
    have HO := Lib.hid (hOk rfl)
    clear hOk
    by_cases h40 : 40 < l.length
    · rw [if_pos h40] at hRR
      subst hRR
      have h40' : (40 : Int) < (l.length : Int) := by omega
      clear h40
      go_enter Try.func11, Try.ntmps11
      go_wp2_with fail
      refine (HM.out _ HB.out).mono ?_
      rintro e w2 ⟨rfl, hb2⟩
      have t2 := HB.out.trans (hb2.mono HB.out.size)
      clear hb2 HM HC HS HB HQ
      go_wp2_with fail
      go_ret2
      exact ⟨rfl, t2⟩
    rw [if_neg h40] at hRR
    have h40' : ¬ (40 : Int) < (l.length : Int) := by omega
    obtain ⟨A, hA⟩ : ∃ A, l.any U.noLetter = A := ⟨_, rfl⟩
    rw [hA] at hRR HC
    cases A with
    | true =>
      rw [if_pos rfl] at hRR
      subst hRR
      clear h40 hA
      go_enter Try.func11, Try.ntmps11
      go_wp2_with fail
      refine (HM.out _ HB.out).mono ?_
      rintro e w2 ⟨rfl, hb2⟩
      have t2 := HB.out.trans (hb2.mono HB.out.size)
      clear hb2 HM HS HB HQ
      go_wp2_with fail
      refine (HC.out _ t2).mono ?_
      rintro e w3 ⟨rfl, hb3⟩
      have t3 := t2.trans (hb3.mono t2.size)
      clear hb3 HC
      go_wp2_with fail
      go_ret2
      exact ⟨rfl, t3⟩
    | false =>
      rw [if_neg (by decide)] at hRR
      subst hRR
      have HA := Lib.hid hA
      obtain ⟨T, hT⟩ : ∃ T, l.foldl a.step 0 = T := ⟨_, rfl⟩
      rw [hT]
      have HT := Lib.hid hT
      have h1 : (0 : Int) < (a.next.length : Int) := by have := HO.out.one; omega
      clear h40 hA hT
      go_enter Try.func11, Try.ntmps11
      go_wp2_with fail
      refine (HM.out _ HB.out).mono ?_
      rintro e w2 ⟨rfl, hb2⟩
      have t2 := HB.out.trans (hb2.mono HB.out.size)
      have q2 := (hb2.block w.heap.size (by simp)).trans HQ.out
      have z2 : w.heap.size + 1 ≤ w2.heap.size := by have := hb2.size; simp at this; omega
      clear hb2 HM HB HQ
      go_wp2_with fail
      refine (HC.out _ t2).mono ?_
      rintro e w3 ⟨rfl, hb3⟩
      have t3 := t2.trans (hb3.mono t2.size)
      have q3 := (hb3.block w.heap.size (by omega)).trans q2
      have z3 : w.heap.size + 1 ≤ w3.heap.size := by have := hb3.size; omega
      have T3 := Lib.hid t3
      have Q3 := Lib.hid q3
      clear hb3 HC q2 q3 t2 t3 z2
      go_wp2_with fail
      go_loopw [24, 7] (fun i st wr => ∃ (k : Nat) (s : Int), k ≤ l.length ∧ i = .int .i64 k ∧ st = .int .i64 s ∧ s < (a.next.length : Int) ∧ Below w3.heap.size w3 wr ∧ Hid ((l.drop k).foldl a.step s = T)) (fun i _ _ => l.length - (intOf i).toNat)
      case atStart => exact ⟨0, 0, Nat.zero_le _, rfl, rfl, h1, Below.refl _ _, HT.out⟩
      case round =>
        obtain ⟨k, s, hk, rfl, rfl, hs, hbw, HF⟩ := hrel
        by_cases hlt : k < l.length
        · have hx := List.getElem?_eq_getElem hlt
          have hd := List.drop_eq_getElem_cons hlt
          generalize l[k]'hlt = x at hx hd
          obtain ⟨g, o, cap2, pv, e0, hg, d0, rfl⟩ := RdL.at HL.out hx
          injection e0 with e1 e2 e3
          subst e1
          have ht := T3.out.trans (hbw.mono T3.out.size)
          have c0 := (ht.cell (p := ⟨g, o + k, none⟩) hg).trans d0
          have hk0 : (0 : Int) ≤ (k : Int) := Int.natCast_nonneg _
          have hk1 : (k : Int) < (l.length : Int) := by omega
          have hxx := U.all_letters HA.out hx
          have qr := (hbw.block w.heap.size (by omega)).trans Q3.out
          have u0 := (au_cells qr).1
          have u1 := (au_cells qr).2
          have hst := HF.out
          rw [hd, List.foldl_cons] at hst
          have hcall := HS.out HO.out s x hs hxx.1 hxx.2 wr ht
          have hrng : a.step s x < (a.next.length : Int) := by
            by_cases h0 : s < 0
            · rw [a.step_no x h0]; omega
            · obtain ⟨ks, rfl⟩ := Int.eq_ofNat_of_zero_le (show 0 ≤ s by omega)
              obtain ⟨j, rfl⟩ := Int.eq_ofNat_of_zero_le hxx.1
              obtain ⟨_, z, _, _, he, _, _, hzz⟩ := HO.out.step (s := ks) (x := j) (by omega) (by omega)
              rw [he]; exact hzz
          generalize a.step s x = y at hst hcall hrng
          have HST := Lib.hid hst
          have HCL := Lib.hid hcall
          have HBW := Lib.hid hbw
          clear hst hcall hxx hd hx d0 e2 e3 qr ht hbw
          go_wp2_with fail
          refine HCL.out.mono ?_
          rintro e w5 ⟨rfl, hb5⟩
          have t5 := HBW.out.trans (hb5.mono HBW.out.size)
          clear HCL hb5 HBW
          go_wp2_with fail
          go_roundw
          case rel => exact ⟨k + 1, y, by omega, by go_num, rfl, hrng, t5, HST.out⟩
          case measure => simp [intOf]; omega
        · go_wp2_with fail
          go_ret2
          have := HF.out
          rw [List.drop_eq_nil_of_le (by omega), List.foldl_nil] at this
          subst this
          exact ⟨rfl, T3.out.trans (hbw.mono T3.out.size)⟩

end Go.Proofs.Ytonchdhchaiikaa

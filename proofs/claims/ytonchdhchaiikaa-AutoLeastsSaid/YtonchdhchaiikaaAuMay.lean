/- auto.May. -/
import Derived.Test.YtonchdhchaiikaaAuIdx
namespace Go.Proofs.Ytonchdhchaiikaa
open Go.RowKit

set_option maxHeartbeats 4000000 in
set_option maxRecDepth 1000000 in
/-- func(s int) bool { return s < -1 || s >= states } -/
theorem no_state (b : Nat) (n : Nat) (s : Int) (W : World) (hc : W.cell? ⟨b, 0, none⟩ = some (.int .i64 n)) :
    Calls Try.prog 23 #[.int .i64 s, .pointer (some ⟨b, 0, none⟩)] W fun e w' => e = .returned (.bool (U.noState n s)) ∧ Below W.heap.size W w' := by
  obtain ⟨R, hR⟩ : ∃ R, U.noState n s = R := ⟨_, rfl⟩
  rw [hR]
  unfold U.noState at hR
  by_cases h0 : s < -1
  · have hd : decide (s < -1) = true := decide_eq_true h0
    rw [hd] at hR
    subst hR
    go_enter Try.func23, Try.ntmps23
    go_wp2_with fail
    go_ret
    exact ⟨rfl, (Below.refl _ _)⟩
  · have hd : decide (s < -1) = false := decide_eq_false h0
    rw [hd, Bool.false_or] at hR
    have HR := Lib.hid hR
    clear hR
    go_enter Try.func23, Try.ntmps23
    go_wp2_with fail
    go_ret
    exact ⟨by rw [← HR.out]; rfl, (Below.refl _ _)⟩
set_option maxHeartbeats 4000000 in
set_option maxRecDepth 1000000 in
/-- func(l []int) bool { return len(l) != api.MaxTypes || slices.ContainsFunc(l, isNoState) } -/
theorem no_row (b b2 : Nat) (n : Nat) (l : List Int) (v : Value) (W : World) (hc : W.cell? ⟨b, 0, none⟩ = some (.int .i64 n)) (hc2 : W.cell? ⟨b2, 0, none⟩ = some (.func (.func 23) #[] #[.pointer (some ⟨b, 0, none⟩)])) (hb : b < W.heap.size) (hl : RdI W (· < W.heap.size) v l) :
    Calls Try.prog 24 #[v, .pointer (some ⟨b2, 0, none⟩)] W fun e w' => e = .returned (.bool (U.noRow n l)) ∧ Below W.heap.size W w' := by
  obtain ⟨R, hR⟩ : ∃ R, U.noRow n l = R := ⟨_, rfl⟩
  rw [hR]
  unfold U.noRow at hR
  have hcon := contains_I 23 #[.pointer (some ⟨b, 0, none⟩)] (enters_of Try.func23 (by kernel_rfl) rfl) (U.noState n) v l W hl
    (fun W' x hB => (no_state b n x W' ((hB.cell (p := ⟨b, 0, none⟩) hb).trans hc)).mono fun e w' h => ⟨h.1, hB.trans (h.2.mono hB.size)⟩)
  obtain ⟨ao, cap, rfl, hcl, hcm⟩ := RdL.form hl
  generalize l.any (U.noState n) = A at hR hcon
  generalize l.length = k at hR hcon hcl
  clear hl hcl hcm hc hb
  have HC := Lib.hid hcon
  clear hcon
  by_cases h8 : k = 8
  · subst h8
    rw [show ((8 : Nat) != 8) = false from rfl, Bool.false_or] at hR
    subst hR
    go_enter Try.func24, Try.ntmps24
    go_wp2_with (refine HC.out.mono ?_; rintro e w' ⟨rfl, hb'⟩)
    go_ret
    exact ⟨rfl, hb'⟩
  · have hd : (k != 8) = true := bne_iff_ne.2 h8
    rw [hd, Bool.true_or] at hR
    subst hR
    have hd2 : ((k : Int) != 8) = true := bne_iff_ne.2 (by omega)
    clear hd h8
    go_enter Try.func24, Try.ntmps24
    go_wp2_with fail
    go_ret
    exact ⟨rfl, Below.refl _ _⟩
set_option maxHeartbeats 4000000 in
set_option maxRecDepth 1000000 in
theorem auto_may (a : U.Au) (nv fv : Value) (w : World) (hR : RdAu w (· < w.heap.size) nv fv a) :
    Calls Try.prog 9 #[auVal nv fv] w fun e w' => e = .returned (.bool a.may) ∧ Below w.heap.size w w' := by
  obtain ⟨R, hM⟩ : ∃ R, a.may = R := ⟨_, rfl⟩
  rw [hM]
  unfold U.Au.may at hM
  obtain ⟨ao, cap, hn, _, _⟩ := RdL.form hR.next
  obtain ⟨bo, bcap, hf, _, _⟩ := RdL.form hR.final
  have hN := hR.next
  clear hR
  subst hf
  generalize a.final.length = m at hM
  obtain ⟨ll, hll⟩ : ∃ ll, a.next = ll := ⟨_, rfl⟩
  rw [hll] at hM hN hn
  clear hll
  subst hn
  have hb1 := (Below.refl w.heap.size w).alloc (Nat.le_refl _) (auObj (.slice ao ll.length cap) (.slice bo m bcap))
  unfold auObj at hb1
  have HB := Lib.hid hb1
  clear hb1
  show Calls Try.prog 9 #[.agg #[.slice ao ll.length cap, .slice bo m bcap]] w _
  by_cases h1 : (ll.length : Int) < 1
  · have hd : decide (1 ≤ ll.length) = false := decide_eq_false (by omega)
    rw [hd, Bool.false_and] at hM
    subst hM
    clear hN hd
    go_enter Try.func9, Try.ntmps9
    go_wp2_with fail
    go_ret
    exact ⟨rfl, (HB.out).alloc (by simp) _⟩
  have hd : decide (1 ≤ ll.length) = true := decide_eq_true (by omega)
  rw [hd, Bool.true_and] at hM
  clear hd
  by_cases h2 : (40 : Int) < (ll.length : Int)
  · have hd : decide (ll.length ≤ 40) = false := decide_eq_false (by omega)
    rw [hd, Bool.false_and] at hM
    subst hM
    clear hN hd
    go_enter Try.func9, Try.ntmps9
    go_wp2_with fail
    go_ret
    exact ⟨rfl, (HB.out).alloc (by simp) _⟩
  have hd : decide (ll.length ≤ 40) = true := decide_eq_true (by omega)
  rw [hd, Bool.true_and] at hM
  clear hd
  by_cases h3 : m = ll.length
  · subst h3
    rw [beq_self_eq_true, Bool.true_and] at hM
    subst hM
    go_enter Try.func9, Try.ntmps9
    go_wp2_with fail
    have hb3 := ((HB.out).alloc (by simp) (.cells #[.int .i64 ll.length] 3 (0, 0))).alloc (by simp; omega) (.cells #[.func (.func 23) #[] #[.pointer (some ⟨w.heap.size + 1, 0, none⟩)]] 42 (0, 0))
    have eg := enters_of Try.func24 (by kernel_rfl) rfl
    have q1 := heap_alloc_new (w.alloc (.cells #[.slice ao ll.length cap, .slice bo ll.length bcap] 25 (0, 0))) (.cells #[.int .i64 ll.length] 3 (0, 0))
    have q2 := heap_alloc_new ((w.alloc (.cells #[.slice ao ll.length cap, .slice bo ll.length bcap] 25 (0, 0))).alloc (.cells #[.int .i64 ll.length] 3 (0, 0))) (.cells #[.func (.func 23) #[] #[.pointer (some ⟨w.heap.size + 1, 0, none⟩)]] 42 (0, 0))
    have b12 := (Below.refl _ ((w.alloc (.cells #[.slice ao ll.length cap, .slice bo ll.length bcap] 25 (0, 0))).alloc (.cells #[.int .i64 ll.length] 3 (0, 0)))).alloc (Nat.le_refl _) (.cells #[.func (.func 23) #[] #[.pointer (some ⟨w.heap.size + 1, 0, none⟩)]] 42 (0, 0))
    have z1 : (w.alloc (.cells #[.slice ao ll.length cap, .slice bo ll.length bcap] 25 (0, 0))).heap.size = w.heap.size + 1 := by simp
    have z2 : ((w.alloc (.cells #[.slice ao ll.length cap, .slice bo ll.length bcap] 25 (0, 0))).alloc (.cells #[.int .i64 ll.length] 3 (0, 0))).heap.size = w.heap.size + 1 + 1 := by simp
    rw [z1] at q1
    rw [z2] at q2
    have q1' := (b12.block (w.heap.size + 1) (by rw [z2]; omega)).trans q1
    have z3 : (((w.alloc (.cells #[.slice ao ll.length cap, .slice bo ll.length bcap] 25 (0, 0))).alloc (.cells #[.int .i64 ll.length] 3 (0, 0))).alloc (.cells #[.func (.func 23) #[] #[.pointer (some ⟨w.heap.size + 1, 0, none⟩)]] 42 (0, 0))).heap.size = w.heap.size + 1 + 1 + 1 := by simp
    clear b12 z1 z2 q1
    generalize (((w.alloc (.cells #[.slice ao ll.length cap, .slice bo ll.length bcap] 25 (0, 0))).alloc (.cells #[.int .i64 ll.length] 3 (0, 0))).alloc (.cells #[.func (.func 23) #[] #[.pointer (some ⟨w.heap.size + 1, 0, none⟩)]] 42 (0, 0))) = W3 at hb3 q1' q2 z3
    refine (contains_R 24 #[.pointer (some ⟨w.heap.size + 1 + 1, 0, none⟩)] eg (U.noRow ll.length) _ ll W3 (hN.below hb3 hb3.size) (fun W' l v hB hl => ?_)).mono ?_
    · have r1 := (hB.block (w.heap.size + 1) (by rw [z3]; omega)).trans q1'
      have r2 := (hB.block (w.heap.size + 1 + 1) (by rw [z3]; omega)).trans q2
      have hz := hB.size
      exact (no_row (w.heap.size + 1) (w.heap.size + 1 + 1) ll.length l v W' (by rw [Lib.cell_of_heap r1]; rfl) (by rw [Lib.cell_of_heap r2]; rfl) (by omega) (hl.keep (fun _ _ => rfl) (fun b hb => Nat.lt_of_lt_of_le hb hz))).mono fun e w' h => ⟨h.1, hB.trans (h.2.mono hz)⟩
    rintro e w' ⟨rfl, hb'⟩
    have t2 := hb3.trans (hb'.mono hb3.size)
    clear hb3 hb' q1' q2 z3 eg hN HB h1 h2
    go_wp2_with fail
    go_ret
    exact ⟨rfl, t2⟩
  · have hd : (m == ll.length) = false := beq_eq_false_iff_ne.2 h3
    rw [hd, Bool.false_and] at hM
    subst hM
    have hd2 : ((m : Int) != (ll.length : Int)) = true := bne_iff_ne.2 (by omega)
    clear hN hd h3
    go_enter Try.func9, Try.ntmps9
    go_wp2_with fail
    go_ret
    exact ⟨rfl, (HB.out).alloc (by simp) _⟩

end Go.Proofs.Ytonchdhchaiikaa

/- emit.isName. -/
import Derived.Test.YtmfkefcdddoooaaNameMath
import Derived.Test.YtmfkefcdddoooaaRefName
import Derived.Test.YtmfkefcdddoooaaRdK
import Derived.Test.YtmfkefcdddoooaaShelf
import Derived.Test.YtmfkefcdddoooaaCalm
namespace Go.Proofs.Ytmfkefcdddoooaa
open Go.RowKit

set_option maxHeartbeats 2000000 in
set_option maxRecDepth 1000000 in
theorem is_letter (c : Nat) (w : World) : Calls Try.prog 81 #[.int .i32 (c : Int)] w fun e w' => e = .returned (.bool (decide (97 ≤ c) && decide (c ≤ 122))) ∧ w = w' := by
  by_cases h1 : 97 ≤ c
  · by_cases h2 : c ≤ 122
    · rw [decide_eq_true h1, decide_eq_true h2]
      have d1 : decide (97 ≤ (c : Int)) = true := decide_eq_true (by omega)
      have d2 : decide ((c : Int) ≤ 122) = true := decide_eq_true (by omega)
      clear h1 h2
      go_enter Try.func81, Try.ntmps81
      go_wp2_with fail
      go_ret
      exact ⟨rfl, rfl⟩
    · rw [decide_eq_true h1, decide_eq_false h2]
      have d1 : decide (97 ≤ (c : Int)) = true := decide_eq_true (by omega)
      have d2 : decide ((c : Int) ≤ 122) = false := decide_eq_false (by omega)
      clear h1 h2
      go_enter Try.func81, Try.ntmps81
      go_wp2_with fail
      go_ret
      exact ⟨rfl, rfl⟩
  · rw [decide_eq_false h1]
    have d1 : decide (97 ≤ (c : Int)) = false := decide_eq_false (by omega)
    clear h1
    go_enter Try.func81, Try.ntmps81
    go_wp2_with fail
    go_ret
    exact ⟨rfl, rfl⟩

set_option maxHeartbeats 2000000 in
set_option maxRecDepth 1000000 in
theorem is_other (b c : Nat) (w W : World) (hb : b < w.heap.size) (hc : w.cell? ⟨b, 0, none⟩ = some (.func (.func 81) #[] #[])) (hB : Below w.heap.size w W) :
    Calls Try.prog 82 #[.int .i32 (c : Int), .pointer (some ⟨b, 0, none⟩)] W fun e w' => e = .returned (.bool (otherR c)) ∧ ∃ q, w' = W.drewN q := by
  have c0 := (hB.cell (p := ⟨b, 0, none⟩) hb).trans hc
  have hL := is_letter c W
  have eg : ∀ args w, (callFunc 81 args).run Try.prog w = .ok (.enter 81 args) w := enters_of Try.func81 (by kernel_rfl) rfl
  clear hb hc hB
  unfold otherR
  cases h1 : (decide (97 ≤ c) && decide (c ≤ 122)) with
  | true =>
    rw [h1] at hL
    have HL := Lib.hid hL
    clear hL h1
    go_enter Try.func82, Try.ntmps82
    go_wp2_with (go_at_fn 81; refine HL.out.mono ?_; rintro e w' ⟨rfl, rfl⟩)
    go_ret
    exact ⟨rfl, 0, rfl⟩
  | false =>
    rw [h1] at hL
    have HL := Lib.hid hL
    clear hL h1
    by_cases h45 : c = 45
    · have n1 : ((c : Int) != 45) = false := by rw [h45]; rfl
      have HH := Lib.hid h45
      clear h45
      go_enter Try.func82, Try.ntmps82
      go_wp2_with (go_at_fn 81; refine HL.out.mono ?_; rintro e w' ⟨rfl, rfl⟩)
      go_ret
      exact ⟨by rw [HH.out]; rfl, 0, rfl⟩
    · have n1 : ((c : Int) != 45) = true := bne_iff_ne.2 (by omega)
      have e45 : (c == 45) = false := beq_eq_false_iff_ne.2 h45
      rw [e45]
      clear h45 e45
      by_cases h48 : c < 48
      · have d1 : decide ((c : Int) < 48) = true := decide_eq_true (by omega)
        rw [decide_eq_true h48]
        clear h48
        go_enter Try.func82, Try.ntmps82
        go_wp2_with (go_at_fn 81; refine HL.out.mono ?_; rintro e w' ⟨rfl, rfl⟩)
        go_ret
        exact ⟨rfl, 0, rfl⟩
      · have d1 : decide ((c : Int) < 48) = false := decide_eq_false (by omega)
        rw [decide_eq_false h48]
        clear h48
        by_cases h57 : 57 < c
        · have d2 : decide (57 < (c : Int)) = true := decide_eq_true (by omega)
          rw [decide_eq_true h57]
          clear h57
          go_enter Try.func82, Try.ntmps82
          go_wp2_with (go_at_fn 81; refine HL.out.mono ?_; rintro e w' ⟨rfl, rfl⟩)
          go_ret
          exact ⟨rfl, 0, rfl⟩
        · have d2 : decide (57 < (c : Int)) = false := decide_eq_false (by omega)
          rw [decide_eq_false h57]
          clear h57
          go_enter Try.func82, Try.ntmps82
          go_wp2_with (go_at_fn 81; refine HL.out.mono ?_; rintro e w' ⟨rfl, rfl⟩)
          go_ret
          exact ⟨rfl, 0, rfl⟩

set_option maxHeartbeats 4000000 in
set_option maxRecDepth 1000000 in
theorem emit_name (s : ByteArray) (w : World) :
    Calls Try.prog 70 #[.string s] w fun e w' => e = .returned (.bool (U.isName s.data.toList)) ∧ Below w.heap.size w w' := by
  have hl : s.data.toList.length = s.size := by rw [Array.length_toList]; rfl
  have hno : ¬ (1 ≤ s.size ∧ s.size ≤ 12) → U.isName s.data.toList = false := fun hh => by
    cases h : U.isName s.data.toList with
    | false => rfl
    | true => have := (isName_iff _).1 h; omega
  have hiff := isName_iff s.data.toList
  rw [hl] at hiff
  have HI := Lib.hid hiff
  obtain ⟨R, hR⟩ : ∃ R, U.isName s.data.toList = R := ⟨_, rfl⟩
  rw [hR] at hno HI ⊢
  clear hiff
  by_cases h0 : s.size = 0
  · have hr := hno (by omega)
    subst hr
    have he : s.toList.isEmpty = true := by
      rw [Lib.toList_data, List.isEmpty_iff]
      exact List.eq_nil_of_length_eq_zero (by omega)
    have HE := Lib.hid (And.intro hno h0)
    clear hno h0 hR hl
    go_enter Try.func70, Try.ntmps70
    go_wp2_with fail
    go_ret
    exact ⟨rfl, (Below.refl _ w).alloc (Nat.le_refl _) _⟩
  have he : s.toList.isEmpty = false := by
    rw [Lib.toList_data]
    cases hc : s.data.toList with
    | nil => rw [hc] at hl; exact absurd hl.symm h0
    | cons _ _ => rfl
  by_cases h12 : 12 < s.size
  · have hr := hno (by omega)
    subst hr
    have HE := Lib.hid (And.intro hno h0)
    clear hno h0 hR hl
    go_enter Try.func70, Try.ntmps70
    go_wp2_with fail
    go_ret
    exact ⟨rfl, (Below.refl _ w).alloc (Nat.le_refl _) _⟩
  have h0s : 0 < s.size := by omega
  have hb := byte_get s h0s
  have HB := Lib.hid hb
  have h256 : (s[0]'h0s).toNat < 256 := (s[0]'h0s).toNat_lt
  have hL : ∀ W, Calls Try.prog 81 #[.int .i32 ((s[0]'h0s).toNat : Int)] W fun e w' => e = .returned (.bool (U.small (s[0]'h0s))) ∧ W = w' := fun W => is_letter (s[0]'h0s).toNat W
  have eg1 : ∀ args w, (callFunc 81 args).run Try.prog w = .ok (.enter 81 args) w := enters_of Try.func81 (by kernel_rfl) rfl
  have hP : PredAt Try.prog 82 #[.pointer (some ⟨w.heap.size, 0, none⟩)] encR otherR (w.alloc (.cells #[.func (.func 81) #[] #[]] 101)) :=
    fun W x hB => is_other w.heap.size x _ W (by simp) (by rw [Lib.cell_of_heap (heap_alloc_new w _)]; rfl) hB
  have hC : ∀ W, Below (w.alloc (.cells #[.func (.func 81) #[] #[]] 101)).heap.size (w.alloc (.cells #[.func (.func 81) #[] #[]] 101)) W → Calls Try.prog 83 #[.string s, .func (.func 82) #[] #[.pointer (some ⟨w.heap.size, 0, none⟩)]] W
      fun e w' => e = .returned (.bool (!s.data.toList.all U.nameB2)) ∧ Below W.heap.size W w' := fun W hB => by
    have h := Try.strings_ContainsFunc 82 #[.pointer (some ⟨w.heap.size, 0, none⟩)] (enters_of Try.func82 (by kernel_rfl) rfl) otherR s W (hP.later hB)
    rw [idx_name] at h
    exact h
  clear hP
  cases hs1 : U.small (s[0]'h0s) with
  | false =>
    rw [hs1] at hL
    have hr : R = false := by
      cases R with
      | false => rfl
      | true => have := (HI.out.1 rfl).2.2.1 _ HB.out; rw [hs1] at this; cases this
    subst hr
    have HL := Lib.hid hL
    have HE := Lib.hid (And.intro hno h0)
    clear hno h0 hR hl hb hL hC hs1
    go_enter Try.func70, Try.ntmps70
    obtain ⟨Y, F, hF1, hF2, hF3, hF4⟩ := cell_class (wr := w.alloc (.cells #[.func (.func 81) #[] #[]] 101)) (p := ⟨w.heap.size, 0, none⟩) (v := .func (.func 81) #[] #[]) (by rw [Lib.cell_of_heap (heap_alloc_new w _)]; rfl) (by simp)
    have hY : Nonempty Y := hF3.elim fun x _ => ⟨x⟩
    have hbF := fun x => ((Below.refl w.heap.size w).alloc (Nat.le_refl _) (.cells #[.func (.func 81) #[] #[]] 101)).trans ((hF2 x).mono (by simp))
    go_wp2_with fail
    refine wp_calm Y F (by kernel_rfl) (by kernel_rfl) hF3 ?_
    repeat (go_big_quiet_step (first
      | (go_at_fn 81; refine (HL.out _).mono ?_; rintro e w' ⟨rfl, rfl⟩; exact ⟨rfl, _, rfl⟩)))
    refine wpQuiet_nil ?_
    rintro _ ⟨x9, rfl⟩
    go_wp2_with fail
    go_ret
    exact ⟨rfl, hbF x9⟩
  | true =>
    rw [hs1] at hL
    have hr : R = s.data.toList.all U.nameB2 := by
      cases R with
      | true => exact (HI.out.1 rfl).2.2.2.symm
      | false =>
        cases ha : s.data.toList.all U.nameB2 with
        | false => rfl
        | true => exact (HI.out.2 ⟨by omega, by omega, fun b hb2 => by have := HB.out.symm.trans hb2; injection this with this; exact this ▸ hs1, ha⟩)
    rw [← hr] at hC
    have HC := Lib.hid hC
    have HL := Lib.hid hL
    have HE := Lib.hid (And.intro hno h0)
    clear hno h0 hR hl hb hL hC hs1 hr
    go_enter Try.func70, Try.ntmps70
    obtain ⟨Y, F, hF1, hF2, hF3, hF4⟩ := cell_class (wr := w.alloc (.cells #[.func (.func 81) #[] #[]] 101)) (p := ⟨w.heap.size, 0, none⟩) (v := .func (.func 81) #[] #[]) (by rw [Lib.cell_of_heap (heap_alloc_new w _)]; rfl) (by simp)
    have hY : Nonempty Y := hF3.elim fun x _ => ⟨x⟩
    have hbF := fun x => ((Below.refl w.heap.size w).alloc (Nat.le_refl _) (.cells #[.func (.func 81) #[] #[]] 101)).trans ((hF2 x).mono (by simp))
    go_wp2_with fail
    refine wp_calm Y F (by kernel_rfl) (by kernel_rfl) hF3 ?_
    repeat (go_big_quiet_step (first
      | (go_at_fn 81; refine (HL.out _).mono ?_; rintro e w' ⟨rfl, rfl⟩; exact ⟨rfl, _, rfl⟩)
      | (go_at_call 83; refine (HC.out _ (hF2 _)).mono ?_; rintro e w' ⟨rfl, hb'⟩; exact ⟨rfl, hF4 _ _ hb'⟩)))
    refine wpQuiet_nil ?_
    rintro _ ⟨x9, rfl⟩
    go_wp2_with fail
    go_ret
    exact ⟨by simp, hbF x9⟩

end Go.Proofs.Ytmfkefcdddoooaa

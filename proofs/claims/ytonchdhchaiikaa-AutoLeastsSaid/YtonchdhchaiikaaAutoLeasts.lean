/-
  For all arguments: AutoLeasts returns true, and the arguments read as before: auto.Least answers what the document says.
-/
import Derived.Test.YtonchdhchaiikaaAuLeast
import Derived.Test.YtonchdhchaiikaaOpenAu
import Derived.Deep.RegionWith
namespace Go.Proofs.Ytonchdhchaiikaa.autoLeasts
open Go.ChangeShapes Go.WideShapes Go.ChangeAt Go.RowKit

set_option maxHeartbeats 4000000 in
set_option maxRecDepth 1000000 in
theorem least_no (a : U.Au) (nv fv : Value) (w : World) (hR : RdAu w (· < w.heap.size) nv fv a) (hm : a.may = false) :
    Calls Try.prog 20 #[auVal nv fv] w (LeastPost ([], 4) w) := by
  have hbN := (Below.refl w.heap.size w).alloc (Nat.le_refl _) (auObj nv fv)
  have HM := Lib.hid (fun W (hB : Below w.heap.size w W) => auto_may a nv fv W (hR.below hB hB.size))
  rw [hm] at HM
  unfold auObj at hbN
  unfold auVal at HM ⊢
  have HB := Lib.hid hbN
  clear hbN hR hm
  go_enter Try.func20, Try.ntmps20
  go_wp2_with fail
  refine (HM.out _ HB.out).mono ?_
  rintro e w2 ⟨rfl, hb2⟩
  have t2 := HB.out.trans (hb2.mono HB.out.size)
  clear hb2 HM HB
  go_wp2_with fail
  go_ret2
  exact ⟨_, rfl, RdI.nil _ _, t2⟩
set_option maxHeartbeats 4000000 in
set_option maxRecDepth 1000000 in
/-- two slices that read alike -/
theorem same_ints (l : List Int) (v v2 : Value) (w : World) (h1 : RdI w (· < w.heap.size) v l) (h2 : RdI w (· < w.heap.size) v2 l) :
    Calls Try.prog 22 #[v, v2] w fun e w' => e = .returned (.bool true) ∧ Below w.heap.size w w' := by
  obtain ⟨ao, cap, rfl, hc, hm⟩ := RdL.form h1
  obtain ⟨bo, cap2, rfl, _, _⟩ := RdL.form h2
  unfold maxLen at hm
  have hl : (l.length : Int) ≤ 9223372036854775807 := by omega
  have H1 := Lib.hid h1
  have H2 := Lib.hid h2
  clear h1 h2 hc hm
  go_enter Try.func22, Try.ntmps22
  go_wp2_with fail
  go_loopw [5] (fun i wr => ∃ k : Nat, k ≤ l.length ∧ i = .int .i64 k ∧ Below w.heap.size w wr) (fun i _ => l.length - (intOf i).toNat)
  case atStart => exact ⟨0, Nat.zero_le _, rfl, Below.refl _ _⟩
  case round =>
    obtain ⟨k, hk, rfl, hbw⟩ := hrel
    by_cases hlt : k < l.length
    · have hx := List.getElem?_eq_getElem hlt
      generalize l[k]'hlt = x at hx
      obtain ⟨g, o, c, pv, e0, hg, d0, rfl⟩ := RdL.at H1.out hx
      injection e0 with e1 e2 e3
      subst e1
      subst e3
      obtain ⟨g2, o2, c, pv, e0, hg2, d1, rfl⟩ := RdL.at H2.out hx
      injection e0 with e1 e2 e3
      subst e1
      subst e3
      have c0 := (hbw.cell (p := ⟨g, o + k, none⟩) hg).trans d0
      have c1 := (hbw.cell (p := ⟨g2, o2 + k, none⟩) hg2).trans d1
      have hk0 : (0 : Int) ≤ (k : Int) := Int.natCast_nonneg _
      have hk1 : (k : Int) < (l.length : Int) := by omega
      have HLT := Lib.hid hlt
      clear hx e2 d0 d1 hlt
      go_wp2_with fail
      go_quiet (fail)
      go_wp2_with fail
      go_roundw
      case rel => exact ⟨k + 1, HLT.out, by go_num, Below.drewNN hbw _⟩
      case measure => have := HLT.out; simp [intOf]; omega
    · go_wp2_with fail
      go_ret
      exact ⟨rfl, hbw⟩
set_option maxHeartbeats 4000000 in
set_option maxRecDepth 1000000 in
theorem walk (a : U.Au) (nv fv : Value) (w : World) (hR : RdAu w (· < w.heap.size) nv fv a) :
    Calls Try.prog 8 #[auVal nv fv] w fun e w' => e = .returned (.bool true) ∧ Below w.heap.size w w' := by
  have HBN := Lib.hid ((Below.refl w.heap.size w).alloc (Nat.le_refl _) (.cells #[nv, fv] 25 (0, 0)))
  have HQ := Lib.hid (heap_alloc_new w (.cells #[nv, fv] 25 (0, 0)))
  cases hm : a.may with
  | false =>
    have H1 := Lib.hid (fun W (hB : Below w.heap.size w W) => least_no a nv fv W (hR.below hB hB.size) hm)
    have H2 := Lib.hid (fun W (hB : Below w.heap.size w W) => ref_least_no a nv fv W (hR.below hB hB.size) hm)
    generalize (([], 4) : List Int × Nat) = P at H1 H2
    unfold auVal at H1 H2 ⊢
    clear hR hm
    go_enter Try.func8, Try.ntmps8
    go_wp2_with fail
    refine (H1.out _ HBN.out).mono ?_
    rintro e w2 ⟨v1, rfl, hr1, hb2⟩
    have t2 := HBN.out.trans (hb2.mono HBN.out.size)
    have Q2 := Lib.hid ((hb2.block w.heap.size (by simp)).trans HQ.out)
    have u20 := (au_cells Q2.out).1
    have u21 := (au_cells Q2.out).2
    clear hb2 HBN HQ H1
    go_wp2_with fail
    refine (H2.out _ t2).mono ?_
    rintro e w3 ⟨v2, rfl, hr2, hb3⟩
    have H3 := Lib.hid (same_ints P.1 v1 v2 w3 (hr1.below hb3 hb3.size) hr2)
    have t3 := t2.trans (hb3.mono t2.size)
    clear H2 hr1 hr2 hb3 u20 u21
    go_wp2_with fail
    refine H3.out.mono ?_
    rintro e w4 ⟨rfl, hb4⟩
    have t4 := t3.trans (hb4.mono t3.size)
    clear H3 hb4
    go_wp2_with fail
    go_ret
    exact ⟨by first | rfl | simp, t4⟩
  | true =>
    have H1 := Lib.hid (fun W (hB : Below w.heap.size w W) => auto_least a nv fv W (hR.below hB hB.size) hm)
    have HH := Lib.hid (fun D hD W (hB : Below w.heap.size w W) => ref_least a nv fv W (hR.below hB hB.size) hm D hD)
    unfold auVal at H1 HH ⊢
    clear hR hm
    go_enter Try.func8, Try.ntmps8
    go_wp2_with fail
    refine (H1.out _ HBN.out).mono ?_
    rintro e w2 ⟨D, hD, v1, rfl, hr1, hb2⟩
    have H2 := Lib.hid (HH.out D hD)
    generalize U.leastD a.next D = P at H2 hr1 ⊢
    clear HH hD
    have t2 := HBN.out.trans (hb2.mono HBN.out.size)
    have Q2 := Lib.hid ((hb2.block w.heap.size (by simp)).trans HQ.out)
    have u20 := (au_cells Q2.out).1
    have u21 := (au_cells Q2.out).2
    clear hb2 HBN HQ H1
    go_wp2_with fail
    refine (H2.out _ t2).mono ?_
    rintro e w3 ⟨v2, rfl, hr2, hb3⟩
    have H3 := Lib.hid (same_ints P.1 v1 v2 w3 (hr1.below hb3 hb3.size) hr2)
    have t3 := t2.trans (hb3.mono t2.size)
    clear H2 hr1 hr2 hb3 u20 u21
    go_wp2_with fail
    refine H3.out.mono ?_
    rintro e w4 ⟨rfl, hb4⟩
    have t4 := t3.trans (hb4.mono t3.size)
    clear H3 hb4
    go_wp2_with fail
    go_ret
    exact ⟨by first | rfl | simp, t4⟩


set_option maxRecDepth 100000 in
theorem lifted (os : Os) (started : os.Started) (H : Type) (enc : TypeId × Value → H) :
    ReturnsInHanded {} Try.checked os 8 .any (Rows.autoLeastsSpec.pre6 enc Try.prog Try.f8 Rows.autoLeastsRow.domain false) (Rows.autoLeastsSpec.post enc Try.prog Try.f8 false true false false) := by
  refine returnsInHanded_of_change (C := Try.checked) own started (by kernel_rfl) Try.func8
    (ChangeSpec.witness6 (enc := enc) (C := Try.checked) false ⟨#[], #[.agg #[.slice none 0 0, .slice none 0 0]], []⟩ 8 (by kernel_rfl) (by kernel_rfl) (by kernel_rfl) (by kernel_rfl)) ?_
  intro W base args ds gs before hval hW _ _
  obtain ⟨a, nv, fv, d1, rfl, rfl, rfl, hR⟩ := open_one_au Try.params8 rfl hval hW
  refine (walk a nv fv W hR).mono fun e W' ⟨he, hbw⟩ => ?_
  subst he
  exact ⟨_, rfl, law_post laidOut (by decide +kernel) (by kernel_rfl) Try.underlying4 rfl rfl hW hbw⟩

theorem proved : Rows.AutoLeastsSaid :=
  OpenClaim.holds_of_wide 8 Try.f8 rfl rfl rfl rfl rfl rfl rfl ⟨rfl, rfl, rfl, rfl, rfl⟩ rfl rfl rfl rfl rfl (by kernel_rfl) Try.func8 (by kernel_rfl)
    (of_decide_eq_true (by kernel_rfl)) (by unfold Func.isWrapper; first | (rw [if_pos (by decide +kernel)]; kernel_rfl) | (rw [if_neg (by decide +kernel)]; exact ⟨rfl, rfl⟩))
    (fun os started H enc _ => lifted os started H enc)
end Go.Proofs.Ytonchdhchaiikaa.autoLeasts

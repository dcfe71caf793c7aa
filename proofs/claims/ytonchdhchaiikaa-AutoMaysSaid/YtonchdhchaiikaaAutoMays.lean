/-
  For all arguments: AutoMays returns true, and the arguments read as before: auto.May answers what the document says.
-/
import Derived.Test.YtonchdhchaiikaaAuRefMay
import Derived.Test.YtonchdhchaiikaaOpenAu
import Derived.Deep.RegionWith
namespace Go.Proofs.Ytonchdhchaiikaa.autoMays
open Go.ChangeShapes Go.WideShapes Go.ChangeAt Go.RowKit

set_option maxHeartbeats 4000000 in
set_option maxRecDepth 1000000 in
theorem walk (a : U.Au) (nv fv : Value) (w : World) (hR : RdAu w (· < w.heap.size) nv fv a) :
    Calls Try.prog 3 #[auVal nv fv] w fun e w' => e = .returned (.bool true) ∧ Below w.heap.size w w' := by
  have HBN := Lib.hid ((Below.refl w.heap.size w).alloc (Nat.le_refl _) (.cells #[nv, fv] 25 (0, 0)))
  have HQ := Lib.hid (heap_alloc_new w (.cells #[nv, fv] 25 (0, 0)))
  have H1 := Lib.hid (fun W (hB : Below w.heap.size w W) => auto_may a nv fv W (hR.below hB hB.size))
  have H2 := Lib.hid (fun W (hB : Below w.heap.size w W) => ref_may a nv fv W (hR.below hB hB.size))
  generalize a.may = R at H1 H2
  unfold auVal at H1 H2 ⊢
  clear hR
  go_enter Try.func3, Try.ntmps3
  have HBD := Lib.hid HBN.out.drew
  go_wp2_with fail
  go_region_with (first
    | (go_at_call 9; refine (H1.out _ HBD.out).mono ?_; rintro e w2 ⟨rfl, hb2⟩; have t2 := HBD.out.trans (hb2.mono HBD.out.size); have Q2 := Lib.hid ((hb2.block w.heap.size (by simp)).trans HQ.out); have u20 := (au_cells Q2.out).1; have u21 := (au_cells Q2.out).2)
    | (go_at_call 10; refine (H2.out _ t2).mono ?_; rintro e w3 ⟨rfl, hb3⟩))
  all_goals
    go_wp2_with fail
    go_ret
    exact ⟨by first | rfl | simp, t2.trans (hb3.mono t2.size)⟩


set_option maxRecDepth 100000 in
theorem lifted (os : Os) (started : os.Started) (H : Type) (enc : TypeId × Value → H) :
    ReturnsInHanded {} Try.checked os 3 .any (Rows.autoMaysSpec.pre6 enc Try.prog Try.f3 Rows.autoMaysRow.domain false) (Rows.autoMaysSpec.post enc Try.prog Try.f3 false true false false) := by
  refine returnsInHanded_of_change (C := Try.checked) own started (by kernel_rfl) Try.func3
    (ChangeSpec.witness6 (enc := enc) (C := Try.checked) false ⟨#[], #[.agg #[.slice none 0 0, .slice none 0 0]], []⟩ 8 (by kernel_rfl) (by kernel_rfl) (by kernel_rfl) (by kernel_rfl)) ?_
  intro W base args ds gs before hval hW _ _
  obtain ⟨a, nv, fv, d1, rfl, rfl, rfl, hR⟩ := open_one_au Try.params3 rfl hval hW
  refine (walk a nv fv W hR).mono fun e W' ⟨he, hbw⟩ => ?_
  subst he
  exact ⟨_, rfl, law_post laidOut (by decide +kernel) (by kernel_rfl) Try.underlying4 rfl rfl hW hbw⟩

theorem proved : Rows.AutoMaysSaid :=
  OpenClaim.holds_of_wide 3 Try.f3 rfl rfl rfl rfl rfl rfl rfl ⟨rfl, rfl, rfl, rfl, rfl⟩ rfl rfl rfl rfl rfl (by kernel_rfl) Try.func3 (by kernel_rfl)
    (of_decide_eq_true (by kernel_rfl)) (by unfold Func.isWrapper; first | (rw [if_pos (by decide +kernel)]; kernel_rfl) | (rw [if_neg (by decide +kernel)]; exact ⟨rfl, rfl⟩))
    (fun os started H enc _ => lifted os started H enc)
end Go.Proofs.Ytonchdhchaiikaa.autoMays

/-
  For all arguments: AutoRuns returns true, and the arguments read as before: auto.Run answers what the document says.
-/
import Derived.Test.YtonchdhchaiikaaAuRun
import Derived.Test.YtonchdhchaiikaaAuRefRun
import Derived.Test.YtonchdhchaiikaaOpenAu
import Derived.Deep.RegionWith
namespace Go.Proofs.Ytonchdhchaiikaa.autoRuns
open Go.ChangeShapes Go.WideShapes Go.ChangeAt Go.RowKit

set_option maxHeartbeats 4000000 in
set_option maxRecDepth 1000000 in
theorem walk (a : U.Au) (nv fv : Value) (l : List Int) (v : Value) (w : World) (hR : RdAu w (· < w.heap.size) nv fv a) (hL : RdI w (· < w.heap.size) v l) :
    Calls Try.prog 4 #[auVal nv fv, v] w fun e w' => e = .returned (.bool true) ∧ Below w.heap.size w w' := by
  have HBN := Lib.hid ((Below.refl w.heap.size w).alloc (Nat.le_refl _) (.cells #[nv, fv] 25 (0, 0)))
  have HQ := Lib.hid (heap_alloc_new w (.cells #[nv, fv] 25 (0, 0)))
  have H1 := Lib.hid (fun W (hB : Below w.heap.size w W) => auto_run a nv fv l v W (hR.below hB hB.size) (hL.below hB hB.size))
  have H2 := Lib.hid (fun W (hB : Below w.heap.size w W) => ref_run a nv fv l v W (hR.below hB hB.size) (hL.below hB hB.size))
  generalize (a.run l).1 = R1 at H1 H2
  generalize (a.run l).2 = R2 at H1 H2
  clear hL
  unfold auVal at H1 H2 ⊢
  clear hR
  go_enter Try.func4, Try.ntmps4
  go_wp2_with fail
  refine (H1.out _ HBN.out).mono ?_
  rintro e w2 ⟨rfl, hb2⟩
  have t2 := HBN.out.trans (hb2.mono HBN.out.size)
  have Q2 := Lib.hid ((hb2.block w.heap.size (by simp)).trans HQ.out)
  have u20 := (au_cells Q2.out).1
  have u21 := (au_cells Q2.out).2
  clear hb2 HBN HQ H1
  go_wp2_with fail
  refine (H2.out _ t2).mono ?_
  rintro e w3 ⟨rfl, hb3⟩
  clear H2
  go_wp2_with fail
  go_ret
  exact ⟨by first | rfl | simp, t2.trans (hb3.mono t2.size)⟩


set_option maxRecDepth 100000 in
theorem lifted (os : Os) (started : os.Started) (H : Type) (enc : TypeId × Value → H) :
    ReturnsInHanded {} Try.checked os 4 .any (Rows.autoRunsSpec.pre6 enc Try.prog Try.f4 Rows.autoRunsRow.domain false) (Rows.autoRunsSpec.post enc Try.prog Try.f4 false true false false) := by
  refine returnsInHanded_of_change (C := Try.checked) own started (by kernel_rfl) Try.func4
    (ChangeSpec.witness6 (enc := enc) (C := Try.checked) false ⟨#[], #[.agg #[.slice none 0 0, .slice none 0 0], .slice none 0 0], []⟩ 8 (by kernel_rfl) (by kernel_rfl) (by kernel_rfl) (by kernel_rfl)) ?_
  intro W base args ds gs before hval hW _ _
  obtain ⟨a, nv, fv, l, v, d1, d2, rfl, rfl, rfl, hR, hL⟩ := open_au_row Try.params4 rfl hval hW
  refine (walk a nv fv l v W hR hL).mono fun e W' ⟨he, hbw⟩ => ?_
  subst he
  exact ⟨_, rfl, law_post laidOut (by decide +kernel) (by kernel_rfl) Try.underlying4 rfl rfl hW hbw⟩

theorem proved : Rows.AutoRunsSaid :=
  OpenClaim.holds_of_wide 4 Try.f4 rfl rfl rfl rfl rfl rfl rfl ⟨rfl, rfl, rfl, rfl, rfl⟩ rfl rfl rfl rfl rfl (by kernel_rfl) Try.func4 (by kernel_rfl)
    (of_decide_eq_true (by kernel_rfl)) (by unfold Func.isWrapper; first | (rw [if_pos (by decide +kernel)]; kernel_rfl) | (rw [if_neg (by decide +kernel)]; exact ⟨rfl, rfl⟩))
    (fun os started H enc _ => lifted os started H enc)
end Go.Proofs.Ytonchdhchaiikaa.autoRuns

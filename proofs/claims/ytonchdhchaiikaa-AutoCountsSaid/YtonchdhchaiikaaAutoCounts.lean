/-
  For all arguments: AutoCounts returns true, and the arguments read as before: auto.Count answers what the document says.
-/
import Derived.Test.YtonchdhchaiikaaAuCount
import Derived.Test.YtonchdhchaiikaaAuRefCount
import Derived.Test.YtonchdhchaiikaaOpenAu
import Derived.Deep.RegionWith
namespace Go.Proofs.Ytonchdhchaiikaa.autoCounts
open Go.ChangeShapes Go.WideShapes Go.ChangeAt Go.RowKit

set_option maxHeartbeats 4000000 in
set_option maxRecDepth 1000000 in
theorem walk (a : U.Au) (nv fv : Value) (n : Int) (w : World) (hR : RdAu w (· < w.heap.size) nv fv a) :
    Calls Try.prog 7 #[auVal nv fv, .int .i64 n] w fun e w' => e = .returned (.bool true) ∧ Below w.heap.size w w' := by
  have HBN := Lib.hid ((Below.refl w.heap.size w).alloc (Nat.le_refl _) (.cells #[nv, fv] 25 (0, 0)))
  have HQ := Lib.hid (heap_alloc_new w (.cells #[nv, fv] 25 (0, 0)))
  have H1 := Lib.hid (fun W (hB : Below w.heap.size w W) => auto_count a nv fv n W (hR.below hB hB.size))
  have H2 := Lib.hid (fun W (hB : Below w.heap.size w W) => ref_count a nv fv n W (hR.below hB hB.size))
  generalize (a.count n).1 = R1 at H1 H2
  generalize (a.count n).2 = R2 at H1 H2
  unfold auVal at H1 H2 ⊢
  clear hR
  go_enter Try.func7, Try.ntmps7
  go_wp2_with fail
  refine (H1.out _ HBN.out).mono ?_
  rintro e w2 ⟨rfl, hb2⟩
  have t2 := HBN.out.trans (hb2.mono HBN.out.size)
  have Q2 := Lib.hid ((hb2.block w.heap.size (by simp)).trans HQ.out)
  have u20 := (au_cells Q2.out).1
  have u21 := (au_cells Q2.out).2
  clear hb2 HBN HQ H1
  go_wp2_with fail
  refine (H2.out _ t2).mono ?_
  rintro e w3 ⟨rfl, hb3⟩
  clear H2
  go_wp2_with fail
  go_ret
  exact ⟨by first | rfl | simp, t2.trans (hb3.mono t2.size)⟩


set_option maxRecDepth 100000 in
theorem lifted (os : Os) (started : os.Started) (H : Type) (enc : TypeId × Value → H) :
    ReturnsInHanded {} Try.checked os 7 .any (Rows.autoCountsSpec.pre6 enc Try.prog Try.f7 Rows.autoCountsRow.domain false) (Rows.autoCountsSpec.post enc Try.prog Try.f7 false true false false) := by
  refine returnsInHanded_of_change (C := Try.checked) own started (by kernel_rfl) Try.func7
    (ChangeSpec.witness6 (enc := enc) (C := Try.checked) false ⟨#[], #[.agg #[.slice none 0 0, .slice none 0 0], .int .i64 0], []⟩ 8 (by kernel_rfl) (by kernel_rfl) (by kernel_rfl) (by kernel_rfl)) ?_
  intro W base args ds gs before hval hW _ _
  obtain ⟨a, nv, fv, n, d1, d2, rfl, rfl, rfl, hR, _⟩ := open_au_int Try.params7 rfl hval hW
  refine (walk a nv fv n W hR).mono fun e W' ⟨he, hbw⟩ => ?_
  subst he
  exact ⟨_, rfl, law_post laidOut (by decide +kernel) (by kernel_rfl) Try.underlying4 rfl rfl hW hbw⟩

theorem proved : Rows.AutoCountsSaid :=
  OpenClaim.holds_of_wide 7 Try.f7 rfl rfl rfl rfl rfl rfl rfl ⟨rfl, rfl, rfl, rfl, rfl⟩ rfl rfl rfl rfl rfl (by kernel_rfl) Try.func7 (by kernel_rfl)
    (of_decide_eq_true (by kernel_rfl)) (by unfold Func.isWrapper; first | (rw [if_pos (by decide +kernel)]; kernel_rfl) | (rw [if_neg (by decide +kernel)]; exact ⟨rfl, rfl⟩))
    (fun os started H enc _ => lifted os started H enc)
end Go.Proofs.Ytonchdhchaiikaa.autoCounts

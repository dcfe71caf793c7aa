/-
  For all arguments of bulk at most 1048576: ExprChecks returns true, and the argument reads as before: expr.Check answers what the document says.
-/
import Derived.Test.YtfloeijklogcfaaOpen
import Derived.Test.YtfloeijklogcfaaOpenEx
import Derived.Test.YtfloeijklogcfaaExCheck
import Derived.Test.YtfloeijklogcfaaExRefTop
import Derived.Deep.RegionWith
namespace Go.Proofs.Ytfloeijklogcfaa.exprChecks
open Go.ChangeShapes Go.WideShapes Go.ChangeAt Go.RowKit

theorem mk_of_listE (s : ByteArray) : ByteArray.mk s.data.toList.toArray = s := by cases s; simp
set_option maxHeartbeats 4000000 in
set_option maxRecDepth 1000000 in
theorem walk (x : U.Ex) (pa : Option Addr) (pcap : Nat) (w : World) (hP : RdExs w (· < w.heap.size) (.slice pa x.parts.length pcap) x.parts) (hc : U.cntE x ≤ 1048576) :
    Calls Try.prog 3 #[exVal x (.slice pa x.parts.length pcap)] w fun e w' => e = .returned (.bool true) ∧ Below w.heap.size w w' := by
  have HBN := Lib.hid ((Below.refl w.heap.size w).alloc (Nat.le_refl _) (.cells #[.int .i64 x.kind, .int .i64 x.type, .slice pa x.parts.length pcap] 24 (0, 0)))
  have HQ := Lib.hid (heap_alloc_new w (.cells #[.int .i64 x.kind, .int .i64 x.type, .slice pa x.parts.length pcap] 24 (0, 0)))
  have H1 := Lib.hid (fun W (hB : Below w.heap.size w W) => expr_check x pa pcap W (hP.below hB hB.size) hc)
  have H2 := Lib.hid (fun W (hB : Below w.heap.size w W) => ref_fault x pa pcap W (hP.below hB hB.size) hc)
  generalize U.exFault x = R at H1 H2
  unfold exVal at H1 H2 ⊢
  clear hP hc
  go_enter Try.func3, Try.ntmps3
  have HBD := Lib.hid HBN.out.drew
  go_wp2_with fail
  go_region_with (first
    | (go_at_call 7; refine (H1.out _ HBD.out).mono ?_; rintro e w2 ⟨rfl, hb2⟩; have t2 := HBD.out.trans (hb2.mono HBD.out.size); have Q2 := Lib.hid ((hb2.block w.heap.size (by simp)).trans HQ.out); have u20 := (ex_cells Q2.out).1; have u21 := (ex_cells Q2.out).2.1; have u22 := (ex_cells Q2.out).2.2)
    | (go_at_call 8; refine (H2.out _ t2).mono ?_; rintro e w3 ⟨rfl, hb3⟩))
  all_goals
    go_wp2_with fail
    go_ret
    exact ⟨rfl, t2.trans (hb3.mono t2.size)⟩


set_option maxRecDepth 100000 in
theorem lifted (os : Os) (started : os.Started) (H : Type) (enc : TypeId × Value → H) (F : Stop.Interp) :
    ReturnsInHanded {} Try.checked os 3 .any ((Rows.OpenSpec.upto Rows.exprChecksSpec).pre6 enc Try.prog Try.f3 Rows.exprChecksUptoRow.domain false) (((Rows.OpenSpec.upto Rows.exprChecksSpec).at F).post enc Try.prog Try.f3 false true false false) := by
  refine returnsInHanded_of_cond (C := Try.checked) (s := Rows.OpenSpec.upto Rows.exprChecksSpec) (k := Rows.uptoSmall) rfl own started (by kernel_rfl) Try.func3
    (OpenSpec.witness (enc := enc) (C := Try.checked) (s := Rows.OpenSpec.upto Rows.exprChecksSpec) (k := Rows.uptoSmall) rfl false ⟨#[], #[.agg #[.int .i64 0, .int .i64 0, .slice none 0 0]], []⟩ 8 (by kernel_rfl) (by kernel_rfl) (by kernel_rfl)
      (x := ([.agg [.lit (.int .i64 0), .lit (.int .i64 0), .nil]], [], [])) (by kernel_rfl) rfl (by kernel_rfl)) ?_
  intro W base args ds gs before hval hW _ hk _
  obtain ⟨x, pv, d1, rfl, rfl, rfl, hR, hc, _⟩ := open_one_ex Try.params3 rfl hval hW
  obtain ⟨pa, pcap, rfl, _, _⟩ := hR.form
  refine (walk x pa pcap W hR (Nat.le_trans hc (short_bulk hk))).mono fun e W' ⟨he, hbw⟩ => ?_
  subst he
  exact ⟨_, rfl, law_post laidOut (by decide +kernel) (by kernel_rfl) Try.underlying4 rfl rfl hW hbw⟩

theorem proved : Rows.ExprChecksUptoSaid :=
  OpenClaim.holds_of_cond 3 Try.f3 rfl rfl rfl rfl rfl rfl rfl ⟨rfl, rfl, rfl, rfl, rfl⟩ rfl rfl rfl rfl rfl (by kernel_rfl) Try.func3 (by kernel_rfl)
    (of_decide_eq_true (by kernel_rfl)) (by unfold Func.isWrapper; first | (rw [if_pos (by decide +kernel)]; kernel_rfl) | (rw [if_neg (by decide +kernel)]; exact ⟨rfl, rfl⟩))
    (fun os started H enc _ F => lifted os started H enc F)
end Go.Proofs.Ytfloeijklogcfaa.exprChecks

/- Several texts in one: TokLaid, TokSmalls, StrRow. -/
import Derived.Test.YtcdgiohogddbkaaGreatDoorRows
import Derived.LaidMore
import Derived.LaidHandle
import Derived.MakeChecks
import Derived.Stop.LaidErr
import Derived.Deep.DeepHandedRow
import Derived.Deep.DeepWitnessRowRef
import Derived.Lay
import Derived.Shelf.Vars
import Derived.Outline
import Derived.Laws.IdiomStrings
import Derived.Lib.BufferRead
import Derived.Test.YtcdgiohogddbkaaGreatDoorP10
import Derived.Test.YtcdgiohogddbkaaGreatDoorP00
import Derived.Test.YtcdgiohogddbkaaGreatDoorP03
namespace Go.Proofs.YtcdgiohogddbkaaGreatDoor
open Go.ChangeShapes Go.WideShapes Go.ChangeAt Go.RowKit

theorem gSyn : Tryz.prog.globalNamed "strconv.ErrSyntax" = some 3 := by kernel_rfl
theorem gSynType : (Tryz.prog.globals[3]?).map (·.type) = some 61 := by kernel_rfl
theorem starName : "*" ++ "errors.errorString" = "*errors.errorString" := by decide
theorem rowName (u : TypeId) (h : Tryz.prog.typeName? 3 u = some "*errors.errorString") : u = 120 :=
  typeName_ptr_named (nm := "errors.errorString") (by rw [starName]; kernel_rfl) (by kernel_rfl) (by decide) u (by rw [starName]; exact h)
theorem cellsErr : Tryz.prog.cellsOf 122 = 1 := by kernel_rfl
theorem cellsStr : Tryz.prog.cellsOf 9 = 1 := by kernel_rfl

abbrev laidList : List (String × DataW Unit) := Rows.tokParsesRow.laid
/-- what the list gives the walks -/
theorem errS_of_laid {W : World} (h : laidMetH Tryz.prog laidList W) : ErrS W := by
  rw [MakeChecks.laidMetH_plain _ _ _ (by kernel_rfl)] at h
  obtain ⟨a0, s0, hv0, _⟩ := laid_sentinel (laidMet.tail (laidMet.tail (laidMet.tail (laidMet.tail (laidMet.tail h))))) gSyn gSynType Tryz.underlying61 rowName Tryz.underlying120 Tryz.underlying122 rfl rfl Tryz.underlying9 cellsErr cellsStr
  have := World.var?_cell gSyn hv0 0
  exact ⟨_, _, by simpa using this⟩
theorem max_of_shape {W : World} (h : W.ShapedOpen Tryz.prog) : ∃ m, W.cell? ⟨0, 0, none⟩ = some (.int .i64 m) :=
  cell_of_shapedOpen_int (t := 3) (zero := #[.int .i64 0]) h (by decide +kernel) (by kernel_rfl) rfl (by kernel_rfl) (by kernel_rfl) Tryz.underlying3
theorem glob_of {W : World} (h : laidMetH Tryz.prog laidList W) (hs : W.ShapedOpen Tryz.prog) : Glob W := ⟨max_of_shape hs, errS_of_laid h⟩

/-- a heap that meets the list -/
theorem door_met (os : Os) (args : Array Value) : laidMet Tryz.prog laidList ((World.laidAll Tryz.prog os laidList).forCall (fun _ _ => 0) ⟨#[], args, []⟩).memory :=
  laidMet_laidAll _ (by kernel_rfl) (by kernel_rfl)

end Go.Proofs.YtcdgiohogddbkaaGreatDoor

namespace Go.Proofs.YtcdgiohogddbkaaGreatDoor
open Go.RowKit

set_option maxHeartbeats 1000000 in
set_option maxRecDepth 100000 in
theorem is_space (b : UInt8) (w : World) : Calls Tryz.prog 30 #[.int .u8 b.toNat] w fun e w' => e = .returned (.bool (U.isSp b)) ∧ w = w' := by
  have hb := b.toNat_lt
  by_cases h1 : (b.toNat : Int) = 32
  · have t1 := beq_yes h1
    have hr : U.isSp b = true := by obtain rfl : b = 32 := (byte_eq (k := 32) (by decide)).1 (by omega); rfl
    rw [hr]
    go_enter Tryz.func30, Tryz.ntmps30
    go_wp2
    go_ret
    exact ⟨rfl, rfl⟩
  have t1 := beq_no h1
  by_cases h2 : (b.toNat : Int) = 9
  · have t2 := beq_yes h2
    have hr : U.isSp b = true := by obtain rfl : b = 9 := (byte_eq (k := 9) (by decide)).1 (by omega); rfl
    rw [hr]
    go_enter Tryz.func30, Tryz.ntmps30
    go_wp2
    go_ret
    exact ⟨rfl, rfl⟩
  have t2 := beq_no h2
  by_cases h3 : (b.toNat : Int) = 10
  · have t3 := beq_yes h3
    have hr : U.isSp b = true := by obtain rfl : b = 10 := (byte_eq (k := 10) (by decide)).1 (by omega); rfl
    rw [hr]
    go_enter Tryz.func30, Tryz.ntmps30
    go_wp2
    go_ret
    exact ⟨rfl, rfl⟩
  have t3 := beq_no h3
  by_cases h4 : (b.toNat : Int) = 12
  · have t4 := beq_yes h4
    have hr : U.isSp b = true := by obtain rfl : b = 12 := (byte_eq (k := 12) (by decide)).1 (by omega); rfl
    rw [hr]
    go_enter Tryz.func30, Tryz.ntmps30
    go_wp2
    go_ret
    exact ⟨rfl, rfl⟩
  have t4 := beq_no h4
  have hr : U.isSp b = false := by
    unfold U.isSp
    have n1 : (b == 32) = false := by rw [beq_eq_false_iff_ne]; exact fun e => h1 (by rw [e]; rfl)
    have n2 : (b == 9) = false := by rw [beq_eq_false_iff_ne]; exact fun e => h2 (by rw [e]; rfl)
    have n3 : (b == 10) = false := by rw [beq_eq_false_iff_ne]; exact fun e => h3 (by rw [e]; rfl)
    have n4 : (b == 12) = false := by rw [beq_eq_false_iff_ne]; exact fun e => h4 (by rw [e]; rfl)
    rw [n1, n2, n3, n4]; rfl
  rw [hr]
  clear h1 h2 h3 h4
  go_enter Tryz.func30, Tryz.ntmps30
  go_wp2
  go_ret
  exact ⟨rfl, rfl⟩

set_option maxHeartbeats 1000000 in
set_option maxRecDepth 100000 in
theorem is_alpha (b : UInt8) (w : World) : Calls Tryz.prog 27 #[.int .u8 b.toNat] w fun e w' => e = .returned (.bool (U.isAl b)) ∧ w = w' := by
  have hb := b.toNat_lt
  rcases Nat.lt_or_ge b.toNat 65 with h1 | h1
  · have hr : U.isAl b = false := by unfold U.isAl; rw [decide_eq_false (by omega : ¬ 97 ≤ b.toNat), decide_eq_false (by omega : ¬ 65 ≤ b.toNat)]; simp
    rw [hr]
    have d1 : decide (97 ≤ (b.toNat : Int)) = false := decide_eq_false (by omega)
    have d2 : decide (65 ≤ (b.toNat : Int)) = false := decide_eq_false (by omega)
    go_enter Tryz.func27, Tryz.ntmps27
    go_wp2
    go_ret
    exact ⟨rfl, rfl⟩
  rcases Nat.lt_or_ge b.toNat 91 with h2 | h2
  · have hr : U.isAl b = true := by unfold U.isAl; rw [decide_eq_true h1, decide_eq_true (by omega : b.toNat ≤ 90)]; simp
    rw [hr]
    have d1 : decide (97 ≤ (b.toNat : Int)) = false := decide_eq_false (by omega)
    have d2 : decide (65 ≤ (b.toNat : Int)) = true := decide_eq_true (by omega)
    have d3 : decide ((b.toNat : Int) ≤ 90) = true := decide_eq_true (by omega)
    go_enter Tryz.func27, Tryz.ntmps27
    go_wp2
    go_ret
    exact ⟨rfl, rfl⟩
  rcases Nat.lt_or_ge b.toNat 97 with h3 | h3
  · have hr : U.isAl b = false := by unfold U.isAl; rw [decide_eq_false (by omega : ¬ 97 ≤ b.toNat), decide_eq_false (by omega : ¬ b.toNat ≤ 90)]; simp
    rw [hr]
    have d1 : decide (97 ≤ (b.toNat : Int)) = false := decide_eq_false (by omega)
    have d2 : decide (65 ≤ (b.toNat : Int)) = true := decide_eq_true (by omega)
    have d3 : decide ((b.toNat : Int) ≤ 90) = false := decide_eq_false (by omega)
    go_enter Tryz.func27, Tryz.ntmps27
    go_wp2
    go_ret
    exact ⟨rfl, rfl⟩
  rcases Nat.lt_or_ge b.toNat 123 with h4 | h4
  · have hr : U.isAl b = true := by unfold U.isAl; rw [decide_eq_true h3, decide_eq_true (by omega : b.toNat ≤ 122)]; simp
    rw [hr]
    have d1 : decide (97 ≤ (b.toNat : Int)) = true := decide_eq_true (by omega)
    have d2 : decide ((b.toNat : Int) ≤ 122) = true := decide_eq_true (by omega)
    go_enter Tryz.func27, Tryz.ntmps27
    go_wp2
    go_ret
    exact ⟨rfl, rfl⟩
  · have hr : U.isAl b = false := by unfold U.isAl; rw [decide_eq_false (by omega : ¬ b.toNat ≤ 122), decide_eq_false (by omega : ¬ b.toNat ≤ 90)]; simp
    rw [hr]
    have d1 : decide (97 ≤ (b.toNat : Int)) = true := decide_eq_true (by omega)
    have d2 : decide ((b.toNat : Int) ≤ 122) = false := decide_eq_false (by omega)
    have d3 : decide (65 ≤ (b.toNat : Int)) = true := decide_eq_true (by omega)
    have d4 : decide ((b.toNat : Int) ≤ 90) = false := decide_eq_false (by omega)
    go_enter Tryz.func27, Tryz.ntmps27
    go_wp2
    go_ret
    exact ⟨rfl, rfl⟩

end Go.Proofs.YtcdgiohogddbkaaGreatDoor

namespace Go.Proofs.YtcdgiohogddbkaaGreatDoor
open Go.RowKit

theorem str_of_row {w : World} {B : Nat} {v : Value} {l : List UInt8} (h : w.ownsRow B 5 1 v l.length (Lib.byteCells l)) :
    (convert 56 9 v).run Tryz.prog w = .ok (.string ⟨l.toArray⟩) w := by
  rcases h.2 with ⟨rfl, h0⟩ | ⟨g, cap, cur, rfl, hb, hg, _⟩
  · have : l = [] := List.length_eq_zero_iff.1 h0
    subst this
    exact Lib.run_convert_nil_bytes w _ _ _ 0 Tryz.underlying56 Tryz.underlying5 Tryz.underlying9
  · exact run_convert_bytes_back w _ _ _ _ cap l Tryz.underlying56 Tryz.underlying5 Tryz.underlying9 (fun j hj => by
      exact h.cells (g := g) rfl j _ (by simp [Lib.byteCells, hj]))

end Go.Proofs.YtcdgiohogddbkaaGreatDoor

/- Markup: raw numbers made into pieces of markup: a text that is not too long. -/
import Derived.Test.YtkmjngpgngkalaaDoorRdT
import Derived.Test.YtkmjngpgngkalaaDoorPicked
import Derived.Test.YtkmjngpgngkalaaDoorPieces
import Derived.Deep.DeepCutAuto
import Derived.Deep.RegionHeld3
import Derived.Handy
import Derived.StillTactics
import Derived.StillTailTactics
import Derived.Deep.RegionWith
import Derived.Outline
namespace Go.Proofs.YtkmjngpgngkalaaDoor
open Go.RowKit

set_option maxHeartbeats 4000000 in
set_option maxRecDepth 1000000 in
theorem markup_walk (ao : Option Addr) (cap : Nat) (zs : List Int) (n : Nat) (w : World) (hr : Rd w w.heap.size ao zs) (hn : n ≤ 25) :
    Calls Tryd.prog 10 #[.slice ao zs.length cap, .int .i64 n] w fun e w' => ∃ T : ByteArray, e = .returned (.string T) ∧ T.size ≤ 20 * n ∧ Below w.heap.size w w' := by
  have HR := Lib.hid hr
  clear hr
  go_enter Tryd.func10, Tryd.ntmps10
  go_wp2_with fail
  go_loopw [5, 6] (fun t i wr => ∃ (k : Nat) (T : ByteArray), k ≤ zs.length ∧ k ≤ n ∧ i = .int .i64 k ∧ t = .string T ∧ Below w.heap.size w wr ∧ T.size ≤ 20 * k) (fun _ i _ => zs.length - (intOf i).toNat)
  case atStart => exact ⟨0, ⟨#[]⟩, Nat.zero_le _, Nat.zero_le _, rfl, rfl, Below.refl _ _, Nat.le_refl _⟩
  case round =>
    obtain ⟨k, T, hk, hkn, rfl, rfl, hbw, hT⟩ := hrel
    have hbs := hbw.size
    by_cases hlt : k < zs.length
    · by_cases hlt2 : k < n
      · obtain ⟨ad, rfl, hb, hc⟩ := (HR.out.below hbw) k zs[k] (List.getElem?_eq_getElem hlt)
        generalize zs[k] = z at *
        have hc2 : ∀ o, (wr.alloc o).cell? (ad.add k) = some (.int .i64 z) := fun o => by
          rw [World.cell?_alloc_lt wr o (ad.add k) (by rw [add_block]; omega)]
          exact hc
        have hk0 : (0 : Int) ≤ (k : Int) := Int.natCast_nonneg _
        have hk1 : (k : Int) < (zs.length : Int) := by omega
        have hj0 := Int.emod_nonneg z (b := 25) (by omega)
        have hj1 := Int.emod_lt_of_pos z (b := 25) (by omega)
        obtain ⟨j, hj, ej⟩ : ∃ j : Nat, j < 25 ∧ z % 25 = (j : Int) := ⟨(z % 25).toNat, by omega, by omega⟩
        clear hj0 hj1
        have EJ := Lib.hid ej
        clear ej
        have hlc := pm_cell j hj
        have hlg := pm_get j
        have hsz := pm_size j
        have hj0 : (0 : Int) ≤ (j : Int) := Int.natCast_nonneg _
        have hj1 : (j : Int) < 25 := by omega
        go_wp2_with ((go_at_call_of 9 (Value.int IntKind.i64 z); refine (picked_walk _ _ _ (by omega) (by omega)).mono ?_; rintro e w' ⟨rfl, rfl⟩; rw [EJ.out]))
        go_roundw
        case rel => exact ⟨k + 1, _, by omega, by omega, by go_num, rfl, by go_grown, by rw [ByteArray.size_append]; omega⟩
        case measure => simp [intOf]; omega
      · go_wp2_with fail
        go_ret
        exact ⟨T, rfl, by omega, hbw⟩
    · go_wp2_with fail
      go_ret
      exact ⟨T, rfl, by omega, hbw⟩

end Go.Proofs.YtkmjngpgngkalaaDoor

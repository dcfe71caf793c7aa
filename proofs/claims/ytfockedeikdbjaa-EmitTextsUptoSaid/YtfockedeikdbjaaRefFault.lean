/- The reference: EmitFault. -/
import Derived.Test.YtfockedeikdbjaaFaultK0
import Derived.Test.YtfockedeikdbjaaFaultK1
import Derived.Test.YtfockedeikdbjaaFaultK2
import Derived.Test.YtfockedeikdbjaaFaultK3
import Derived.Test.YtfockedeikdbjaaFaultK4
namespace Go.Proofs.Ytfockedeikdbjaa
open Go.RowKit

set_option maxHeartbeats 16000000 in
set_option maxRecDepth 1000000 in
theorem emit_fault (v : Value) (l : List U.Tk) (w : World) (hL : RdK w w.heap.size v l) (hz : l.length ≤ most) (hs : ∀ t ∈ l, Fits most t) :
    Calls Try.prog 7 #[v] w fun e w' => e = .returned (.int .i64 (U.fault l : Nat)) ∧ Below w.heap.size w w' := by
  obtain ⟨ao, cap, rfl, hc⟩ := hL
  obtain ⟨R, hR⟩ : ∃ R, U.fault l = R := ⟨_, rfl⟩
  rw [hR]
  have HR := Lib.hid hR
  have HC := Lib.hid hc
  have HS := Lib.hid hs
  clear hR hc hs
  unfold most at hz
  by_cases h300 : 300 < l.length
  · have hR2 : 1 = R := by rw [← HR.out]; unfold U.fault; rw [if_pos h300]
    subst hR2
    go_enter Try.func7, Try.ntmps7
    go_wp2_with fail
    go_ret
    exact ⟨rfl, Below.refl _ _⟩
  have HR1 : Hid (U.faults false l = R) := by
    have := HR.out
    unfold U.fault at this
    rwa [if_neg h300] at this
  clear HR
  go_enter Try.func7, Try.ntmps7
  go_wp2_with fail
  go_loopw [12] (fun i wr => ∃ k : Nat, k ≤ l.length ∧ i = .int .i64 k ∧ Below w.heap.size w wr ∧ Hid (U.faults (U.endB (l.take k)) (l.drop k) = R)) (fun i _ => l.length - (intOf i).toNat)
  case atStart => exact ⟨0, Nat.zero_le _, rfl, Below.refl _ _, (by rw [U.endB_zero, List.drop_zero]; exact HR1.out)⟩
  case round =>
    obtain ⟨k, hk, rfl, hbw, HF⟩ := hrel
    by_cases hlt : k < l.length
    · have hx := List.getElem?_eq_getElem hlt
      have hm := List.getElem_mem hlt
      generalize l[k]'hlt = x at hx hm
      obtain ⟨g, o, av, rfl, hg, d0, d1, d2, d3, d4, hA⟩ := HC.out k x hx
      have HA := Lib.hid hA
      obtain ⟨aoA, capA, rfl, hcA⟩ := hA
      have hfit := HS.out x hm
      have HX := Lib.hid hx
      by_cases k3 : x.kind = 3
      · exact fault_round3 l cap R w _ wr hz h300 _ _ _ _ _ _ _ _ _ _ _ _ _ _ _ _ _ _ _ _ _ _ _ _ _ _ _ _ _ _ _ _ _ _ _ _ _ _ _ _ _ _ _ _ _ _ _ _ _ _ _ _ _ _ _ _ _ _ _ _ _ _ _ _ _ _ _ _ _ _ _ _ _ _ _ _ _ _ _ _ _ _ _ _ _ _ _ _ _ _ _ _ _ _ _ _ _ _ _ _ _ _ _ _ _ _ _ _ _ _ _ _ _ _ _ _ _ _ _ _ _ _ _ _ _ _ _ _ _ _ _ _ _ _ _ _ _ _ _ _ _ _ _ _ _ _ _ _ _ _ _ _ k hbw HF hlt x HX hfit g o aoA capA _ rfl HC hg d0 d1 d2 d3 d4 HA k3
      by_cases k2 : x.kind = 2
      · exact fault_round2 l cap R w _ wr hz h300 _ _ _ _ _ _ _ _ _ _ _ _ _ _ _ _ _ _ _ _ _ _ _ _ _ _ _ _ _ _ _ _ _ _ _ _ _ _ _ _ _ _ _ _ _ _ _ _ _ _ _ _ _ _ _ _ _ _ _ _ _ _ _ _ _ _ _ _ _ _ _ _ _ _ _ _ _ _ _ _ _ _ _ _ _ _ _ _ _ _ _ _ _ _ _ _ _ _ _ _ _ _ _ _ _ _ _ _ _ _ _ _ _ _ _ _ _ _ _ _ _ _ _ _ _ _ _ _ _ _ _ _ _ _ _ _ _ _ _ _ _ _ _ _ _ _ _ _ _ _ _ _ k hbw HF hlt x HX hfit g o aoA capA _ rfl HC hg d0 d1 d2 d3 d4 HA k2
      by_cases k1 : x.kind = 1
      · exact fault_round1 l cap R w _ wr hz h300 _ _ _ _ _ _ _ _ _ _ _ _ _ _ _ _ _ _ _ _ _ _ _ _ _ _ _ _ _ _ _ _ _ _ _ _ _ _ _ _ _ _ _ _ _ _ _ _ _ _ _ _ _ _ _ _ _ _ _ _ _ _ _ _ _ _ _ _ _ _ _ _ _ _ _ _ _ _ _ _ _ _ _ _ _ _ _ _ _ _ _ _ _ _ _ _ _ _ _ _ _ _ _ _ _ _ _ _ _ _ _ _ _ _ _ _ _ _ _ _ _ _ _ _ _ _ _ _ _ _ _ _ _ _ _ _ _ _ _ _ _ _ _ _ _ _ _ _ _ _ _ _ k hbw HF hlt x HX hfit g o aoA capA _ rfl HC hg d0 d1 d2 d3 d4 HA k1
      by_cases k4 : x.kind = 4
      · exact fault_round4 l cap R w _ wr hz h300 _ _ _ _ _ _ _ _ _ _ _ _ _ _ _ _ _ _ _ _ _ _ _ _ _ _ _ _ _ _ _ _ _ _ _ _ _ _ _ _ _ _ _ _ _ _ _ _ _ _ _ _ _ _ _ _ _ _ _ _ _ _ _ _ _ _ _ _ _ _ _ _ _ _ _ _ _ _ _ _ _ _ _ _ _ _ _ _ _ _ _ _ _ _ _ _ _ _ _ _ _ _ _ _ _ _ _ _ _ _ _ _ _ _ _ _ _ _ _ _ _ _ _ _ _ _ _ _ _ _ _ _ _ _ _ _ _ _ _ _ _ _ _ _ _ _ _ _ _ _ _ _ k hbw HF hlt x HX hfit g o aoA capA _ rfl HC hg d0 d1 d2 d3 d4 HA k4
      · exact fault_round0 l cap R w _ wr hz h300 _ _ _ _ _ _ _ _ _ _ _ _ _ _ _ _ _ _ _ _ _ _ _ _ _ _ _ _ _ _ _ _ _ _ _ _ _ _ _ _ _ _ _ _ _ _ _ _ _ _ _ _ _ _ _ _ _ _ _ _ _ _ _ _ _ _ _ _ _ _ _ _ _ _ _ _ _ _ _ _ _ _ _ _ _ _ _ _ _ _ _ _ _ _ _ _ _ _ _ _ _ _ _ _ _ _ _ _ _ _ _ _ _ _ _ _ _ _ _ _ _ _ _ _ _ _ _ _ _ _ _ _ _ _ _ _ _ _ _ _ _ _ _ _ _ _ _ _ _ _ _ _ k hbw HF hlt x HX hfit g o aoA capA _ rfl HC hg d0 d1 d2 d3 d4 HA k1 k2 k3 k4
    · go_wp2_with fail
      go_ret
      refine ⟨?_, hbw⟩
      have h1 := HF.out
      rw [List.drop_eq_nil_of_le (by omega)] at h1
      have h2 : (0 : Nat) = R := h1
      rw [← h2]
      rfl

end Go.Proofs.Ytfockedeikdbjaa

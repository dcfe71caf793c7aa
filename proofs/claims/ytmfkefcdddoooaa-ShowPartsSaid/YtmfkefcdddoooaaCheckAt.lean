/- emit.checkAt, emit.Check. -/
import Derived.Test.YtmfkefcdddoooaaCheckMid
import Derived.Test.YtmfkefcdddoooaaCheckLast
namespace Go.Proofs.Ytmfkefcdddoooaa
open Go.RowKit

theorem check_at (ao : Option Addr) (cap : Nat) (l : List U.Tk) (k : Nat) (t : U.Tk) (w : World) (hL : RdKC w w.heap.size (.slice ao l.length cap) l) (hz : l.length ≤ most) (ht : l[k]? = some t) (hf : Fits most t) :
    Calls Try.prog 40 #[.slice ao l.length cap, .int .i64 (k : Int)] w fun e w' => e = .returned (.int .i64 (U.faultAt (U.endB (l.take k)) t (l.drop (k + 1)) : Nat)) ∧ Below w.heap.size w w' := by
  by_cases hck : cap = k + 1
  · exact check_last ao cap l k t w hL hz ht hf hck
  · exact check_mid ao cap l k t w hL hz ht hf hck

set_option maxHeartbeats 8000000 in
set_option maxRecDepth 1000000 in
theorem check_walk (v : Value) (l : List U.Tk) (w : World) (hL : RdKC w w.heap.size v l) (hz : l.length ≤ most) (hs : ∀ t ∈ l, Fits most t) :
    Calls Try.prog 21 #[v] w fun e w' => e = .returned (.int .i64 (U.fault l : Nat)) ∧ Below w.heap.size w w' := by
  obtain ⟨ao, cap, rfl, hcap⟩ := hL.len
  have hzz : l.length ≤ 9223372036854775807 := hz
  obtain ⟨R, hR⟩ : ∃ R, U.fault l = R := ⟨_, rfl⟩
  rw [hR]
  have HR := Lib.hid hR
  have HL := Lib.hid hL
  have HS := Lib.hid hs
  clear hR hL hs
  by_cases h300 : 300 < l.length
  · have hR2 : 1 = R := by rw [← HR.out]; unfold U.fault; rw [if_pos h300]
    subst hR2
    go_enter Try.func21, Try.ntmps21
    go_wp2_with fail
    go_ret
    exact ⟨rfl, Below.refl _ _⟩
  have HR1 : Hid (U.faults false l = R) := by
    have := HR.out
    unfold U.fault at this
    rwa [if_neg h300] at this
  clear HR
  go_enter Try.func21, Try.ntmps21
  go_wp2_with fail
  go_loopw [10] (fun i wr => ∃ k : Nat, k ≤ l.length ∧ i = .int .i64 k ∧ Below w.heap.size w wr ∧ Hid (U.faults (U.endB (l.take k)) (l.drop k) = R)) (fun i _ => l.length - (intOf i).toNat)
  case atStart => exact ⟨0, Nat.zero_le _, rfl, Below.refl _ _, (by rw [U.endB_zero, List.drop_zero]; exact HR1.out)⟩
  case round =>
    obtain ⟨k, hk, rfl, hbw, HF⟩ := hrel
    by_cases hlt : k < l.length
    · have hx := List.getElem?_eq_getElem hlt
      have hm := List.getElem_mem hlt
      generalize l[k]'hlt = x at hx hm
      have hcall := check_at ao cap l k x wr ((HL.out.below hbw).more hbw.size) hz hx (HS.out x hm)
      have hk0 : (0 : Int) ≤ (k : Int) := Int.natCast_nonneg _
      have hk1 : (k : Int) < (l.length : Int) := by omega
      by_cases h0 : U.faultAt (U.endB (l.take k)) x (l.drop (k + 1)) = 0
      · have HG := Lib.hid (U.faults_go hx HF.out h0)
        rw [h0, show ((0 : Nat) : Int) = 0 from rfl] at hcall
        have HC := Lib.hid hcall
        clear hcall hx hm h0
        go_wp2_with (go_at_call 40; refine HC.out.mono ?_; rintro e w2 ⟨rfl, hb2⟩)
        go_roundw
        case rel => exact ⟨k + 1, by omega, by go_num, hbw.trans (hb2.mono hbw.size), HG.out⟩
        case measure => simp [intOf]; omega
      · have hRR := U.faults_stop hx HF.out rfl h0
        rw [← hRR] at hcall h0
        have hne : (((R : Nat) : Int) != 0) = true := bne_iff_ne.2 (by omega)
        have HC := Lib.hid hcall
        clear hcall hx hm h0 hRR
        go_wp2_with (go_at_call 40; refine HC.out.mono ?_; rintro e w2 ⟨rfl, hb2⟩)
        go_ret
        exact ⟨rfl, hbw.trans (hb2.mono hbw.size)⟩
    · go_wp2_with fail
      go_ret
      refine ⟨?_, hbw⟩
      have h1 := HF.out
      rw [List.drop_eq_nil_of_le (by omega)] at h1
      have h2 : (0 : Nat) = R := h1
      rw [← h2]
      rfl

end Go.Proofs.Ytmfkefcdddoooaa

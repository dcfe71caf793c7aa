/- TokPrefix: the walk. -/
import Derived.Test.YtkmjngpgngkalaaDoorKeep2
import Derived.Test.YtkmjngpgngkalaaDoorMarkup
import Derived.Test.YtkmjngpgngkalaaDoorSameK
import Derived.Test.YtkmjngpgngkalaaDoorPrefixMath
import Derived.Test.YtkmjngpgngkalaaDoorCountMath
import Derived.Outline
namespace Go.Proofs.YtkmjngpgngkalaaDoor
open Go.RowKit

theorem RdT.take {w : World} {B cap n : Nat} {ao : Option Addr} {ts : List U.Tok} (h : RdT w B (.slice ao ts.length cap) ts) (hn : n ≤ ts.length) : RdT w B (.slice ao n cap) (ts.take n) := by
  obtain ⟨ao', cap', e, hc⟩ := h
  injection e with e1 _ e3
  subst e1
  subst e3
  refine ⟨ao, cap, by rw [List.length_take, Nat.min_eq_left hn], fun i t ht => hc i t ?_⟩
  rw [List.getElem?_take] at ht
  split at ht
  · exact ht
  · cases ht

theorem roomy_slice {ao : Option Addr} {n cap : Nat} (h : Roomy (.slice ao n cap)) : n ≤ cap := by
  obtain ⟨_, _, _, e, h⟩ := h
  injection e with _ e2 e3
  subst e2
  subst e3
  exact h
theorem cut_at (n : Int) (T : ByteArray) : ∃ k : Nat, k ≤ T.size ∧ n % ((T.size : Int) + 1) = (k : Int) := by
  have h1 := Int.emod_lt_of_pos n (b := (T.size : Int) + 1) (by omega)
  have h2 := Int.emod_nonneg n (b := (T.size : Int) + 1) (by omega)
  exact ⟨(n % ((T.size : Int) + 1)).toNat, by omega, by omega⟩

set_option maxHeartbeats 4000000 in
set_option maxRecDepth 1000000 in
theorem prefix_walk (ao : Option Addr) (cap : Nat) (xs : List Int) (n : Int) (w : World) (hR : Rd w w.heap.size ao xs) (hG : Glob w) :
    Calls Tryd.prog 6 #[.slice ao xs.length cap, .int .i64 n] w fun e w' => e = .returned (.bool true) ∧ Below w.heap.size w w' := by
  have hM := markup_walk ao cap xs 25 w hR (Nat.le_refl _)
  have HM := Lib.hid hM
  clear hM
  go_enter Tryd.func6, Tryd.ntmps6
  go_wp2_with (first
    | (go_at_call 10; refine HM.out.mono ?_; rintro e w2 ⟨T, rfl, hT, hb⟩
       obtain ⟨k, hk, ek⟩ := cut_at n T
       have EK := Lib.hid ek
       clear ek
       have hk0 : (0 : Int) ≤ (k : Int) := Int.natCast_nonneg _
       have hk1 : (k : Int) ≤ (T.size : Int) := by omega
       have hG2 := hG.below hb)
    | (go_at_call 9; refine (picked_walk _ _ _ (by omega) (by omega)).mono ?_; rintro e w' ⟨rfl, rfl⟩; rw [EK.out])
    | (go_at_call_of 8 (Value.string (T.extract 0 k)); refine (parsed_room (T.extract 0 k) _ (by rw [size_take _ _ hk]; omega) hG2).mono ?_; rintro e w3 ⟨v1, rfl, hro1, hR1, hb1⟩; rw [list_take] at hR1; obtain ⟨ao1, cap1, rfl, _⟩ := id hR1; have hc1 := roomy_slice hro1; have hG3 := hG2.below hb1)
    | (go_at_call_of 8 (Value.string T); refine (parsed_room T _ (by omega) hG3).mono ?_; rintro e w4 ⟨v2, rfl, hro2, hR2, hb2⟩; obtain ⟨ao2, cap2, rfl, _⟩ := id hR2; have hc2 := roomy_slice hro2))
  obtain ⟨z, hz⟩ := U.toks_prefix (T.data.toList.take k) (T.data.toList.drop k)
  rw [List.take_append_drop] at hz
  have hcn := U.toks_count (T.data.toList.take k)
  have hl0 : (T.data.toList.take k).length ≤ 500 := by rw [List.length_take, len_list]; omega
  generalize U.toks (T.data.toList.take k) = t1 at *
  generalize U.toks T.data.toList = t2 at *
  have hm : wrap64 ((t1.length : Int) - 1) = (t1.length : Int) - 1 := by unfold wrap64; omega
  have hl1 : t1.dropLast.length = t1.length - 1 := List.length_dropLast
  have hl2 : t1.length - 1 ≤ t2.length := by rw [hz, List.length_append, hl1]; omega
  have e1 : t1.dropLast = t1.take (t1.length - 1) := List.dropLast_eq_take
  have e2 : t2.take (t1.length - 1) = t1.take (t1.length - 1) := by rw [← e1, hz, ← hl1, List.take_left]
  have hT1 := (hR1.below hb2).more hb2.size |>.take (n := t1.length - 1) (by omega)
  have hT2 := hR2.take hl2
  rw [e2] at hT2
  have hmx : max 0 (wrap64 ((t1.length : Int) - 1)) = ((t1.length - 1 : Nat) : Int) := by rw [hm]; omega
  rw [hmx]
  have hge : ((t1.length - 1 : Nat) : Int) ≤ (t2.length : Int) := by omega
  have hge1 : ((t1.length - 1 : Nat) : Int) ≤ (t1.length : Int) := by omega
  have hcc1 : ((t1.length - 1 : Nat) : Int) ≤ (cap1 : Int) := by omega
  have hcc2 : ((t1.length - 1 : Nat) : Int) ≤ (cap2 : Int) := by omega
  have hge0 : (0 : Int) ≤ ((t1.length - 1 : Nat) : Int) := Int.natCast_nonneg _
  have hsk : ∀ n, Calls Tryd.prog 11 #[.slice ao1 (t1.length - 1) cap1, .slice ao2 (t1.length - 1) cap2] (w4.drewN n) fun e w' => e = .returned (.bool true) ∧ ∃ m, w' = (w4.drewN n).drewN m := fun n =>
    same_k _ _ _ (w4.drewN n) (hT1.keep fun p _ => rfl) (hT2.keep fun p _ => rfl) (by rw [List.length_take]; omega)
  have HSK := Lib.hid hsk
  have hB := hb.trans ((hb1.trans (hb2.mono hb1.size)).mono hb.size)
  clear hsk hT1 hT2 hR1 hR2 e1 e2 hz hmx hm hcn hl0 hl1
  generalize t1.length - 1 = m at *
  go_wp2_with fail
  go_quiet ((go_at_call 11; exact Calls.quiet_of (HSK.out _)))
  go_wp2_with fail
  go_ret
  exact ⟨rfl, below_drewN hB nq⟩

end Go.Proofs.YtkmjngpgngkalaaDoor

/- SameTokens: are two lists of tokens the same? -/
import Derived.Outline
import Derived.Test.YtcdgiohogddbkaaGreatDoorP35
namespace Go.Proofs.YtcdgiohogddbkaaGreatDoor
open Go.RowKit

set_option maxHeartbeats 2000000 in
set_option maxRecDepth 1000000 in
theorem same_tokens (u v : Value) (xs ys : List U.Tok) (w : World) (hx : RdT w w.heap.size u xs) (hy : RdT w w.heap.size v ys) (lx : xs.length ≤ 1048576) (same : xs = ys) :
    Calls Tryz.prog 6 #[u, v] w fun e w' => e = .returned (.bool true) ∧ ∃ n, w' = w.drewN n := by
  subst same
  obtain ⟨ao, ca, rfl, hcx⟩ := hx
  obtain ⟨bo, cb, rfl, hcy⟩ := hy
  have HCX := Lib.hid hcx
  have HCY := Lib.hid hcy
  clear hcx hcy
  go_enter Tryz.func6, Tryz.ntmps6
  go_wp2_with fail
  go_loopw [13] (fun i wr => ∃ k : Nat, k ≤ xs.length ∧ i = .int .i64 k ∧ ∃ n, wr = w.drewN n) (fun i _ => xs.length - (intOf i).toNat)
  case atStart => exact ⟨0, Nat.zero_le _, rfl, 0, rfl⟩
  case round =>
    obtain ⟨k, hk, rfl, nd, hw⟩ := hrel
    have hcell : ∀ p, wr.cell? p = w.cell? p := fun p => by rw [hw]; rfl
    have hsz : wr.heap.size = w.heap.size := by rw [hw]; rfl
    have HW := Lib.hid hw
    clear hw
    by_cases hlt : k < xs.length
    · obtain ⟨ga, oa, av, rfl, hb, c0, c1, c2, c3, c4, hA, hal⟩ := HCX.out k xs[k] (List.getElem?_eq_getElem hlt)
      obtain ⟨gb, ob, bv, rfl, hb', d0, d1, d2, d3, d4, hB, _⟩ := HCY.out k xs[k] (List.getElem?_eq_getElem hlt)
      generalize xs[k] = x at *
      have hsa : ∀ n, Calls Tryz.prog 13 #[av, bv] (wr.drewN n) fun e w' => e = .returned (.bool true) ∧ ∃ m, w' = (wr.drewN n).drewN m := fun n => by
        have hz : (wr.drewN n).heap.size = w.heap.size := hsz
        have := same_attrs av bv x.attrs x.attrs (wr.drewN n) (by rw [hz]; exact hA.keep fun p _ => hcell p) (by rw [hz]; exact hB.keep fun p _ => hcell p) hal
        rwa [decide_eq_true rfl] at this
      have c0' := (hcell _).trans c0
      have c1' := (hcell _).trans c1
      have c2' := (hcell _).trans c2
      have c3' := (hcell _).trans c3
      have c4' := (hcell _).trans c4
      have d0' := (hcell _).trans d0
      have d1' := (hcell _).trans d1
      have d2' := (hcell _).trans d2
      have d3' := (hcell _).trans d3
      have d4' := (hcell _).trans d4
      clear c0 c1 c2 c3 c4 d0 d1 d2 d3 d4
      have hk0 : (0 : Int) ≤ (k : Int) := Int.natCast_nonneg _
      have hk1 : (k : Int) < (xs.length : Int) := by omega
      have HSA := Lib.hid hsa
      obtain ⟨aoX, caX, rfl, _⟩ := hA
      obtain ⟨aoY, caY, rfl, _⟩ := hB
      clear hsa hcell hsz
      go_wp2_with fail
      go_quiet ((go_at_call 13; exact Calls.quiet_of (HSA.out _)))
      go_wp2_with fail
      go_roundw
      case rel => exact ⟨k + 1, by omega, by go_num, nd + nq, by rw [HW.out, World.drewN_drewN]⟩
      case measure => simp [intOf]; omega
    · go_wp2_with fail
      go_ret
      exact ⟨rfl, nd, HW.out⟩

end Go.Proofs.YtcdgiohogddbkaaGreatDoor

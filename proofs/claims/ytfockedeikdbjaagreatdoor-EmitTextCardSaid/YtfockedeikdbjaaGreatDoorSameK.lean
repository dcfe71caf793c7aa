/- sameTokens of the other folder: two slices that read as the same tokens are the same. -/
import Derived.RegionTactic
import Derived.ChangeAlike
import Derived.Outline
import Derived.Test.YtfockedeikdbjaaGreatDoorP14
namespace Go.Proofs.YtfockedeikdbjaaGreatDoor
open Go.RowKit

set_option maxHeartbeats 4000000 in
set_option maxRecDepth 1000000 in
theorem same_k (u v : Value) (xs : List U.Tok) (w : World) (hx : RdT w w.heap.size u xs) (hy : RdT w w.heap.size v xs) (lx : xs.length ≤ 1048576) :
    Calls Tryz.prog 10 #[u, v] w fun e w' => e = .returned (.bool true) ∧ ∃ n, w' = w.drewN n := by
  obtain ⟨ao, ca, rfl, hcx⟩ := hx
  obtain ⟨bo, cb, rfl, hcy⟩ := hy
  have HCX := Lib.hid hcx
  have HCY := Lib.hid hcy
  clear hcx hcy
  go_enter Tryz.func10, Tryz.ntmps10
  go_wp2_with fail
  go_loopw [5] (fun i wr => ∃ k : Nat, k ≤ xs.length ∧ i = .int .i64 k ∧ ∃ n, wr = w.drewN n) (fun i _ => xs.length - (intOf i).toNat)
  case atStart => exact ⟨0, Nat.zero_le _, rfl, 0, rfl⟩
  case round =>
    obtain ⟨k, hk, rfl, nd, hw⟩ := hrel
    have hcell : ∀ p, wr.cell? p = w.cell? p := fun p => by rw [hw]; rfl
    have HW := Lib.hid hw
    clear hw
    by_cases hlt : k < xs.length
    · obtain ⟨ga, oa, av, rfl, hb, c0, c1, c2, c3, c4, hA, hal⟩ := HCX.out k xs[k] (List.getElem?_eq_getElem hlt)
      obtain ⟨gb, ob, bv, rfl, hb', d0, d1, d2, d3, d4, hB, _⟩ := HCY.out k xs[k] (List.getElem?_eq_getElem hlt)
      generalize xs[k] = x at *
      have c0' := (hcell _).trans c0
      have c1' := (hcell _).trans c1
      have c2' := (hcell _).trans c2
      have c3' := (hcell _).trans c3
      have c4' := (hcell _).trans c4
      have d0' := (hcell _).trans d0
      have d1' := (hcell _).trans d1
      have d2' := (hcell _).trans d2
      have d3' := (hcell _).trans d3
      have d4' := (hcell _).trans d4
      have hk0 : (0 : Int) ≤ (k : Int) := Int.natCast_nonneg _
      have hk1 : (k : Int) < (xs.length : Int) := by omega
      obtain ⟨aoX, caX, rfl, hax⟩ := hA
      obtain ⟨aoY, caY, rfl, hay⟩ := hB
      have HAX := Lib.hid hax
      have HAY := Lib.hid hay
      have C2 := Lib.hid c2
      have D2 := Lib.hid d2
      have HC := Lib.hid hcell
      clear c0 c1 c2 c3 c4 d0 d1 d2 d3 d4 hax hay hcell
      go_wp2_with fail
      go_quiet (fail)
      go_wp2_with fail
      go_loopw [6] (fun i wx => ∃ j : Nat, j ≤ x.attrs.length ∧ i = .int .i64 j ∧ ∃ n, wx = w.drewN n) (fun i _ => x.attrs.length - (intOf i).toNat)
      case atStart => exact ⟨0, Nat.zero_le _, rfl, nd + nq, by rw [HW.out, World.drewN_drewN]⟩
      case round =>
        obtain ⟨j, hj, rfl, n2, hw2⟩ := hrel
        have hcell2 : ∀ p, wr.cell? p = w.cell? p := fun p => by rw [hw2]; rfl
        have e2 := (hcell2 _).trans C2.out
        have f2 := (hcell2 _).trans D2.out
        have HW2 := Lib.hid hw2
        clear hw2
        by_cases hjl : j < x.attrs.length
        · obtain ⟨pa, qa, rfl, _, a1, a2⟩ := HAX.out j x.attrs[j] (List.getElem?_eq_getElem hjl)
          obtain ⟨pb, qb, rfl, _, b1, b2⟩ := HAY.out j x.attrs[j] (List.getElem?_eq_getElem hjl)
          generalize x.attrs[j] = y at *
          have a1' := (hcell2 _).trans a1
          have a2' := (hcell2 _).trans a2
          have b1' := (hcell2 _).trans b1
          have b2' := (hcell2 _).trans b2
          have hj0 : (0 : Int) ≤ (j : Int) := Int.natCast_nonneg _
          have hj1 : (j : Int) < (x.attrs.length : Int) := by omega
          clear a1 a2 b1 b2 hcell2
          go_wp2_with fail
          go_region
          all_goals go_wp2_with fail
          all_goals go_roundw
          case rel => exact ⟨j + 1, by omega, by go_num, n2 + 1, by rw [HW2.out]; rfl⟩
          case measure => simp [intOf]; omega
        · clear hcell2
          go_wp2_with fail
          go_roundw
          case rel => exact ⟨k + 1, by omega, by go_num, n2, HW2.out⟩
          case measure => simp [intOf]; omega
    · go_wp2_with fail
      go_ret
      exact ⟨rfl, nd, HW.out⟩

end Go.Proofs.YtfockedeikdbjaaGreatDoor

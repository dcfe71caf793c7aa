/- TreeClosed: the walk. -/
import Derived.Handy
import Derived.StillTactics
import Derived.StillTailTactics
import Derived.Outline
import Derived.Test.YtankcnikebcpkaaGreatDoorBuilt5
import Derived.Test.YtankcnikebcpkaaGreatDoorClosed
import Derived.Test.YtankcnikebcpkaaGreatDoorP30
import Derived.Test.YtankcnikebcpkaaGreatDoorP03
namespace Go.Proofs.YtankcnikebcpkaaGreatDoor
open Go.RowKit

set_option maxHeartbeats 8000000 in
set_option maxRecDepth 1000000 in
theorem tree_closed (ao : Option Addr) (cap : Nat) (zs : List Int) (w : World) (hr : Rd w w.heap.size ao zs) (hG : Glob w) :
    Calls Tryz.prog 6 #[.slice ao zs.length cap] w fun e w' => e = .returned (.bool true) ∧ Below w.heap.size w w' := by
  have HR := Lib.hid hr
  clear hr
  go_enter Tryz.func6, Tryz.ntmps6
  go_wp2_with fail
  go_loopw [3, 4] (fun t i wr => ∃ (k : Nat) (T : ByteArray), k ≤ zs.length ∧ k ≤ 40 ∧ i = .int .i64 k ∧ t = .string T ∧ Below w.heap.size w wr ∧ T.size ≤ 5 * k) (fun _ i _ => zs.length - (intOf i).toNat)
  case atStart => exact ⟨0, ⟨#[]⟩, Nat.zero_le _, Nat.zero_le _, rfl, rfl, Below.refl _ _, Nat.le_refl _⟩
  case round =>
    obtain ⟨k, T, hk, hkn, rfl, rfl, hbw, hT⟩ := hrel
    have hbs := hbw.size
    have hfin : Hid (Calls Tryz.prog 14 #[.string T] wr fun e w' => ∃ v, e = .returned (.tuple #[v, .bool true]) ∧ RdNs w' (· < w'.heap.size) v (U.build ((U.toks T.data.toList).map U.Tok.tk)).1 ∧ Below wr.heap.size wr w') :=
      built_tree T wr (by omega) (hG.below hbw) (by
        have h1 := U.toks_count T.data.toList
        have h2 : T.data.toList.length = T.size := by rw [Array.length_toList]; rfl
        omega)
    by_cases hlt : k < zs.length ∧ k < 40
    · obtain ⟨hlt, hlt2⟩ := hlt
      obtain ⟨ad, rfl, hb, hc⟩ := (HR.out.below hbw) k zs[k] (List.getElem?_eq_getElem hlt)
      generalize zs[k] = z at *
      have hc2 : ∀ o, (wr.alloc o).cell? (ad.add k) = some (.int .i64 z) := fun o => by
        rw [World.cell?_alloc_lt wr o (ad.add k) (by rw [add_block]; omega)]
        exact hc
      have hk0 : (0 : Int) ≤ (k : Int) := Int.natCast_nonneg _
      have hk1 : (k : Int) < (zs.length : Int) := by omega
      obtain ⟨j, hj, ej⟩ : ∃ j : Nat, j < 10 ∧ z % 10 = (j : Int) := ⟨(z % 10).toNat, by omega, by omega⟩
      have EJ := Lib.hid ej
      clear ej hfin
      have hlc := pc_cell j hj
      have hlg := pc_get j
      have hsz := pc_size j
      have hj0 : (0 : Int) ≤ (j : Int) := Int.natCast_nonneg _
      have hj1 : (j : Int) < 10 := by omega
      go_wp2_with ((go_at_call_of 12 (Value.int IntKind.i64 z); refine (picked_walk _ _ _ (by omega) (by omega)).mono ?_; rintro e w' ⟨rfl, rfl⟩; rw [EJ.out]))
      go_roundw
      case rel => exact ⟨k + 1, _, by omega, by omega, by go_num, rfl, by go_grown, by rw [ByteArray.size_append]; omega⟩
      case measure => simp [intOf]; omega
    · have hno : ¬ ((k : Int) < (zs.length : Int) ∧ (k : Int) < 40) := by omega
      have HN := Lib.hid hno
      have HB := Lib.hid hbw
      clear hlt hno hbw
      rcases Nat.lt_or_ge k zs.length with h1 | h1
      · have h1z : (k : Int) < (zs.length : Int) := by omega
        have h2z : ¬ (k : Int) < 40 := by have := HN.out; omega
        go_wp2_with fail
        refine hfin.out.mono ?_
        rintro e w2 ⟨v, rfl, hR2, hb2⟩
        have HC := Lib.hid (closed_walk _ (U.build ((U.toks T.data.toList).map U.Tok.tk)).1 (Nat.le_refl _) false false v w2 hR2)
        rw [U.build_closed] at HC
        have HE := Lib.hid (HB.out.trans (hb2.mono HB.out.size))
        obtain ⟨vo, vcap, ev, _⟩ := hR2
        subst ev
        clear hb2
        go_wp2_with fail
        refine HC.out.mono ?_
        rintro e w3 ⟨rfl, rfl⟩
        go_wp2_with fail
        go_ret
        exact ⟨rfl, HE.out⟩
      · have h1z : ¬ (k : Int) < (zs.length : Int) := by omega
        go_wp2_with fail
        refine hfin.out.mono ?_
        rintro e w2 ⟨v, rfl, hR2, hb2⟩
        have HC := Lib.hid (closed_walk _ (U.build ((U.toks T.data.toList).map U.Tok.tk)).1 (Nat.le_refl _) false false v w2 hR2)
        rw [U.build_closed] at HC
        have HE := Lib.hid (HB.out.trans (hb2.mono HB.out.size))
        obtain ⟨vo, vcap, ev, _⟩ := hR2
        subst ev
        clear hb2
        go_wp2_with fail
        refine HC.out.mono ?_
        rintro e w3 ⟨rfl, rfl⟩
        go_wp2_with fail
        go_ret
        exact ⟨rfl, HE.out⟩

end Go.Proofs.YtankcnikebcpkaaGreatDoor

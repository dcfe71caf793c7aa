/- The other folder's parsed, and how much room the tokens' slice has. -/
import Derived.Test.YtkmjngpgngkalaaDoorKeep
import Derived.Outline
namespace Go.Proofs.YtkmjngpgngkalaaDoor
open Go.RowKit

/-- a slice has room for what it holds -/
def Roomy (v : Value) : Prop := ∃ ao n cap, v = .slice ao n cap ∧ n ≤ cap
theorem roomy_own {w : World} {B z n : Nat} {e : TypeId} {v : Value} {xs : List Value} (h : w.ownsRow B e z v n xs) : Roomy v := by
  rcases h.2 with ⟨rfl, _⟩ | ⟨g, cap, cur, rfl, _, _, hc, _⟩
  · exact ⟨_, _, _, rfl, Nat.le_refl _⟩
  · exact ⟨_, _, _, rfl, hc⟩
/-- Parse of a text that is not too long -/
theorem parse_room (s : ByteArray) (w : World) (hs : s.size ≤ 600) (hG : Glob w) :
    Calls Tryd.prog 13 #[.string s] w fun e w' => ∃ v, e = .returned (.tuple #[v, .int .i64 0]) ∧ Roomy v ∧ RdT w' w'.heap.size v (U.toks s.data.toList) ∧ Below w.heap.size w w' := by
  refine (parse_walk s w hG).mono ?_
  rintro e w' ⟨v, l, hT, h1, _⟩
  obtain ⟨he, hl⟩ := h1 hs
  exact ⟨v, he, roomy_own hT.1, hl ▸ hT.rd, hT.2.2.1⟩

set_option maxHeartbeats 4000000 in
set_option maxRecDepth 1000000 in
theorem parsed_room (s : ByteArray) (w : World) (hs : s.size ≤ 600) (hG : Glob w) :
    Calls Tryd.prog 8 #[.string s] w fun e w' => ∃ v, e = .returned (.tuple #[v, .bool true]) ∧ Roomy v ∧ RdT w' w'.heap.size v (U.toks s.data.toList) ∧ Below w.heap.size w w' := by
  have hpb := fun w2 hG2 => parse_room ⟨#[60, 98, 62]⟩ w2 (by decide) hG2
  rw [show (ByteArray.mk #[60, 98, 62]).data.toList = [60, 98, 62] from rfl, toks_b] at hpb
  have HPB := Lib.hid hpb
  clear hpb
  go_enter Tryd.func8, Tryd.ntmps8
  go_wp2_with (first
    | (go_at_call_of 13 (Value.string s); refine (parse_room s w hs hG).mono ?_; rintro e w2 ⟨v, rfl, hro, hR, hb⟩; obtain ⟨ao, cap, rfl, hcl⟩ := id hR; have HCL := Lib.hid hcl; clear hcl)
    | (go_at_call_of 13 (Value.string ⟨#[60, 98, 62]⟩); refine (HPB.out _ (hG.below hb)).mono ?_; rintro e w3 ⟨v2, rfl, _, hR2, hb2⟩; obtain ⟨ao2, cap2, rfl, hc2⟩ := hR2; obtain ⟨g, o, av, rfl, hlt, k0, k1, k2, k3, k4, _⟩ := hc2 0 _ rfl; clear hc2))
  go_region
  all_goals go_wp2_with fail
  all_goals go_ret2
  all_goals exact ⟨_, rfl, hro, ((hR.below hb2).more hb2.size).keep (fun p _ => rfl), below_drewN (hb.trans (hb2.mono hb.size)) 1⟩

end Go.Proofs.YtkmjngpgngkalaaDoor

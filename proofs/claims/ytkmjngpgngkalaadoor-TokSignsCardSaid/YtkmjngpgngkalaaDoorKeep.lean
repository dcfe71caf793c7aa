/- The other folder's parsed. -/
import Derived.Test.YtkmjngpgngkalaaDoorParsed
import Derived.Test.YtkmjngpgngkalaaDoorRdT
import Derived.Outline
namespace Go.Proofs.YtkmjngpgngkalaaDoor
open Go.RowKit

theorem toks_b : U.toks [60, 98, 62] = [⟨1, [98], [], false, []⟩] := by rfl
theorem Toks.rd {w w' : World} {v : Value} {l : List (U.Tok × Value)} (h : Toks w w' v l) : RdT w' w'.heap.size v (l.map (·.1)) := RdT.of_own h.1 h.2.1 h.2.2.2
/-- Parse of a text that is not too long -/
theorem parse_ok (s : ByteArray) (w : World) (hs : s.size ≤ 600) (hG : Glob w) :
    Calls Tryd.prog 13 #[.string s] w fun e w' => ∃ v, e = .returned (.tuple #[v, .int .i64 0]) ∧ RdT w' w'.heap.size v (U.toks s.data.toList) ∧ Below w.heap.size w w' := by
  refine (parse_walk s w hG).mono ?_
  rintro e w' ⟨v, l, hT, h1, _⟩
  obtain ⟨he, hl⟩ := h1 hs
  exact ⟨v, he, hl ▸ hT.rd, hT.2.2.1⟩

set_option maxHeartbeats 4000000 in
set_option maxRecDepth 1000000 in
theorem parsed_walk (s : ByteArray) (w : World) (hs : s.size ≤ 600) (hG : Glob w) :
    Calls Tryd.prog 8 #[.string s] w fun e w' => ∃ v, e = .returned (.tuple #[v, .bool true]) ∧ RdT w' w'.heap.size v (U.toks s.data.toList) ∧ Below w.heap.size w w' := by
  have hpb := fun w2 hG2 => parse_ok ⟨#[60, 98, 62]⟩ w2 (by decide) hG2
  rw [show (ByteArray.mk #[60, 98, 62]).data.toList = [60, 98, 62] from rfl, toks_b] at hpb
  have HPB := Lib.hid hpb
  clear hpb
  go_enter Tryd.func8, Tryd.ntmps8
  go_wp2_with (first
    | (go_at_call_of 13 (Value.string s); refine (parse_ok s w hs hG).mono ?_; rintro e w2 ⟨v, rfl, hR, hb⟩; obtain ⟨ao, cap, rfl, hcl⟩ := id hR; have HCL := Lib.hid hcl; clear hcl)
    | (go_at_call_of 13 (Value.string ⟨#[60, 98, 62]⟩); refine (HPB.out _ (hG.below hb)).mono ?_; rintro e w3 ⟨v2, rfl, hR2, hb2⟩; obtain ⟨ao2, cap2, rfl, hc2⟩ := hR2; obtain ⟨g, o, av, rfl, hlt, k0, k1, k2, k3, k4, _⟩ := hc2 0 _ rfl; clear hc2))
  go_region
  all_goals go_wp2_with fail
  all_goals go_ret2
  all_goals exact ⟨_, rfl, ((hR.below hb2).more hb2.size).keep (fun p _ => rfl), below_drewN (hb.trans (hb2.mono hb.size)) 1⟩

end Go.Proofs.YtkmjngpgngkalaaDoor

/- TokParses: the walk of the law. -/
import Derived.Test.YtcdgiohogddbkaaGreatDoorP30
import Derived.Test.YtcdgiohogddbkaaGreatDoorP35
import Derived.Test.YtcdgiohogddbkaaGreatDoorSameToks
namespace Go.Proofs.YtcdgiohogddbkaaGreatDoor
open Go.RowKit

theorem rd_nil (w : World) : RdT w w.heap.size (.slice none 0 0) [] := ⟨none, 0, rfl, fun i t h => by simp at h⟩

set_option maxHeartbeats 4000000 in
set_option maxRecDepth 1000000 in
theorem parses_walk (s : ByteArray) (w : World) (hG : Glob w) : Calls Tryz.prog 3 #[.string s] w fun e w' => e = .returned (.bool true) ∧ Below w.heap.size w w' := by
  go_enter Tryz.func3, Tryz.ntmps3
  by_cases hz : s.size ≤ 600
  · go_wp2_with (first
      | (go_at_call 4; refine (parse_walk s _ hG).mono ?_; rintro e w1 ⟨v, l, ⟨ho, ha, hb, hs⟩, h1, _⟩; obtain ⟨rfl, hl⟩ := h1 hz; clear h1; obtain ⟨ao, cap, rfl⟩ := own_form ho)
      | (go_at_call 5; refine (tok_parsed s _ hz).mono ?_; rintro e w2 ⟨v2, l2, rfl, hl2, ho2, ha2, hb2, hn2⟩; obtain ⟨ao2, cap2, rfl⟩ := own_form ho2
         have r1 := ((RdT.of_own ho ha hs).below hb2).more hb2.size
         have r2 := RdT.of_own ho2 ha2 (fun x hx => by
           have hm : x.1 ∈ l.map (·.1) := by rw [hl, ← hl2]; exact List.mem_map_of_mem hx
           obtain ⟨y, hy, e⟩ := List.mem_map.1 hm
           rw [← e]; exact hs y hy)
         have hsame : l.map (·.1) = l2.map (·.1) := hl.trans hl2.symm
         have hlen : (l.map (·.1)).length ≤ 1048576 := by rw [hsame, List.length_map]; omega
         have hbb := hb.trans (hb2.mono hb.size)
         clear hl hl2 ho ha ho2 ha2)
      | (go_at_call 6; refine (same_tokens _ _ _ _ _ r1 r2 hlen hsame).mono ?_; rintro e w3 ⟨rfl, n, rfl⟩))
    go_ret
    exact ⟨rfl, below_drewN hbb _⟩
  · have hz2 : 600 < s.size := by omega
    go_wp2_with (first
      | (go_at_call 4; refine (parse_big s _ hz2).mono ?_; rintro e w1 ⟨rfl, hb⟩)
      | (go_at_call 5; refine (tok_parsed_big s _ hz2).mono ?_; rintro e w2 ⟨rfl, hb2⟩; have hbb := hb.trans (hb2.mono hb.size))
      | (go_at_call 6; refine (same_tokens _ _ [] [] _ (rd_nil _) (rd_nil _) (by simp) rfl).mono ?_; rintro e w3 ⟨rfl, n, rfl⟩))
    go_ret
    exact ⟨rfl, below_drewN hbb _⟩

end Go.Proofs.YtcdgiohogddbkaaGreatDoor

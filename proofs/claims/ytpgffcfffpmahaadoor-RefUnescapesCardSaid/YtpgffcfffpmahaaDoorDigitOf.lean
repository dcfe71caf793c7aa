/- The reference: digitOf. -/
import Derived.Test.YtpgffcfffpmahaaDoorDigits
import Derived.Test.YtpgffcfffpmahaaDoorBuilder
import Derived.Outline
namespace Go.Proofs.YtpgffcfffpmahaaDoor
open Go.RowKit

set_option maxHeartbeats 4000000 in
set_option maxRecDepth 100000 in
theorem digit_of (c : UInt8) (w : World) : Calls Tryd.prog 28 #[.int .u8 c.toNat] w fun e w' => e = .returned (.int .i64 (U.dig c : Nat)) ∧ w = w' := by
  have hc := c.toNat_lt
  by_cases h1 : 48 ≤ c.toNat ∧ c.toNat ≤ 57
  · have hd := Lib.hid (U.dig_09 h1.1 h1.2)
    obtain ⟨h0, h1⟩ := h1
    go_enter Tryd.func28, Tryd.ntmps28
    go_wp2
    go_ret
    exact ⟨by rw [hd.out, show ((c.toNat - 48 : Nat) : Int) = (c.toNat : Int) - 48 by omega]; rfl, rfl⟩
  by_cases h2 : 97 ≤ c.toNat ∧ c.toNat ≤ 102
  · have hd := Lib.hid (U.dig_af h2.1 h2.2)
    obtain ⟨h0, h2⟩ := h2
    clear h1
    go_enter Tryd.func28, Tryd.ntmps28
    go_wp2
    go_ret
    exact ⟨by rw [hd.out, show ((c.toNat - 87 : Nat) : Int) = (c.toNat : Int) - 97 + 10 by omega]; rfl, rfl⟩
  by_cases h3 : 65 ≤ c.toNat ∧ c.toNat ≤ 70
  · have hd := Lib.hid (U.dig_AF h3.1 h3.2)
    obtain ⟨h0, h3⟩ := h3
    clear h1 h2
    go_enter Tryd.func28, Tryd.ntmps28
    go_wp2
    go_ret
    exact ⟨by rw [hd.out, show ((c.toNat - 55 : Nat) : Int) = (c.toNat : Int) - 65 + 10 by omega]; rfl, rfl⟩
  · have hd := Lib.hid (U.dig_no h1 h2 h3)
    go_enter Tryd.func28, Tryd.ntmps28
    go_wp2
    all_goals first
      | omega
      | (go_ret; exact ⟨by rw [hd.out]; rfl, rfl⟩)

end Go.Proofs.YtpgffcfffpmahaaDoor

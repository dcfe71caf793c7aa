/- Several texts in one: Lowered, DigitOf. -/
import Derived.Outline
import Derived.Test.YtcdgiohogddbkaaGreatDoorP11
import Derived.Test.YtcdgiohogddbkaaGreatDoorRefBytes
import Derived.Test.YtcdgiohogddbkaaGreatDoorP01
import Derived.Test.YtcdgiohogddbkaaGreatDoorP03
namespace Go.Proofs.YtcdgiohogddbkaaGreatDoor
open Go.RowKit

/-- one byte as a string -/
theorem one_byte (w : World) (c : UInt8) : (convert 56 9 (.slice (some ⟨w.heap.size, 0, none⟩) 1 1)).run Tryz.prog (w.alloc (.cells #[.int .u8 c.toNat] 5)) = .ok (.string ⟨[c].toArray⟩) (w.alloc (.cells #[.int .u8 c.toNat] 5)) := by
  have h := row_fresh w w.heap.size (Nat.le_refl _) [c] (by simp) #[.int .u8 c.toNat] rfl
  exact str_of_row h
theorem one_byte_at (w : World) (n : Int) (c : UInt8) (hn : n = c.toNat) : (convert 56 9 (.slice (some ⟨w.heap.size, 0, none⟩) 1 1)).run Tryz.prog (w.alloc (.cells #[.int .u8 n] 5)) = .ok (.string ⟨[c].toArray⟩) (w.alloc (.cells #[.int .u8 n] 5)) := by
  subst hn; exact one_byte w c

theorem low_step {T : ByteArray} {l : List UInt8} {k : Nat} {b c : UInt8} (h : Hid (T.data.toList = U.low (l.take k))) (hg : l[k]? = some b) (hc : U.low1 b = c) : Hid ((T ++ ByteArray.mk [c].toArray).data.toList = U.low (l.take (k + 1))) := by
  show _ = _
  obtain ⟨hk, e⟩ := List.getElem?_eq_some_iff.1 hg
  rw [List.take_succ_eq_append_getElem hk, e, U.low_append, ← h.out, ← hc]
  simp [U.low]

set_option maxHeartbeats 2000000 in
set_option maxRecDepth 100000 in
theorem lowered_walk (s : ByteArray) (w : World) (hs : s.size ≤ 1099511627776) :
    Calls Tryz.prog 29 #[.string s] w fun e w' => e = .returned (.string ⟨(U.low s.data.toList).toArray⟩) ∧ Below w.heap.size w w' := by
  have hl := len_list s
  go_enter Tryz.func29, Tryz.ntmps29
  go_wp2
  go_loopw [3, 4] (fun t i wr => ∃ (k : Nat) (T : ByteArray), k ≤ s.size ∧ i = .int .i64 k ∧ t = .string T ∧ Below w.heap.size w wr ∧ Hid (T.data.toList = U.low (s.data.toList.take k)) ∧ T.size = k) (fun _ i _ => s.size - (intOf i).toNat)
  case atStart => exact ⟨0, ⟨#[]⟩, Nat.zero_le _, rfl, rfl, Below.refl _ _, rfl, rfl⟩
  case round =>
    obtain ⟨k, T, hk, rfl, rfl, hbw, hT, hts⟩ := hrel
    have hbs := hbw.size
    by_cases hlt : k < s.size
    · have hg := byte_get s hlt
      have hb := (s[k]'hlt).toNat_lt
      have z1 : ∀ c : UInt8, (T ++ ByteArray.mk [c].toArray).size = k + 1 := fun c => by rw [ByteArray.size_append, hts]; rfl
      by_cases hup : 65 ≤ (s[k]'hlt).toNat ∧ (s[k]'hlt).toNat ≤ 90
      · have hc : U.low1 (s[k]'hlt) = UInt8.ofNat ((s[k]'hlt).toNat + 32) := by unfold U.low1; rw [if_pos hup]
        have HN := low_step hT hg hc
        have hv : ((s[k]'hlt).toNat : Int) + 32 = ((UInt8.ofNat ((s[k]'hlt).toNat + 32)).toNat : Int) := by simp; omega
        have hcv := one_byte_at wr _ _ hv
        have HZ := Lib.hid (z1 (UInt8.ofNat ((s[k]'hlt).toNat + 32)))
        obtain ⟨u0, u1⟩ := hup
        clear hg hc hv z1
        go_wp2_with fail
        go_roundw
        case rel => exact ⟨k + 1, _, by omega, by go_num, rfl, hbw.alloc hbs _, HN, HZ.out⟩
        case measure => simp [intOf]; omega
      · have hc : U.low1 (s[k]'hlt) = s[k]'hlt := by unfold U.low1; rw [if_neg hup]
        have HN := low_step hT hg hc
        have hcv := one_byte wr (s[k]'hlt)
        have HZ := Lib.hid (z1 (s[k]'hlt))
        rcases Nat.lt_or_ge (s[k]'hlt).toNat 65 with h1 | h1
        · clear hg hc z1 hup
          go_wp2_with fail
          go_roundw
          case rel => exact ⟨k + 1, _, by omega, by go_num, rfl, hbw.alloc hbs _, HN, HZ.out⟩
          case measure => simp [intOf]; omega
        · have h2 : 91 ≤ (s[k]'hlt).toNat := by omega
          clear hg hc z1 hup
          go_wp2_with fail
          go_roundw
          case rel => exact ⟨k + 1, _, by omega, by go_num, rfl, hbw.alloc hbs _, HN, HZ.out⟩
          case measure => simp [intOf]; omega
    · obtain rfl : k = s.size := by omega
      have hfin := hT.out
      rw [List.take_of_length_le (by omega)] at hfin
      have HF := Lib.hid hfin
      clear hfin
      go_wp2_with fail
      go_ret
      rw [← HF.out, mk_of_list]
      exact ⟨rfl, hbw⟩

end Go.Proofs.YtcdgiohogddbkaaGreatDoor

namespace Go.Proofs.YtcdgiohogddbkaaGreatDoor
open Go.RowKit

set_option maxHeartbeats 4000000 in
set_option maxRecDepth 100000 in
theorem digit_of (c : UInt8) (w : World) : Calls Tryz.prog 59 #[.int .u8 c.toNat] w fun e w' => e = .returned (.int .i64 (U.dig c : Nat)) ∧ w = w' := by
  have hc := c.toNat_lt
  by_cases h1 : 48 ≤ c.toNat ∧ c.toNat ≤ 57
  · have hd := Lib.hid (U.dig_09 h1.1 h1.2)
    obtain ⟨h0, h1⟩ := h1
    go_enter Tryz.func59, Tryz.ntmps59
    go_wp2
    go_ret
    exact ⟨by rw [hd.out, show ((c.toNat - 48 : Nat) : Int) = (c.toNat : Int) - 48 by omega]; rfl, rfl⟩
  by_cases h2 : 97 ≤ c.toNat ∧ c.toNat ≤ 102
  · have hd := Lib.hid (U.dig_af h2.1 h2.2)
    obtain ⟨h0, h2⟩ := h2
    clear h1
    go_enter Tryz.func59, Tryz.ntmps59
    go_wp2
    go_ret
    exact ⟨by rw [hd.out, show ((c.toNat - 87 : Nat) : Int) = (c.toNat : Int) - 97 + 10 by omega]; rfl, rfl⟩
  by_cases h3 : 65 ≤ c.toNat ∧ c.toNat ≤ 70
  · have hd := Lib.hid (U.dig_AF h3.1 h3.2)
    obtain ⟨h0, h3⟩ := h3
    clear h1 h2
    go_enter Tryz.func59, Tryz.ntmps59
    go_wp2
    go_ret
    exact ⟨by rw [hd.out, show ((c.toNat - 55 : Nat) : Int) = (c.toNat : Int) - 65 + 10 by omega]; rfl, rfl⟩
  · have hd := Lib.hid (U.dig_no h1 h2 h3)
    go_enter Tryz.func59, Tryz.ntmps59
    go_wp2
    all_goals first
      | omega
      | (go_ret; exact ⟨by rw [hd.out]; rfl, rfl⟩)

end Go.Proofs.YtcdgiohogddbkaaGreatDoor

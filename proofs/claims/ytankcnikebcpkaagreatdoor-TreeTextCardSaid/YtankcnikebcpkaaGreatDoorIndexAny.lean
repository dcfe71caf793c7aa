/- strings.IndexAny at a set of ASCII bytes, whatever the text's bytes. -/
import Derived.Test.YtankcnikebcpkaaGreatDoorShelf
import Derived.Lib.OthersKept
import Derived.Shelf.Strings.SlTrimAscii
import Derived.WalkMore
import Derived.Deep.QuietTactic
import Derived.Deep.RegionWith
import Derived.Outline
import Derived.Test.YtankcnikebcpkaaGreatDoorP01
import Derived.Test.YtankcnikebcpkaaGreatDoorP05
namespace Go.Proofs.YtankcnikebcpkaaGreatDoor
open Go.RowKit

namespace U
theorem enc_high {n : Nat} (h : 128 ≤ n) (hL : isL n = true) : ∀ b ∈ enc n, 128 ≤ b.toNat := by
  have hL2 := (isL_iff.1 hL).1
  intro b hb
  by_cases h2 : n < 2048
  · rw [enc_two h h2] at hb
    simp only [List.mem_cons, List.not_mem_nil, or_false] at hb
    rcases hb with rfl | rfl <;> simp only [UInt8.toNat_ofNat'] <;> omega
  by_cases h3 : n < 65536
  · rw [enc_three (by omega) h3] at hb
    simp only [List.mem_cons, List.not_mem_nil, or_false] at hb
    rcases hb with rfl | rfl | rfl <;> simp only [UInt8.toNat_ofNat'] <;> omega
  · rw [enc_four (by omega)] at hb
    simp only [List.mem_cons, List.not_mem_nil, or_false] at hb
    rcases hb with rfl | rfl | rfl | rfl <;> simp only [UInt8.toNat_ofNat'] <;> omega
/-- at a byte that is no ASCII: the code point is none, and so is each of its bytes -/
theorem dec_high {l : List UInt8} {b : UInt8} {r : List UInt8} (hl : l = b :: r) (hb : 128 ≤ b.toNat) : 128 ≤ (dec l).1 ∧ isL (dec l).1 = true ∧ ∀ (j : Nat) c, j < (dec l).2 → l[j]? = some c → 128 ≤ c.toNat := by
  have hne : l ≠ [] := by rw [hl]; simp
  refine ⟨?_, dec_isL l hne, ?_⟩
  · rcases dec_spec l hne with h | ⟨n, u, h1, h2, h3⟩
    · rw [h]; decide
    · rw [h3]
      rcases Nat.lt_or_ge n 128 with h4 | h4
      · exfalso
        rw [hl, enc_one h4] at h2
        injection h2 with h2 _
        rw [h2] at hb
        simp only [UInt8.toNat_ofNat'] at hb
        omega
      · exact h4
  · intro j c hj hc
    rcases dec_spec l hne with h | ⟨n, u, h1, h2, h3⟩
    · rw [h] at hj
      obtain rfl : j = 0 := by simp only [bad] at hj; omega
      rw [hl] at hc
      simp only [List.getElem?_cons_zero, Option.some.injEq] at hc
      rwa [← hc]
    · rw [h3] at hj
      simp only at hj
      rw [h2, List.getElem?_append_left hj] at hc
      rcases Nat.lt_or_ge n 128 with h4 | h4
      · exfalso
        rw [hl, enc_one h4] at h2
        injection h2 with h2 _
        rw [h2] at hb
        simp only [UInt8.toNat_ofNat'] at hb
        omega
      · exact enc_high h4 h1 c (List.mem_of_getElem? hc)
end U

theorem asc_contains {chars : List UInt8} (ha : ∀ b ∈ chars, b.toNat < 128) {c : UInt8} (hc : 128 ≤ c.toNat) : chars.contains c = false := by
  cases h : chars.contains c with
  | false => rfl
  | true =>
    have := ha c (by simpa using h)
    omega

set_option maxHeartbeats 4000000 in
set_option maxRecDepth 1000000 in
/-- the mark of a bad byte is not among ASCII bytes -/
theorem index_rune_bad (chars : ByteArray) (w : World) (ha : ∀ b ∈ chars.data.toList, b.toNat < 128) :
    Calls Tryz.prog 97 #[.string chars, .int .i32 65533] w fun e w' => e = .returned (.int .i64 (-1)) ∧ Below w.heap.size w w' := by
  have HA := Lib.hid ha
  clear ha
  go_enter Tryz.func97, Tryz.ntmps97
  go_wp2_with fail
  go_loopw [4] (fun v wr => ∃ pos : Nat, v = .int .i64 0 ∧ wr = w.iter chars pos ∧ pos ≤ chars.size) (fun _ wr => chars.size - wr.iterPos w.heap.size)
  case atStart => exact ⟨0, rfl, rfl, Nat.zero_le _⟩
  case round =>
    obtain ⟨pos, rfl, rfl, hp⟩ := hrel
    by_cases hlt : pos < chars.size
    · have hx := HA.out _ (List.mem_of_getElem? (byte_get chars hlt))
      have hnx := fun ty => run_next_ascii (P := Tryz.prog) w chars pos ty hlt hx
      have hbe : (((chars[pos]'hlt).toNat : Int) == 65533) = false := by rw [beq_eq_false_iff_ne]; omega
      go_wp2_with fail
      go_roundw
      case rel => exact ⟨pos + 1, rfl, rfl, by omega⟩
      case measure => simp; omega
    · obtain rfl : pos = chars.size := by omega
      have hnx := run_next_end (P := Tryz.prog) w chars chars.size
      go_wp2_with fail
      go_ret
      exact ⟨rfl, (Below.refl _ _).alloc (Nat.le_refl _) _⟩

theorem last_high {rs : ByteArray} {m : Nat} (hm : rs.size = m + 1) (h : ∀ h : rs.size - 1 < rs.size, 128 ≤ (rs[rs.size - 1]'h).toNat) (hlt : m < rs.size) : 128 ≤ (rs[m]'hlt).toNat := by
  have e : rs.size - 1 = m := by omega
  have h2 := h (by omega)
  simp only [e] at h2
  exact h2
theorem index_none {chars : ByteArray} (ha : ∀ b ∈ chars.data.toList, b.toNat < 128) (a e : Nat) (b : UInt8) (hb : 128 ≤ b.toNat) : Lib.indexByte (chars.extract a e).data.toList b = -1 := by
  have h1 : (chars.extract a e).data.toList.contains b = false := asc_contains (fun x hx => ha x (mem_extract hx)) hb
  rw [Lib.contains_iff_indexByte] at h1
  have h2 := of_decide_eq_false h1
  have h3 := Lib.indexByte_ge (chars.extract a e).data.toList b
  omega

set_option maxHeartbeats 4000000 in
set_option maxRecDepth 1000000 in
theorem index_rune_high (chars : ByteArray) (c : Nat) (w : World) (hc : 128 ≤ c) (hL : U.isL c = true) (hn : c ≠ 65533) (h5 : 5 ≤ chars.size) (hcs : chars.size ≤ 100) (ha : ∀ b ∈ chars.data.toList, b.toNat < 128) :
    Calls Tryz.prog 97 #[.string chars, .int .i32 c] w fun e w' => e = .returned (.int .i64 (-1)) ∧ Below w.heap.size w w' := by
  have hL2 := U.isL_iff.1 hL
  have hv : Lib.validRune (c : Int) = true := by unfold Lib.validRune; rw [decide_eq_true_iff]; omega
  have hv2 : Utf8.valid (c : Int) = true := by rw [validRune_eq]; unfold Go.validRune; rw [decide_eq_true_iff]; omega
  obtain ⟨e1, e2, e3⟩ := encode_facts (c : Int) hv2 (by omega)
  have hb : ((c : Int) == 65533) = false := by rw [beq_eq_false_iff_ne]; omega
  have hix := fun a e b hb => index_none ha a e b hb
  obtain ⟨rs, hrs⟩ : ∃ rs, rs = Utf8.encode (c : Int) := ⟨_, rfl⟩
  rw [← hrs] at e1 e2 e3
  go_enter Tryz.func97, Tryz.ntmps97
  go_wp2_with (refine (Tryz.utf8_ValidRune _ _).mono ?_; rintro e w' ⟨rfl, rfl⟩; rw [hv])
  go_step3
  go_wp2_with fail
  rw [← hrs]
  clear hrs hv hv2 hL2 hL
  obtain ⟨m, hm⟩ : ∃ m, rs.size = m + 1 := ⟨rs.size - 1, by omega⟩
  have hlt : m < rs.size := by omega
  have hltc : m < chars.size := by omega
  have hz := last_high hm e3 hlt
  have hx : (chars[m]'hltc).toNat < 128 := ha _ (List.mem_of_getElem? (byte_get chars hltc))
  have hm1 : wrap64 ((rs.size : Int) - 1) = (m : Int) := by
    unfold wrap64
    omega
  rw [hm1]
  clear e3 ha hm1
  have hne : (((chars[m]'hltc).toNat : Int) != ((rs[m]'hlt).toNat : Int)) = true := by rw [bne_iff_ne]; omega
  have hix2 := fun a e => hix a e _ hz
  have hbk : (((rs[m]'hlt).toNat : Int)).toNat.toUInt8 = rs[m]'hlt := by simp
  have hIB : ∀ a e w, Calls Tryz.prog 63 #[.string (chars.extract a e), .int .u8 (rs[m]'hlt).toNat] w fun r w' => r = .returned (.int .i64 (-1)) ∧ w' = w := fun a e w => by
    have h := Tryz.strings_IndexByte (chars.extract a e) ((rs[m]'hlt).toNat : Int) w
    rw [hbk, hix2] at h
    exact h
  clear hix hz hx hm e1 e2 h5 hix2 hbk
  go_loopw [9] (fun v wr => v = .int .i64 m ∧ wr = w') (fun _ _ => 0)
  case atStart => exact ⟨rfl, rfl⟩
  case round =>
    obtain ⟨rfl, rfl⟩ := hrel
    go_wp2_with fail
    go_step3
    have hi0 : (0 : Int) ≤ (m : Int) := Int.natCast_nonneg _
    have hi1 : (m : Int) < (chars.size : Int) := by omega
    have hi2 : (m : Int) < (rs.size : Int) := by omega
    have hi3 : IntKind.i64.wrap ((m : Int) + 1) = (m : Int) + 1 := wrap_small _ (by omega) (by omega)
    have hi4 : (m : Int) + 1 ≤ (chars.size : Int) := by omega
    have hi5 : (0 : Int) ≤ (m : Int) + 1 := by omega
    go_wp2_with fail
    go_region
    go_wp2_with fail
    go_region_with (refine (hIB _ _ _).mono ?_; rintro e w2 ⟨rfl, rfl⟩)
    all_goals go_wp2_with fail
    change bodyPost Tryz.prog Tryz.f97 (fun e w'_1 => e = .returned (.int .i64 (-1)) ∧ Below wr.heap.size wr w'_1) Exit.ret _ _
    go_ret
    exact ⟨rfl, below_drewN (below_drewN (Below.refl _ _) 1) 1⟩

end Go.Proofs.YtankcnikebcpkaaGreatDoor

/- TokPlain: a text without < and & is one token. -/
import Derived.Test.YtkmjngpgngkalaaDoorKeep
import Derived.Outline
namespace Go.Proofs.YtkmjngpgngkalaaDoor
open Go.RowKit

namespace U
def plainB (b : UInt8) : Prop := b ≠ 60 ∧ b ≠ 38
theorem plain_kind {l : List UInt8} (h : ∀ b ∈ l, plainB b) : kindOf l = 3 := by
  match l, h with
  | [], _ => rfl
  | [a], _ => rfl
  | a :: c :: r, h => rw [kindOf_cons, if_pos (h a (by simp)).1]
theorem plain_toks {l : List UInt8} (h : ∀ b ∈ l, plainB b) : toks l = if l = [] then [] else [⟨3, [], [], false, l⟩] := by
  by_cases hl : l = []
  · subst hl; rfl
  · rw [if_neg hl]
    have h0 : 0 < l.length := by
      cases l with
      | nil => exact absurd rfl hl
      | cons a r => simp
    have := toks_chars (l := l) (n := l.length) h0 (Nat.le_refl _) (fun i _ => plain_kind (fun b hb => h b (List.mem_of_mem_drop hb))) (.inl rfl)
    rw [List.take_length, List.drop_length, unesc_same (fun hm => (h 38 hm).2 rfl)] at this
    exact this
end U

set_option maxHeartbeats 4000000 in
set_option maxRecDepth 1000000 in
theorem plain_walk (s : ByteArray) (w : World) (hG : Glob w) :
    Calls Tryd.prog 3 #[.string s] w fun e w' => e = .returned (.bool true) ∧ Below w.heap.size w w' := by
  go_enter Tryd.func3, Tryd.ntmps3
  go_wp2_with fail
  go_loopw [3, 4] (fun t i wr => ∃ (k : Nat) (T : ByteArray), k ≤ s.size ∧ k ≤ 200 ∧ i = .int .i64 k ∧ t = .string T ∧ wr = w ∧ Hid (∀ b ∈ T.data.toList, U.plainB b) ∧ T.size ≤ k) (fun _ i _ => s.size - (intOf i).toNat)
  case atStart => exact ⟨0, ⟨#[]⟩, Nat.zero_le _, Nat.zero_le _, rfl, rfl, rfl, Lib.hid (fun b hb => by cases hb), Nat.le_refl _⟩
  case round =>
    obtain ⟨k, T, hk, hk2, rfl, rfl, rfl, hT, hTs⟩ := hrel
    by_cases hlt : k < s.size
    · by_cases h200 : k < 200
      · have hg := byte_get s hlt
        have hx1 : (s.extract k (k + 1)).data.toList = [s[k]'hlt] := by
          rw [Lib.extract_data, drop_byte hg]
          simp
        have hz1 : (T ++ s.extract k (k + 1)).size ≤ k + 1 := by
          rw [ByteArray.size_append, ← len_list (s.extract k (k + 1)), hx1]
          simp
          omega
        have hi0 : (0 : Int) ≤ (k : Int) := Int.natCast_nonneg _
        have hi1 : (k : Int) < (s.size : Int) := by omega
        have hi2 : (k : Int) + 1 ≤ (s.size : Int) := by omega
        have hi3 : (k : Int) < 200 := by omega
        by_cases h60 : ((s[k]'hlt).toNat : Int) = 60
        · have b60 := bne_no h60
          clear hg hx1 hz1 h60
          go_wp2_with fail
          go_roundw
          case rel => exact ⟨k + 1, T, by omega, by omega, by go_num, rfl, (by first | rfl | trivial), hT, by omega⟩
          case measure => simp [intOf]; omega
        · by_cases h38 : ((s[k]'hlt).toNat : Int) = 38
          · have b60 := bne_yes h60
            have b38 := bne_no h38
            clear hg hx1 hz1 h60 h38
            go_wp2_with fail
            go_roundw
            case rel => exact ⟨k + 1, T, by omega, by omega, by go_num, rfl, (by first | rfl | trivial), hT, by omega⟩
            case measure => simp [intOf]; omega
          · have b60 := bne_yes h60
            have b38 := bne_yes h38
            have HN : Hid (∀ b ∈ (T ++ s.extract k (k + 1)).data.toList, U.plainB b) := by
              intro b hb
              rw [ByteArray.data_append, Array.toList_append, hx1] at hb
              rcases List.mem_append.1 hb with hb | hb
              · exact hT.out b hb
              · obtain rfl := List.mem_singleton.1 hb
                exact ⟨fun e => h60 (by rw [e]; rfl), fun e => h38 (by rw [e]; rfl)⟩
            have HZ := Lib.hid hz1
            clear hg hx1 hz1 h60 h38
            go_wp2_with fail
            go_roundw
            case rel => exact ⟨k + 1, _, by omega, by omega, by go_num, rfl, (by first | rfl | trivial), HN, HZ.out⟩
            case measure => simp [intOf]; omega
      · have hpt := U.plain_toks hT.out
        have hp := fun hG => parsed_walk T wr (by omega) hG
        rw [hpt] at hp
        have HP := Lib.hid hp
        clear hpt hp hT
        rcases Nat.eq_zero_or_pos T.size with h0 | h0
        · have hem := empty_of h0
          rw [if_pos (List.eq_nil_of_length_eq_zero (by rw [len_list]; exact h0))] at HP
          go_wp2_with (refine (HP.out hG).mono ?_; rintro e w3 ⟨v, rfl, hR, hb⟩; obtain ⟨ao, cap, rfl, _⟩ := hR)
          all_goals go_ret
          all_goals exact ⟨rfl, by first | exact hb | exact below_drewN hb 1⟩
        · have hem := empty_not h0
          rw [if_neg (fun e => by have := len_list T; rw [e] at this; simp at this; omega)] at HP
          go_wp2_with (refine (HP.out hG).mono ?_; rintro e w3 ⟨v, rfl, hR, hb⟩; obtain ⟨ao, cap, rfl, hc⟩ := hR; obtain ⟨g, o, av, rfl, hlt2, k0, k1, k2, k3, k4, _⟩ := hc 0 _ rfl; clear hc; simp only [mk_of_list, Nat.zero_mul, Nat.add_zero] at k0 k1 k2 k3 k4)
          all_goals go_ret
          all_goals exact ⟨rfl, by first | exact hb | exact below_drewN hb 1⟩
    · have hpt := U.plain_toks hT.out
      have hp := fun hG => parsed_walk T wr (by omega) hG
      rw [hpt] at hp
      have HP := Lib.hid hp
      clear hpt hp hT
      rcases Nat.eq_zero_or_pos T.size with h0 | h0
      · have hem := empty_of h0
        rw [if_pos (List.eq_nil_of_length_eq_zero (by rw [len_list]; exact h0))] at HP
        go_wp2_with (refine (HP.out hG).mono ?_; rintro e w3 ⟨v, rfl, hR, hb⟩; obtain ⟨ao, cap, rfl, _⟩ := hR)
        all_goals go_ret
        all_goals exact ⟨rfl, by first | exact hb | exact below_drewN hb 1⟩
      · have hem := empty_not h0
        rw [if_neg (fun e => by have := len_list T; rw [e] at this; simp at this; omega)] at HP
        go_wp2_with (refine (HP.out hG).mono ?_; rintro e w3 ⟨v, rfl, hR, hb⟩; obtain ⟨ao, cap, rfl, hc⟩ := hR; obtain ⟨g, o, av, rfl, hlt2, k0, k1, k2, k3, k4, _⟩ := hc 0 _ rfl; clear hc; simp only [mk_of_list, Nat.zero_mul, Nat.add_zero] at k0 k1 k2 k3 k4)
        all_goals go_ret
        all_goals exact ⟨rfl, by first | exact hb | exact below_drewN hb 1⟩

end Go.Proofs.YtkmjngpgngkalaaDoor

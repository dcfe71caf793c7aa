/- The reference: nameMay. -/
import Derived.Test.YtmfkefcdddoooaaEmitDef
import Derived.Test.YtmfkefcdddoooaaWords
import Derived.Test.YtmfkefcdddoooaaBytes
import Derived.Outline
namespace Go.Proofs.Ytmfkefcdddoooaa
open Go.RowKit

theorem isName_iff (l : List UInt8) : U.isName l = true ↔ 1 ≤ l.length ∧ l.length ≤ 12 ∧ (∀ b, l[0]? = some b → U.small b = true) ∧ l.all U.nameB2 = true := by
  cases l with
  | nil => simp [U.isName]
  | cons c r =>
    unfold U.isName
    rw [Bool.and_eq_true, Bool.and_eq_true, decide_eq_true_eq, List.all_cons, Bool.and_eq_true]
    constructor
    · rintro ⟨⟨h1, h2⟩, h3⟩
      refine ⟨by simp, by simp; omega, ?_, (U.small_facts h1).2, h2⟩
      intro b hb
      simp at hb
      exact hb ▸ h1
    · rintro ⟨_, h2, h3, h4⟩
      refine ⟨⟨h3 c rfl, h4.2⟩, ?_⟩
      simp at h2
      omega
theorem small_iff (b : UInt8) : U.small b = true ↔ 97 ≤ b.toNat ∧ b.toNat ≤ 122 := by
  unfold U.small
  rw [Bool.and_eq_true, decide_eq_true_eq, decide_eq_true_eq]
theorem nameB2_iff (b : UInt8) : U.nameB2 b = true ↔ (97 ≤ b.toNat ∧ b.toNat ≤ 122) ∨ b.toNat = 45 ∨ (48 ≤ b.toNat ∧ b.toNat ≤ 57) := by
  unfold U.nameB2
  rw [Bool.or_eq_true, Bool.or_eq_true, small_iff, Bool.and_eq_true, decide_eq_true_eq, decide_eq_true_eq, beq_iff_eq]
  have : b = 45 ↔ b.toNat = 45 := ⟨fun h => by rw [h]; rfl, fun h => UInt8.toNat.inj h⟩
  rw [this]
  omega
theorem all_grow {l : List UInt8} {k : Nat} {b : UInt8} (h : (l.take k).all U.nameB2 = true) (hb : l[k]? = some b) (hn : U.nameB2 b = true) : (l.take (k + 1)).all U.nameB2 = true := by
  obtain ⟨hk, e⟩ := List.getElem?_eq_some_iff.1 hb
  rw [List.take_succ_eq_append_getElem hk, e, List.all_append, h]
  simp [hn]
theorem not_name {l : List UInt8} {k : Nat} {b : UInt8} (hb : l[k]? = some b) (hn : U.nameB2 b = false ∨ (k = 0 ∧ U.small b = false)) : U.isName l = false := by
  cases h : U.isName l with
  | false => rfl
  | true =>
    obtain ⟨_, _, h3, h4⟩ := (isName_iff l).1 h
    rcases hn with hn | ⟨rfl, hn⟩
    · have := List.all_eq_true.1 h4 b (List.mem_of_getElem? hb)
      rw [hn] at this
      cases this
    · have := h3 b hb
      rw [hn] at this
      cases this

set_option maxHeartbeats 2000000 in
set_option maxRecDepth 1000000 in
theorem name_may (s : ByteArray) (w : World) :
    Calls Try.prog 50 #[.string s] w fun e w' => e = .returned (.bool (U.isName s.data.toList)) ∧ w = w' := by
  have hl : s.data.toList.length = s.size := by rw [Array.length_toList]; rfl
  go_enter Try.func50, Try.ntmps50
  by_cases h0 : s.size < 1
  · have hr : U.isName s.data.toList = false := by
      cases h : U.isName s.data.toList with
      | false => rfl
      | true => have := ((isName_iff _).1 h).1; omega
    rw [hr]
    go_wp2_with fail
    go_ret
    exact ⟨rfl, rfl⟩
  by_cases h1 : 12 < s.size
  · have hr : U.isName s.data.toList = false := by
      cases h : U.isName s.data.toList with
      | false => rfl
      | true => have := ((isName_iff _).1 h).2.1; omega
    rw [hr]
    go_wp2_with fail
    go_ret
    exact ⟨rfl, rfl⟩
  obtain ⟨R, hR⟩ : ∃ R, U.isName s.data.toList = R := ⟨_, rfl⟩
  rw [hR]
  have HR := Lib.hid hR
  clear hR
  go_wp2_with fail
  go_loopw [3] (fun i wr => ∃ k : Nat, k ≤ s.size ∧ i = .int .i64 k ∧ w = wr ∧ Hid ((s.data.toList.take k).all U.nameB2 = true ∧ (0 < k → ∀ b, s.data.toList[0]? = some b → U.small b = true))) (fun i _ => s.size - (intOf i).toNat)
  case atStart => exact ⟨0, Nat.zero_le _, rfl, rfl, rfl, fun h => absurd h (Nat.lt_irrefl 0)⟩
  case round =>
    obtain ⟨k, hk, rfl, rfl, HA⟩ := hrel
    by_cases hlt : k < s.size
    · have hb := byte_get s hlt
      have HB := Lib.hid hb
      have hk0 : (0 : Int) ≤ (k : Int) := Int.natCast_nonneg _
      have hk1 : (k : Int) < (s.size : Int) := by omega
      clear hb
      have hok : U.nameB2 (s[k]'hlt) = true → (k = 0 → U.small (s[k]'hlt) = true) → Hid ((s.data.toList.take (k + 1)).all U.nameB2 = true ∧ (0 < k + 1 → ∀ b, s.data.toList[0]? = some b → U.small b = true)) := fun hn h0s => by
        refine ⟨all_grow HA.out.1 HB.out hn, fun _ b hb0 => ?_⟩
        rcases Nat.eq_zero_or_pos k with hz | hz
        · subst hz
          have := HB.out.symm.trans hb0
          injection this with this
          exact this ▸ h0s rfl
        · exact HA.out.2 hz b hb0
      have hno : U.nameB2 (s[k]'hlt) = false ∨ (k = 0 ∧ U.small (s[k]'hlt) = false) → R = false := fun hn => HR.out.symm.trans (not_name HB.out hn)
      have hsm := small_iff (s[k]'hlt)
      have hnb := nameB2_iff (s[k]'hlt)
      have hb256 := (s[k]'hlt).toNat_lt
      have HOK := Lib.hid hok
      have HNO := Lib.hid hno
      have HSM := Lib.hid hsm
      have HNB := Lib.hid hnb
      clear hok hno hsm hnb
      by_cases hs1 : 97 ≤ (s[k]'hlt).toNat ∧ (s[k]'hlt).toNat ≤ 122
      · obtain ⟨d1, d2⟩ := hs1
        go_wp2_with fail
        go_roundw
        case rel => exact ⟨k + 1, by omega, by go_num, by first | rfl | trivial, HOK.out (HNB.out.2 (.inl ⟨d1, d2⟩)) (fun _ => HSM.out.2 ⟨d1, d2⟩)⟩
        case measure => simp [intOf]; omega
      · have hns : U.small (s[k]'hlt) = false := by
          cases h : U.small (s[k]'hlt) with
          | false => rfl
          | true => exact absurd (HSM.out.1 h) hs1
        have hsb : (decide (97 ≤ ((s[k]'hlt).toNat : Int)) && decide (((s[k]'hlt).toNat : Int) ≤ 122)) = false := by
          rw [Bool.and_eq_false_iff, decide_eq_false_iff_not, decide_eq_false_iff_not]; omega
        rcases Nat.eq_zero_or_pos k with hz | hz
        · have hRf := HNO.out (.inr ⟨hz, hns⟩)
          subst hRf
          subst hz
          clear HSM HNB HOK HNO hns hsb
          rcases Nat.lt_or_ge (s[0]'hlt).toNat 97 with h97 | h97
          · clear hs1
            go_wp2_with fail
            go_ret
            exact ⟨rfl, rfl⟩
          · have h122 : 122 < (s[0]'hlt).toNat := by omega
            have e122 : decide (((s[0]'hlt).toNat : Int) ≤ 122) = false := decide_eq_false (by omega)
            clear hs1
            go_wp2_with fail
            go_ret
            exact ⟨rfl, rfl⟩
        · have hk3 : ((k : Int) == 0) = false := beq_eq_false_iff_ne.2 (by omega)
          by_cases h45 : (s[k]'hlt).toNat = 45
          · have n45 : (((s[k]'hlt).toNat : Int) != 45) = false := by rw [h45]; rfl
            have h97 : (s[k]'hlt).toNat < 97 := by omega
            have hnn := HNB.out.2 (.inr (.inl h45))
            have HK := Lib.hid (HOK.out hnn (fun e => absurd e (by omega)))
            clear h45 hs1 hsb hnn HOK HNO
            go_wp2_with fail
            go_roundw
            case rel => exact ⟨k + 1, by omega, by go_num, by first | rfl | trivial, HK.out⟩
            case measure => simp [intOf]; omega
          · have n45 : (((s[k]'hlt).toNat : Int) != 45) = true := bne_iff_ne.2 (by omega)
            by_cases hd : 48 ≤ (s[k]'hlt).toNat ∧ (s[k]'hlt).toNat ≤ 57
            · obtain ⟨h48, h57⟩ := hd
              have h97 : (s[k]'hlt).toNat < 97 := by omega
              have hnn := HNB.out.2 (.inr (.inr ⟨h48, h57⟩))
              have HK := Lib.hid (HOK.out hnn (fun e => absurd e (by omega)))
              clear h45 hs1 hsb hnn HOK HNO
              go_wp2_with fail
              go_roundw
              case rel => exact ⟨k + 1, by omega, by go_num, by first | rfl | trivial, HK.out⟩
              case measure => simp [intOf]; omega
            · have hnb0 : U.nameB2 (s[k]'hlt) = false := by
                cases h : U.nameB2 (s[k]'hlt) with
                | false => rfl
                | true => have := HNB.out.1 h; omega
              have hRf := HNO.out (.inl hnb0)
              subst hRf
              clear HSM HNB HOK HNO hns hnb0
              rcases Nat.lt_or_ge (s[k]'hlt).toNat 48 with h48 | h48
              · have h97 : (s[k]'hlt).toNat < 97 := by omega
                clear h45 hs1 hsb hd
                go_wp2_with fail
                go_ret
                exact ⟨rfl, rfl⟩
              · have h57 : 57 < (s[k]'hlt).toNat := by omega
                rcases Nat.lt_or_ge (s[k]'hlt).toNat 97 with h97 | h97
                · clear h45 hd hsb hs1
                  go_wp2_with fail
                  go_ret
                  exact ⟨rfl, rfl⟩
                · have h122 : 122 < (s[k]'hlt).toNat := by omega
                  have e122 : decide (((s[k]'hlt).toNat : Int) ≤ 122) = false := decide_eq_false (by omega)
                  clear h45 hd hsb hs1
                  go_wp2_with fail
                  go_ret
                  exact ⟨rfl, rfl⟩
    · go_wp2_with fail
      go_ret
      refine ⟨?_, rfl⟩
      have hall : (s.data.toList.take k).all U.nameB2 = true := HA.out.1
      rw [List.take_of_length_le (by omega)] at hall
      have : U.isName s.data.toList = true := (isName_iff _).2 ⟨by omega, by omega, HA.out.2 (by omega), hall⟩
      rw [HR.out] at this
      rw [this]
      rfl

end Go.Proofs.Ytmfkefcdddoooaa

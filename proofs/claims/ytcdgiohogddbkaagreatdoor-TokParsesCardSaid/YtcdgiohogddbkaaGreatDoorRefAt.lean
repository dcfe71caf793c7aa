/- The reference: refAt. -/
import Derived.OwnWalk
import Derived.Handy
import Derived.Deep.RegionWith
import Derived.Outline
import Derived.Test.YtcdgiohogddbkaaGreatDoorP13
import Derived.Test.YtcdgiohogddbkaaGreatDoorRefBytes
import Derived.Test.YtcdgiohogddbkaaGreatDoorP02
import Derived.Test.YtcdgiohogddbkaaGreatDoorP03
namespace Go.Proofs.YtcdgiohogddbkaaGreatDoor
open Go.RowKit

def refV : Option (Nat × Nat) → Value
  | some (n, k) => .tuple #[.int .i64 (n : Nat), .int .i64 (k : Nat)]
  | none => .tuple #[.int .i64 0, .int .i64 0]

theorem take_extract (s : ByteArray) (n : Nat) : (s.extract 0 n).toList = s.data.toList.take n := by
  rw [Lib.toList_data, Lib.extract_data]
  simp
theorem nohit_more {l : List UInt8} {k : Nat} (h : Hid (∀ j, j < k → ¬ U.hit j l)) (hk : ¬ U.hit k l) : Hid (∀ j, j < k + 1 → ¬ U.hit j l) := by
  intro j hj
  rcases Nat.lt_or_ge j k with h1 | h1
  · exact h.out j h1
  · obtain rfl : j = k := by omega
    exact hk

set_option maxHeartbeats 8000000 in
set_option maxRecDepth 1000000 in
theorem ref_at (s : ByteArray) (w : World) (hs : s.size ≤ 140737488351232) :
    Calls Tryz.prog 46 #[.string s] w fun e w' => e = .returned (refV (U.refAt s.data.toList)) ∧ Below w.heap.size w w' := by
  have hlen : s.data.toList.length = s.size := by rw [Array.length_toList]; rfl
  go_enter Tryz.func46, Tryz.ntmps46
  go_wp2_with fail
  go_loop [17] (fun i => ∃ k : Nat, k ≤ 6 ∧ i = .int .i64 k ∧ Hid (∀ j, j < k → ¬ U.hit j s.data.toList)) (fun i => 6 - (intOf i).toNat)
  case atStart => exact ⟨0, by decide, rfl, fun j hj => absurd hj (Nat.not_lt_zero _)⟩
  case round =>
    obtain ⟨k, hk, rfl, hno⟩ := hrel
    match k, hk with
    | 0, _ =>
      go_wp2_with fail
      · have h := ‹((s.extract 0 5).toList == [38, 97, 109, 112, 59]) = true›
        rw [take_extract, beq_iff_eq] at h
        have hr := Lib.hid (U.hit_refAt (U.hit_iff.2 (show s.data.toList.take (U.nm 0).length = U.nm 0 from h)))
        go_ret2
        rw [hr.out]
        exact ⟨rfl, by go_grown⟩
      · have h := ‹((s.extract 0 5).toList == [38, 97, 109, 112, 59]) = false›
        rw [take_extract, beq_eq_false_iff_ne] at h
        have hn := nohit_more hno (fun hh => h (U.hit_iff.1 hh))
        go_round
        case rel => exact ⟨1, by decide, rfl, hn⟩
        case measure => simp [intOf]
      · have h := ‹¬ 5 ≤ (s.size : Int)›
        have hn := nohit_more (k := 0) hno (fun hh => by
          obtain ⟨t, e⟩ := hh
          have := congrArg List.length e
          rw [List.length_append, hlen] at this
          have h2 : (U.nm 0).length = 5 := rfl
          omega)
        go_round
        case rel => exact ⟨1, by decide, rfl, hn⟩
        case measure => simp [intOf]
    | 1, _ =>
      go_wp2_with fail
      · have h := ‹((s.extract 0 4).toList == [38, 108, 116, 59]) = true›
        rw [take_extract, beq_iff_eq] at h
        have hr := Lib.hid (U.hit_refAt (U.hit_iff.2 (show s.data.toList.take (U.nm 1).length = U.nm 1 from h)))
        go_ret2
        rw [hr.out]
        exact ⟨rfl, by go_grown⟩
      · have h := ‹((s.extract 0 4).toList == [38, 108, 116, 59]) = false›
        rw [take_extract, beq_eq_false_iff_ne] at h
        have hn := nohit_more hno (fun hh => h (U.hit_iff.1 hh))
        go_round
        case rel => exact ⟨2, by decide, rfl, hn⟩
        case measure => simp [intOf]
      · have h := ‹¬ 4 ≤ (s.size : Int)›
        have hn := nohit_more (k := 1) hno (fun hh => by
          obtain ⟨t, e⟩ := hh
          have := congrArg List.length e
          rw [List.length_append, hlen] at this
          have h2 : (U.nm 1).length = 4 := rfl
          omega)
        go_round
        case rel => exact ⟨2, by decide, rfl, hn⟩
        case measure => simp [intOf]
    | 2, _ =>
      go_wp2_with fail
      · have h := ‹((s.extract 0 4).toList == [38, 103, 116, 59]) = true›
        rw [take_extract, beq_iff_eq] at h
        have hr := Lib.hid (U.hit_refAt (U.hit_iff.2 (show s.data.toList.take (U.nm 2).length = U.nm 2 from h)))
        go_ret2
        rw [hr.out]
        exact ⟨rfl, by go_grown⟩
      · have h := ‹((s.extract 0 4).toList == [38, 103, 116, 59]) = false›
        rw [take_extract, beq_eq_false_iff_ne] at h
        have hn := nohit_more hno (fun hh => h (U.hit_iff.1 hh))
        go_round
        case rel => exact ⟨3, by decide, rfl, hn⟩
        case measure => simp [intOf]
      · have h := ‹¬ 4 ≤ (s.size : Int)›
        have hn := nohit_more (k := 2) hno (fun hh => by
          obtain ⟨t, e⟩ := hh
          have := congrArg List.length e
          rw [List.length_append, hlen] at this
          have h2 : (U.nm 2).length = 4 := rfl
          omega)
        go_round
        case rel => exact ⟨3, by decide, rfl, hn⟩
        case measure => simp [intOf]
    | 3, _ =>
      go_wp2_with fail
      · have h := ‹((s.extract 0 6).toList == [38, 113, 117, 111, 116, 59]) = true›
        rw [take_extract, beq_iff_eq] at h
        have hr := Lib.hid (U.hit_refAt (U.hit_iff.2 (show s.data.toList.take (U.nm 3).length = U.nm 3 from h)))
        go_ret2
        rw [hr.out]
        exact ⟨rfl, by go_grown⟩
      · have h := ‹((s.extract 0 6).toList == [38, 113, 117, 111, 116, 59]) = false›
        rw [take_extract, beq_eq_false_iff_ne] at h
        have hn := nohit_more hno (fun hh => h (U.hit_iff.1 hh))
        go_round
        case rel => exact ⟨4, by decide, rfl, hn⟩
        case measure => simp [intOf]
      · have h := ‹¬ 6 ≤ (s.size : Int)›
        have hn := nohit_more (k := 3) hno (fun hh => by
          obtain ⟨t, e⟩ := hh
          have := congrArg List.length e
          rw [List.length_append, hlen] at this
          have h2 : (U.nm 3).length = 6 := rfl
          omega)
        go_round
        case rel => exact ⟨4, by decide, rfl, hn⟩
        case measure => simp [intOf]
    | 4, _ =>
      go_wp2_with fail
      · have h := ‹((s.extract 0 6).toList == [38, 110, 98, 115, 112, 59]) = true›
        rw [take_extract, beq_iff_eq] at h
        have hr := Lib.hid (U.hit_refAt (U.hit_iff.2 (show s.data.toList.take (U.nm 4).length = U.nm 4 from h)))
        go_ret2
        rw [hr.out]
        exact ⟨rfl, by go_grown⟩
      · have h := ‹((s.extract 0 6).toList == [38, 110, 98, 115, 112, 59]) = false›
        rw [take_extract, beq_eq_false_iff_ne] at h
        have hn := nohit_more hno (fun hh => h (U.hit_iff.1 hh))
        go_round
        case rel => exact ⟨5, by decide, rfl, hn⟩
        case measure => simp [intOf]
      · have h := ‹¬ 6 ≤ (s.size : Int)›
        have hn := nohit_more (k := 4) hno (fun hh => by
          obtain ⟨t, e⟩ := hh
          have := congrArg List.length e
          rw [List.length_append, hlen] at this
          have h2 : (U.nm 4).length = 6 := rfl
          omega)
        go_round
        case rel => exact ⟨5, by decide, rfl, hn⟩
        case measure => simp [intOf]
    | 5, _ =>
      go_wp2_with fail
      · have h := ‹((s.extract 0 6).toList == [38, 99, 111, 112, 121, 59]) = true›
        rw [take_extract, beq_iff_eq] at h
        have hr := Lib.hid (U.hit_refAt (U.hit_iff.2 (show s.data.toList.take (U.nm 5).length = U.nm 5 from h)))
        go_ret2
        rw [hr.out]
        exact ⟨rfl, by go_grown⟩
      · have h := ‹((s.extract 0 6).toList == [38, 99, 111, 112, 121, 59]) = false›
        rw [take_extract, beq_eq_false_iff_ne] at h
        have hn := nohit_more hno (fun hh => h (U.hit_iff.1 hh))
        go_round
        case rel => exact ⟨6, by decide, rfl, hn⟩
        case measure => simp [intOf]
      · have h := ‹¬ 6 ≤ (s.size : Int)›
        have hn := nohit_more (k := 5) hno (fun hh => by
          obtain ⟨t, e⟩ := hh
          have := congrArg List.length e
          rw [List.length_append, hlen] at this
          have h2 : (U.nm 5).length = 6 := rfl
          omega)
        go_round
        case rel => exact ⟨6, by decide, rfl, hn⟩
        case measure => simp [intOf]
    | 6, _ =>
      by_cases h3 : s.size < 3
      · have hr := Lib.hid (U.refAt_two hno.out (by rw [hlen]; exact h3))
        clear hno
        go_wp2_with fail
        go_ret2
        rw [hr.out]
        exact ⟨rfl, by go_grown⟩
      have hge : 3 ≤ s.size := by omega
      have h2lt : 2 < s.size := hge
      have htk := take_extract s 2
      by_cases h2 : s.data.toList.take 2 = [38, 35]
      · have t2 : ((s.extract 0 2).toList == [38, 35]) = true := by rw [htk, h2]; rfl
        have hl : s.data.toList = 38 :: 35 :: s.data.toList.drop 2 := by
          conv => lhs; rw [← List.take_append_drop 2 s.data.toList, h2]
          rfl
        have hc : (s.data.toList.drop 2) = (s[2]'h2lt) :: s.data.toList.drop 3 := drop_byte (byte_get s (by omega))
        have hb := (s[2]'h2lt).toNat_lt
        have HLc := Lib.hid hl
        have HC := Lib.hid hc
        clear htk h2 hl hc h3
        by_cases hx : ((s[2]'h2lt).toNat : Int) = 120
        · have t3 := beq_yes hx
          have HX : Hid (s[2]'h2lt = 120) := (byte_eq (k := 120) (by decide)).1 (by omega)
          clear hx
          have HE := Lib.hid (show ∀ j : Nat, U.allDig 16 ((s.data.toList.drop 3).take j) = true → ((s.data.toList.drop 3)[j]? = none ∨ ∃ c, (s.data.toList.drop 3)[j]? = some c ∧ ¬ U.dig c < 16) →
              U.refAt s.data.toList = if (s.data.toList.drop 3)[j]? = some 59 ∧ 1 ≤ j ∧ j ≤ 6 then some (U.point (U.val 16 0 ((s.data.toList.drop 3).take j)), j + 4) else none from fun j a b => by
              have := U.hex_end (r := s.data.toList.drop 3) (x := s[2]'h2lt) (by rw [← HC.out]; exact HLc.out) hno.out (.inl HX.out) a b
              rw [this])
          have hRl : (s.data.toList.drop 3).length + 3 = s.size := by rw [List.length_drop, hlen]; omega
          have HRg := Lib.hid (show ∀ (j : Nat) (h : 3 + j < s.size), (s.data.toList.drop 3)[j]? = some (s[3 + j]'h) from fun j h => by rw [List.getElem?_drop]; exact byte_get s h)
          generalize s.data.toList.drop 3 = R at HE hRl HRg
          clear hno HLc HC HX
          go_wp2_with fail
          go_loop [8, 11, 12] (fun va vn vk => ∃ j N : Nat, va = .int .i64 ((3 : Int) + j) ∧ vn = .int .i64 N ∧ vk = .int .i64 j ∧ 3 + j ≤ s.size ∧ N < 4294967296 ∧ Hid (U.allDig 16 (R.take j) = true ∧ N = U.val 16 0 (R.take (min j 7)))) (fun va _ _ => s.size - (intOf va).toNat)
          case atStart => exact ⟨0, 0, rfl, rfl, rfl, by omega, by decide, rfl, rfl⟩
          case round =>
            obtain ⟨j, N, rfl, rfl, rfl, hj, hN, hh⟩ := hrel
            by_cases hlt : 3 + j < s.size
            · have hg := Lib.hid (HRg.out j hlt)
              by_cases hd : U.dig (s[3 + j]'hlt) < 16
              · have hmore := U.dig_more hg.out hh.out.1 hd
                by_cases hjm : j ≤ 6
                · have hv : Hid (U.allDig 16 (R.take (j + 1)) = true ∧ N * 16 + U.dig (s[3 + j]'hlt) = U.val 16 0 (R.take (min (j + 1) 7))) := by
                    refine ⟨hmore.1, ?_⟩
                    have hNv := hh.out.2
                    rw [show min j 7 = j by omega] at hNv
                    rw [show min (j + 1) 7 = j + 1 by omega, hmore.2, ← hNv]
                  have hb8 : N * 16 + U.dig (s[3 + j]'hlt) < 4294967296 := by
                    rw [hv.out.2]
                    exact U.val_small8 (U.allDig_take hmore.1 _ (by omega)) (by decide) (by rw [List.length_take]; omega)
                  clear hmore hh hg
                  go_wp2_with (refine (digit_of _ _).mono ?_; rintro e w2 ⟨rfl, rfl⟩)
                  go_round
                  case rel => exact ⟨j + 1, N * 16 + U.dig (s[3 + j]'hlt), by go_num, by go_num, by go_num, by omega, hb8, hv⟩
                  case measure => simp [intOf]; omega
                · have hv : Hid (U.allDig 16 (R.take (j + 1)) = true ∧ N = U.val 16 0 (R.take (min (j + 1) 7))) := by
                    refine ⟨hmore.1, ?_⟩
                    have hNv := hh.out.2
                    rw [show min j 7 = 7 by omega] at hNv
                    rw [show min (j + 1) 7 = 7 by omega, ← hNv]
                  clear hmore hh hg
                  go_wp2_with (refine (digit_of _ _).mono ?_; rintro e w2 ⟨rfl, rfl⟩)
                  go_round
                  case rel => exact ⟨j + 1, N, by go_num, rfl, by go_num, by omega, hN, hv⟩
                  case measure => simp [intOf]; omega
              · have hres := HE.out j hh.out.1 (.inr ⟨_, hg.out, hd⟩)
                rw [hg.out] at hres
                have hbt := (s[3 + j]'hlt).toNat_lt
                by_cases hgood : 1 ≤ j ∧ j ≤ 6
                · obtain ⟨h1, h7⟩ := hgood
                  have hj0 : ((j : Int) == 0) = false := by rw [beq_eq_false_iff_ne]; omega
                  by_cases h59 : ((s[3 + j]'hlt).toNat : Int) = 59
                  · have t59 : (((s[3 + j]'hlt).toNat : Int) != 59) = false := by rw [h59]; rfl
                    have e59 : s[3 + j]'hlt = 59 := (byte_eq (k := 59) (by decide)).1 (by omega)
                    have hNv := hh.out.2
                    rw [show min j 7 = j by omega] at hNv
                    rw [if_pos ⟨by rw [e59], h1, h7⟩, ← hNv] at hres
                    have HR := Lib.hid hres
                    clear hres e59 h59 hNv hh hg
                    have hok := U.okI_nat (n := N)
                    have HK0 : ((j + 4 : Nat) : Int) = (3 : Int) + (j : Int) + 1 := by omega
                    have HKh := Lib.hid HK0
                    clear HK0
                    by_cases hz : N = 0
                    · have tz : ((N : Int) == 0) = true := by rw [hz]; rfl
                      have HP := Lib.hid (show U.point N = 65533 by rw [hz]; decide)
                      clear hok
                      go_wp2_with (first | (refine (digit_of _ _).mono ?_; rintro e w2 ⟨rfl, rfl⟩) | (refine (is_letter _ _).mono ?_; rintro e w2 ⟨rfl, rfl⟩))
                      all_goals go_ret2
                      all_goals rw [HR.out, HP.out]
                      all_goals exact ⟨by rw [refV, HKh.out]; rfl, by go_grown⟩
                    · have tz : ((N : Int) == 0) = false := by simpa using hz
                      cases hL : U.isL N
                      · have HP := Lib.hid (show U.point N = 65533 by unfold U.point; rw [if_pos (by simp [hL])])
                        rw [hL] at hok
                        have HO := Lib.hid hok
                        clear hL hok
                        go_wp2_with (first | (refine (digit_of _ _).mono ?_; rintro e w2 ⟨rfl, rfl⟩) | (refine (is_letter _ _).mono ?_; rintro e w2 ⟨rfl, rfl⟩; rw [HO.out]))
                        all_goals go_ret2
                        all_goals rw [HR.out, HP.out]
                        all_goals exact ⟨by rw [refV, HKh.out]; rfl, by go_grown⟩
                      · have HP := Lib.hid (show U.point N = N by unfold U.point; rw [if_neg (by simp [hL, hz])])
                        rw [hL] at hok
                        have HO := Lib.hid hok
                        clear hL hok
                        go_wp2_with (first | (refine (digit_of _ _).mono ?_; rintro e w2 ⟨rfl, rfl⟩) | (refine (is_letter _ _).mono ?_; rintro e w2 ⟨rfl, rfl⟩; rw [HO.out]))
                        all_goals go_ret2
                        all_goals rw [HR.out, HP.out]
                        all_goals exact ⟨by rw [refV, HKh.out]; rfl, by go_grown⟩
                  · have t59 : (((s[3 + j]'hlt).toNat : Int) != 59) = true := bne_iff_ne.2 h59
                    rw [if_neg (fun h => h59 (by have := h.1; injection this with this; rw [this]; rfl))] at hres
                    have HR := Lib.hid hres
                    clear hres h59 hh hg
                    go_wp2_with (refine (digit_of _ _).mono ?_; rintro e w2 ⟨rfl, rfl⟩)
                    all_goals go_ret2
                    all_goals rw [HR.out]
                    all_goals exact ⟨rfl, by go_grown⟩
                · rw [if_neg (fun h => hgood h.2)] at hres
                  have HR := Lib.hid hres
                  clear hres hh hg
                  by_cases hj0 : j = 0
                  · have tj : ((j : Int) == 0) = true := by rw [hj0]; rfl
                    clear hgood hj0
                    go_wp2_with (refine (digit_of _ _).mono ?_; rintro e w2 ⟨rfl, rfl⟩)
                    all_goals go_ret2
                    all_goals rw [HR.out]
                    all_goals exact ⟨rfl, by go_grown⟩
                  · have tj : ((j : Int) == 0) = false := by simpa using hj0
                    have hbig : 6 < j := by omega
                    clear hgood
                    go_wp2_with (refine (digit_of _ _).mono ?_; rintro e w2 ⟨rfl, rfl⟩)
                    all_goals go_ret2
                    all_goals rw [HR.out]
                    all_goals exact ⟨rfl, by go_grown⟩
            · have hnone : R[j]? = none := List.getElem?_eq_none (by omega)
              have hres := HE.out j hh.out.1 (.inl hnone)
              rw [if_neg (fun h => by rw [hnone] at h; cases h.1)] at hres
              have HR := Lib.hid hres
              clear hres hh hnone
              by_cases hj0 : j = 0
              · have tj : ((j : Int) == 0) = true := by rw [hj0]; rfl
                clear hj0
                go_wp2_with fail
                all_goals go_ret2
                all_goals rw [HR.out]
                all_goals exact ⟨rfl, by go_grown⟩
              · have tj : ((j : Int) == 0) = false := by simpa using hj0
                go_wp2_with fail
                all_goals go_ret2
                all_goals rw [HR.out]
                all_goals exact ⟨rfl, by go_grown⟩
        have t3 := beq_no hx
        by_cases hX : ((s[2]'h2lt).toNat : Int) = 88
        · have t4 := beq_yes hX
          have HX : Hid (s[2]'h2lt = 88) := (byte_eq (k := 88) (by decide)).1 (by omega)
          clear hx hX
          have HE := Lib.hid (show ∀ j : Nat, U.allDig 16 ((s.data.toList.drop 3).take j) = true → ((s.data.toList.drop 3)[j]? = none ∨ ∃ c, (s.data.toList.drop 3)[j]? = some c ∧ ¬ U.dig c < 16) →
              U.refAt s.data.toList = if (s.data.toList.drop 3)[j]? = some 59 ∧ 1 ≤ j ∧ j ≤ 6 then some (U.point (U.val 16 0 ((s.data.toList.drop 3).take j)), j + 4) else none from fun j a b => by
              have := U.hex_end (r := s.data.toList.drop 3) (x := s[2]'h2lt) (by rw [← HC.out]; exact HLc.out) hno.out (.inr HX.out) a b
              rw [this])
          have hRl : (s.data.toList.drop 3).length + 3 = s.size := by rw [List.length_drop, hlen]; omega
          have HRg := Lib.hid (show ∀ (j : Nat) (h : 3 + j < s.size), (s.data.toList.drop 3)[j]? = some (s[3 + j]'h) from fun j h => by rw [List.getElem?_drop]; exact byte_get s h)
          generalize s.data.toList.drop 3 = R at HE hRl HRg
          clear hno HLc HC HX
          go_wp2_with fail
          go_loop [8, 11, 12] (fun va vn vk => ∃ j N : Nat, va = .int .i64 ((3 : Int) + j) ∧ vn = .int .i64 N ∧ vk = .int .i64 j ∧ 3 + j ≤ s.size ∧ N < 4294967296 ∧ Hid (U.allDig 16 (R.take j) = true ∧ N = U.val 16 0 (R.take (min j 7)))) (fun va _ _ => s.size - (intOf va).toNat)
          case atStart => exact ⟨0, 0, rfl, rfl, rfl, by omega, by decide, rfl, rfl⟩
          case round =>
            obtain ⟨j, N, rfl, rfl, rfl, hj, hN, hh⟩ := hrel
            by_cases hlt : 3 + j < s.size
            · have hg := Lib.hid (HRg.out j hlt)
              by_cases hd : U.dig (s[3 + j]'hlt) < 16
              · have hmore := U.dig_more hg.out hh.out.1 hd
                by_cases hjm : j ≤ 6
                · have hv : Hid (U.allDig 16 (R.take (j + 1)) = true ∧ N * 16 + U.dig (s[3 + j]'hlt) = U.val 16 0 (R.take (min (j + 1) 7))) := by
                    refine ⟨hmore.1, ?_⟩
                    have hNv := hh.out.2
                    rw [show min j 7 = j by omega] at hNv
                    rw [show min (j + 1) 7 = j + 1 by omega, hmore.2, ← hNv]
                  have hb8 : N * 16 + U.dig (s[3 + j]'hlt) < 4294967296 := by
                    rw [hv.out.2]
                    exact U.val_small8 (U.allDig_take hmore.1 _ (by omega)) (by decide) (by rw [List.length_take]; omega)
                  clear hmore hh hg
                  go_wp2_with (refine (digit_of _ _).mono ?_; rintro e w2 ⟨rfl, rfl⟩)
                  go_round
                  case rel => exact ⟨j + 1, N * 16 + U.dig (s[3 + j]'hlt), by go_num, by go_num, by go_num, by omega, hb8, hv⟩
                  case measure => simp [intOf]; omega
                · have hv : Hid (U.allDig 16 (R.take (j + 1)) = true ∧ N = U.val 16 0 (R.take (min (j + 1) 7))) := by
                    refine ⟨hmore.1, ?_⟩
                    have hNv := hh.out.2
                    rw [show min j 7 = 7 by omega] at hNv
                    rw [show min (j + 1) 7 = 7 by omega, ← hNv]
                  clear hmore hh hg
                  go_wp2_with (refine (digit_of _ _).mono ?_; rintro e w2 ⟨rfl, rfl⟩)
                  go_round
                  case rel => exact ⟨j + 1, N, by go_num, rfl, by go_num, by omega, hN, hv⟩
                  case measure => simp [intOf]; omega
              · have hres := HE.out j hh.out.1 (.inr ⟨_, hg.out, hd⟩)
                rw [hg.out] at hres
                have hbt := (s[3 + j]'hlt).toNat_lt
                by_cases hgood : 1 ≤ j ∧ j ≤ 6
                · obtain ⟨h1, h7⟩ := hgood
                  have hj0 : ((j : Int) == 0) = false := by rw [beq_eq_false_iff_ne]; omega
                  by_cases h59 : ((s[3 + j]'hlt).toNat : Int) = 59
                  · have t59 : (((s[3 + j]'hlt).toNat : Int) != 59) = false := by rw [h59]; rfl
                    have e59 : s[3 + j]'hlt = 59 := (byte_eq (k := 59) (by decide)).1 (by omega)
                    have hNv := hh.out.2
                    rw [show min j 7 = j by omega] at hNv
                    rw [if_pos ⟨by rw [e59], h1, h7⟩, ← hNv] at hres
                    have HR := Lib.hid hres
                    clear hres e59 h59 hNv hh hg
                    have hok := U.okI_nat (n := N)
                    have HK0 : ((j + 4 : Nat) : Int) = (3 : Int) + (j : Int) + 1 := by omega
                    have HKh := Lib.hid HK0
                    clear HK0
                    by_cases hz : N = 0
                    · have tz : ((N : Int) == 0) = true := by rw [hz]; rfl
                      have HP := Lib.hid (show U.point N = 65533 by rw [hz]; decide)
                      clear hok
                      go_wp2_with (first | (refine (digit_of _ _).mono ?_; rintro e w2 ⟨rfl, rfl⟩) | (refine (is_letter _ _).mono ?_; rintro e w2 ⟨rfl, rfl⟩))
                      all_goals go_ret2
                      all_goals rw [HR.out, HP.out]
                      all_goals exact ⟨by rw [refV, HKh.out]; rfl, by go_grown⟩
                    · have tz : ((N : Int) == 0) = false := by simpa using hz
                      cases hL : U.isL N
                      · have HP := Lib.hid (show U.point N = 65533 by unfold U.point; rw [if_pos (by simp [hL])])
                        rw [hL] at hok
                        have HO := Lib.hid hok
                        clear hL hok
                        go_wp2_with (first | (refine (digit_of _ _).mono ?_; rintro e w2 ⟨rfl, rfl⟩) | (refine (is_letter _ _).mono ?_; rintro e w2 ⟨rfl, rfl⟩; rw [HO.out]))
                        all_goals go_ret2
                        all_goals rw [HR.out, HP.out]
                        all_goals exact ⟨by rw [refV, HKh.out]; rfl, by go_grown⟩
                      · have HP := Lib.hid (show U.point N = N by unfold U.point; rw [if_neg (by simp [hL, hz])])
                        rw [hL] at hok
                        have HO := Lib.hid hok
                        clear hL hok
                        go_wp2_with (first | (refine (digit_of _ _).mono ?_; rintro e w2 ⟨rfl, rfl⟩) | (refine (is_letter _ _).mono ?_; rintro e w2 ⟨rfl, rfl⟩; rw [HO.out]))
                        all_goals go_ret2
                        all_goals rw [HR.out, HP.out]
                        all_goals exact ⟨by rw [refV, HKh.out]; rfl, by go_grown⟩
                  · have t59 : (((s[3 + j]'hlt).toNat : Int) != 59) = true := bne_iff_ne.2 h59
                    rw [if_neg (fun h => h59 (by have := h.1; injection this with this; rw [this]; rfl))] at hres
                    have HR := Lib.hid hres
                    clear hres h59 hh hg
                    go_wp2_with (refine (digit_of _ _).mono ?_; rintro e w2 ⟨rfl, rfl⟩)
                    all_goals go_ret2
                    all_goals rw [HR.out]
                    all_goals exact ⟨rfl, by go_grown⟩
                · rw [if_neg (fun h => hgood h.2)] at hres
                  have HR := Lib.hid hres
                  clear hres hh hg
                  by_cases hj0 : j = 0
                  · have tj : ((j : Int) == 0) = true := by rw [hj0]; rfl
                    clear hgood hj0
                    go_wp2_with (refine (digit_of _ _).mono ?_; rintro e w2 ⟨rfl, rfl⟩)
                    all_goals go_ret2
                    all_goals rw [HR.out]
                    all_goals exact ⟨rfl, by go_grown⟩
                  · have tj : ((j : Int) == 0) = false := by simpa using hj0
                    have hbig : 6 < j := by omega
                    clear hgood
                    go_wp2_with (refine (digit_of _ _).mono ?_; rintro e w2 ⟨rfl, rfl⟩)
                    all_goals go_ret2
                    all_goals rw [HR.out]
                    all_goals exact ⟨rfl, by go_grown⟩
            · have hnone : R[j]? = none := List.getElem?_eq_none (by omega)
              have hres := HE.out j hh.out.1 (.inl hnone)
              rw [if_neg (fun h => by rw [hnone] at h; cases h.1)] at hres
              have HR := Lib.hid hres
              clear hres hh hnone
              by_cases hj0 : j = 0
              · have tj : ((j : Int) == 0) = true := by rw [hj0]; rfl
                clear hj0
                go_wp2_with fail
                all_goals go_ret2
                all_goals rw [HR.out]
                all_goals exact ⟨rfl, by go_grown⟩
              · have tj : ((j : Int) == 0) = false := by simpa using hj0
                go_wp2_with fail
                all_goals go_ret2
                all_goals rw [HR.out]
                all_goals exact ⟨rfl, by go_grown⟩
        have t4 := beq_no hX
        have HX : Hid ((s.data.toList.drop 2).head? ≠ some 120 ∧ (s.data.toList.drop 2).head? ≠ some 88) := by
          show _ ∧ _
          rw [HC.out]
          exact ⟨fun e => hx (by injection e with e; rw [e]; rfl), fun e => hX (by injection e with e; rw [e]; rfl)⟩
        clear hx hX
        have HE := Lib.hid (show ∀ j : Nat, U.allDig 10 ((s.data.toList.drop 2).take j) = true → ((s.data.toList.drop 2)[j]? = none ∨ ∃ c, (s.data.toList.drop 2)[j]? = some c ∧ ¬ U.dig c < 10) →
            U.refAt s.data.toList = if (s.data.toList.drop 2)[j]? = some 59 ∧ 1 ≤ j ∧ j ≤ 7 then some (U.point (U.val 10 0 ((s.data.toList.drop 2).take j)), j + 3) else none from fun j a b => by
            have := U.dec_end HLc.out hno.out HX.out a b
            rw [this])
        have hRl : (s.data.toList.drop 2).length + 2 = s.size := by rw [List.length_drop, hlen]; omega
        have HRg := Lib.hid (show ∀ (j : Nat) (h : 2 + j < s.size), (s.data.toList.drop 2)[j]? = some (s[2 + j]'h) from fun j h => by rw [List.getElem?_drop]; exact byte_get s h)
        generalize s.data.toList.drop 2 = R at HE hRl HRg
        clear hno HLc HC HX
        go_wp2_with fail
        go_loop [8, 11, 12] (fun va vn vk => ∃ j N : Nat, va = .int .i64 ((2 : Int) + j) ∧ vn = .int .i64 N ∧ vk = .int .i64 j ∧ 2 + j ≤ s.size ∧ N < 4294967296 ∧ Hid (U.allDig 10 (R.take j) = true ∧ N = U.val 10 0 (R.take (min j 8)))) (fun va _ _ => s.size - (intOf va).toNat)
        case atStart => exact ⟨0, 0, rfl, rfl, rfl, by omega, by decide, rfl, rfl⟩
        case round =>
          obtain ⟨j, N, rfl, rfl, rfl, hj, hN, hh⟩ := hrel
          by_cases hlt : 2 + j < s.size
          · have hg := Lib.hid (HRg.out j hlt)
            by_cases hd : U.dig (s[2 + j]'hlt) < 10
            · have hmore := U.dig_more hg.out hh.out.1 hd
              by_cases hjm : j ≤ 7
              · have hv : Hid (U.allDig 10 (R.take (j + 1)) = true ∧ N * 10 + U.dig (s[2 + j]'hlt) = U.val 10 0 (R.take (min (j + 1) 8))) := by
                  refine ⟨hmore.1, ?_⟩
                  have hNv := hh.out.2
                  rw [show min j 8 = j by omega] at hNv
                  rw [show min (j + 1) 8 = j + 1 by omega, hmore.2, ← hNv]
                have hb8 : N * 10 + U.dig (s[2 + j]'hlt) < 4294967296 := by
                  rw [hv.out.2]
                  exact U.val_small8 (U.allDig_take hmore.1 _ (by omega)) (by decide) (by rw [List.length_take]; omega)
                clear hmore hh hg
                go_wp2_with (refine (digit_of _ _).mono ?_; rintro e w2 ⟨rfl, rfl⟩)
                go_round
                case rel => exact ⟨j + 1, N * 10 + U.dig (s[2 + j]'hlt), by go_num, by go_num, by go_num, by omega, hb8, hv⟩
                case measure => simp [intOf]; omega
              · have hv : Hid (U.allDig 10 (R.take (j + 1)) = true ∧ N = U.val 10 0 (R.take (min (j + 1) 8))) := by
                  refine ⟨hmore.1, ?_⟩
                  have hNv := hh.out.2
                  rw [show min j 8 = 8 by omega] at hNv
                  rw [show min (j + 1) 8 = 8 by omega, ← hNv]
                clear hmore hh hg
                go_wp2_with (refine (digit_of _ _).mono ?_; rintro e w2 ⟨rfl, rfl⟩)
                go_round
                case rel => exact ⟨j + 1, N, by go_num, rfl, by go_num, by omega, hN, hv⟩
                case measure => simp [intOf]; omega
            · have hres := HE.out j hh.out.1 (.inr ⟨_, hg.out, hd⟩)
              rw [hg.out] at hres
              have hbt := (s[2 + j]'hlt).toNat_lt
              by_cases hgood : 1 ≤ j ∧ j ≤ 7
              · obtain ⟨h1, h7⟩ := hgood
                have hj0 : ((j : Int) == 0) = false := by rw [beq_eq_false_iff_ne]; omega
                by_cases h59 : ((s[2 + j]'hlt).toNat : Int) = 59
                · have t59 : (((s[2 + j]'hlt).toNat : Int) != 59) = false := by rw [h59]; rfl
                  have e59 : s[2 + j]'hlt = 59 := (byte_eq (k := 59) (by decide)).1 (by omega)
                  have hNv := hh.out.2
                  rw [show min j 8 = j by omega] at hNv
                  rw [if_pos ⟨by rw [e59], h1, h7⟩, ← hNv] at hres
                  have HR := Lib.hid hres
                  clear hres e59 h59 hNv hh hg
                  have hok := U.okI_nat (n := N)
                  have HK0 : ((j + 3 : Nat) : Int) = (2 : Int) + (j : Int) + 1 := by omega
                  have HKh := Lib.hid HK0
                  clear HK0
                  by_cases hz : N = 0
                  · have tz : ((N : Int) == 0) = true := by rw [hz]; rfl
                    have HP := Lib.hid (show U.point N = 65533 by rw [hz]; decide)
                    clear hok
                    go_wp2_with (first | (refine (digit_of _ _).mono ?_; rintro e w2 ⟨rfl, rfl⟩) | (refine (is_letter _ _).mono ?_; rintro e w2 ⟨rfl, rfl⟩))
                    all_goals go_ret2
                    all_goals rw [HR.out, HP.out]
                    all_goals exact ⟨by rw [refV, HKh.out]; rfl, by go_grown⟩
                  · have tz : ((N : Int) == 0) = false := by simpa using hz
                    cases hL : U.isL N
                    · have HP := Lib.hid (show U.point N = 65533 by unfold U.point; rw [if_pos (by simp [hL])])
                      rw [hL] at hok
                      have HO := Lib.hid hok
                      clear hL hok
                      go_wp2_with (first | (refine (digit_of _ _).mono ?_; rintro e w2 ⟨rfl, rfl⟩) | (refine (is_letter _ _).mono ?_; rintro e w2 ⟨rfl, rfl⟩; rw [HO.out]))
                      all_goals go_ret2
                      all_goals rw [HR.out, HP.out]
                      all_goals exact ⟨by rw [refV, HKh.out]; rfl, by go_grown⟩
                    · have HP := Lib.hid (show U.point N = N by unfold U.point; rw [if_neg (by simp [hL, hz])])
                      rw [hL] at hok
                      have HO := Lib.hid hok
                      clear hL hok
                      go_wp2_with (first | (refine (digit_of _ _).mono ?_; rintro e w2 ⟨rfl, rfl⟩) | (refine (is_letter _ _).mono ?_; rintro e w2 ⟨rfl, rfl⟩; rw [HO.out]))
                      all_goals go_ret2
                      all_goals rw [HR.out, HP.out]
                      all_goals exact ⟨by rw [refV, HKh.out]; rfl, by go_grown⟩
                · have t59 : (((s[2 + j]'hlt).toNat : Int) != 59) = true := bne_iff_ne.2 h59
                  rw [if_neg (fun h => h59 (by have := h.1; injection this with this; rw [this]; rfl))] at hres
                  have HR := Lib.hid hres
                  clear hres h59 hh hg
                  go_wp2_with (refine (digit_of _ _).mono ?_; rintro e w2 ⟨rfl, rfl⟩)
                  all_goals go_ret2
                  all_goals rw [HR.out]
                  all_goals exact ⟨rfl, by go_grown⟩
              · rw [if_neg (fun h => hgood h.2)] at hres
                have HR := Lib.hid hres
                clear hres hh hg
                by_cases hj0 : j = 0
                · have tj : ((j : Int) == 0) = true := by rw [hj0]; rfl
                  clear hgood hj0
                  go_wp2_with (refine (digit_of _ _).mono ?_; rintro e w2 ⟨rfl, rfl⟩)
                  all_goals go_ret2
                  all_goals rw [HR.out]
                  all_goals exact ⟨rfl, by go_grown⟩
                · have tj : ((j : Int) == 0) = false := by simpa using hj0
                  have hbig : 7 < j := by omega
                  clear hgood
                  go_wp2_with (refine (digit_of _ _).mono ?_; rintro e w2 ⟨rfl, rfl⟩)
                  all_goals go_ret2
                  all_goals rw [HR.out]
                  all_goals exact ⟨rfl, by go_grown⟩
          · have hnone : R[j]? = none := List.getElem?_eq_none (by omega)
            have hres := HE.out j hh.out.1 (.inl hnone)
            rw [if_neg (fun h => by rw [hnone] at h; cases h.1)] at hres
            have HR := Lib.hid hres
            clear hres hh hnone
            by_cases hj0 : j = 0
            · have tj : ((j : Int) == 0) = true := by rw [hj0]; rfl
              clear hj0
              go_wp2_with fail
              all_goals go_ret2
              all_goals rw [HR.out]
              all_goals exact ⟨rfl, by go_grown⟩
            · have tj : ((j : Int) == 0) = false := by simpa using hj0
              go_wp2_with fail
              all_goals go_ret2
              all_goals rw [HR.out]
              all_goals exact ⟨rfl, by go_grown⟩
      · have t2 : ((s.extract 0 2).toList == [38, 35]) = false := by rw [htk, beq_eq_false_iff_ne]; exact h2
        have hr := Lib.hid (U.refAt_plain hno.out (fun r e => h2 (by rw [e]; rfl)))
        clear hno htk h2
        go_wp2_with fail
        go_ret2
        rw [hr.out]
        exact ⟨rfl, by go_grown⟩

end Go.Proofs.YtcdgiohogddbkaaGreatDoor

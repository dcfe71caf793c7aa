/- internal/strconv.ParseUint in base 10 and in base 16, of up to seven bytes, 32 bits. -/
import Derived.Test.YtankcnikebcpkaaGreatDoorShelf
import Derived.Lib.ConvBytes
import Derived.Lib.AtoiErrMem
import Derived.Deep.RegionWith
import Derived.Outline
import Derived.Test.YtankcnikebcpkaaGreatDoorBuilder
import Derived.Test.YtankcnikebcpkaaGreatDoorP02
import Derived.Test.YtankcnikebcpkaaGreatDoorP05
namespace Go.Proofs.YtankcnikebcpkaaGreatDoor
open Go.RowKit

/-- what ParseUint answers -/
def parsed (e : TypeId) (base : Nat) (d : List UInt8) : Value := if (decide (d ≠ []) && U.allDig base d) = true then .tuple #[.int .u64 (U.val base 0 d : Nat), .nilIface] else .tuple #[.int .u64 0, .iface e (.int .i64 2)]
theorem parsed_bad {e : TypeId} {base : Nat} {d : List UInt8} (h : U.allDig base d = false) : parsed e base d = .tuple #[.int .u64 0, .iface e (.int .i64 2)] := by
  unfold parsed; rw [if_neg (by rw [h]; simp)]
theorem parsed_good {e : TypeId} {base : Nat} {d : List UInt8} (h0 : d ≠ []) (h : U.allDig base d = true) : parsed e base d = .tuple #[.int .u64 (U.val base 0 d : Nat), .nilIface] := by
  unfold parsed; rw [if_pos (by rw [h]; simpa using h0)]

set_option maxHeartbeats 8000000 in
set_option maxRecDepth 1000000 in
theorem parse10 (t : ByteArray) (hne : t.size ≠ 0) (hmax : t.size ≤ 7) (w : World) :
    Calls Tryz.prog 118 #[.string t, .int .i64 10, .int .i64 32] w fun e w' => e = .returned (parsed 144 10 t.data.toList) ∧ Below w.heap.size w w' := by
  have hemp : t.toList.isEmpty = false := by
    rw [← decide_eq_emptyBytes]
    exact decide_eq_false (fun h => hne (by rw [h]; rfl))
  have hcv := Lib.run_convert_string_bytes (P := Tryz.prog) w 9 54 5 t (u := .string) Tryz.underlying9 Tryz.underlying54 Tryz.underlying5
  have hB : ∀ j, j < t.size → (Lib.bytesWorld w 5 t).cell? ⟨w.heap.size, j, none⟩ = some (.int .u8 (t.data.toList.getD j 0).toNat) := fun j hj => Lib.bytesWorld_cell w 5 t j hj
  have hbw := Lib.bytesWorld_below w 5 t
  obtain ⟨W1, hW1⟩ : ∃ W1, W1 = Lib.bytesWorld w 5 t := ⟨_, rfl⟩
  rw [← hW1] at hcv hB hbw
  clear hW1
  have hlen := len_list t
  go_enter Tryz.func118, Tryz.ntmps118
  go_wp2
  go_loop [12, 13, 101] (fun vu vn vi => ∃ (k : Nat) (a : Int), vu = .bool false ∧ vn = .int .u64 a ∧ vi = .int .i64 k ∧ k ≤ t.size ∧ Hid (U.allDig 10 (t.data.toList.take k) = true ∧ a = (U.val 10 0 (t.data.toList.take k) : Nat)))
    (fun _ _ vi => t.size - (intOf vi).toNat)
  case atStart => exact ⟨0, 0, rfl, rfl, rfl, by omega, rfl, rfl⟩
  case round =>
    obtain ⟨k, a, rfl, rfl, rfl, hk, hh⟩ := hrel
    obtain ⟨hall, hav⟩ := hh.out
    clear hh
    have has := U.val_small hall (by decide) (by rw [List.length_take]; omega)
    have a0 : 0 ≤ a := by omega
    have a1 : a < 268435456 := by omega
    clear has
    by_cases hkn : k < t.size
    · have hc := hB k hkn
      have hg : t.data.toList[k]? = some (t.data.toList.getD k 0) := by
        rw [List.getD_eq_getElem?_getD, List.getElem?_eq_getElem (by omega)]; rfl
      have Hget := Lib.hid hg
      clear hg hB
      generalize t.data.toList.getD k 0 = c at *
      have hc256 : c.toNat < 256 := c.toNat_lt
      by_cases h09 : 48 ≤ c.toNat ∧ c.toNat ≤ 57
      · obtain ⟨hd0, hd1⟩ := h09
        have hd := U.dig_09 hd0 hd1
        obtain ⟨ha1, hv1⟩ := U.dig_more (base := 10) Hget.out hall (by omega)
        have hsm := U.val_small ha1 (by decide) (by rw [List.length_take]; omega)
        have HN : Hid (U.allDig 10 (t.data.toList.take (k + 1)) = true ∧ a * 10 + ((c.toNat : Int) - 48) = (U.val 10 0 (t.data.toList.take (k + 1)) : Nat)) := Lib.hid ⟨ha1, by rw [hv1, hd]; omega⟩
        have hup : a * 10 + ((c.toNat : Int) - 48) < 268435456 := by rw [HN.out.2]; omega
        clear ha1 hv1 hd hsm hall hav
        go_wp2_with (go_at_call_of 123 (Value.int IntKind.u8 (c.toNat : Int)); refine (Tryz.internal_strconv_lower _ _).mono ?_; rintro e w' ⟨rfl, rfl⟩)
        go_round
        case rel => exact ⟨k + 1, a * 10 + ((c.toNat : Int) - 48), rfl, (by first | rfl | (congr 1; omega)), (by first | rfl | (congr 1; omega)), by omega, HN⟩
        case measure => simp [intOf]; omega
      by_cases hlc : 97 ≤ c.toNat ∧ c.toNat ≤ 122
      · obtain ⟨hd0, hd1⟩ := hlc
        have hnd : ¬ U.dig c < 10 := by
          by_cases haf : 97 ≤ c.toNat ∧ c.toNat ≤ 102
          · rw [U.dig_af haf.1 haf.2]; omega
          by_cases hAF : 65 ≤ c.toNat ∧ c.toNat ≤ 70
          · rw [U.dig_AF hAF.1 hAF.2]; omega
          · rw [U.dig_no h09 haf hAF]; omega
        have HF := Lib.hid (U.dig_bad Hget.out hnd)
        have hlow := U.lower_at hc256 c.toNat (by rw [if_neg (by omega)])
        clear hnd h09  hall hav
        go_wp2_with (go_at_call_of 123 (Value.int IntKind.u8 (c.toNat : Int)); refine (Tryz.internal_strconv_lower _ _).mono ?_; rintro e w' ⟨rfl, rfl⟩)
        all_goals go_ret2
        all_goals exact ⟨(congrArg Ending.returned (parsed_bad HF.out)).symm, hbw⟩
      by_cases huc : 65 ≤ c.toNat ∧ c.toNat ≤ 90
      · obtain ⟨hd0, hd1⟩ := huc
        have hnd : ¬ U.dig c < 10 := by
          by_cases haf : 97 ≤ c.toNat ∧ c.toNat ≤ 102
          · rw [U.dig_af haf.1 haf.2]; omega
          by_cases hAF : 65 ≤ c.toNat ∧ c.toNat ≤ 70
          · rw [U.dig_AF hAF.1 hAF.2]; omega
          · rw [U.dig_no h09 haf hAF]; omega
        have HF := Lib.hid (U.dig_bad Hget.out hnd)
        have hlow0 := U.lower_at hc256 (c.toNat + 32) (by rw [if_pos (by omega)])
        have hlow : bits .or .u8 (c.toNat : Int) 32 = (c.toNat : Int) + 32 := by rw [hlow0]; simp
        clear hlow0
        clear hnd h09  hall hav
        go_wp2_with (go_at_call_of 123 (Value.int IntKind.u8 (c.toNat : Int)); refine (Tryz.internal_strconv_lower _ _).mono ?_; rintro e w' ⟨rfl, rfl⟩)
        all_goals go_ret2
        all_goals exact ⟨(congrArg Ending.returned (parsed_bad HF.out)).symm, hbw⟩
      · have hnd : ¬ U.dig c < 10 := by
          by_cases haf : 97 ≤ c.toNat ∧ c.toNat ≤ 102
          · rw [U.dig_af haf.1 haf.2]; omega
          by_cases hAF : 65 ≤ c.toNat ∧ c.toNat ≤ 70
          · rw [U.dig_AF hAF.1 hAF.2]; omega
          · rw [U.dig_no h09 haf hAF]; omega
        have HF := Lib.hid (U.dig_bad Hget.out hnd)
        have hlow := U.lower_eq hc256
        have hno : (if c.toNat / 32 % 2 = 0 then c.toNat + 32 else c.toNat) < 97 ∨ 122 < (if c.toNat / 32 % 2 = 0 then c.toNat + 32 else c.toNat) := by split <;> omega
        generalize (if c.toNat / 32 % 2 = 0 then c.toNat + 32 else c.toNat) = v at hlow hno
        have hdig : ¬ (48 ≤ c.toNat ∧ c.toNat ≤ 57) := h09
        clear hnd  hall hav hlc huc
        rcases hno with hno | hno
        · rcases Nat.lt_or_ge c.toNat 48 with hlt | hge
          · clear hdig h09
            go_wp2_with (go_at_call_of 123 (Value.int IntKind.u8 (c.toNat : Int)); refine (Tryz.internal_strconv_lower _ _).mono ?_; rintro e w' ⟨rfl, rfl⟩)
            all_goals go_ret2
            all_goals exact ⟨(congrArg Ending.returned (parsed_bad HF.out)).symm, hbw⟩
          · have hgt : 58 ≤ c.toNat := by omega
            have hlu : bits .or .u8 95 32 = 127 := by decide
            clear hdig h09 hge
            go_wp2_with (first | (go_at_call_of 123 (Value.int IntKind.u8 (c.toNat : Int)); refine (Tryz.internal_strconv_lower _ _).mono ?_; rintro e w' ⟨rfl, rfl⟩) | (go_at_call_of 123 (Value.int IntKind.u8 95); refine (Tryz.internal_strconv_lower _ _).mono ?_; rintro e w' ⟨rfl, rfl⟩))
            all_goals go_ret2
            all_goals exact ⟨(congrArg Ending.returned (parsed_bad HF.out)).symm, hbw⟩
        · rcases Nat.lt_or_ge c.toNat 48 with hlt | hge
          · clear hdig h09
            go_wp2_with (go_at_call_of 123 (Value.int IntKind.u8 (c.toNat : Int)); refine (Tryz.internal_strconv_lower _ _).mono ?_; rintro e w' ⟨rfl, rfl⟩)
            all_goals go_ret2
            all_goals exact ⟨(congrArg Ending.returned (parsed_bad HF.out)).symm, hbw⟩
          · have hgt : 58 ≤ c.toNat := by omega
            have hlu : bits .or .u8 95 32 = 127 := by decide
            clear hdig h09 hge
            go_wp2_with (first | (go_at_call_of 123 (Value.int IntKind.u8 (c.toNat : Int)); refine (Tryz.internal_strconv_lower _ _).mono ?_; rintro e w' ⟨rfl, rfl⟩) | (go_at_call_of 123 (Value.int IntKind.u8 95); refine (Tryz.internal_strconv_lower _ _).mono ?_; rintro e w' ⟨rfl, rfl⟩))
            all_goals go_ret2
            all_goals exact ⟨(congrArg Ending.returned (parsed_bad HF.out)).symm, hbw⟩
    · obtain rfl : k = t.size := by omega
      rw [List.take_of_length_le (by omega)] at hall hav
      have HF := Lib.hid (parsed_good (e := 144) (fun e => hne (by rw [← hlen, e]; rfl)) hall)
      subst hav
      clear hall
      go_wp2
      go_ret2
      exact ⟨(congrArg Ending.returned HF.out).symm, hbw⟩

set_option maxHeartbeats 8000000 in
set_option maxRecDepth 1000000 in
theorem parse16 (t : ByteArray) (hne : t.size ≠ 0) (hmax : t.size ≤ 7) (w : World) :
    Calls Tryz.prog 118 #[.string t, .int .i64 16, .int .i64 32] w fun e w' => e = .returned (parsed 144 16 t.data.toList) ∧ Below w.heap.size w w' := by
  have hemp : t.toList.isEmpty = false := by
    rw [← decide_eq_emptyBytes]
    exact decide_eq_false (fun h => hne (by rw [h]; rfl))
  have hcv := Lib.run_convert_string_bytes (P := Tryz.prog) w 9 54 5 t (u := .string) Tryz.underlying9 Tryz.underlying54 Tryz.underlying5
  have hB : ∀ j, j < t.size → (Lib.bytesWorld w 5 t).cell? ⟨w.heap.size, j, none⟩ = some (.int .u8 (t.data.toList.getD j 0).toNat) := fun j hj => Lib.bytesWorld_cell w 5 t j hj
  have hbw := Lib.bytesWorld_below w 5 t
  obtain ⟨W1, hW1⟩ : ∃ W1, W1 = Lib.bytesWorld w 5 t := ⟨_, rfl⟩
  rw [← hW1] at hcv hB hbw
  clear hW1
  have hlen := len_list t
  go_enter Tryz.func118, Tryz.ntmps118
  go_wp2
  go_loop [12, 13, 101] (fun vu vn vi => ∃ (k : Nat) (a : Int), vu = .bool false ∧ vn = .int .u64 a ∧ vi = .int .i64 k ∧ k ≤ t.size ∧ Hid (U.allDig 16 (t.data.toList.take k) = true ∧ a = (U.val 16 0 (t.data.toList.take k) : Nat)))
    (fun _ _ vi => t.size - (intOf vi).toNat)
  case atStart => exact ⟨0, 0, rfl, rfl, rfl, by omega, rfl, rfl⟩
  case round =>
    obtain ⟨k, a, rfl, rfl, rfl, hk, hh⟩ := hrel
    obtain ⟨hall, hav⟩ := hh.out
    clear hh
    have has := U.val_small hall (by decide) (by rw [List.length_take]; omega)
    have a0 : 0 ≤ a := by omega
    have a1 : a < 268435456 := by omega
    clear has
    by_cases hkn : k < t.size
    · have hc := hB k hkn
      have hg : t.data.toList[k]? = some (t.data.toList.getD k 0) := by
        rw [List.getD_eq_getElem?_getD, List.getElem?_eq_getElem (by omega)]; rfl
      have Hget := Lib.hid hg
      clear hg hB
      generalize t.data.toList.getD k 0 = c at *
      have hc256 : c.toNat < 256 := c.toNat_lt
      by_cases h09 : 48 ≤ c.toNat ∧ c.toNat ≤ 57
      · obtain ⟨hd0, hd1⟩ := h09
        have hd := U.dig_09 hd0 hd1
        obtain ⟨ha1, hv1⟩ := U.dig_more (base := 16) Hget.out hall (by omega)
        have hsm := U.val_small ha1 (by decide) (by rw [List.length_take]; omega)
        have HN : Hid (U.allDig 16 (t.data.toList.take (k + 1)) = true ∧ a * 16 + ((c.toNat : Int) - 48) = (U.val 16 0 (t.data.toList.take (k + 1)) : Nat)) := Lib.hid ⟨ha1, by rw [hv1, hd]; omega⟩
        have hup : a * 16 + ((c.toNat : Int) - 48) < 268435456 := by rw [HN.out.2]; omega
        clear ha1 hv1 hd hsm hall hav
        go_wp2_with (go_at_call_of 123 (Value.int IntKind.u8 (c.toNat : Int)); refine (Tryz.internal_strconv_lower _ _).mono ?_; rintro e w' ⟨rfl, rfl⟩)
        go_round
        case rel => exact ⟨k + 1, a * 16 + ((c.toNat : Int) - 48), rfl, (by first | rfl | (congr 1; omega)), (by first | rfl | (congr 1; omega)), by omega, HN⟩
        case measure => simp [intOf]; omega
      by_cases haf : 97 ≤ c.toNat ∧ c.toNat ≤ 102
      · obtain ⟨hd0, hd1⟩ := haf
        have hd := U.dig_af hd0 hd1
        obtain ⟨ha1, hv1⟩ := U.dig_more (base := 16) Hget.out hall (by omega)
        have hsm := U.val_small ha1 (by decide) (by rw [List.length_take]; omega)
        have HN : Hid (U.allDig 16 (t.data.toList.take (k + 1)) = true ∧ a * 16 + ((c.toNat : Int) - 87) = (U.val 16 0 (t.data.toList.take (k + 1)) : Nat)) := Lib.hid ⟨ha1, by rw [hv1, hd]; omega⟩
        have hup : a * 16 + ((c.toNat : Int) - 87) < 268435456 := by rw [HN.out.2]; omega
        have hlow := U.lower_at hc256 (c.toNat) (by rw [if_neg (by omega)])
        clear ha1 hv1 hd hsm hall hav
        go_wp2_with (go_at_call_of 123 (Value.int IntKind.u8 (c.toNat : Int)); refine (Tryz.internal_strconv_lower _ _).mono ?_; rintro e w' ⟨rfl, rfl⟩)
        go_round
        case rel => exact ⟨k + 1, a * 16 + ((c.toNat : Int) - 87), rfl, (by first | rfl | (congr 1; omega)), (by first | rfl | (congr 1; omega)), by omega, HN⟩
        case measure => simp [intOf]; omega
      by_cases hAF : 65 ≤ c.toNat ∧ c.toNat ≤ 70
      · obtain ⟨hd0, hd1⟩ := hAF
        have hd := U.dig_AF hd0 hd1
        obtain ⟨ha1, hv1⟩ := U.dig_more (base := 16) Hget.out hall (by omega)
        have hsm := U.val_small ha1 (by decide) (by rw [List.length_take]; omega)
        have HN : Hid (U.allDig 16 (t.data.toList.take (k + 1)) = true ∧ a * 16 + ((c.toNat : Int) - 55) = (U.val 16 0 (t.data.toList.take (k + 1)) : Nat)) := Lib.hid ⟨ha1, by rw [hv1, hd]; omega⟩
        have hup : a * 16 + ((c.toNat : Int) - 55) < 268435456 := by rw [HN.out.2]; omega
        have hlow0 := U.lower_at hc256 (c.toNat + 32) (by rw [if_pos (by omega)])
        have hlow : bits .or .u8 (c.toNat : Int) 32 = (c.toNat : Int) + 32 := by rw [hlow0]; simp
        clear hlow0
        clear ha1 hv1 hd hsm hall hav
        go_wp2_with (go_at_call_of 123 (Value.int IntKind.u8 (c.toNat : Int)); refine (Tryz.internal_strconv_lower _ _).mono ?_; rintro e w' ⟨rfl, rfl⟩)
        go_round
        case rel => exact ⟨k + 1, a * 16 + ((c.toNat : Int) - 55), rfl, (by first | rfl | (congr 1; omega)), (by first | rfl | (congr 1; omega)), by omega, HN⟩
        case measure => simp [intOf]; omega
      by_cases hlc : 97 ≤ c.toNat ∧ c.toNat ≤ 122
      · obtain ⟨hd0, hd1⟩ := hlc
        have hnd : ¬ U.dig c < 16 := by
          rw [U.dig_no h09 haf hAF]; omega
        have HF := Lib.hid (U.dig_bad Hget.out hnd)
        have hd2 : 103 ≤ c.toNat := by omega
        have hlow := U.lower_at hc256 c.toNat (by rw [if_neg (by omega)])
        clear hnd h09 haf hAF hall hav
        go_wp2_with (go_at_call_of 123 (Value.int IntKind.u8 (c.toNat : Int)); refine (Tryz.internal_strconv_lower _ _).mono ?_; rintro e w' ⟨rfl, rfl⟩)
        all_goals go_ret2
        all_goals exact ⟨(congrArg Ending.returned (parsed_bad HF.out)).symm, hbw⟩
      by_cases huc : 65 ≤ c.toNat ∧ c.toNat ≤ 90
      · obtain ⟨hd0, hd1⟩ := huc
        have hnd : ¬ U.dig c < 16 := by
          rw [U.dig_no h09 haf hAF]; omega
        have HF := Lib.hid (U.dig_bad Hget.out hnd)
        have hd2 : 71 ≤ c.toNat := by omega
        have hlow0 := U.lower_at hc256 (c.toNat + 32) (by rw [if_pos (by omega)])
        have hlow : bits .or .u8 (c.toNat : Int) 32 = (c.toNat : Int) + 32 := by rw [hlow0]; simp
        clear hlow0
        clear hnd h09 haf hAF hall hav
        go_wp2_with (go_at_call_of 123 (Value.int IntKind.u8 (c.toNat : Int)); refine (Tryz.internal_strconv_lower _ _).mono ?_; rintro e w' ⟨rfl, rfl⟩)
        all_goals go_ret2
        all_goals exact ⟨(congrArg Ending.returned (parsed_bad HF.out)).symm, hbw⟩
      · have hnd : ¬ U.dig c < 16 := by
          rw [U.dig_no h09 haf hAF]; omega
        have HF := Lib.hid (U.dig_bad Hget.out hnd)
        have hlow := U.lower_eq hc256
        have hno : (if c.toNat / 32 % 2 = 0 then c.toNat + 32 else c.toNat) < 97 ∨ 122 < (if c.toNat / 32 % 2 = 0 then c.toNat + 32 else c.toNat) := by split <;> omega
        generalize (if c.toNat / 32 % 2 = 0 then c.toNat + 32 else c.toNat) = v at hlow hno
        have hdig : ¬ (48 ≤ c.toNat ∧ c.toNat ≤ 57) := h09
        clear hnd haf hAF hall hav hlc huc
        rcases hno with hno | hno
        · rcases Nat.lt_or_ge c.toNat 48 with hlt | hge
          · clear hdig h09
            go_wp2_with (go_at_call_of 123 (Value.int IntKind.u8 (c.toNat : Int)); refine (Tryz.internal_strconv_lower _ _).mono ?_; rintro e w' ⟨rfl, rfl⟩)
            all_goals go_ret2
            all_goals exact ⟨(congrArg Ending.returned (parsed_bad HF.out)).symm, hbw⟩
          · have hgt : 58 ≤ c.toNat := by omega
            have hlu : bits .or .u8 95 32 = 127 := by decide
            clear hdig h09 hge
            go_wp2_with (first | (go_at_call_of 123 (Value.int IntKind.u8 (c.toNat : Int)); refine (Tryz.internal_strconv_lower _ _).mono ?_; rintro e w' ⟨rfl, rfl⟩) | (go_at_call_of 123 (Value.int IntKind.u8 95); refine (Tryz.internal_strconv_lower _ _).mono ?_; rintro e w' ⟨rfl, rfl⟩))
            all_goals go_ret2
            all_goals exact ⟨(congrArg Ending.returned (parsed_bad HF.out)).symm, hbw⟩
        · rcases Nat.lt_or_ge c.toNat 48 with hlt | hge
          · clear hdig h09
            go_wp2_with (go_at_call_of 123 (Value.int IntKind.u8 (c.toNat : Int)); refine (Tryz.internal_strconv_lower _ _).mono ?_; rintro e w' ⟨rfl, rfl⟩)
            all_goals go_ret2
            all_goals exact ⟨(congrArg Ending.returned (parsed_bad HF.out)).symm, hbw⟩
          · have hgt : 58 ≤ c.toNat := by omega
            have hlu : bits .or .u8 95 32 = 127 := by decide
            clear hdig h09 hge
            go_wp2_with (first | (go_at_call_of 123 (Value.int IntKind.u8 (c.toNat : Int)); refine (Tryz.internal_strconv_lower _ _).mono ?_; rintro e w' ⟨rfl, rfl⟩) | (go_at_call_of 123 (Value.int IntKind.u8 95); refine (Tryz.internal_strconv_lower _ _).mono ?_; rintro e w' ⟨rfl, rfl⟩))
            all_goals go_ret2
            all_goals exact ⟨(congrArg Ending.returned (parsed_bad HF.out)).symm, hbw⟩
    · obtain rfl : k = t.size := by omega
      rw [List.take_of_length_le (by omega)] at hall hav
      have HF := Lib.hid (parsed_good (e := 144) (fun e => hne (by rw [← hlen, e]; rfl)) hall)
      subst hav
      clear hall
      go_wp2
      go_ret2
      exact ⟨(congrArg Ending.returned HF.out).symm, hbw⟩

end Go.Proofs.YtankcnikebcpkaaGreatDoor

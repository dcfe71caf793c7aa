/- strconv.ParseUint; ref.numbered, ref.named. -/
import Derived.Test.YtkmjngpgngkalaaDoorParse
import Derived.Test.YtkmjngpgngkalaaDoorLead
import Derived.Test.YtkmjngpgngkalaaDoorOpen
import Derived.Test.YtkmjngpgngkalaaDoorBytes
import Derived.Outline
namespace Go.Proofs.YtkmjngpgngkalaaDoor
open Go.RowKit

/-- the variable strconv.ErrSyntax holds an error -/
def ErrS (w : World) : Prop := ∃ te pe, w.cell? ⟨3, 0, none⟩ = some (.iface te pe)
theorem ErrS.below {w w' : World} (h : ErrS w) (hb : Below w.heap.size w w') : ErrS w' := by
  obtain ⟨te, pe, hc⟩ := h
  exact ⟨te, pe, (hb.cell (cell_lt hc)).trans hc⟩

set_option maxHeartbeats 1000000 in
set_option maxRecDepth 100000 in
/-- strconv.ParseUint, behind the inner one: its number; or an error -/
theorem public_parse (base : Int) (t : ByteArray) (hmax : t.size ≤ 7) (v : Value) (n : Nat) (good : Bool) (w : World) (hS : ErrS w)
    (hin : Calls Tryd.prog 72 #[.string t, .int .i64 base, .int .i64 32] w fun e w' => e = .returned v ∧ Below w.heap.size w w')
    (hv : v = if good = true then .tuple #[.int .u64 n, .nilIface] else .tuple #[.int .u64 0, .iface 104 (.int .i64 2)]) :
    Calls Tryd.prog 64 #[.string t, .int .i64 base, .int .i64 32] w fun e w' => (if good = true then e = .returned (.tuple #[.int .u64 n, .nilIface]) else ∃ N, e = .returned (.tuple #[.int .u64 0, .iface 106 (.pointer (some ⟨N, 0, none⟩))])) ∧ Below w.heap.size w w' := by
  cases good
  · simp only [Bool.false_eq_true, if_false] at hv ⊢
    subst hv
    go_enter Tryd.func64, Tryd.ntmps64
    go_wp2_with fail
    refine hin.mono ?_
    rintro e w1 ⟨rfl, b1⟩
    obtain ⟨te, pe, hc⟩ := hS.below b1
    go_wp2_with fail
    refine (Tryd.strconv_toError_syntax _ t base 32 (.iface te pe) w1 (by omega) hc (.inr ⟨te, pe, rfl⟩)).mono ?_
    rintro e w2 ⟨N, rfl, _, _, b2⟩
    go_wp2_with fail
    go_ret2
    exact ⟨⟨N, rfl⟩, b1.trans (b2.mono b1.size)⟩
  · simp only [if_true] at hv ⊢
    subst hv
    go_enter Tryd.func64, Tryd.ntmps64
    go_wp2_with fail
    refine hin.mono ?_
    rintro e w1 ⟨rfl, b1⟩
    go_wp2_with fail
    go_ret2
    exact ⟨rfl, b1⟩

/-- a code point, or none -/
def ptV : Option Nat → Value
  | some n => .tuple #[.int .i32 n, .bool true]
  | none => .tuple #[.int .i32 0, .bool false]

set_option maxHeartbeats 1000000 in
set_option maxRecDepth 100000 in
theorem parse_empty (base : Int) (t : ByteArray) (h0 : t.size = 0) (w : World) :
    Calls Tryd.prog 72 #[.string t, .int .i64 base, .int .i64 32] w fun e w' => e = .returned (.tuple #[.int .u64 0, .iface 104 (.int .i64 2)]) ∧ Below w.heap.size w w' := by
  obtain rfl : t = ⟨#[]⟩ := by
    cases t with
    | mk a =>
      have : a.size = 0 := h0
      rw [Array.eq_empty_of_size_eq_zero this]
  go_enter Tryd.func72, Tryd.ntmps72
  go_wp2
  go_ret2
  exact ⟨rfl, Below.refl _ _⟩
theorem nil_of_size {t : ByteArray} (h : t.size = 0) : t.data.toList = [] := List.length_eq_zero_iff.1 (by rw [len_list]; exact h)
theorem ne_of_size {t : ByteArray} (h : t.size ≠ 0) : t.data.toList ≠ [] := fun e => h (by rw [← len_list, e]; rfl)
theorem parse10_any (t : ByteArray) (hmax : t.size ≤ 7) (w : World) :
    Calls Tryd.prog 72 #[.string t, .int .i64 10, .int .i64 32] w fun e w' => e = .returned (parsed 104 10 t.data.toList) ∧ Below w.heap.size w w' := by
  by_cases h0 : t.size = 0
  · rw [nil_of_size h0]; exact parse_empty 10 t h0 w
  · exact parse10 t h0 hmax w
theorem parse16_any (t : ByteArray) (hmax : t.size ≤ 7) (w : World) :
    Calls Tryd.prog 72 #[.string t, .int .i64 16, .int .i64 32] w fun e w' => e = .returned (parsed 104 16 t.data.toList) ∧ Below w.heap.size w w' := by
  by_cases h0 : t.size = 0
  · rw [nil_of_size h0]; exact parse_empty 16 t h0 w
  · exact parse16 t h0 hmax w
/-- both, at the outer one -/
theorem public10 (t : ByteArray) (hmax : t.size ≤ 7) (w : World) (hS : ErrS w) :
    Calls Tryd.prog 64 #[.string t, .int .i64 10, .int .i64 32] w fun e w' => (if (decide (t.data.toList ≠ []) && U.allDig 10 t.data.toList) = true then e = .returned (.tuple #[.int .u64 (U.val 10 0 t.data.toList : Nat), .nilIface]) else ∃ N, e = .returned (.tuple #[.int .u64 0, .iface 106 (.pointer (some ⟨N, 0, none⟩))])) ∧ Below w.heap.size w w' :=
  public_parse 10 t hmax _ _ _ w hS (parse10_any t hmax w) rfl
theorem public16 (t : ByteArray) (hmax : t.size ≤ 7) (w : World) (hS : ErrS w) :
    Calls Tryd.prog 64 #[.string t, .int .i64 16, .int .i64 32] w fun e w' => (if (decide (t.data.toList ≠ []) && U.allDig 16 t.data.toList) = true then e = .returned (.tuple #[.int .u64 (U.val 16 0 t.data.toList : Nat), .nilIface]) else ∃ N, e = .returned (.tuple #[.int .u64 0, .iface 106 (.pointer (some ⟨N, 0, none⟩))])) ∧ Below w.heap.size w w' :=
  public_parse 16 t hmax _ _ _ w hS (parse16_any t hmax w) rfl

theorem point_zero : U.point 0 = 65533 := by decide
theorem point_no {n : Nat} (h : U.isL n = false) : U.point n = 65533 := by unfold U.point; rw [if_pos (by simp [h])]
theorem point_yes {n : Nat} (h0 : n ≠ 0) (h : U.isL n = true) : U.point n = n := by unfold U.point; rw [if_neg (by simp [h, h0])]

set_option maxHeartbeats 4000000 in
set_option maxRecDepth 1000000 in
theorem numbered_walk (t : ByteArray) (hmax : t.size ≤ 7) (w : World) (hS : ErrS w) :
    Calls Tryd.prog 50 #[.string t] w fun e w' => e = .returned (ptV (U.numOf t.data.toList)) ∧ Below w.heap.size w w' := by
  have hll := len_list t
  by_cases h0 : t.size = 0
  · have hnil := nil_of_size h0
    have r1 := public10 t hmax
    rw [hnil] at r1 ⊢
    obtain rfl : t = ⟨#[]⟩ := by
      cases t with
      | mk a =>
        have : a.size = 0 := h0
        rw [Array.eq_empty_of_size_eq_zero this]
    clear hnil hll
    go_enter Tryd.func50, Tryd.ntmps50
    go_wp2_with fail
    refine (r1 _ hS).mono ?_
    rintro e w1 hr
    have hf : (decide (([] : List UInt8) ≠ []) && U.allDig 10 []) = false := rfl
    rw [hf] at hr
    simp only [Bool.false_eq_true, if_false] at hr
    obtain ⟨⟨N, rfl⟩, b1⟩ := hr
    go_wp2_with fail
    go_ret2
    exact ⟨rfl, b1⟩
  have hpos : 0 < t.size := by omega
  have hb := (t[0]'hpos).toNat_lt
  have hcons : t.data.toList = (t[0]'hpos) :: t.data.toList.drop 1 := by
    have hg := byte_get t hpos
    have := drop_byte hg
    simpa using this
  have hemp : t.toList.isEmpty = false := by
    rw [← decide_eq_emptyBytes]
    exact decide_eq_false (fun h => h0 (by rw [h]; rfl))
  have hex : (t.extract 1 t.size).data.toList = t.data.toList.drop 1 := by
    rw [Lib.extract_data]
    exact List.take_of_length_le (by simp)
  have hexs : (t.extract 1 t.size).size ≤ 6 := by rw [ByteArray.size_extract]; omega
  by_cases hx : ((t[0]'hpos).toNat : Int) = 120
  · have t1 := beq_yes hx
    have hc : t[0]'hpos = 120 := (byte_eq (k := 120) (by decide)).1 (by omega)
    have r1 := public16 (t.extract 1 t.size) (by omega)
    have HNO := Lib.hid (show U.numOf t.data.toList = U.numIn 16 6 (t.data.toList.drop 1) by
      conv => lhs; rw [hcons, U.numOf_cons, if_pos (by rw [hc]; decide)])
    have hlen : (t.data.toList.drop 1).length ≤ 6 := by rw [List.length_drop]; omega
    rw [hex] at r1
    clear hcons hex hc
    go_enter Tryd.func50, Tryd.ntmps50
    go_wp2_with fail
    refine (r1 _ hS).mono ?_
    rintro e w1 hr
    generalize t.data.toList.drop 1 = D at *
    cases hgood : (decide (D ≠ []) && U.allDig 16 D)
    · rw [hgood] at hr
      simp only [Bool.false_eq_true, if_false] at hr
      have HV := Lib.hid (show U.numIn 16 6 D = none by rw [U.numIn_short hlen, if_neg (by rw [hgood]; simp)])
      clear hgood
      obtain ⟨⟨N, rfl⟩, b1⟩ := hr
      go_wp2_with fail
      go_ret2
      rw [HNO.out, HV.out]
      exact ⟨rfl, b1⟩
    · rw [hgood] at hr
      simp only [if_true] at hr
      have hall : U.allDig 16 D = true := by
        rw [Bool.and_eq_true] at hgood
        exact hgood.2
      have hsm := U.val_small hall (by decide) (by omega)
      have HV := Lib.hid (show U.numIn 16 6 D = some (U.point (U.val 16 0 D)) by rw [U.numIn_short hlen, if_pos hgood])
      clear hgood hall
      generalize U.val 16 0 D = n at *
      obtain ⟨rfl, b1⟩ := hr
      have hve := U.valid_eq (n := n)
      by_cases hn : n = 0
      · subst hn
        clear hve
        go_wp2_with fail
        go_ret2
        rw [HNO.out, HV.out, point_zero]
        exact ⟨rfl, b1⟩
      · have hz : ((n : Int) == 0) = false := by simpa using hn
        cases hL : U.isL n
        · have HP := Lib.hid (point_no hL)
          rw [hL] at hve
          clear hL hn
          go_wp2_with (refine (Tryd.utf8_ValidRune _ _).mono ?_; rintro e w2 ⟨rfl, rfl⟩)
          go_ret2
          rw [HNO.out, HV.out, HP.out]
          exact ⟨rfl, b1⟩
        · have HP := Lib.hid (point_yes hn hL)
          rw [hL] at hve
          clear hL hn
          go_wp2_with (refine (Tryd.utf8_ValidRune _ _).mono ?_; rintro e w2 ⟨rfl, rfl⟩)
          go_ret2
          rw [HNO.out, HV.out, HP.out]
          exact ⟨rfl, b1⟩
  by_cases hX : ((t[0]'hpos).toNat : Int) = 88
  · have t1 := beq_yes hX
    have hc : t[0]'hpos = 88 := (byte_eq (k := 88) (by decide)).1 (by omega)
    have r1 := public16 (t.extract 1 t.size) (by omega)
    have HNO := Lib.hid (show U.numOf t.data.toList = U.numIn 16 6 (t.data.toList.drop 1) by
      conv => lhs; rw [hcons, U.numOf_cons, if_pos (by rw [hc]; decide)])
    have hlen : (t.data.toList.drop 1).length ≤ 6 := by rw [List.length_drop]; omega
    rw [hex] at r1
    clear hcons hex hc
    have t2 := beq_no hx
    go_enter Tryd.func50, Tryd.ntmps50
    go_wp2_with fail
    refine (r1 _ hS).mono ?_
    rintro e w1 hr
    generalize t.data.toList.drop 1 = D at *
    cases hgood : (decide (D ≠ []) && U.allDig 16 D)
    · rw [hgood] at hr
      simp only [Bool.false_eq_true, if_false] at hr
      have HV := Lib.hid (show U.numIn 16 6 D = none by rw [U.numIn_short hlen, if_neg (by rw [hgood]; simp)])
      clear hgood
      obtain ⟨⟨N, rfl⟩, b1⟩ := hr
      go_wp2_with fail
      go_ret2
      rw [HNO.out, HV.out]
      exact ⟨rfl, b1⟩
    · rw [hgood] at hr
      simp only [if_true] at hr
      have hall : U.allDig 16 D = true := by
        rw [Bool.and_eq_true] at hgood
        exact hgood.2
      have hsm := U.val_small hall (by decide) (by omega)
      have HV := Lib.hid (show U.numIn 16 6 D = some (U.point (U.val 16 0 D)) by rw [U.numIn_short hlen, if_pos hgood])
      clear hgood hall
      generalize U.val 16 0 D = n at *
      obtain ⟨rfl, b1⟩ := hr
      have hve := U.valid_eq (n := n)
      by_cases hn : n = 0
      · subst hn
        clear hve
        go_wp2_with fail
        go_ret2
        rw [HNO.out, HV.out, point_zero]
        exact ⟨rfl, b1⟩
      · have hz : ((n : Int) == 0) = false := by simpa using hn
        cases hL : U.isL n
        · have HP := Lib.hid (point_no hL)
          rw [hL] at hve
          clear hL hn
          go_wp2_with (refine (Tryd.utf8_ValidRune _ _).mono ?_; rintro e w2 ⟨rfl, rfl⟩)
          go_ret2
          rw [HNO.out, HV.out, HP.out]
          exact ⟨rfl, b1⟩
        · have HP := Lib.hid (point_yes hn hL)
          rw [hL] at hve
          clear hL hn
          go_wp2_with (refine (Tryd.utf8_ValidRune _ _).mono ?_; rintro e w2 ⟨rfl, rfl⟩)
          go_ret2
          rw [HNO.out, HV.out, HP.out]
          exact ⟨rfl, b1⟩
  have t1 := beq_no hx
  have t2 := beq_no hX
  have r1 := public10 t hmax
  have HNO := Lib.hid (show U.numOf t.data.toList = U.numIn 10 7 t.data.toList by
    conv => lhs; rw [hcons, U.numOf_cons, if_neg (by
      rintro (e | e)
      · exact hx (by rw [e]; rfl)
      · exact hX (by rw [e]; rfl))]
    rw [← hcons])
  have hlen : t.data.toList.length ≤ 7 := by omega
  clear hcons hex hx hX
  go_enter Tryd.func50, Tryd.ntmps50
  go_wp2_with fail
  refine (r1 _ hS).mono ?_
  rintro e w1 hr
  cases hgood : (decide (t.data.toList ≠ []) && U.allDig 10 t.data.toList)
  · rw [hgood] at hr
    simp only [Bool.false_eq_true, if_false] at hr
    have HV := Lib.hid (show U.numIn 10 7 t.data.toList = none by rw [U.numIn_short hlen, if_neg (by rw [hgood]; simp)])
    clear hgood
    obtain ⟨⟨N, rfl⟩, b1⟩ := hr
    go_wp2_with fail
    go_ret2
    rw [HNO.out, HV.out]
    exact ⟨rfl, b1⟩
  · rw [hgood] at hr
    simp only [if_true] at hr
    have hall : U.allDig 10 t.data.toList = true := by
      rw [Bool.and_eq_true] at hgood
      exact hgood.2
    have hsm := U.val_small hall (by decide) (by omega)
    have HV := Lib.hid (show U.numIn 10 7 t.data.toList = some (U.point (U.val 10 0 t.data.toList)) by rw [U.numIn_short hlen, if_pos hgood])
    clear hgood hall
    generalize U.val 10 0 t.data.toList = n at *
    obtain ⟨rfl, b1⟩ := hr
    have hve := U.valid_eq (n := n)
    by_cases hn : n = 0
    · subst hn
      clear hve
      go_wp2_with fail
      go_ret2
      rw [HNO.out, HV.out, point_zero]
      exact ⟨rfl, b1⟩
    · have hz : ((n : Int) == 0) = false := by simpa using hn
      cases hL : U.isL n
      · have HP := Lib.hid (point_no hL)
        rw [hL] at hve
        clear hL hn
        go_wp2_with (refine (Tryd.utf8_ValidRune _ _).mono ?_; rintro e w2 ⟨rfl, rfl⟩)
        go_ret2
        rw [HNO.out, HV.out, HP.out]
        exact ⟨rfl, b1⟩
      · have HP := Lib.hid (point_yes hn hL)
        rw [hL] at hve
        clear hL hn
        go_wp2_with (refine (Tryd.utf8_ValidRune _ _).mono ?_; rintro e w2 ⟨rfl, rfl⟩)
        go_ret2
        rw [HNO.out, HV.out, HP.out]
        exact ⟨rfl, b1⟩

end Go.Proofs.YtkmjngpgngkalaaDoor

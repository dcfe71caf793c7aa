/- Several texts in one: Numbered, IsEnd, KindAt, Value. -/
import Derived.Outline
import Derived.Test.YtmfkefcdddoooaaGreatDoorShelf
import Derived.Lib.IndexAny
import Derived.Test.YtmfkefcdddoooaaGreatDoorProg
import Derived.WalkKit
import Derived.BigCall
import Derived.Below
import Derived.Test.YtmfkefcdddoooaaGreatDoorP08
import Derived.Test.YtmfkefcdddoooaaGreatDoorP01
import Derived.Test.YtmfkefcdddoooaaGreatDoorP06
import Derived.Test.YtmfkefcdddoooaaGreatDoorP02
import Derived.Test.YtmfkefcdddoooaaGreatDoorP07
namespace Go.Proofs.YtmfkefcdddoooaaGreatDoor
open Go.RowKit

/-- the variable strconv.ErrSyntax holds an error -/
def ErrS (w : World) : Prop := ∃ te pe, w.cell? ⟨3, 0, none⟩ = some (.iface te pe)
theorem ErrS.below {w w' : World} (h : ErrS w) (hb : Below w.heap.size w w') : ErrS w' := by
  obtain ⟨te, pe, hc⟩ := h
  exact ⟨te, pe, (hb.cell (cell_lt hc)).trans hc⟩

set_option maxHeartbeats 1000000 in
set_option maxRecDepth 100000 in
/-- strconv.ParseUint, behind the inner one: its number; or an error -/
theorem public_parse (base : Int) (t : ByteArray) (hmax : t.size ≤ 7) (v : Value) (n : Nat) (good : Bool) (w : World) (hS : ErrS w)
    (hin : Calls Tryz.prog 155 #[.string t, .int .i64 base, .int .i64 32] w fun e w' => e = .returned v ∧ Below w.heap.size w w')
    (hv : v = if good = true then .tuple #[.int .u64 n, .nilIface] else .tuple #[.int .u64 0, .iface 165 (.int .i64 2)]) :
    Calls Tryz.prog 143 #[.string t, .int .i64 base, .int .i64 32] w fun e w' => (if good = true then e = .returned (.tuple #[.int .u64 n, .nilIface]) else ∃ N, e = .returned (.tuple #[.int .u64 0, .iface 167 (.pointer (some ⟨N, 0, none⟩))])) ∧ Below w.heap.size w w' := by
  cases good
  · simp only [Bool.false_eq_true, if_false] at hv ⊢
    subst hv
    go_enter Tryz.func143, Tryz.ntmps143
    go_wp2_with fail
    refine hin.mono ?_
    rintro e w1 ⟨rfl, b1⟩
    obtain ⟨te, pe, hc⟩ := hS.below b1
    go_wp2_with fail
    refine (Tryz.strconv_toError_syntax _ t base 32 (.iface te pe) w1 (by omega) hc (.inr ⟨te, pe, rfl⟩)).mono ?_
    rintro e w2 ⟨N, rfl, _, _, b2⟩
    go_wp2_with fail
    go_ret2
    exact ⟨⟨N, rfl⟩, b1.trans (b2.mono b1.size)⟩
  · simp only [if_true] at hv ⊢
    subst hv
    go_enter Tryz.func143, Tryz.ntmps143
    go_wp2_with fail
    refine hin.mono ?_
    rintro e w1 ⟨rfl, b1⟩
    go_wp2_with fail
    go_ret2
    exact ⟨rfl, b1⟩

/-- a code point, or none -/
def ptV : Option Nat → Value
  | some n => .tuple #[.int .i32 n, .bool true]
  | none => .tuple #[.int .i32 0, .bool false]

set_option maxHeartbeats 1000000 in
set_option maxRecDepth 100000 in
theorem parse_empty (base : Int) (t : ByteArray) (h0 : t.size = 0) (w : World) :
    Calls Tryz.prog 155 #[.string t, .int .i64 base, .int .i64 32] w fun e w' => e = .returned (.tuple #[.int .u64 0, .iface 165 (.int .i64 2)]) ∧ Below w.heap.size w w' := by
  obtain rfl : t = ⟨#[]⟩ := by
    cases t with
    | mk a =>
      have : a.size = 0 := h0
      rw [Array.eq_empty_of_size_eq_zero this]
  go_enter Tryz.func155, Tryz.ntmps155
  go_wp2
  go_ret2
  exact ⟨rfl, Below.refl _ _⟩
theorem nil_of_size {t : ByteArray} (h : t.size = 0) : t.data.toList = [] := List.length_eq_zero_iff.1 (by rw [len_list]; exact h)
theorem ne_of_size {t : ByteArray} (h : t.size ≠ 0) : t.data.toList ≠ [] := fun e => h (by rw [← len_list, e]; rfl)
theorem parse10_any (t : ByteArray) (hmax : t.size ≤ 7) (w : World) :
    Calls Tryz.prog 155 #[.string t, .int .i64 10, .int .i64 32] w fun e w' => e = .returned (parsed 165 10 t.data.toList) ∧ Below w.heap.size w w' := by
  by_cases h0 : t.size = 0
  · rw [nil_of_size h0]; exact parse_empty 10 t h0 w
  · exact parse10 t h0 hmax w
theorem parse16_any (t : ByteArray) (hmax : t.size ≤ 7) (w : World) :
    Calls Tryz.prog 155 #[.string t, .int .i64 16, .int .i64 32] w fun e w' => e = .returned (parsed 165 16 t.data.toList) ∧ Below w.heap.size w w' := by
  by_cases h0 : t.size = 0
  · rw [nil_of_size h0]; exact parse_empty 16 t h0 w
  · exact parse16 t h0 hmax w
/-- both, at the outer one -/
theorem public10 (t : ByteArray) (hmax : t.size ≤ 7) (w : World) (hS : ErrS w) :
    Calls Tryz.prog 143 #[.string t, .int .i64 10, .int .i64 32] w fun e w' => (if (decide (t.data.toList ≠ []) && U.allDig 10 t.data.toList) = true then e = .returned (.tuple #[.int .u64 (U.val 10 0 t.data.toList : Nat), .nilIface]) else ∃ N, e = .returned (.tuple #[.int .u64 0, .iface 167 (.pointer (some ⟨N, 0, none⟩))])) ∧ Below w.heap.size w w' :=
  public_parse 10 t hmax _ _ _ w hS (parse10_any t hmax w) rfl
theorem public16 (t : ByteArray) (hmax : t.size ≤ 7) (w : World) (hS : ErrS w) :
    Calls Tryz.prog 143 #[.string t, .int .i64 16, .int .i64 32] w fun e w' => (if (decide (t.data.toList ≠ []) && U.allDig 16 t.data.toList) = true then e = .returned (.tuple #[.int .u64 (U.val 16 0 t.data.toList : Nat), .nilIface]) else ∃ N, e = .returned (.tuple #[.int .u64 0, .iface 167 (.pointer (some ⟨N, 0, none⟩))])) ∧ Below w.heap.size w w' :=
  public_parse 16 t hmax _ _ _ w hS (parse16_any t hmax w) rfl

theorem point_zero : U.point 0 = 65533 := by decide
theorem point_no {n : Nat} (h : U.isL n = false) : U.point n = 65533 := by unfold U.point; rw [if_pos (by simp [h])]
theorem point_yes {n : Nat} (h0 : n ≠ 0) (h : U.isL n = true) : U.point n = n := by unfold U.point; rw [if_neg (by simp [h, h0])]

set_option maxHeartbeats 4000000 in
set_option maxRecDepth 1000000 in
theorem numbered_walk (t : ByteArray) (hmax : t.size ≤ 7) (w : World) (hS : ErrS w) :
    Calls Tryz.prog 123 #[.string t] w fun e w' => e = .returned (ptV (U.numOf t.data.toList)) ∧ Below w.heap.size w w' := by
  have hll := len_list t
  by_cases h0 : t.size = 0
  · have hnil := nil_of_size h0
    have r1 := public10 t hmax
    rw [hnil] at r1 ⊢
    obtain rfl : t = ⟨#[]⟩ := by
      cases t with
      | mk a =>
        have : a.size = 0 := h0
        rw [Array.eq_empty_of_size_eq_zero this]
    clear hnil hll
    go_enter Tryz.func123, Tryz.ntmps123
    go_wp2_with fail
    refine (r1 _ hS).mono ?_
    rintro e w1 hr
    have hf : (decide (([] : List UInt8) ≠ []) && U.allDig 10 []) = false := rfl
    rw [hf] at hr
    simp only [Bool.false_eq_true, if_false] at hr
    obtain ⟨⟨N, rfl⟩, b1⟩ := hr
    go_wp2_with fail
    go_ret2
    exact ⟨rfl, b1⟩
  have hpos : 0 < t.size := by omega
  have hb := (t[0]'hpos).toNat_lt
  have hcons : t.data.toList = (t[0]'hpos) :: t.data.toList.drop 1 := by
    have hg := byte_get t hpos
    have := drop_byte hg
    simpa using this
  have hemp : t.toList.isEmpty = false := by
    rw [← decide_eq_emptyBytes]
    exact decide_eq_false (fun h => h0 (by rw [h]; rfl))
  have hex : (t.extract 1 t.size).data.toList = t.data.toList.drop 1 := by
    rw [Lib.extract_data]
    exact List.take_of_length_le (by simp)
  have hexs : (t.extract 1 t.size).size ≤ 6 := by rw [ByteArray.size_extract]; omega
  by_cases hx : ((t[0]'hpos).toNat : Int) = 120
  · have t1 := beq_yes hx
    have hc : t[0]'hpos = 120 := (byte_eq (k := 120) (by decide)).1 (by omega)
    have r1 := public16 (t.extract 1 t.size) (by omega)
    have HNO := Lib.hid (show U.numOf t.data.toList = U.numIn 16 6 (t.data.toList.drop 1) by
      conv => lhs; rw [hcons, U.numOf_cons, if_pos (by rw [hc]; decide)])
    have hlen : (t.data.toList.drop 1).length ≤ 6 := by rw [List.length_drop]; omega
    rw [hex] at r1
    clear hcons hex hc
    go_enter Tryz.func123, Tryz.ntmps123
    go_wp2_with fail
    refine (r1 _ hS).mono ?_
    rintro e w1 hr
    generalize t.data.toList.drop 1 = D at *
    cases hgood : (decide (D ≠ []) && U.allDig 16 D)
    · rw [hgood] at hr
      simp only [Bool.false_eq_true, if_false] at hr
      have HV := Lib.hid (show U.numIn 16 6 D = none by rw [U.numIn_short hlen, if_neg (by rw [hgood]; simp)])
      clear hgood
      obtain ⟨⟨N, rfl⟩, b1⟩ := hr
      go_wp2_with fail
      go_ret2
      rw [HNO.out, HV.out]
      exact ⟨rfl, b1⟩
    · rw [hgood] at hr
      simp only [if_true] at hr
      have hall : U.allDig 16 D = true := by
        rw [Bool.and_eq_true] at hgood
        exact hgood.2
      have hsm := U.val_small hall (by decide) (by omega)
      have HV := Lib.hid (show U.numIn 16 6 D = some (U.point (U.val 16 0 D)) by rw [U.numIn_short hlen, if_pos hgood])
      clear hgood hall
      generalize U.val 16 0 D = n at *
      obtain ⟨rfl, b1⟩ := hr
      have hve := U.valid_eq (n := n)
      by_cases hn : n = 0
      · subst hn
        clear hve
        go_wp2_with fail
        go_ret2
        rw [HNO.out, HV.out, point_zero]
        exact ⟨rfl, b1⟩
      · have hz : ((n : Int) == 0) = false := by simpa using hn
        cases hL : U.isL n
        · have HP := Lib.hid (point_no hL)
          rw [hL] at hve
          clear hL hn
          go_wp2_with (refine (Tryz.utf8_ValidRune _ _).mono ?_; rintro e w2 ⟨rfl, rfl⟩)
          go_ret2
          rw [HNO.out, HV.out, HP.out]
          exact ⟨rfl, b1⟩
        · have HP := Lib.hid (point_yes hn hL)
          rw [hL] at hve
          clear hL hn
          go_wp2_with (refine (Tryz.utf8_ValidRune _ _).mono ?_; rintro e w2 ⟨rfl, rfl⟩)
          go_ret2
          rw [HNO.out, HV.out, HP.out]
          exact ⟨rfl, b1⟩
  by_cases hX : ((t[0]'hpos).toNat : Int) = 88
  · have t1 := beq_yes hX
    have hc : t[0]'hpos = 88 := (byte_eq (k := 88) (by decide)).1 (by omega)
    have r1 := public16 (t.extract 1 t.size) (by omega)
    have HNO := Lib.hid (show U.numOf t.data.toList = U.numIn 16 6 (t.data.toList.drop 1) by
      conv => lhs; rw [hcons, U.numOf_cons, if_pos (by rw [hc]; decide)])
    have hlen : (t.data.toList.drop 1).length ≤ 6 := by rw [List.length_drop]; omega
    rw [hex] at r1
    clear hcons hex hc
    have t2 := beq_no hx
    go_enter Tryz.func123, Tryz.ntmps123
    go_wp2_with fail
    refine (r1 _ hS).mono ?_
    rintro e w1 hr
    generalize t.data.toList.drop 1 = D at *
    cases hgood : (decide (D ≠ []) && U.allDig 16 D)
    · rw [hgood] at hr
      simp only [Bool.false_eq_true, if_false] at hr
      have HV := Lib.hid (show U.numIn 16 6 D = none by rw [U.numIn_short hlen, if_neg (by rw [hgood]; simp)])
      clear hgood
      obtain ⟨⟨N, rfl⟩, b1⟩ := hr
      go_wp2_with fail
      go_ret2
      rw [HNO.out, HV.out]
      exact ⟨rfl, b1⟩
    · rw [hgood] at hr
      simp only [if_true] at hr
      have hall : U.allDig 16 D = true := by
        rw [Bool.and_eq_true] at hgood
        exact hgood.2
      have hsm := U.val_small hall (by decide) (by omega)
      have HV := Lib.hid (show U.numIn 16 6 D = some (U.point (U.val 16 0 D)) by rw [U.numIn_short hlen, if_pos hgood])
      clear hgood hall
      generalize U.val 16 0 D = n at *
      obtain ⟨rfl, b1⟩ := hr
      have hve := U.valid_eq (n := n)
      by_cases hn : n = 0
      · subst hn
        clear hve
        go_wp2_with fail
        go_ret2
        rw [HNO.out, HV.out, point_zero]
        exact ⟨rfl, b1⟩
      · have hz : ((n : Int) == 0) = false := by simpa using hn
        cases hL : U.isL n
        · have HP := Lib.hid (point_no hL)
          rw [hL] at hve
          clear hL hn
          go_wp2_with (refine (Tryz.utf8_ValidRune _ _).mono ?_; rintro e w2 ⟨rfl, rfl⟩)
          go_ret2
          rw [HNO.out, HV.out, HP.out]
          exact ⟨rfl, b1⟩
        · have HP := Lib.hid (point_yes hn hL)
          rw [hL] at hve
          clear hL hn
          go_wp2_with (refine (Tryz.utf8_ValidRune _ _).mono ?_; rintro e w2 ⟨rfl, rfl⟩)
          go_ret2
          rw [HNO.out, HV.out, HP.out]
          exact ⟨rfl, b1⟩
  have t1 := beq_no hx
  have t2 := beq_no hX
  have r1 := public10 t hmax
  have HNO := Lib.hid (show U.numOf t.data.toList = U.numIn 10 7 t.data.toList by
    conv => lhs; rw [hcons, U.numOf_cons, if_neg (by
      rintro (e | e)
      · exact hx (by rw [e]; rfl)
      · exact hX (by rw [e]; rfl))]
    rw [← hcons])
  have hlen : t.data.toList.length ≤ 7 := by omega
  clear hcons hex hx hX
  go_enter Tryz.func123, Tryz.ntmps123
  go_wp2_with fail
  refine (r1 _ hS).mono ?_
  rintro e w1 hr
  cases hgood : (decide (t.data.toList ≠ []) && U.allDig 10 t.data.toList)
  · rw [hgood] at hr
    simp only [Bool.false_eq_true, if_false] at hr
    have HV := Lib.hid (show U.numIn 10 7 t.data.toList = none by rw [U.numIn_short hlen, if_neg (by rw [hgood]; simp)])
    clear hgood
    obtain ⟨⟨N, rfl⟩, b1⟩ := hr
    go_wp2_with fail
    go_ret2
    rw [HNO.out, HV.out]
    exact ⟨rfl, b1⟩
  · rw [hgood] at hr
    simp only [if_true] at hr
    have hall : U.allDig 10 t.data.toList = true := by
      rw [Bool.and_eq_true] at hgood
      exact hgood.2
    have hsm := U.val_small hall (by decide) (by omega)
    have HV := Lib.hid (show U.numIn 10 7 t.data.toList = some (U.point (U.val 10 0 t.data.toList)) by rw [U.numIn_short hlen, if_pos hgood])
    clear hgood hall
    generalize U.val 10 0 t.data.toList = n at *
    obtain ⟨rfl, b1⟩ := hr
    have hve := U.valid_eq (n := n)
    by_cases hn : n = 0
    · subst hn
      clear hve
      go_wp2_with fail
      go_ret2
      rw [HNO.out, HV.out, point_zero]
      exact ⟨rfl, b1⟩
    · have hz : ((n : Int) == 0) = false := by simpa using hn
      cases hL : U.isL n
      · have HP := Lib.hid (point_no hL)
        rw [hL] at hve
        clear hL hn
        go_wp2_with (refine (Tryz.utf8_ValidRune _ _).mono ?_; rintro e w2 ⟨rfl, rfl⟩)
        go_ret2
        rw [HNO.out, HV.out, HP.out]
        exact ⟨rfl, b1⟩
      · have HP := Lib.hid (point_yes hn hL)
        rw [hL] at hve
        clear hL hn
        go_wp2_with (refine (Tryz.utf8_ValidRune _ _).mono ?_; rintro e w2 ⟨rfl, rfl⟩)
        go_ret2
        rw [HNO.out, HV.out, HP.out]
        exact ⟨rfl, b1⟩

end Go.Proofs.YtmfkefcdddoooaaGreatDoor

namespace Go.Proofs.YtmfkefcdddoooaaGreatDoor
open Go.RowKit

namespace U
theorem low1_beq {a k : UInt8} (hk : k.toNat < 65) : (low1 a == k) = (a == k) := by
  unfold low1
  split
  · rename_i h
    have h1 : (a == k) = false := beq_eq_false_iff_ne.2 (fun e => by subst e; omega)
    have h2 : (UInt8.ofNat (a.toNat + 32) == k) = false := beq_eq_false_iff_ne.2 (fun e => by
      subst e
      simp only [UInt8.toNat_ofNat'] at hk
      omega)
    rw [h1, h2]
  · rfl
theorem low1_isSp (c : UInt8) : isSp (low1 c) = isSp c := by
  unfold isSp
  rw [low1_beq (by decide), low1_beq (by decide), low1_beq (by decide), low1_beq (by decide)]
def stopAt (c : UInt8) : Bool := isSp c || c == 47 || c == 62
theorem stopAt_contains (c : UInt8) : ([32, 9, 10, 12, 47, 62] : List UInt8).contains c = stopAt c := by
  rw [Bool.eq_iff_iff]
  simp [stopAt, isSp, or_assoc]
/-- an end tag of this name begins here (the text is lowered) -/
def endAt (n l : List UInt8) : Bool := List.isPrefixOf (60 :: 47 :: n) l && (match l.drop (2 + n.length) with
  | [] => false
  | c :: _ => stopAt c)
theorem prefix_take (n : List UInt8) : ∀ (l : List UInt8), n.isPrefixOf l = (l.take n.length == n) := by
  induction n with
  | nil => intro l; simp
  | cons a n ih =>
    intro l
    cases l with
    | nil => simp [List.isPrefixOf]
    | cons b l =>
      rw [List.isPrefixOf_cons_cons, ih l, List.length_cons, List.take_succ_cons]
      show (a == b && _) = (b == a && _)
      rw [Bool.beq_comm]
      rfl
theorem low_take (l : List UInt8) (k : Nat) : low (l.take k) = (low l).take k := by simp [low]
theorem low_drop (l : List UInt8) (k : Nat) : low (l.drop k) = (low l).drop k := by simp [low]
theorem rawEnd_low (n l : List UInt8) : rawEnd n l = endAt n (low l) := by
  unfold rawEnd endAt
  rw [← low_drop]
  cases hd : l.drop (2 + n.length) with
  | nil => simp [low]
  | cons c r =>
    have hl := congrArg List.length hd
    simp only [List.length_drop, List.length_cons] at hl
    have e1 : low (c :: r) = low1 c :: low r := rfl
    rw [e1]
    simp only
    unfold stopAt
    rw [low1_isSp, low1_beq (by decide), low1_beq (by decide)]
    congr 1
    match l, hl with
    | a :: b :: u, _ =>
      have e2 : low (a :: b :: u) = low1 a :: low1 b :: low u := rfl
      rw [e2, List.isPrefixOf_cons_cons, List.isPrefixOf_cons_cons, prefix_take]
      have e3 : ((60 : UInt8) == low1 a) = (a == 60) := by rw [Bool.beq_comm]; exact low1_beq (by decide)
      have e4 : ((47 : UInt8) == low1 b) = (b == 47) := by rw [Bool.beq_comm]; exact low1_beq (by decide)
      rw [e3, e4]
      simp only [List.take_succ_cons, List.take_zero, List.drop_succ_cons, List.drop_zero, low_take]
      show (a == 60 && (b == 47 && true) && _) = _
      rw [Bool.and_true, Bool.and_assoc]
    | [a], hl => simp only [List.length_cons, List.length_nil] at hl; omega
    | [], hl => simp at hl
end U

theorem mk_append (a b : List UInt8) : ByteArray.mk a.toArray ++ ByteArray.mk b.toArray = ByteArray.mk (a ++ b).toArray := by
  apply ByteArray.ext
  simp

set_option maxHeartbeats 4000000 in
set_option maxRecDepth 100000 in
theorem is_end (n s : ByteArray) (w : World) (hn : n.size ≤ 1048576) : Calls Tryz.prog 92 #[.string n, .string s] w fun e w' => e = .returned (.bool (U.endAt n.data.toList s.data.toList)) ∧ w' = w := by
  have hp : (ByteArray.mk #[60, 47] ++ n).data.toList = 60 :: 47 :: n.data.toList := by simp [ByteArray.data_append]
  have hcp := fun w => Tryz.strings_CutPrefix s (ByteArray.mk #[60, 47] ++ n) w
  rw [hp] at hcp
  have hln := len_list n
  unfold U.endAt
  unfold Lib.trimPrefix Lib.hasPrefix at hcp
  have e0 : (60 :: 47 :: n.data.toList).length = 2 + n.data.toList.length := by rw [List.length_cons, List.length_cons]; omega
  rw [e0] at hcp
  cases hpre : List.isPrefixOf (60 :: 47 :: n.data.toList) s.data.toList with
  | false =>
    rw [hpre] at hcp
    simp only [Bool.false_eq_true, if_false] at hcp
    rw [Bool.false_and]
    clear hp
    go_enter Tryz.func92, Tryz.ntmps92
    go_wp2_with (refine (hcp _).mono ?_; rintro e w' ⟨rfl, rfl⟩)
    go_ret
    exact ⟨rfl, rfl⟩
  | true =>
    rw [hpre] at hcp
    simp only [if_true] at hcp
    cases hd : s.data.toList.drop (2 + n.data.toList.length) with
    | nil =>
      rw [hd] at hcp
      clear hp hpre
      go_enter Tryz.func92, Tryz.ntmps92
      go_wp2_with (refine (hcp _).mono ?_; rintro e w' ⟨rfl, rfl⟩)
      go_ret
      exact ⟨rfl, rfl⟩
    | cons c r =>
      rw [hd] at hcp
      have hi := fun w => Tryz.strings_IndexByte (ByteArray.mk #[32, 9, 10, 12, 47, 62]) (c.toNat : Int) w
      have hcs := Lib.contains_iff_indexByte [32, 9, 10, 12, 47, 62] c
      rw [U.stopAt_contains] at hcs
      have hbk : ((c.toNat : Int)).toNat.toUInt8 = c := by simp
      rw [hbk] at hi
      have hlist : (ByteArray.mk #[32, 9, 10, 12, 47, 62]).data.toList = [32, 9, 10, 12, 47, 62] := rfl
      rw [hlist] at hi
      generalize Lib.indexByte [32, 9, 10, 12, 47, 62] c = ix at hi hcs
      have hne : (ByteArray.mk (c :: r).toArray).toList.isEmpty = false := by rw [Lib.toList_data]; rfl
      clear hp hpre hd
      simp only [Bool.true_and]
      go_enter Tryz.func92, Tryz.ntmps92
      go_wp2_with (first | (refine (hcp _).mono ?_; rintro e w' ⟨rfl, rfl⟩) | (refine (hi _).mono ?_; rintro e w' ⟨rfl, rfl⟩))
      go_ret
      exact ⟨by rw [hcs]; rfl, rfl⟩

end Go.Proofs.YtmfkefcdddoooaaGreatDoor

namespace Go.Proofs.YtmfkefcdddoooaaGreatDoor
open Go.RowKit

set_option maxHeartbeats 1000000 in
set_option maxRecDepth 100000 in
theorem is_letter_t (b : UInt8) (w : World) : Calls Tryz.prog 53 #[.int .u8 b.toNat] w fun e w' => e = .returned (.bool (U.isAl b)) ∧ w' = w := by
  have hb := b.toNat_lt
  rcases Nat.lt_or_ge b.toNat 65 with h1 | h1
  · have hr : U.isAl b = false := by unfold U.isAl; rw [decide_eq_false (by omega : ¬ 97 ≤ b.toNat), decide_eq_false (by omega : ¬ 65 ≤ b.toNat)]; simp
    rw [hr]
    have d1 : decide (97 ≤ (b.toNat : Int)) = false := decide_eq_false (by omega)
    have d2 : decide (65 ≤ (b.toNat : Int)) = false := decide_eq_false (by omega)
    go_enter Tryz.func53, Tryz.ntmps53
    go_wp2
    go_ret
    exact ⟨rfl, rfl⟩
  rcases Nat.lt_or_ge b.toNat 91 with h2 | h2
  · have hr : U.isAl b = true := by unfold U.isAl; rw [decide_eq_true h1, decide_eq_true (by omega : b.toNat ≤ 90)]; simp
    rw [hr]
    have d1 : decide (97 ≤ (b.toNat : Int)) = false := decide_eq_false (by omega)
    have d2 : decide (65 ≤ (b.toNat : Int)) = true := decide_eq_true (by omega)
    have d3 : decide ((b.toNat : Int) ≤ 90) = true := decide_eq_true (by omega)
    go_enter Tryz.func53, Tryz.ntmps53
    go_wp2
    go_ret
    exact ⟨rfl, rfl⟩
  rcases Nat.lt_or_ge b.toNat 97 with h3 | h3
  · have hr : U.isAl b = false := by unfold U.isAl; rw [decide_eq_false (by omega : ¬ 97 ≤ b.toNat), decide_eq_false (by omega : ¬ b.toNat ≤ 90)]; simp
    rw [hr]
    have d1 : decide (97 ≤ (b.toNat : Int)) = false := decide_eq_false (by omega)
    have d2 : decide (65 ≤ (b.toNat : Int)) = true := decide_eq_true (by omega)
    have d3 : decide ((b.toNat : Int) ≤ 90) = false := decide_eq_false (by omega)
    go_enter Tryz.func53, Tryz.ntmps53
    go_wp2
    go_ret
    exact ⟨rfl, rfl⟩
  rcases Nat.lt_or_ge b.toNat 123 with h4 | h4
  · have hr : U.isAl b = true := by unfold U.isAl; rw [decide_eq_true h3, decide_eq_true (by omega : b.toNat ≤ 122)]; simp
    rw [hr]
    have d1 : decide (97 ≤ (b.toNat : Int)) = true := decide_eq_true (by omega)
    have d2 : decide ((b.toNat : Int) ≤ 122) = true := decide_eq_true (by omega)
    go_enter Tryz.func53, Tryz.ntmps53
    go_wp2
    go_ret
    exact ⟨rfl, rfl⟩
  · have hr : U.isAl b = false := by unfold U.isAl; rw [decide_eq_false (by omega : ¬ b.toNat ≤ 122), decide_eq_false (by omega : ¬ b.toNat ≤ 90)]; simp
    rw [hr]
    have d1 : decide (97 ≤ (b.toNat : Int)) = true := decide_eq_true (by omega)
    have d2 : decide ((b.toNat : Int) ≤ 122) = false := decide_eq_false (by omega)
    have d3 : decide (65 ≤ (b.toNat : Int)) = true := decide_eq_true (by omega)
    have d4 : decide ((b.toNat : Int) ≤ 90) = false := decide_eq_false (by omega)
    go_enter Tryz.func53, Tryz.ntmps53
    go_wp2
    go_ret
    exact ⟨rfl, rfl⟩

theorem list_zero {s : ByteArray} {k : Nat} (h : s.size ≤ k) : s.data.toList.drop k = [] := List.drop_of_length_le (by rw [len_list]; exact h)
theorem list_two {s : ByteArray} (h : 1 < s.size) : s.data.toList = s[0] :: s[1] :: s.data.toList.drop 2 := by
  have h1 := drop_byte (byte_get s (k := 0) (by omega))
  have h2 := drop_byte (byte_get s (k := 1) (by omega))
  rw [List.drop_zero] at h1
  rw [← h2]
  exact h1
theorem byte_ne {b : UInt8} {n : Nat} (hn : n < 256) (h : (b.toNat : Int) ≠ n) : b ≠ UInt8.ofNat n := fun e => h (by rw [e]; simp; omega)
theorem bne_yes {b : UInt8} {n : Int} (h : (b.toNat : Int) ≠ n) : ((b.toNat : Int) != n) = true := by simpa using h
theorem bne_no {b : UInt8} {n : Int} (h : (b.toNat : Int) = n) : ((b.toNat : Int) != n) = false := by rw [h]; simp

set_option maxHeartbeats 4000000 in
set_option maxRecDepth 100000 in
theorem kind_short (s : ByteArray) (w : World) (h2 : s.size < 2) : Calls Tryz.prog 30 #[.string s] w fun e w' => e = .returned (.int .i64 3) ∧ w' = w := by
  go_enter Tryz.func30, Tryz.ntmps30
  go_wp2_with fail
  go_ret
  exact ⟨rfl, rfl⟩
set_option maxHeartbeats 4000000 in
set_option maxRecDepth 100000 in
theorem kind_other (s : ByteArray) (w : World) (h2 : 1 < s.size) (b60 : (((s[0]'(by omega)).toNat : Int) != 60) = true) : Calls Tryz.prog 30 #[.string s] w fun e w' => e = .returned (.int .i64 3) ∧ w' = w := by
  go_enter Tryz.func30, Tryz.ntmps30
  go_wp2_with fail
  go_ret
  exact ⟨rfl, rfl⟩
set_option maxHeartbeats 4000000 in
set_option maxRecDepth 100000 in
theorem kind_start (s : ByteArray) (w : World) (h2 : 1 < s.size) (b60 : (((s[0]'(by omega)).toNat : Int) != 60) = false) (al : U.isAl (s[1]'h2) = true) : Calls Tryz.prog 30 #[.string s] w fun e w' => e = .returned (.int .i64 1) ∧ w' = w := by
  go_enter Tryz.func30, Tryz.ntmps30
  go_wp2_with (refine (is_letter_t _ _).mono ?_; rintro e w' ⟨rfl, rfl⟩; rw [al])
  go_ret
  exact ⟨rfl, rfl⟩
set_option maxHeartbeats 4000000 in
set_option maxRecDepth 100000 in
theorem kind_33 (s : ByteArray) (w : World) (h2 : 1 < s.size) (b60 : (((s[0]'(by omega)).toNat : Int) != 60) = false) (al : U.isAl (s[1]'h2) = false) (b33 : (((s[1]'h2).toNat : Int) == 33) = true) : Calls Tryz.prog 30 #[.string s] w fun e w' => e = .returned (.int .i64 4) ∧ w' = w := by
  go_enter Tryz.func30, Tryz.ntmps30
  go_wp2_with (refine (is_letter_t _ _).mono ?_; rintro e w' ⟨rfl, rfl⟩; rw [al])
  go_ret
  exact ⟨rfl, rfl⟩
set_option maxHeartbeats 4000000 in
set_option maxRecDepth 100000 in
theorem kind_63 (s : ByteArray) (w : World) (h2 : 1 < s.size) (b60 : (((s[0]'(by omega)).toNat : Int) != 60) = false) (al : U.isAl (s[1]'h2) = false) (b33 : (((s[1]'h2).toNat : Int) == 33) = false) (b63 : (((s[1]'h2).toNat : Int) == 63) = true) : Calls Tryz.prog 30 #[.string s] w fun e w' => e = .returned (.int .i64 4) ∧ w' = w := by
  go_enter Tryz.func30, Tryz.ntmps30
  go_wp2_with (refine (is_letter_t _ _).mono ?_; rintro e w' ⟨rfl, rfl⟩; rw [al])
  go_ret
  exact ⟨rfl, rfl⟩
set_option maxHeartbeats 4000000 in
set_option maxRecDepth 100000 in
theorem kind_not47 (s : ByteArray) (w : World) (h2 : 1 < s.size) (b60 : (((s[0]'(by omega)).toNat : Int) != 60) = false) (al : U.isAl (s[1]'h2) = false) (b33 : (((s[1]'h2).toNat : Int) == 33) = false) (b63 : (((s[1]'h2).toNat : Int) == 63) = false) (b47 : (((s[1]'h2).toNat : Int) != 47) = true) : Calls Tryz.prog 30 #[.string s] w fun e w' => e = .returned (.int .i64 3) ∧ w' = w := by
  go_enter Tryz.func30, Tryz.ntmps30
  go_wp2_with (refine (is_letter_t _ _).mono ?_; rintro e w' ⟨rfl, rfl⟩; rw [al])
  go_ret
  exact ⟨rfl, rfl⟩
set_option maxHeartbeats 4000000 in
set_option maxRecDepth 100000 in
theorem kind_two (s : ByteArray) (w : World) (h2 : 1 < s.size) (b60 : (((s[0]'(by omega)).toNat : Int) != 60) = false) (al : U.isAl (s[1]'h2) = false) (b33 : (((s[1]'h2).toNat : Int) == 33) = false) (b63 : (((s[1]'h2).toNat : Int) == 63) = false) (b47 : (((s[1]'h2).toNat : Int) != 47) = false) (n2 : ((s.size : Int) == 2) = true) : Calls Tryz.prog 30 #[.string s] w fun e w' => e = .returned (.int .i64 3) ∧ w' = w := by
  go_enter Tryz.func30, Tryz.ntmps30
  go_wp2_with (refine (is_letter_t _ _).mono ?_; rintro e w' ⟨rfl, rfl⟩; rw [al])
  go_ret
  exact ⟨rfl, rfl⟩
set_option maxHeartbeats 4000000 in
set_option maxRecDepth 100000 in
theorem kind_end_true (s : ByteArray) (w : World) (h2 : 1 < s.size) (h3 : 2 < s.size) (b60 : (((s[0]'(by omega)).toNat : Int) != 60) = false) (al : U.isAl (s[1]'h2) = false) (b33 : (((s[1]'h2).toNat : Int) == 33) = false) (b63 : (((s[1]'h2).toNat : Int) == 63) = false) (b47 : (((s[1]'h2).toNat : Int) != 47) = false) (n2 : ((s.size : Int) == 2) = false) (al2 : U.isAl (s[2]'h3) = true) : Calls Tryz.prog 30 #[.string s] w fun e w' => e = .returned (.int .i64 2) ∧ w' = w := by
  go_enter Tryz.func30, Tryz.ntmps30
  go_wp2_with (refine (is_letter_t _ _).mono ?_; rintro e w' ⟨rfl, rfl⟩; first | rw [al] | rw [al2])
  go_ret
  exact ⟨rfl, rfl⟩
set_option maxHeartbeats 4000000 in
set_option maxRecDepth 100000 in
theorem kind_end_false (s : ByteArray) (w : World) (h2 : 1 < s.size) (h3 : 2 < s.size) (b60 : (((s[0]'(by omega)).toNat : Int) != 60) = false) (al : U.isAl (s[1]'h2) = false) (b33 : (((s[1]'h2).toNat : Int) == 33) = false) (b63 : (((s[1]'h2).toNat : Int) == 63) = false) (b47 : (((s[1]'h2).toNat : Int) != 47) = false) (n2 : ((s.size : Int) == 2) = false) (al2 : U.isAl (s[2]'h3) = false) : Calls Tryz.prog 30 #[.string s] w fun e w' => e = .returned (.int .i64 4) ∧ w' = w := by
  go_enter Tryz.func30, Tryz.ntmps30
  go_wp2_with (refine (is_letter_t _ _).mono ?_; rintro e w' ⟨rfl, rfl⟩; first | rw [al] | rw [al2])
  go_ret
  exact ⟨rfl, rfl⟩

theorem kind_at (s : ByteArray) (w : World) : Calls Tryz.prog 30 #[.string s] w fun e w' => e = .returned (.int .i64 (U.kindOf s.data.toList : Nat)) ∧ w' = w := by
  rcases Nat.lt_or_ge s.size 2 with h2 | h2
  · have hr : U.kindOf s.data.toList = 3 := by
      have hl := len_list s
      match s.data.toList, hl with
      | [], _ => rfl
      | [a], _ => rfl
      | a :: b :: l, hl => simp only [List.length_cons] at hl; omega
    rw [hr]
    exact kind_short s w h2
  have hl := list_two (s := s) h2
  rw [hl, U.kindOf_cons]
  by_cases h60 : ((s[0]'(by omega)).toNat : Int) = 60
  · rw [if_neg (fun h => h ((byte_eq (k := 60) (by decide)).1 (by omega)))]
    cases hal : U.isAl (s[1]'h2) with
    | true =>
      rw [if_pos rfl]
      exact kind_start s w h2 (bne_no h60) hal
    | false =>
      rw [if_neg (by decide)]
      by_cases h33 : ((s[1]'h2).toNat : Int) = 33
      · rw [if_pos (.inl ((byte_eq (k := 33) (by decide)).1 (by omega)))]
        exact kind_33 s w h2 (bne_no h60) hal (beq_yes h33)
      by_cases h63 : ((s[1]'h2).toNat : Int) = 63
      · rw [if_pos (.inr ((byte_eq (k := 63) (by decide)).1 (by omega)))]
        exact kind_63 s w h2 (bne_no h60) hal (beq_no h33) (beq_yes h63)
      rw [if_neg (by rintro (e | e); exact h33 (by rw [e]; rfl); exact h63 (by rw [e]; rfl))]
      by_cases h47 : ((s[1]'h2).toNat : Int) = 47
      · rw [if_pos (show s[1]'h2 = 47 from (byte_eq (k := 47) (by decide)).1 (by omega))]
        rcases Nat.lt_or_ge 2 s.size with h3 | h3
        · rw [drop_byte (byte_get s (k := 2) h3), U.kindS_cons]
          have n2 : ((s.size : Int) == 2) = false := by rw [beq_eq_false_iff_ne]; omega
          cases hal2 : U.isAl (s[2]'h3) with
          | true => exact kind_end_true s w h2 h3 (bne_no h60) hal (beq_no h33) (beq_no h63) (bne_no h47) n2 hal2
          | false => exact kind_end_false s w h2 h3 (bne_no h60) hal (beq_no h33) (beq_no h63) (bne_no h47) n2 hal2
        · rw [list_zero (by omega)]
          exact kind_two s w h2 (bne_no h60) hal (beq_no h33) (beq_no h63) (bne_no h47) (by rw [beq_iff_eq]; omega)
      · rw [if_neg (fun e => h47 (by rw [e]; rfl))]
        exact kind_not47 s w h2 (bne_no h60) hal (beq_no h33) (beq_no h63) (bne_yes h47)
  · rw [if_pos (fun e => h60 (by rw [e]; rfl))]
    exact kind_other s w h2 (bne_yes h60)

end Go.Proofs.YtmfkefcdddoooaaGreatDoor

namespace Go.Proofs.YtmfkefcdddoooaaGreatDoor
open Go.RowKit

/-- the package-level variables that the library reads -/
structure Glob (w : World) : Prop where
  max : ∃ m, w.cell? ⟨0, 0, none⟩ = some (.int .i64 m)
  err : ErrS w
/-- a block that is none of them -/
def Far (bp : Nat) : Prop := 0 ≠ bp ∧ 3 ≠ bp
theorem Glob.grown {w w' : World} {bp : Nat} (h : Glob w) (hf : Far bp) (hg : w.grownBy w' (some bp)) : Glob w' := by
  obtain ⟨m, hm⟩ := h.max
  obtain ⟨te, pe, he⟩ := h.err
  exact ⟨⟨m, hg.cell hm (by simpa using hf.1)⟩, ⟨te, pe, hg.cell he (by simpa using hf.2)⟩⟩
theorem Glob.below {w w' : World} (h : Glob w) (hb : Below w.heap.size w w') : Glob w' := by
  obtain ⟨m, hm⟩ := h.max
  obtain ⟨te, pe, he⟩ := h.err
  exact ⟨⟨m, (hb.cell (World.block_lt_of_cell? w _ hm)).trans hm⟩, ⟨te, pe, (hb.cell (World.block_lt_of_cell? w _ he)).trans he⟩⟩

namespace U
theorem index_place (find : List UInt8) (hf : find ≠ []) : ∀ l : List UInt8, Lib.index l find = match placeOf find l with
    | none => -1
    | some k => (k : Int)
  | [] => by
    rw [Lib.index, placeOf, if_neg hf]
    cases find with
    | nil => exact absurd rfl hf
    | cons a f => rfl
  | b :: r => by
    rw [Lib.index, placeOf, prefix_take]
    by_cases h : (b :: r).take find.length = find
    · rw [if_pos h, if_pos (by rw [h]; simp)]
      rfl
    · rw [if_neg h, if_neg (by simpa using h), index_place find hf r]
      cases placeOf find r with
      | none => rfl
      | some k =>
        simp only [Option.map_some]
        rw [if_neg (by simp only [beq_iff_eq]; omega)]
        rfl
theorem cut_place (find l : List UInt8) (hf : find ≠ []) : Lib.cut l find = match placeOf find l with
    | none => (l, [], false)
    | some k => (l.take k, l.drop (k + find.length), true) := by
  unfold Lib.cut
  rw [index_place find hf l]
  cases placeOf find l with
  | none => rfl
  | some k =>
    simp only
    rw [if_pos (by omega)]
    rfl
end U

theorem cut_val (q : UInt8) (l : List UInt8) (hq : q = 34 ∨ q = 39) : ∃ A B f, Lib.cut l [q] = (A, B, f) ∧ U.readVal (q :: l) = (A, B) ∧ A.length + B.length ≤ l.length := by
  rw [U.cut_place [q] l (by simp)]
  unfold U.readVal
  simp only [if_pos hq]
  cases hp : U.placeOf [q] l with
  | none => exact ⟨l, [], false, rfl, rfl, by simp⟩
  | some k => exact ⟨l.take k, l.drop (k + 1), true, rfl, rfl, by simp only [List.length_take, List.length_drop]; omega⟩
theorem empty_of {r : ByteArray} (h : r.size = 0) : r.toList.isEmpty = true := by
  rw [Lib.toList_data, show r.data.toList = [] from List.eq_nil_of_length_eq_zero (by rw [len_list]; exact h)]; rfl
theorem empty_not {r : ByteArray} (h : 0 < r.size) : r.toList.isEmpty = false := by
  rw [Lib.toList_data]
  cases hl : r.data.toList with
  | nil => have := len_list r; rw [hl, List.length_nil] at this; omega
  | cons _ _ => rfl
theorem list_one {r : ByteArray} (h : 0 < r.size) : r.data.toList = r[0] :: r.data.toList.drop 1 := by
  have := drop_byte (byte_get r (k := 0) h)
  rwa [List.drop_zero] at this

/-- a value is read -/
def Valued (w w' : World) (bp : Nat) (r : ByteArray) (v : Value) (e : Ending) : Prop :=
  ∃ a b : ByteArray, e = .returned (.string a) ∧ Reads w w' bp b v ∧ a.data.toList = (U.readVal r.data.toList).1 ∧ b.data.toList = (U.readVal r.data.toList).2 ∧ a.size + b.size ≤ r.size

theorem bare_set : (fun b => !([32, 9, 10, 12, 62] : List UInt8).contains b) = U.bareB := by
  funext b
  rw [Bool.eq_iff_iff]
  simp [U.bareB, U.isSp, and_assoc]
theorem valued_bare {w w' : World} {bp : Nat} {r : ByteArray} {v : Value} {e : Ending} (hq : ∀ b l, r.data.toList = b :: l → ¬ (b = 34 ∨ b = 39)) (h : Took w w' bp r v (fun b => !([32, 9, 10, 12, 62] : List UInt8).contains b) e) : Valued w w' bp r v e := by
  obtain ⟨a, b, he, hR, ha, hb, hs⟩ := h
  rw [bare_set] at ha hb
  refine ⟨a, b, he, hR, ?_, ?_, by omega⟩
  · rw [ha]
    cases hl : r.data.toList with
    | nil => rfl
    | cons c l => unfold U.readVal; simp only [if_neg (hq c l hl)]
  · rw [hb]
    cases hl : r.data.toList with
    | nil => rfl
    | cons c l => unfold U.readVal; simp only [if_neg (hq c l hl)]

set_option maxHeartbeats 4000000 in
set_option maxRecDepth 100000 in
theorem read_value (w : World) (bp : Nat) (r : ByteArray) (v : Value) (h : w.heap[bp]? = some (parBlock r v)) (hr : r.size ≤ 1048576) (hG : Glob w) (hF : Far bp) :
    Calls Tryz.prog 120 #[.pointer (some ⟨bp, 0, none⟩)] w fun e w' => Valued w w' bp r v e := by
  obtain ⟨c0, c1, f0, f1⟩ := par_cells h
  have hu := until_walk (ByteArray.mk #[32, 9, 10, 12, 62]) w bp r v h hr (by decide) (by decide) (by decide)
  have hset : (ByteArray.mk #[32, 9, 10, 12, 62]).data.toList = [32, 9, 10, 12, 62] := rfl
  rw [hset] at hu
  rcases Nat.eq_zero_or_pos r.size with h0 | h0
  · have hem := empty_of h0
    have hq : ∀ b l, r.data.toList = b :: l → ¬ (b = 34 ∨ b = 39) := fun b l e => by
      have := len_list r
      rw [e, List.length_cons] at this
      omega
    have HQ := Lib.hid hq
    clear hq
    go_enter Tryz.func120, Tryz.ntmps120
    go_wp2_with (refine hu.mono ?_; rintro e w2 ⟨a, b, rfl, hR, ha, hb, hs⟩)
    go_ret
    exact valued_bare HQ.out ⟨a, b, rfl, hR, ha, hb, hs⟩
  · have hem := empty_not h0
    have hl := list_one h0
    by_cases hq : r[0] = 34 ∨ r[0] = 39
    · obtain ⟨A, B, f, hcut, hval, hAB⟩ := cut_val (r[0]'h0) (r.data.toList.drop 1) hq
      have hx : (r.extract 0 1).data.toList = [r[0]'h0] := by rw [list_take, hl]; rfl
      rw [← list_drop, ← hx] at hcut
      rw [← hl] at hval
      have hAB2 : A.length + B.length ≤ r.size := by
        rw [List.length_drop, len_list] at hAB
        omega
      have HV := Lib.hid hval
      clear hx hl hAB hval
      rcases hq with hq | hq
      · have b34 : (((r[0]'h0).toNat : Int) != 34) = false := by rw [hq]; rfl
        clear hq
        go_enter Tryz.func120, Tryz.ntmps120
        go_wp2_with (first
          | (refine (take_walk w bp 1 r v h h0).mono ?_; rintro e w2 ⟨rfl, hR⟩; obtain ⟨k0, k1, k2, k3⟩ := par_cells hR.par; obtain ⟨m, hm⟩ := (hG.grown hF hR.grown).max)
          | (refine (Tryz.strings_Cut _ _ m _ (by rw [size_drop]; omega) hm).mono ?_; rintro e w3 ⟨rfl, n, rfl⟩; rw [hcut]; have hR2 := (hR.later (below_drewN (Below.refl _ _) n)); obtain ⟨j0, j1, j2, j3⟩ := par_cells hR2.par; have hR3 := hR2.setRest ⟨B.toArray⟩))
        go_ret
        exact ⟨_, _, rfl, hR3, by rw [HV.out], by rw [HV.out], by rw [size_of_mk, size_of_mk]; omega⟩
      · have b34 : (((r[0]'h0).toNat : Int) != 34) = true := by rw [hq]; rfl
        have b39 : (((r[0]'h0).toNat : Int) != 39) = false := by rw [hq]; rfl
        clear hq
        go_enter Tryz.func120, Tryz.ntmps120
        go_wp2_with (first
          | (refine (take_walk w bp 1 r v h h0).mono ?_; rintro e w2 ⟨rfl, hR⟩; obtain ⟨k0, k1, k2, k3⟩ := par_cells hR.par; obtain ⟨m, hm⟩ := (hG.grown hF hR.grown).max)
          | (refine (Tryz.strings_Cut _ _ m _ (by rw [size_drop]; omega) hm).mono ?_; rintro e w3 ⟨rfl, n, rfl⟩; rw [hcut]; have hR2 := (hR.later (below_drewN (Below.refl _ _) n)); obtain ⟨j0, j1, j2, j3⟩ := par_cells hR2.par; have hR3 := hR2.setRest ⟨B.toArray⟩))
        go_ret
        exact ⟨_, _, rfl, hR3, by rw [HV.out], by rw [HV.out], by rw [size_of_mk, size_of_mk]; omega⟩
    · have HQ : Hid (∀ b l, r.data.toList = b :: l → ¬ (b = 34 ∨ b = 39)) := by
        intro b l e
        rw [hl] at e
        injection e with e _
        rw [← e]; exact hq
      have b34 : (((r[0]'h0).toNat : Int) != 34) = true := bne_yes (fun e => hq (.inl ((byte_eq (k := 34) (by decide)).1 (by omega))))
      have b39 : (((r[0]'h0).toNat : Int) != 39) = true := bne_yes (fun e => hq (.inr ((byte_eq (k := 39) (by decide)).1 (by omega))))
      clear hq hl
      go_enter Tryz.func120, Tryz.ntmps120
      go_wp2_with (refine hu.mono ?_; rintro e w2 ⟨a, b, rfl, hR, ha, hb, hs⟩)
      go_ret
      exact valued_bare HQ.out ⟨a, b, rfl, hR, ha, hb, hs⟩

end Go.Proofs.YtmfkefcdddoooaaGreatDoor

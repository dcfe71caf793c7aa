/- ref.named, ref.leadingReference -/
import Derived.Test.YtkmjngpgngkalaaDoorNumbered
import Derived.OwnWalk
import Derived.Outline
namespace Go.Proofs.YtkmjngpgngkalaaDoor
open Go.RowKit

set_option maxHeartbeats 4000000 in
set_option maxRecDepth 100000 in
theorem named_walk (t : ByteArray) (w : World) : Calls Tryd.prog 51 #[.string t] w fun e w' => e = .returned (ptV (U.nameOf t.data.toList)) ∧ Below w.heap.size w w' := by
  have ht := Lib.toList_data t
  by_cases h0 : t.data.toList = [97, 109, 112]
  · have hN : U.nameOf t.data.toList = some 38 := by rw [h0]; rfl
    have HN := Lib.hid hN
    have tt0 : (t.toList == [97, 109, 112]) = true := by rw [ht, h0]; rfl
    clear hN ht h0
    go_enter Tryd.func51, Tryd.ntmps51
    go_wp2
    go_ret2
    rw [HN.out]
    exact ⟨rfl, Below.refl _ _⟩
  have tt0 : (t.toList == [97, 109, 112]) = false := by rw [ht, beq_eq_false_iff_ne]; exact h0
  by_cases h1 : t.data.toList = [108, 116]
  · have hN : U.nameOf t.data.toList = some 60 := by rw [h1]; rfl
    have HN := Lib.hid hN
    have tt1 : (t.toList == [108, 116]) = true := by rw [ht, h1]; rfl
    clear hN ht h1
    go_enter Tryd.func51, Tryd.ntmps51
    go_wp2
    go_ret2
    rw [HN.out]
    exact ⟨rfl, Below.refl _ _⟩
  have tt1 : (t.toList == [108, 116]) = false := by rw [ht, beq_eq_false_iff_ne]; exact h1
  by_cases h2 : t.data.toList = [103, 116]
  · have hN : U.nameOf t.data.toList = some 62 := by rw [h2]; rfl
    have HN := Lib.hid hN
    have tt2 : (t.toList == [103, 116]) = true := by rw [ht, h2]; rfl
    clear hN ht h2
    go_enter Tryd.func51, Tryd.ntmps51
    go_wp2
    go_ret2
    rw [HN.out]
    exact ⟨rfl, Below.refl _ _⟩
  have tt2 : (t.toList == [103, 116]) = false := by rw [ht, beq_eq_false_iff_ne]; exact h2
  by_cases h3 : t.data.toList = [113, 117, 111, 116]
  · have hN : U.nameOf t.data.toList = some 34 := by rw [h3]; rfl
    have HN := Lib.hid hN
    have tt3 : (t.toList == [113, 117, 111, 116]) = true := by rw [ht, h3]; rfl
    clear hN ht h3
    go_enter Tryd.func51, Tryd.ntmps51
    go_wp2
    go_ret2
    rw [HN.out]
    exact ⟨rfl, Below.refl _ _⟩
  have tt3 : (t.toList == [113, 117, 111, 116]) = false := by rw [ht, beq_eq_false_iff_ne]; exact h3
  by_cases h4 : t.data.toList = [110, 98, 115, 112]
  · have hN : U.nameOf t.data.toList = some 160 := by rw [h4]; rfl
    have HN := Lib.hid hN
    have tt4 : (t.toList == [110, 98, 115, 112]) = true := by rw [ht, h4]; rfl
    clear hN ht h4
    go_enter Tryd.func51, Tryd.ntmps51
    go_wp2
    go_ret2
    rw [HN.out]
    exact ⟨rfl, Below.refl _ _⟩
  have tt4 : (t.toList == [110, 98, 115, 112]) = false := by rw [ht, beq_eq_false_iff_ne]; exact h4
  by_cases h5 : t.data.toList = [99, 111, 112, 121]
  · have hN : U.nameOf t.data.toList = some 169 := by rw [h5]; rfl
    have HN := Lib.hid hN
    have tt5 : (t.toList == [99, 111, 112, 121]) = true := by rw [ht, h5]; rfl
    clear hN ht h5
    go_enter Tryd.func51, Tryd.ntmps51
    go_wp2
    go_ret2
    rw [HN.out]
    exact ⟨rfl, Below.refl _ _⟩
  have tt5 : (t.toList == [99, 111, 112, 121]) = false := by rw [ht, beq_eq_false_iff_ne]; exact h5
  have HN := Lib.hid (show U.nameOf t.data.toList = none by
    unfold U.nameOf
    rw [if_neg h0, if_neg h1, if_neg h2, if_neg h3, if_neg h4, if_neg h5])
  clear ht h0 h1 h2 h3 h4 h5
  go_enter Tryd.func51, Tryd.ntmps51
  go_wp2
  go_ret2
  rw [HN.out]
  exact ⟨rfl, Below.refl _ _⟩

/-- what leadingReference answers -/
def leadV (r : List UInt8) (v : Value) : Prop := ∃ (p k : Int) (b : Bool), v = .tuple #[.int .i32 p, .int .i64 k, .bool b] ∧ match U.refTail r with
  | some (n, m) => p = n ∧ k = m ∧ b = true
  | none => b = false

theorem take_min10 (l : List UInt8) : l.take (min l.length 10) = l.take 10 := by
  rcases Nat.le_total l.length 10 with h | h
  · rw [Nat.min_eq_left h, List.take_length, List.take_of_length_le h]
  · rw [Nat.min_eq_right h]

set_option maxHeartbeats 4000000 in
set_option maxRecDepth 1000000 in
theorem leading_walk (s : ByteArray) (r : List UInt8) (hs : s.data.toList = 38 :: r) (hmax : s.size ≤ 140737488351232) (w : World) (hS : ErrS w) :
    Calls Tryd.prog 38 #[.string s] w fun e w' => ∃ v, e = .returned v ∧ leadV r v ∧ Below w.heap.size w w' := by
  have hlen : s.size = r.length + 1 := by rw [← len_list, hs]; rfl
  have hidx : Lib.indexByte (s.extract 0 (min (s.size : Int) 10).toNat).data.toList (Int.toNat 59).toUInt8 = Lib.indexByte ((38 :: r).take 10) 59 := by
    rw [Lib.extract_data, hs, List.drop_zero, hlen, show (min ((r.length + 1 : Nat) : Int) 10).toNat - 0 = min (38 :: r).length 10 by rw [List.length_cons]; omega, take_min10]
    rfl
  have Hidx := Lib.hid hidx
  have Hlen := Lib.hid hlen
  have hpos : 1 ≤ s.size := by omega
  clear hidx hlen
  go_enter Tryd.func38, Tryd.ntmps38
  go_wp2_with fail
  refine (Tryd.strings_IndexByte _ 59 _).mono ?_
  rintro e w1 ⟨rfl, rfl⟩
  rw [Hidx.out]
  rcases U.index_cases r with ⟨e1, hr⟩ | ⟨o, h1, h9, hor, e1, hr⟩
  · rw [e1]
    have Hr := Lib.hid hr
    clear hr e1
    go_wp2_with fail
    go_ret3
    exact ⟨_, rfl, ⟨_, _, _, rfl, by rw [Hr.out]⟩, Below.refl _ _⟩
  · rw [e1]
    have ho : o ≤ s.size := by have := Hlen.out; omega
    have hex : (s.extract 1 o).data.toList = r.take (o - 1) := by
      rw [Lib.extract_data, hs]; rfl
    have hpl : (r.take (o - 1)).length ≤ 8 := by rw [List.length_take]; omega
    clear e1
    by_cases hp : ∃ d, r.take (o - 1) = 35 :: d
    · obtain ⟨d, hd⟩ := hp
      have hx := U.prefix_hash_yes d
      rw [← hd, ← hex] at hx
      have hx1 : Lib.hasPrefix (s.extract 1 o).data.toList (ByteArray.mk #[35]).data.toList = true := hx.1
      have hx2 : Lib.trimPrefix (s.extract 1 o).data.toList (ByteArray.mk #[35]).data.toList = d := hx.2
      have HX1 := Lib.hid hx1
      have HX2 := Lib.hid hx2
      have hdl : d.length ≤ 7 := by rw [hd, List.length_cons] at hpl; omega
      have hds : (ByteArray.mk d.toArray).size ≤ 7 := by show d.toArray.size ≤ 7; simpa using hdl
      have r2 := numbered_walk (ByteArray.mk d.toArray) hds
      rw [show (ByteArray.mk d.toArray).data.toList = d by simp] at r2
      rw [hd] at hr
      clear hx hx1 hx2 hex hpl
      go_wp2_with fail
      refine (Tryd.strings_CutPrefix _ _ _).mono ?_
      rintro e w1 ⟨rfl, rfl⟩
      rw [HX1.out, HX2.out]
      go_wp2_with fail
      cases hN : U.numOf d
      · rw [hN] at r2
        have hl := Lib.hid (show U.refTail r = none by rw [hr, U.body_hash, hN]; rfl)
        simp only [ptV] at r2
        clear hN hr
        refine (r2 _ hS).mono ?_
        rintro e w2 ⟨rfl, b2⟩
        go_wp2_with fail
        go_ret3
        exact ⟨_, rfl, ⟨_, _, _, rfl, by rw [hl.out]⟩, b2⟩
      · rename_i n
        rw [hN] at r2
        have hl := Lib.hid (show U.refTail r = some (n, o + 1) by rw [hr, U.body_hash, hN]; rfl)
        simp only [ptV] at r2
        clear hN hr
        refine (r2 _ hS).mono ?_
        rintro e w2 ⟨rfl, b2⟩
        go_wp2_with fail
        go_ret3
        exact ⟨_, rfl, ⟨_, _, _, rfl, by rw [hl.out]; exact ⟨rfl, by simp, rfl⟩⟩, b2⟩
    · have hnd : ∀ d, r.take (o - 1) ≠ 35 :: d := fun d e => hp ⟨d, e⟩
      have hx := U.prefix_hash_no hnd
      have hb := U.body_name hnd
      rw [← hex] at hx
      have hx1 : Lib.hasPrefix (s.extract 1 o).data.toList (ByteArray.mk #[35]).data.toList = false := hx
      have HX1 := Lib.hid hx1
      have r2 := named_walk (s.extract 1 o)
      rw [hex] at r2
      clear hx hx1 hex hpl hnd hp
      go_wp2_with fail
      refine (Tryd.strings_CutPrefix _ _ _).mono ?_
      rintro e w1 ⟨rfl, rfl⟩
      rw [HX1.out]
      go_wp2_with fail
      cases hN : U.nameOf (r.take (o - 1))
      · rw [hN] at r2
        have hl := Lib.hid (show U.refTail r = none by rw [hr, hb, hN]; rfl)
        simp only [ptV] at r2
        clear hN hr
        refine (r2 _).mono ?_
        rintro e w2 ⟨rfl, b2⟩
        go_wp2_with fail
        go_ret3
        exact ⟨_, rfl, ⟨_, _, _, rfl, by rw [hl.out]⟩, b2⟩
      · rename_i n
        rw [hN] at r2
        have hl := Lib.hid (show U.refTail r = some (n, o + 1) by rw [hr, hb, hN]; rfl)
        simp only [ptV] at r2
        clear hN hr
        refine (r2 _).mono ?_
        rintro e w2 ⟨rfl, b2⟩
        go_wp2_with fail
        go_ret3
        exact ⟨_, rfl, ⟨_, _, _, rfl, by rw [hl.out]; exact ⟨rfl, by simp, rfl⟩⟩, b2⟩

end Go.Proofs.YtkmjngpgngkalaaDoor

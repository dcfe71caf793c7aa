/- RefBack, RefTwice: the walks. -/
import Derived.Test.YtpgffcfffpmahaaDoorSure
import Derived.Outline
namespace Go.Proofs.YtpgffcfffpmahaaDoor
open Go.RowKit

set_option maxHeartbeats 4000000 in
set_option maxRecDepth 100000 in
theorem ref_back_walk (s : ByteArray) (q : Bool) (w : World) (hs : s.size ≤ 1048576) (hS : ErrS w) :
    Calls Tryd.prog 4 #[.string s, .bool q] w fun e w' => e = .returned (.bool true) ∧ Below w.heap.size w w' := by
  have ls := U.esc_length q s.data.toList
  rw [len_list] at ls
  have hcl := U.esc_clean q s.data.toList
  have r1 := escape_walk s q
  have r2 := unescape_walk (ByteArray.mk (U.esc q s.data.toList).toArray)
  rw [list_of_mk, U.unesc_esc_nil, size_of_mk, mk_of_list] at r2
  generalize U.esc q s.data.toList = C at *
  have zC := size_of_mk C
  have HC := Lib.hid hcl
  clear hcl
  go_enter Tryd.func4, Tryd.ntmps4
  go_wp2_with fail
  refine (r1 _ (by omega)).mono ?_
  rintro e w1 ⟨rfl, b1⟩
  have bs1 := b1.size
  go_wp2_with fail
  go_loop [6] (fun i => ∃ k : Nat, k ≤ C.length ∧ i = .int .i64 k) (fun i => C.length - (intOf i).toNat)
  case atStart => exact ⟨0, Nat.zero_le _, rfl⟩
  case round =>
    obtain ⟨k, hk, rfl⟩ := hrel
    by_cases hlt : k < C.length
    · have hlt2 : k < (ByteArray.mk C.toArray).size := by omega
      have hm : (ByteArray.mk C.toArray)[k]'hlt2 ∈ C := by
        have : (ByteArray.mk C.toArray)[k]'hlt2 = C[k] := by simp [ByteArray.getElem_eq_getElem_data]
        rw [this]
        exact List.getElem_mem hlt
      obtain ⟨n1, n2, n3⟩ := HC.out _ hm
      have t1 : ((((ByteArray.mk C.toArray)[k]'hlt2).toNat : Int) == 60) = false := beq_no fun e => n1 ((byte_eq (k := 60) (by decide)).1 (by omega))
      have t2 : ((((ByteArray.mk C.toArray)[k]'hlt2).toNat : Int) == 62) = false := beq_no fun e => n2 ((byte_eq (k := 62) (by decide)).1 (by omega))
      clear n1 n2 hm
      cases q
      · clear n3
        go_wp2_with fail
        go_round
        case rel => exact ⟨k + 1, by omega, by go_num⟩
        case measure => simp [intOf]; omega
      · have t3 : ((((ByteArray.mk C.toArray)[k]'hlt2).toNat : Int) == 34) = false := beq_no fun e => n3 rfl ((byte_eq (k := 34) (by decide)).1 (by omega))
        clear n3
        go_wp2_with fail
        go_round
        case rel => exact ⟨k + 1, by omega, by go_num⟩
        case measure => simp [intOf]; omega
    · have hd6 : decide ((C.length : Int) ≤ 6 * (s.size : Int)) = true := decide_eq_true (by omega)
      go_wp2_with fail
      refine (sure_walk _ (hS.below b1)).mono ?_
      rintro e w2 ⟨rfl, b2⟩
      have c2 := b1.trans (b2.mono b1.size)
      go_wp2_with fail
      refine (r2 (by omega) _ (hS.below c2)).mono ?_
      rintro e w3 ⟨rfl, b3⟩
      go_wp2_with fail
      go_ret
      exact ⟨rfl, c2.trans (b3.mono c2.size)⟩

theorem filter_step {l : List UInt8} {k : Nat} {b : UInt8} (h : l[k]? = some b) : (l.take (k + 1)).filter (fun c => c != 38) = (l.take k).filter (fun c => c != 38) ++ (if b = 38 then [] else [b]) := by
  rw [U.take_succ_get h, List.filter_append]
  congr 1
  by_cases hb : b = 38
  · rw [if_pos hb]; simp [hb]
  · rw [if_neg hb]; simp [hb]

set_option maxHeartbeats 4000000 in
set_option maxRecDepth 100000 in
theorem ref_twice_walk (s : ByteArray) (p q : Bool) (w : World) (hs : s.size ≤ 1048576) (hS : ErrS w) :
    Calls Tryd.prog 7 #[.string s, .bool p, .bool q] w fun e w' => e = .returned (.bool true) ∧ Below w.heap.size w w' := by
  have l1 := U.esc_length p s.data.toList
  have l2 := U.esc_length q (U.esc p s.data.toList)
  rw [len_list] at l1
  have r1 := escape_walk s p
  have r2 := escape_walk (ByteArray.mk (U.esc p s.data.toList).toArray) q
  have r3 := unescape_walk (ByteArray.mk (U.esc q (U.esc p s.data.toList)).toArray)
  have r4 := unescape_walk (ByteArray.mk (U.esc p s.data.toList).toArray)
  rw [list_of_mk, size_of_mk] at r2
  rw [list_of_mk, U.unesc_esc_nil, size_of_mk] at r3
  rw [list_of_mk, U.unesc_esc_nil, size_of_mk, mk_of_list] at r4
  have hlen := len_list s
  generalize U.esc q (U.esc p s.data.toList) = E at *
  generalize U.esc p s.data.toList = C at *
  have zC := size_of_mk C
  have zE := size_of_mk E
  go_enter Tryd.func7, Tryd.ntmps7
  go_wp2_with fail
  refine (r1 _ (by omega)).mono ?_
  rintro e w1 ⟨rfl, b1⟩
  go_wp2_with fail
  refine (r2 _ (by omega)).mono ?_
  rintro e w2 ⟨rfl, b2⟩
  have c2 := b1.trans (b2.mono b1.size)
  have cs2 := c2.size
  go_wp2_with fail
  go_loop [8, 9] (fun t i => ∃ (k : Nat) (T : ByteArray), k ≤ s.size ∧ i = .int .i64 k ∧ t = .string T ∧ Hid (T.data.toList = (s.data.toList.take k).filter (fun c => c != 38)) ∧ T.size ≤ k) (fun _ i => s.size - (intOf i).toNat)
  case atStart => exact ⟨0, ⟨#[]⟩, Nat.zero_le _, rfl, rfl, rfl, by decide⟩
  case round =>
    obtain ⟨k, T, hk, rfl, rfl, hT, hts⟩ := hrel
    by_cases hlt : k < s.size
    · have hstep := filter_step (byte_get s hlt)
      have hxs : (s.extract k (k + 1)).data.toList = [s[k]'hlt] := by
        rw [Lib.extract_data, drop_byte (byte_get s hlt)]
        simp
      by_cases h38 : ((s[k]'hlt).toNat : Int) = 38
      · have t1 := beq_yes h38
        have e1 : s[k]'hlt = 38 := (byte_eq (k := 38) (by decide)).1 (by omega)
        have HN : Hid (T.data.toList = (s.data.toList.take (k + 1)).filter (fun c => c != 38)) := by
          show _ = _
          rw [hstep, if_pos e1, List.append_nil]
          exact hT.out
        clear hstep hxs h38 e1
        go_wp2_with fail
        go_round
        case rel => exact ⟨k + 1, T, by omega, by go_num, rfl, HN, by omega⟩
        case measure => simp [intOf]; omega
      · have t1 := beq_no h38
        have e1 : s[k]'hlt ≠ 38 := fun e => h38 (by rw [e]; rfl)
        have HN : Hid ((T ++ s.extract k (k + 1)).data.toList = (s.data.toList.take (k + 1)).filter (fun c => c != 38)) := by
          show _ = _
          rw [hstep, if_neg e1, ← hT.out, ← hxs]
          simp
        have hz : (T ++ s.extract k (k + 1)).size ≤ k + 1 := by rw [ByteArray.size_append, ByteArray.size_extract]; omega
        have HZ := Lib.hid hz
        clear hstep hxs h38 e1 hz
        go_wp2_with fail
        go_round
        case rel => exact ⟨k + 1, _, by omega, by go_num, rfl, HN, HZ.out⟩
        case measure => simp [intOf]; omega
    · have hno : 38 ∉ T.data.toList := by
        rw [hT.out]
        intro hm
        have := (List.mem_filter.1 hm).2
        simp at this
      have r5 := unescape_walk T
      rw [U.unesc_same hno, mk_of_list] at r5
      clear hno
      go_wp2_with fail
      refine (sure_walk _ (hS.below c2)).mono ?_
      rintro e w3 ⟨rfl, b3⟩
      have c3 := c2.trans (b3.mono c2.size)
      go_wp2_with fail
      refine (r3 (by omega) _ (hS.below c3)).mono ?_
      rintro e w4 ⟨rfl, b4⟩
      have c4 := c3.trans (b4.mono c3.size)
      go_wp2_with fail
      refine (r4 (by omega) _ (hS.below c4)).mono ?_
      rintro e w5 ⟨rfl, b5⟩
      have c5 := c4.trans (b5.mono c4.size)
      go_wp2_with fail
      refine (r5 (by omega) _ (hS.below c5)).mono ?_
      rintro e w6 ⟨rfl, b6⟩
      go_wp2_with fail
      go_ret
      exact ⟨rfl, c5.trans (b6.mono c5.size)⟩

end Go.Proofs.YtpgffcfffpmahaaDoor

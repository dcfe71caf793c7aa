/- ref.Escape: the walk. -/
import Derived.Test.YtmfkefcdddoooaaBuilder
import Derived.Test.YtmfkefcdddoooaaShelf
import Derived.Test.YtmfkefcdddoooaaChar
import Derived.Test.YtmfkefcdddoooaaBytes
import Derived.Lib.Strings
import Derived.Outline
namespace Go.Proofs.Ytmfkefcdddoooaa
open Go.RowKit

theorem esc_step {q : Bool} {acc E : List UInt8} {l : List UInt8} {k : Nat} {b : UInt8} {R : List UInt8} (h : Hid (acc ++ U.esc q (l.drop k) = R)) (hb : l[k]? = some b) (hE : U.esc1 q b = E) :
    Hid ((acc ++ E) ++ U.esc q (l.drop (k + 1)) = R) := by
  show _ = _
  rw [← h.out, drop_byte hb, U.esc_cons, hE, List.append_assoc]

set_option maxHeartbeats 4000000 in
set_option maxRecDepth 100000 in
theorem escape_walk (s : ByteArray) (q : Bool) (w : World) (hs : s.size ≤ 1099511627776) :
    Calls Try.prog 60 #[.string s, .bool q] w fun e w' => e = .returned (.string ⟨(U.esc q s.data.toList).toArray⟩) ∧ Below w.heap.size w w' := by
  have hl := toList_length s
  go_enter Try.func60, Try.ntmps60
  go_wp2
  go_loopw [10] (fun i wr => ∃ (k : Nat) (acc : List UInt8), k ≤ s.size ∧ i = .int .i64 k ∧ Bld w.heap.size w.heap.size acc wr ∧ Below w.heap.size w wr ∧ Hid (acc ++ U.esc q (s.data.toList.drop k) = U.esc q s.data.toList) ∧ acc.length ≤ 6 * k) (fun i _ => s.size - (intOf i).toNat)
  case atStart => exact ⟨0, [], Nat.zero_le _, rfl, (Lib.IsBuilderF.of (Lib.fresh_isBuilder 53 5 w)), (Below.refl _ w).alloc (Nat.le_refl _) _, rfl, by simp⟩
  case round =>
    obtain ⟨k, acc, hk, rfl, hI, hbw, hacc, hal⟩ := hrel
    have hbs := hbw.size
    by_cases hlt : k < s.size
    · have Hget := Lib.hid (byte_get s hlt)
      have hb := (s[k]'hlt).toNat_lt
      by_cases h1 : ((s[k]'hlt).toNat : Int) = 38
      · have t1 := beq_yes h1
        have e1 : s[k]'hlt = 38 := (byte_eq (k := 38) (by decide)).1 (by omega)
        have E1 := Lib.hid (show U.esc1 q (s[k]'hlt) = _ by rw [e1, U.esc1_amp])
        clear h1 e1
        go_wp2_with fail
        refine (write_string w.heap.size w.heap.size acc (ByteArray.mk #[38, 97, 109, 112, 59]) _ hI (by show _ + 5 ≤ _; omega) (by omega)).mono ?_
        rintro e w2 ⟨rfl, h1, b1, k1⟩
        go_wp2_with fail
        go_roundw
        case rel => exact ⟨k + 1, _, by omega, by go_num, .inr h1, hbw.trans b1, esc_step hacc Hget.out E1.out, by rw [List.length_append]; simp; omega⟩
        case measure => simp [intOf]; omega
      have t1 := beq_no h1
      by_cases h2 : ((s[k]'hlt).toNat : Int) = 60
      · have t2 := beq_yes h2
        have e1 : s[k]'hlt = 60 := (byte_eq (k := 60) (by decide)).1 (by omega)
        have E1 := Lib.hid (show U.esc1 q (s[k]'hlt) = _ by rw [e1, U.esc1_lt])
        clear h1 h2 e1
        go_wp2_with fail
        refine (write_string w.heap.size w.heap.size acc (ByteArray.mk #[38, 108, 116, 59]) _ hI (by show _ + 4 ≤ _; omega) (by omega)).mono ?_
        rintro e w2 ⟨rfl, h1, b1, k1⟩
        go_wp2_with fail
        go_roundw
        case rel => exact ⟨k + 1, _, by omega, by go_num, .inr h1, hbw.trans b1, esc_step hacc Hget.out E1.out, by rw [List.length_append]; simp; omega⟩
        case measure => simp [intOf]; omega
      have t2 := beq_no h2
      by_cases h3 : ((s[k]'hlt).toNat : Int) = 62
      · have t3 := beq_yes h3
        have e1 : s[k]'hlt = 62 := (byte_eq (k := 62) (by decide)).1 (by omega)
        have E1 := Lib.hid (show U.esc1 q (s[k]'hlt) = _ by rw [e1, U.esc1_gt])
        clear h1 h2 h3 e1
        go_wp2_with fail
        refine (write_string w.heap.size w.heap.size acc (ByteArray.mk #[38, 103, 116, 59]) _ hI (by show _ + 4 ≤ _; omega) (by omega)).mono ?_
        rintro e w2 ⟨rfl, h1, b1, k1⟩
        go_wp2_with fail
        go_roundw
        case rel => exact ⟨k + 1, _, by omega, by go_num, .inr h1, hbw.trans b1, esc_step hacc Hget.out E1.out, by rw [List.length_append]; simp; omega⟩
        case measure => simp [intOf]; omega
      have t3 := beq_no h3
      have n1 : s[k]'hlt ≠ 38 := fun e => h1 (by rw [e]; rfl)
      have n2 : s[k]'hlt ≠ 60 := fun e => h2 (by rw [e]; rfl)
      have n3 : s[k]'hlt ≠ 62 := fun e => h3 (by rw [e]; rfl)
      have hof : UInt8.ofNat (s[k]'hlt).toNat = s[k]'hlt := U.ofNat_eq rfl
      by_cases h4 : ((s[k]'hlt).toNat : Int) = 34
      · have t4 := beq_yes h4
        have e1 : s[k]'hlt = 34 := (byte_eq (k := 34) (by decide)).1 (by omega)
        cases q
        · have E1 := Lib.hid (show U.esc1 false (s[k]'hlt) = [UInt8.ofNat (s[k]'hlt).toNat] by rw [hof, e1, U.esc1_quot'])
          clear h1 h2 h3 h4 e1 n1 n2 n3 hof
          go_wp2_with fail
          refine (write_byte w.heap.size w.heap.size acc (s[k]'hlt).toNat hb _ hI (by omega) (by omega)).mono ?_
          rintro e w2 ⟨rfl, h1, b1, k1⟩
          go_wp2_with fail
          go_roundw
          case rel => exact ⟨k + 1, _, by omega, by go_num, .inr h1, hbw.trans b1, esc_step hacc Hget.out E1.out, by rw [List.length_append]; simp; omega⟩
          case measure => simp [intOf]; omega
        · have E1 := Lib.hid (show U.esc1 true (s[k]'hlt) = _ by rw [e1, U.esc1_quot])
          clear h1 h2 h3 h4 e1 n1 n2 n3 hof
          go_wp2_with fail
          refine (write_string w.heap.size w.heap.size acc (ByteArray.mk #[38, 113, 117, 111, 116, 59]) _ hI (by show _ + 6 ≤ _; omega) (by omega)).mono ?_
          rintro e w2 ⟨rfl, h1, b1, k1⟩
          go_wp2_with fail
          go_roundw
          case rel => exact ⟨k + 1, _, by omega, by go_num, .inr h1, hbw.trans b1, esc_step hacc Hget.out E1.out, by rw [List.length_append]; simp; omega⟩
          case measure => simp [intOf]; omega
      · have t4 := beq_no h4
        have n4 : s[k]'hlt ≠ 34 := fun e => h4 (by rw [e]; rfl)
        have E1 := Lib.hid (show U.esc1 q (s[k]'hlt) = [UInt8.ofNat (s[k]'hlt).toNat] by rw [hof, U.esc1_other n1 n2 n3 n4])
        clear h1 h2 h3 h4 n1 n2 n3 n4 hof
        go_wp2_with fail
        refine (write_byte w.heap.size w.heap.size acc (s[k]'hlt).toNat hb _ hI (by omega) (by omega)).mono ?_
        rintro e w2 ⟨rfl, h1, b1, k1⟩
        go_wp2_with fail
        go_roundw
        case rel => exact ⟨k + 1, _, by omega, by go_num, .inr h1, hbw.trans b1, esc_step hacc Hget.out E1.out, by rw [List.length_append]; simp; omega⟩
        case measure => simp [intOf]; omega
    · go_wp2_with fail
      refine (Try.Builder_String_any_k w.heap.size w.heap.size acc _ hI (by omega)).mono ?_
      rintro e W1 ⟨rfl, _, b1, _⟩
      go_wp2_with fail
      go_ret
      have e0 : s.data.toList.drop k = [] := List.drop_of_length_le (by omega)
      have hfin := hacc.out
      rw [e0, U.esc_nil, List.append_nil] at hfin
      subst hfin
      exact ⟨rfl, hbw.trans b1⟩

end Go.Proofs.Ytmfkefcdddoooaa

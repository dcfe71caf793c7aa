/- utf.Clean returns the clean form. -/
import Derived.Test.YtmfbabbjcjdhbaaBuilder
import Derived.Test.YtmfbabbjcjdhbaaCleanMath
import Derived.Outline
namespace Go.Proofs.Ytmfbabbjcjdhbaa
open Go.RowKit

set_option maxHeartbeats 4000000 in
set_option maxRecDepth 100000 in
theorem clean_walk (s : ByteArray) (w : World) (hs : s.size ≤ 16777216) :
    Calls Try.prog 17 #[.string s] w fun e w' => e = .returned (.string ⟨(U.clean s.data.toList).toArray⟩) ∧ Below w.heap.size w w' := by
  go_enter Try.func17, Try.ntmps17
  go_wp2
  go_loopw [] (fun wr => ∃ (pos : Nat) (acc : List UInt8), Bld w.heap.size w.heap.size acc wr ∧ wr.heap[w.heap.size + 1]? = some (.stringIter s pos) ∧ Below w.heap.size w wr ∧ acc ++ U.clean (s.data.toList.drop pos) = U.clean s.data.toList ∧ pos ≤ s.size ∧ acc.length ≤ 4 * pos) (fun wr => s.size - wr.iterPos (w.heap.size + 1))
  case atStart =>
    refine ⟨0, [], (Lib.IsBuilderF.of (Lib.fresh_isBuilder 43 5 w)).alloc _, ?_, ((Below.refl _ w).alloc (Nat.le_refl _) _).alloc (by simp) _, rfl, by omega, by simp⟩
    have := World.iter_heap (w.alloc (.cells #[.pointer none, .slice none 0 0] 43)) s 0
    simpa using this
  case round =>
    obtain ⟨pos, acc, hI, hit, hbw, hacc, hps, hal⟩ := hrel
    have hlt := iter_lt hit
    by_cases hp : pos < s.size
    · have hnx : ∀ ty, (Instr.next (.pointer (some ⟨w.heap.size + 1, 0, none⟩)) true ty).run Try.prog wr = _ := fun ty => Lib.run_next_any_at wr (w.heap.size + 1) s pos ty hit hp
      have hdl := decode_le s pos
      have hd := U.decode_eq s pos hp
      have hne : s.data.toList.drop pos ≠ [] := by
        intro e
        have := congrArg List.length e
        simp at this
        omega
      have hw := U.dec_width _ hne
      have hL := U.dec_isL _ hne
      have hcc := U.clean_cons hne
      have hone : (U.dec (s.data.toList.drop pos)).1 < 128 → (U.dec (s.data.toList.drop pos)).2 = 1 := fun h => by
        obtain ⟨_, _, _, _, h2, _⟩ := U.dec_val_low hne h
        exact h2
      rw [U.runes_head10] at hcc
      rw [← hd] at hw hcc hL hone
      have hwl : pos + (Utf8.decode s pos).2 ≤ s.size := by
        have := hw.2.2
        simp at this
        omega
      have hw1 := hw.1
      have hit2 := Lib.iterAt_heap wr (w.heap.size + 1) s pos (pos + (Utf8.decode s pos).2) hit
      have hI2 : Bld w.heap.size w.heap.size acc (wr.iterAt (w.heap.size + 1) s (pos + (Utf8.decode s pos).2)) := hI.iterAt hit (pos + (Utf8.decode s pos).2)
      have hbw2 := Lib.below_iterAt hbw (k := w.heap.size + 1) (by omega) s (pos + (Utf8.decode s pos).2)
      have hsz2 : w.heap.size + 1 < (wr.iterAt (w.heap.size + 1) s (pos + (Utf8.decode s pos).2)).heap.size := by rw [Lib.iterAt_size]; omega
      rw [List.drop_drop] at hcc
      have Hcc := Lib.hid hcc
      have Hacc := Lib.hid hacc
      have HL := Lib.hid hL
      have Hone := Lib.hid hone
      clear hcc hd hacc hw hne hL hone
      generalize Utf8.decode s pos = d at *
      obtain ⟨c, wd⟩ := d
      by_cases h0 : c = 0
      · subst h0
        go_wp2_with fail
        refine (write_rune w.heap.size w.heap.size acc 65533 (by omega) (by omega) _ hI2 (by omega) (by omega)).mono ?_
        rintro e w2 ⟨rfl, h1, b1, k1⟩
        go_wp2
        go_roundw
        case rel =>
          refine ⟨pos + wd, acc ++ Lib.encodeRune 65533, .inr h1, k1.iter hit2 (by omega), hbw2.trans b1, ?_, hwl, ?_⟩
          · rw [← Hacc.out, Hcc.out, U.clean1_zero, List.append_assoc]
          · have := U.encodeRune_length 65533
            rw [List.length_append]; omega
        case measure =>
          simp only [World.iterPos, k1.iter hit2 (by omega), hit]
          omega
      by_cases h13 : c = 13
      · subst h13
        obtain rfl : wd = 1 := Hone.out (by omega)
        have hex : (s.extract (pos + 1) s.size).data.toList = s.data.toList.drop (pos + 1) := by
          rw [Lib.extract_data]
          exact List.take_of_length_le (by simp)
        cases hlf : (s.data.toList.drop (pos + 1)).head? == some 10
        · -- a carriage return by itself
          have hpf : Lib.hasPrefix (s.extract (pos + 1) s.size).data.toList (ByteArray.mk #[10]).data.toList = false := by
            rw [hex]
            exact (U.hasPrefix_lf _).trans hlf
          rw [hlf] at Hcc
          have Hpf := Lib.hid hpf
          have Hlf := Lib.hid hlf
          clear hpf hlf
          go_wp2_with fail
          refine (Try.strings_HasPrefix _ _ _).mono ?_
          rintro e w1 ⟨rfl, rfl⟩
          rw [Hpf.out]
          go_wp2_with fail
          refine (write_byte w.heap.size w.heap.size acc 10 (by omega) _ hI2 (by omega) (by omega)).mono ?_
          rintro e w2 ⟨rfl, h1, b1, k1⟩
          go_wp2
          go_roundw
          case rel =>
            refine ⟨pos + 1, acc ++ [UInt8.ofNat 10], .inr h1, k1.iter hit2 (by omega), hbw2.trans b1, ?_, hwl, ?_⟩
            · rw [← Hacc.out, Hcc.out, U.clean1_cr, List.append_assoc]
            · rw [List.length_append, List.length_cons, List.length_nil]; omega
          case measure =>
            simp only [World.iterPos, k1.iter hit2 (by omega), hit]
            omega
        · -- a line feed comes behind it
          have hpf : Lib.hasPrefix (s.extract (pos + 1) s.size).data.toList (ByteArray.mk #[10]).data.toList = true := by
            rw [hex]
            exact (U.hasPrefix_lf _).trans hlf
          rw [hlf] at Hcc
          have Hpf := Lib.hid hpf
          have Hlf := Lib.hid hlf
          clear hpf hlf
          go_wp2_with fail
          refine (Try.strings_HasPrefix _ _ _).mono ?_
          rintro e w1 ⟨rfl, rfl⟩
          rw [Hpf.out]
          go_wp2_with fail
          go_roundw
          case rel =>
            refine ⟨pos + 1, acc, hI2, hit2, hbw2, ?_, hwl, by omega⟩
            rw [← Hacc.out, Hcc.out, U.clean1_skip, List.nil_append]
          case measure =>
            simp only [World.iterPos, hit2, hit]
            omega
      · go_wp2_with fail
        refine (write_rune w.heap.size w.heap.size acc c (by omega) (by omega) _ hI2 (by omega) (by omega)).mono ?_
        rintro e w2 ⟨rfl, h1, b1, k1⟩
        go_wp2
        go_roundw
        case rel =>
          refine ⟨pos + wd, acc ++ Lib.encodeRune c, .inr h1, k1.iter hit2 (by omega), hbw2.trans b1, ?_, hwl, ?_⟩
          · rw [← Hacc.out, Hcc.out, U.clean1_other _ h0 h13 HL.out, List.append_assoc]
          · have := U.encodeRune_length c
            rw [List.length_append]; omega
        case measure =>
          simp only [World.iterPos, k1.iter hit2 (by omega), hit]
          omega
    · have hnx : ∀ ty, (Instr.next (.pointer (some ⟨w.heap.size + 1, 0, none⟩)) true ty).run Try.prog wr = _ := fun ty => Lib.run_next_end_at wr (w.heap.size + 1) s pos ty hit hp
      go_wp2_with fail
      refine (Try.Builder_String_any_k w.heap.size w.heap.size acc _ hI (by omega)).mono ?_
      rintro e W1 ⟨rfl, _, b1, _⟩
      go_wp2
      go_ret
      have e0 : s.data.toList.drop pos = [] := List.drop_of_length_le (by simp; omega)
      rw [e0, U.clean_nil, List.append_nil] at hacc
      subst hacc
      exact ⟨rfl, hbw.trans b1⟩

end Go.Proofs.Ytmfbabbjcjdhbaa

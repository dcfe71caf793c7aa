/- strings.IndexAny at a set of ASCII bytes, whatever the text's bytes: the walk. -/
import Derived.Test.YtkmjngpgngkalaaDoorIndexAny
namespace Go.Proofs.YtkmjngpgngkalaaDoor
open Go.RowKit

theorem no_any_more {s chars : List UInt8} {i n : Nat} (h : Lib.NoAny s chars i) (h2 : ∀ (j : Nat) c, i ≤ j → j < i + n → s[j]? = some c → chars.contains c = false) : Lib.NoAny s chars (i + n) := by
  intro j b hj hb
  by_cases e : j < i
  · exact h j b e hb
  · exact h2 j b (by omega) hj hb

set_option maxHeartbeats 8000000 in
set_option maxRecDepth 1000000 in
theorem index_any_short (s chars : ByteArray) (w : World) (h5 : 5 ≤ chars.size) (hcs : chars.size ≤ 100) (h8 : s.size ≤ 8) (ha : ∀ b ∈ chars.data.toList, b.toNat < 128) :
    Calls Tryd.prog 43 #[.string s, .string chars] w fun e w' => e = .returned (.int .i64 (Lib.indexAny s.data.toList chars.data.toList)) ∧ Below w.heap.size w w' := by
  have hemp : chars.toList.isEmpty = false := by
    rw [Lib.toList_data]
    cases h : chars.data.toList with
    | nil => have := Lib.size_eq chars; rw [h, List.length_nil] at this; omega
    | cons _ _ => rfl
  have hn1 : ((chars.size : Int) == 1) = false := beq_eq_false_iff_ne.2 (by omega)
  have h8z : decide ((8 : Int) < (s.size : Int)) = false := decide_eq_false (by omega)
  have HA := Lib.hid ha
  clear ha
  go_enter Tryd.func43, Tryd.ntmps43
  go_wp2_with (refine (Tryd.strings_shouldUseASCIISet _ _).mono ?_; rintro e w' ⟨rfl, rfl⟩; rw [h8z])
  go_loopw [4] (fun v wr => ∃ pos : Nat, v = .int .i64 0 ∧ wr.heap[w'.heap.size]? = some (.stringIter s pos) ∧ pos ≤ s.size ∧ Below w'.heap.size w' wr ∧ Hid (Lib.NoAny s.data.toList chars.data.toList pos)) (fun _ wr => s.size - wr.iterPos w'.heap.size)
  case atStart => exact ⟨0, rfl, World.iter_heap _ _ _, Nat.zero_le _, (Below.refl _ _).alloc (Nat.le_refl _) _, Lib.NoAny.zero _ _⟩
  case round =>
    obtain ⟨pos, rfl, hit, hp, hbw, hno⟩ := hrel
    have hlk := iter_lt hit
    by_cases hlt : pos < s.size
    · have hxl := byte_get s hlt
      by_cases hb : (s[pos]'hlt).toNat < 128
      · have hnx : ∀ ty, (Instr.next (.pointer (some ⟨w'.heap.size, 0, none⟩)) true ty).run Tryd.prog wr = _ := fun ty => Lib.run_next_ascii_at wr w'.heap.size s pos ty hit hlt hb
        have hit2 := Lib.iterAt_heap wr w'.heap.size s pos (pos + 1) hit
        have hbw2 := Lib.below_iterAt hbw (k := w'.heap.size) (Nat.le_refl _) s (pos + 1)
        have hIR := fun w2 => Tryd.strings_IndexRune_ascii chars ((s[pos]'hlt).toNat : Int) w2 (by omega) (by omega)
        have hbk : (((s[pos]'hlt).toNat : Int)).toNat.toUInt8 = s[pos]'hlt := by simp
        rw [hbk] at hIR
        have hcon := Lib.contains_iff_indexByte chars.data.toList (s[pos]'hlt)
        cases hin : chars.data.toList.contains (s[pos]'hlt) with
        | false =>
          rw [hin] at hcon
          have hneg : ¬ ((0 : Int) ≤ Lib.indexByte chars.data.toList (s[pos]'hlt)) := of_decide_eq_false hcon.symm
          have HN := Lib.hid (hno.out.succ hxl hin)
          clear hcon hno hxl
          generalize Lib.indexByte chars.data.toList (s[pos]'hlt) = ix at *
          go_wp2_with (refine (hIR _).mono ?_; rintro e w2 ⟨rfl, rfl⟩)
          go_roundw
          case rel => exact ⟨pos + 1, rfl, hit2, by omega, hbw2, HN.out⟩
          case measure => simp only [World.iterPos, hit, hit2]; omega
        | true =>
          rw [hin] at hcon
          have hge : (0 : Int) ≤ Lib.indexByte chars.data.toList (s[pos]'hlt) := of_decide_eq_true hcon.symm
          have HN := Lib.hid (Lib.indexAny_hit hno.out hxl hin)
          clear hcon hno hxl
          generalize Lib.indexByte chars.data.toList (s[pos]'hlt) = ix at *
          go_wp2_with (refine (hIR _).mono ?_; rintro e w2 ⟨rfl, rfl⟩)
          go_ret
          exact ⟨by rw [HN.out]; rfl, hbw2⟩
      · have hnx : ∀ ty, (Instr.next (.pointer (some ⟨w'.heap.size, 0, none⟩)) true ty).run Tryd.prog wr = _ := fun ty => Lib.run_next_any_at wr w'.heap.size s pos ty hit hlt
        have hd := U.decode_eq s pos hlt
        have hdr := drop_byte hxl
        obtain ⟨g1, g2, g3⟩ := U.dec_high hdr (by omega)
        have hne : s.data.toList.drop pos ≠ [] := by rw [hdr]; simp
        have hw := U.dec_width _ hne
        rw [← hd] at g1 g2 g3 hw
        have hwl : pos + (Utf8.decode s pos).2 ≤ s.size := by
          have := hw.2.2
          simp at this
          omega
        have HN := Lib.hid (no_any_more (n := (Utf8.decode s pos).2) hno.out (fun j c h1 h2 h3 => asc_contains HA.out (g3 (j - pos) c (by omega) (by rw [List.getElem?_drop, show pos + (j - pos) = j by omega]; exact h3))))
        have hw1 := hw.1
        clear hd hdr g3 hne hw hno hxl
        generalize Utf8.decode s pos = d at *
        obtain ⟨c, n⟩ := d
        simp only at *
        have hit2 := Lib.iterAt_heap wr w'.heap.size s pos (pos + n) hit
        have hbw2 := Lib.below_iterAt hbw (k := w'.heap.size) (Nat.le_refl _) s (pos + n)
        have hIR : ∀ w2, Calls Tryd.prog 54 #[.string chars, .int .i32 c] w2 fun e w3 => e = .returned (.int .i64 (-1)) ∧ Below w2.heap.size w2 w3 := by
          intro w2
          by_cases hc : c = 65533
          · subst hc; exact index_rune_bad chars w2 HA.out
          · exact index_rune_high chars c w2 g1 g2 hc h5 hcs HA.out
        clear g1 g2
        have hz2 := Lib.iterAt_size wr w'.heap.size s (pos + n)
        go_wp2_with (refine (hIR _).mono ?_; rintro e w2 ⟨rfl, b2⟩)
        have hit3 := (b2.block _ (by rw [hz2]; exact hlk)).trans hit2
        have hbw3 := hbw2.trans (b2.mono (by rw [hz2]; omega))
        go_roundw
        case rel => exact ⟨pos + n, rfl, hit3, by omega, hbw3, HN.out⟩
        case measure => simp only [World.iterPos, hit, hit3]; omega
    · have hnx : ∀ ty, (Instr.next (.pointer (some ⟨w'.heap.size, 0, none⟩)) true ty).run Tryd.prog wr = _ := fun ty => Lib.run_next_end_at wr w'.heap.size s pos ty hit hlt
      obtain rfl : pos = s.size := by omega
      have HN := Lib.hid (Lib.indexAny_none (by rw [← Lib.size_eq]; exact hno.out))
      clear hno
      go_wp2_with fail
      go_ret
      exact ⟨by rw [HN.out]; rfl, hbw⟩

theorem index_any (s chars : ByteArray) (w : World) (h5 : 5 ≤ chars.size) (hcs : chars.size ≤ 100) (hs : s.size ≤ 1048576) (ha : ∀ b ∈ chars.data.toList, b.toNat < 128) :
    Calls Tryd.prog 43 #[.string s, .string chars] w fun e w' => e = .returned (.int .i64 (Lib.indexAny s.data.toList chars.data.toList)) ∧ Below w.heap.size w w' := by
  rcases Nat.lt_or_ge 8 s.size with h8 | h8
  · refine (Tryd.strings_IndexAny_long (zero_of_info (n := 256) (by kernel_rfl)).1 s chars w (by omega) h8 (by omega) (by omega) (fun j b hb => ha b (List.mem_of_getElem? hb))).mono ?_
    rintro e w' ⟨rfl, rfl⟩
    exact ⟨rfl, ((Below.refl _ _).alloc (Nat.le_refl _) _).alloc (by simp) _⟩
  · exact index_any_short s chars w h5 hcs h8 ha

end Go.Proofs.YtkmjngpgngkalaaDoor

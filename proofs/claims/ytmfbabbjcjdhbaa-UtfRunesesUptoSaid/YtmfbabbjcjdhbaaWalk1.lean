/- Walks of the program's own small functions: Runes. -/
import Derived.Test.YtmfbabbjcjdhbaaWords
import Derived.Outline
namespace Go.Proofs.Ytmfbabbjcjdhbaa
open Go.RowKit

set_option maxHeartbeats 1000000 in
set_option maxRecDepth 100000 in
/-- utf.Runes: the code points of s, in a row of the call's own -/
theorem runes_walk (s : ByteArray) (w : World) (hs : s.size ≤ 16777216) :
    Calls Try.prog 13 #[.string s] w fun e w' => ∃ v, e = .returned v ∧ w'.ownsRow w.heap.size 3 1 v (U.runes s.data.toList).length (ints (U.runes s.data.toList)) ∧ Below w.heap.size w w' := by
  obtain ⟨i0, hi, hz0, hz1, hz2⟩ := info_parts info3
  have hmk : ∀ u : World, (Instr.makeSlice 23 (.int .i64 0) (.int .i64 (s.size : Int))).run Try.prog u =
      .ok (.slice (some ⟨u.heap.size, 0, none⟩) 0 s.size) (u.alloc (.cells (madeCells #[.int .i64 0] s.size) 3)) := fun u => by
    have h := run_make (P := Try.prog) u 23 3 i0 (.int .i64 0) Try.underlying23 hi hz0 .i64 .i64 0 (s.size : Int) (by omega) (by omega) (by rw [hz2]; omega) (by omega)
    simpa [hz1, Value.cells] using h
  go_enter Try.func13, Try.ntmps13
  go_wp2
  go_loopw [3] (fun v wr => ∃ (pos : Nat) (acc : List Nat), wr.ownsRow w.heap.size 3 1 v acc.length (ints acc) ∧ wr.heap[w.heap.size + 1]? = some (.stringIter s pos) ∧ Below w.heap.size w wr ∧ acc ++ U.runes (s.data.toList.drop pos) = U.runes s.data.toList ∧ pos ≤ s.size ∧ acc.length ≤ pos) (fun _ wr => s.size - wr.iterPos (w.heap.size + 1))
  case atStart =>
    refine ⟨0, [], ?_, ?_, ((Below.refl _ w).alloc (Nat.le_refl _) _).alloc (by simp) _, rfl, by omega, by simp⟩
    · exact (World.ownsRow_made (size := 1) w (madeCells #[.int .i64 0] s.size) s.size (Nat.le_refl _) (by unfold maxLen; omega) (by simp [madeCells])).alloc _
    · have := World.iter_heap (w.alloc (.cells (madeCells #[.int .i64 0] s.size) 3)) s 0
      simpa using this
  case round =>
    obtain ⟨pos, acc, hown, hit, hbw, hacc, hps, hal⟩ := hrel
    have hlt := iter_lt hit
    by_cases hp : pos < s.size
    · have hnx : ∀ ty, (Instr.next (.pointer (some ⟨w.heap.size + 1, 0, none⟩)) true ty).run Try.prog wr = _ := fun ty => Lib.run_next_any_at wr (w.heap.size + 1) s pos ty hit hp
      have hdl := decode_le s pos
      have hd := U.decode_eq s pos hp
      have hne : s.data.toList.drop pos ≠ [] := by
        intro e
        have := congrArg List.length e
        simp at this
        omega
      have hw := U.dec_width _ hne
      have hrc := U.runes_cons hne
      rw [← hd] at hw hrc
      have hwl : pos + (Utf8.decode s pos).2 ≤ s.size := by
        have := hw.2.2
        simp at this
        omega
      have hit2 := Lib.iterAt_heap wr (w.heap.size + 1) s pos (pos + (Utf8.decode s pos).2) hit
      have hown2 := own_iterAt hown hit (pos + (Utf8.decode s pos).2)
      have hbw2 := Lib.below_iterAt hbw (k := w.heap.size + 1) (by omega) s (pos + (Utf8.decode s pos).2)
      have hsz2 : w.heap.size + 1 < (wr.iterAt (w.heap.size + 1) s (pos + (Utf8.decode s pos).2)).heap.size := by rw [Lib.iterAt_size]; omega
      rw [List.drop_drop] at hrc
      have Hrc := Lib.hid hrc
      have Hd := Lib.hid hd
      have Hacc := Lib.hid hacc
      have Hw := Lib.hid hw
      clear hrc hd hacc hw hne
      generalize Utf8.decode s pos = d at *
      obtain ⟨c, wd⟩ := d
      go_wp2_with (at_builtin; refine wpList_append_own _ rfl _ _ 23 rfl w.heap.size 3 i0 (.int .i64 0) 1 8 Try.underlying23 hi hz0 hz1 hz2 rfl (by decide) _ _ _ rfl (hown2.alloc _) ⟨(wr.iterAt (w.heap.size + 1) s (pos + wd)).heap.size, 0, none⟩ 1 1 [.int .i64 c] rfl rfl ?c1 ?c2 ?c3 ?c4 ?c5 ?_)
      case c2 => rfl
      case c3 => unfold maxLen; omega
      case c4 => omega
      case c5 => omega
      intro v' w2 hown' hgrow _
      have hne2 := own_ne_iter hown hit
      have hit3 : w2.heap[w.heap.size + 1]? = some (.stringIter s (pos + wd)) := by
        rw [hgrow.block _ (by simp; omega) (fun e => hne2 e.symm), Lib.alloc_old _ _ _ hsz2]
        exact hit2
      have hbw3 : Below w.heap.size w w2 := (hbw2.alloc (by omega) _).grown hgrow (by simp; omega) (fun k hk => (hown2.lt k hk).1)
      go_wp2
      go_roundw
      case rel =>
        have hrc := Hrc.out
        have hw := Hw.out
        refine ⟨pos + wd, acc ++ [c], by simpa [ints_append, ints_one] using hown', hit3, hbw3, ?_, hwl, by simp; omega⟩
        rw [← Hacc.out, hrc]
        simp
      case measure =>
        have hw := Hw.out
        simp only [World.iterPos, hit3, hit]
        omega
    · have hnx : ∀ ty, (Instr.next (.pointer (some ⟨w.heap.size + 1, 0, none⟩)) true ty).run Try.prog wr = _ := fun ty => Lib.run_next_end_at wr (w.heap.size + 1) s pos ty hit hp
      go_wp2
      go_ret
      have e0 : s.data.toList.drop pos = [] := List.drop_of_length_le (by simp; omega)
      rw [e0, U.runes_nil, List.append_nil] at hacc
      subst hacc
      exact ⟨_, rfl, hown, hbw⟩

end Go.Proofs.Ytmfbabbjcjdhbaa

/- Several texts in one: Build, Clean, Picked. -/
import Derived.Outline
import Derived.Test.YtmfkefcdddoooaaGreatDoorProcess
import Derived.Test.YtmfkefcdddoooaaGreatDoorP19
import Derived.Test.YtmfkefcdddoooaaGreatDoorP04
import Derived.Test.YtmfkefcdddoooaaGreatDoorP06
namespace Go.Proofs.YtmfkefcdddoooaaGreatDoor
open Go.RowKit

theorem U.Bst.add_tx2 (s : U.Bst) (n : U.Nd) : (s.add n).tx = s.tx := U.Bst.add_tx s n
theorem closeLast_tx (s : U.Bst) (name : List UInt8) : (s.closeLast name).tx = s.tx ∨ (s.closeLast name).tx = [] := by
  unfold U.Bst.closeLast
  split
  · exact .inl rfl
  · unfold U.Bst.closeFrom
    cases s.op.length - (U.idx name s.op - 1) with
    | zero => exact .inl rfl
    | succ n => rw [U.Bst.popN_succ]; exact .inr (U.Bst.pop_tx _)
theorem closeBefore_tx (s : U.Bst) (name : List UInt8) : (s.closeBefore name).tx = s.tx ∨ (s.closeBefore name).tx = [] := by
  have h1 : (s.closePar name).tx = s.tx ∨ (s.closePar name).tx = [] := by
    unfold U.Bst.closePar
    split
    · exact closeLast_tx _ _
    · exact .inl rfl
  unfold U.Bst.closeBefore
  split
  · rcases closeLast_tx (s.closePar name) [108, 105] with h | h
    · rw [h]; exact h1
    · exact .inr h
  · exact h1
theorem step_tx (s : U.Bst) (t : U.Tk) : (s.step t).tx = s.tx ∨ (s.step t).tx = [] ∨ (s.step t).tx = s.tx ++ [t.text] := by
  unfold U.Bst.step
  split
  · unfold U.Bst.start U.Bst.start1
    have h0 := closeBefore_tx ⟨s.out, s.op, s.tx, s.cnt, []⟩ t.name
    have h1 : (U.Bst.closeBefore ⟨s.out, s.op, s.tx, s.cnt, []⟩ t.name).tx = s.tx ∨ (U.Bst.closeBefore ⟨s.out, s.op, s.tx, s.cnt, []⟩ t.name).tx = [] := h0
    split
    · split
      · rcases h1 with h | h
        · exact .inl h
        · exact .inr (.inl h)
      · rcases h1 with h | h
        · exact .inl h
        · exact .inr (.inl h)
    · right
      left
      unfold U.Bst.start2
      split
      · rw [U.Bst.add_tx]; exact U.Bst.endText_tx _
      · exact U.Bst.endText_tx _
  split
  · unfold U.Bst.ends
    rcases closeLast_tx (if s.hid = t.name then ({ s with hid := [] } : U.Bst) else s) t.name with h | h
    · left; rw [h]; split <;> rfl
    · exact .inr (.inl h)
  split
  · unfold U.Bst.chars
    split
    · exact .inl rfl
    · exact .inr (.inr rfl)
  · exact .inl rfl
theorem step_txok {s : U.Bst} {t : U.Tk} {k : Nat} (h : TxOk s) (hk : s.tx.length ≤ k) (hk2 : k + 1 ≤ 1024) (ht : t.text.length ≤ 1048576) : TxOk (s.step t) ∧ (s.step t).tx.length ≤ k + 1 := by
  rcases step_tx s t with e | e | e
  · exact ⟨⟨by rw [e]; exact h.1, by rw [e]; exact h.2⟩, by rw [e]; omega⟩
  · exact ⟨TxOk.of_nil e, by rw [e]; exact Nat.zero_le _⟩
  · refine ⟨⟨by rw [e, List.length_append, List.length_singleton]; omega, by
      rw [e]
      intro x hx
      rcases List.mem_append.1 hx with hx | hx
      · exact h.2 x hx
      · obtain rfl := List.mem_singleton.1 hx
        exact ht⟩, by rw [e, List.length_append, List.length_singleton]; omega⟩
theorem TBld.new (w : World) : TBld w.heap.size (w.alloc (.cells #[.slice none 0 0, .slice none 0 0, .slice none 0 0, .int .i64 0, .string ⟨#[]⟩] 78 (0, 0))) w.heap.size U.Bst.new (.slice none 0 0) (.slice none 0 0) (.slice none 0 0) [] [] :=
  ⟨Nat.le_refl _, heap_alloc_new w _, World.ownsRow_nil _ _ _ _, World.ownsRow_nil _ _ _ _, World.ownsRow_nil _ _ _ _, rfl, rfl, (fun x hx => by cases hx), (fun x hx => by cases hx), by
    refine List.pairwise_cons.2 ⟨fun b _ => .inl rfl, List.pairwise_cons.2 ⟨fun b hb => by simp at hb, List.Pairwise.nil⟩⟩⟩
/-- what is outside reads as it is to read -/
theorem TBld.out_rd {N : Nat} {w : World} {bp : Nat} {s : U.Bst} {ov pv tv : Value} {outl opl : List NV} (h : TBld N w bp s ov pv tv outl opl) : RdNs w (· < w.heap.size) ov s.out := by
  have := RdNs.of_own (S := (· < w.heap.size)) h.out (fun x hx => (h.dout x hx).keep (fun _ _ => rfl) (fun b hb => hb.1)) (fun g hg => (h.out.lt g hg).2)
  rwa [h.eout] at this

set_option maxHeartbeats 8000000 in
set_option maxRecDepth 1000000 in
theorem tree_build (w : World) (v : Value) (l : List U.Tk) (hR : RdK w w.heap.size v l) (hm : l.length ≤ 9223372036854775807) (hS : ∀ t ∈ l, t.text.length ≤ 1048576 ∧ t.attrs.length ≤ 1048576) :
    Calls Tryz.prog 22 #[v] w fun e w' => ∃ nv, e = .returned (.tuple #[nv, .int .i64 ((U.build l).2 : Nat)]) ∧ Below w.heap.size w w' ∧ RdNs w' (· < w'.heap.size) nv (U.build l).1 := by
  obtain ⟨ao, cap, rfl, hc⟩ := hR
  by_cases h300 : 300 < l.length
  · have hz : (300 : Int) < (l.length : Int) := by omega
    have HE := Lib.hid (show U.build l = ([], 1) by unfold U.build; rw [if_pos h300])
    clear h300 hc
    go_enter Tryz.func22, Tryz.ntmps22
    go_wp2_with fail
    go_ret2
    refine ⟨_, by rw [HE.out]; rfl, Below.refl _ _, by rw [HE.out]; exact RdNs.nil _ _⟩
  · have hz : ¬ (300 : Int) < (l.length : Int) := by omega
    have HE := Lib.hid (show U.build l = U.Bst.new.run l by unfold U.build; rw [if_neg h300])
    have H3 := Lib.hid h300
    have HC := Lib.hid hc
    have hB0 := TBld.new w
    have hb0 : Below w.heap.size w (w.alloc (.cells #[.slice none 0 0, .slice none 0 0, .slice none 0 0, .int .i64 0, .string ⟨#[]⟩] 78 (0, 0))) := (Below.refl w.heap.size w).alloc (Nat.le_refl _) _
    have H0 := Became.refl hB0
    have HX := Lib.hid (And.intro hB0 hb0)
    clear h300 hc hB0 hb0
    go_enter Tryz.func22, Tryz.ntmps22
    go_wp2_with fail
    go_loopw [13] (fun i wr => ∃ (k : Nat) (s : U.Bst), k ≤ l.length ∧ i = .int .i64 k ∧ Hid (Became w.heap.size w.heap.size (w.alloc (.cells #[.slice none 0 0, .slice none 0 0, .slice none 0 0, .int .i64 0, .string ⟨#[]⟩] 78 (0, 0))) (mine (.slice none 0 0) (.slice none 0 0) (.slice none 0 0) []) wr s) ∧ Hid (s.Ok ∧ s.cnt ≤ k ∧ TxOk s ∧ s.tx.length ≤ k ∧ U.Bst.new.run l = s.run (l.drop k))) (fun i _ => l.length - (intOf i).toNat)
    case atStart => exact ⟨0, U.Bst.new, Nat.zero_le _, rfl, H0, ⟨⟨Nat.zero_le _, Nat.zero_le _⟩, Nat.zero_le _, TxOk.of_nil rfl, Nat.zero_le _, rfl⟩⟩
    case round =>
      obtain ⟨k, s, hk, rfl, HK, HR⟩ := hrel
      obtain ⟨ov, pv, tv, outl, opl, hB, hF⟩ := HK.out
      obtain ⟨r1, r2, r3, r4, r5⟩ := HR.out
      have hbw : Below w.heap.size w wr := HX.out.2.trans (HX.out.1.below hF)
      have hl3 : l.length ≤ 300 := by have := H3.out; omega
      by_cases hlt : k < l.length
      · have hx := List.getElem?_eq_getElem hlt
        generalize l[k]'hlt = t at hx
        obtain ⟨g, o, av, rfl, hg, d0, d1, d2, d3, d4, hA⟩ := HC.out k t hx
        have hSm := hS t (List.mem_of_getElem? hx)
        obtain ⟨aa, acap, rfl⟩ : ∃ aa acap, av = .slice aa t.attrs.length acap := by obtain ⟨a, b, e, _⟩ := hA; exact ⟨a, b, e⟩
        have e0 := (hbw.cell (p := ⟨g, o + k * 5, none⟩) hg).trans d0
        have e1 := (hbw.cell (p := ⟨g, o + k * 5 + 1, none⟩) hg).trans d1
        have e2 := (hbw.cell (p := ⟨g, o + k * 5 + 2, none⟩) hg).trans d2
        have e3 := (hbw.cell (p := ⟨g, o + k * 5 + 3, none⟩) hg).trans d3
        have e4 := (hbw.cell (p := ⟨g, o + k * 5 + 4, none⟩) hg).trans d4
        have hbl := fun O => (Below.refl wr.heap.size wr).alloc (Nat.le_refl _) O
        have HP := Lib.hid (fun O => process_walk w.heap.size _ w.heap.size s ov pv tv outl opl (hB.later (hbl O)) r1 (by omega) r3 (by omega) t aa t.attrs.length acap ((hA.later hbw).later ((hbl O).mono hbw.size)) hSm.2)
        have hFF := Lib.hid (fun O => hF.trans (Fr.later (hbl O)))
        have hd : l.drop k = t :: l.drop (k + 1) := by
          obtain ⟨h1, h2⟩ := List.getElem?_eq_some_iff.1 hx
          rw [← h2]
          exact List.drop_eq_getElem_cons h1
        rw [hd] at r5
        have hlz : (k : Int) < (l.length : Int) := by omega
        have HX2 := Lib.hid hx
        have HSm := Lib.hid hSm
        have HR2 := Lib.hid (And.intro r1 (And.intro r2 (And.intro r3 (And.intro r4 r5))))
        clear d0 d1 d2 d3 d4 hA hB hF hbl hd hx HK HR r1 r2 r3 r4 r5 hSm
        go_wp2_with fail
        refine (HP.out _).mono ?_
        rintro e w2 ⟨rfl, hK⟩
        have HK2 := Lib.hid (show Became w.heap.size w.heap.size (w.alloc (.cells #[.slice none 0 0, .slice none 0 0, .slice none 0 0, .int .i64 0, .string ⟨#[]⟩] 78 (0, 0))) (mine (.slice none 0 0) (.slice none 0 0) (.slice none 0 0) []) w2 (s.stepE t).1 by
          obtain ⟨ov9, pv9, tv9, outl9, opl9, hB9, hF9⟩ := hK
          exact ⟨_, _, _, _, _, hB9, (hFF.out _).trans hF9⟩)
        clear hK
        by_cases he : (s.stepE t).2 = 0
        · have hz0 : ((s.stepE t).2 : Int) = 0 := by omega
          have HN := Lib.hid (show (s.stepE t).1.Ok ∧ (s.stepE t).1.cnt ≤ k + 1 ∧ TxOk (s.stepE t).1 ∧ (s.stepE t).1.tx.length ≤ k + 1 ∧ U.Bst.new.run l = (s.stepE t).1.run (l.drop (k + 1)) by
            obtain ⟨r1, r2, r3, r4, r5⟩ := HR2.out
            have h1 := U.Bst.step_ok r1 t
            have h2 := step_txok (t := t) r3 r4 (by omega) HSm.out.1
            refine ⟨?_, ?_, ?_, ?_, ?_⟩
            · unfold U.Bst.stepE; split
              · exact h1.1
              · exact r1
            · unfold U.Bst.stepE; split
              · exact Nat.le_trans h1.2 (by omega)
              · exact Nat.le_trans r2 (by omega)
            · unfold U.Bst.stepE; split
              · exact h2.1
              · exact r3
            · unfold U.Bst.stepE; split
              · exact h2.2
              · exact Nat.le_trans r4 (by omega)
            · rw [r5, U.Bst.run, if_pos he])
          clear he
          go_wp2_with fail
          go_roundw
          case rel => exact ⟨k + 1, (s.stepE t).1, by omega, by go_num, HK2, HN⟩
          case measure => simp [intOf]; omega
        · have hz0 : ¬ ((s.stepE t).2 : Int) = 0 := by omega
          have HQ := Lib.hid (show U.build l = ([], (s.stepE t).2) by
            rw [HE.out, HR2.out.2.2.2.2, U.Bst.run, if_neg he])
          have HBW := Lib.hid (show Below w.heap.size w w2 by
            obtain ⟨ov9, pv9, tv9, outl9, opl9, hB9, hF9⟩ := HK2.out
            exact HX.out.2.trans (HX.out.1.below hF9))
          clear he
          go_wp2_with fail
          go_ret2
          exact ⟨_, by rw [HQ.out]; rfl, HBW.out, by rw [HQ.out]; exact RdNs.nil _ _⟩
      · obtain rfl : k = l.length := by omega
        have hlz : ¬ (l.length : Int) < (l.length : Int) := by omega
        have HQ := Lib.hid (show U.build l = (s.done, 0) by rw [HE.out, r5, List.drop_length, U.Bst.run])
        have HP := Lib.hid (close_from w.heap.size wr w.heap.size s ov pv tv outl opl hB (Nat.le_trans r1.bulk (by omega)) r3 (Nat.le_trans r1.deep (by omega)) 0 (Nat.zero_le _))
        have hbk : (s.closeFrom 0).bulk ≤ 1048576 := Nat.le_trans (U.Bst.popN_bulk _ _) (Nat.le_trans r1.bulk (by omega))
        have htk : TxOk (s.closeFrom 0) := by
          unfold U.Bst.closeFrom
          cases s.op.length - 0 with
          | zero => exact r3
          | succ n => rw [U.Bst.popN_succ]; exact TxOk.of_nil (U.Bst.pop_tx _)
        have HF := Lib.hid hF
        clear hB hF r1 r2 r3 r4 r5 HK HR
        go_wp2_with fail
        refine HP.out.mono ?_
        rintro e w2 ⟨rfl, hK⟩
        obtain ⟨ov2, pv2, tv2, outl2, opl2, hB2, hF2⟩ := hK
        have HP2 := Lib.hid (end_text w.heap.size w2 w.heap.size _ ov2 pv2 tv2 outl2 opl2 hB2 hbk htk)
        have HF2 := Lib.hid (HF.out.trans hF2)
        clear hB2 hF2
        go_wp2_with fail
        refine HP2.out.mono ?_
        rintro e w3 ⟨rfl, hK⟩
        obtain ⟨ov3, pv3, tv3, outl3, opl3, hB3, hF3⟩ := hK
        have HZ := Lib.hid (And.intro (HX.out.2.trans (HX.out.1.below (HF2.out.trans hF3))) hB3.out_rd)
        obtain ⟨d0, _, _, _, _⟩ := hB3.cells
        obtain ⟨oo, ocap, rfl⟩ := own_form hB3.out
        clear hB3 hF3
        go_wp2_with fail
        go_ret2
        exact ⟨_, by rw [HQ.out]; rfl, HZ.out.1, by rw [HQ.out]; exact HZ.out.2⟩

end Go.Proofs.YtmfkefcdddoooaaGreatDoor

namespace Go.Proofs.YtmfkefcdddoooaaGreatDoor
open Go.RowKit

set_option maxHeartbeats 4000000 in
set_option maxRecDepth 100000 in
theorem clean_walk (s : ByteArray) (w : World) (hs : s.size ≤ 16777216) :
    Calls Tryz.prog 23 #[.string s] w fun e w' => e = .returned (.string ⟨(U.clean s.data.toList).toArray⟩) ∧ Below w.heap.size w w' := by
  go_enter Tryz.func23, Tryz.ntmps23
  go_wp2
  go_loopw [] (fun wr => ∃ (pos : Nat) (acc : List UInt8), Bld w.heap.size w.heap.size acc wr ∧ wr.heap[w.heap.size + 1]? = some (.stringIter s pos) ∧ Below w.heap.size w wr ∧ acc ++ U.clean (s.data.toList.drop pos) = U.clean s.data.toList ∧ pos ≤ s.size ∧ acc.length ≤ 4 * pos) (fun wr => s.size - wr.iterPos (w.heap.size + 1))
  case atStart =>
    refine ⟨0, [], (Lib.IsBuilderF.of (Lib.fresh_isBuilder 58 5 w)).alloc _, ?_, ((Below.refl _ w).alloc (Nat.le_refl _) _).alloc (by simp) _, rfl, by omega, by simp⟩
    have := World.iter_heap (w.alloc (.cells #[.pointer none, .slice none 0 0] 58)) s 0
    simpa using this
  case round =>
    obtain ⟨pos, acc, hI, hit, hbw, hacc, hps, hal⟩ := hrel
    have hlt := iter_lt hit
    by_cases hp : pos < s.size
    · have hnx : ∀ ty, (Instr.next (.pointer (some ⟨w.heap.size + 1, 0, none⟩)) true ty).run Tryz.prog wr = _ := fun ty => Lib.run_next_any_at wr (w.heap.size + 1) s pos ty hit hp
      have hdl := decode_le s pos
      have hd := U.decode_eq s pos hp
      have hne : s.data.toList.drop pos ≠ [] := by
        intro e
        have := congrArg List.length e
        simp at this
        omega
      have hw := U.dec_width _ hne
      have hL := U.dec_isL _ hne
      have hcc := U.clean_cons hne
      have hone : (U.dec (s.data.toList.drop pos)).1 < 128 → (U.dec (s.data.toList.drop pos)).2 = 1 := fun h => by
        obtain ⟨_, _, _, _, h2, _⟩ := U.dec_val_low hne h
        exact h2
      rw [U.runes_head10] at hcc
      rw [← hd] at hw hcc hL hone
      have hwl : pos + (Utf8.decode s pos).2 ≤ s.size := by
        have := hw.2.2
        simp at this
        omega
      have hw1 := hw.1
      have hit2 := Lib.iterAt_heap wr (w.heap.size + 1) s pos (pos + (Utf8.decode s pos).2) hit
      have hI2 : Bld w.heap.size w.heap.size acc (wr.iterAt (w.heap.size + 1) s (pos + (Utf8.decode s pos).2)) := hI.iterAt hit (pos + (Utf8.decode s pos).2)
      have hbw2 := Lib.below_iterAt hbw (k := w.heap.size + 1) (by omega) s (pos + (Utf8.decode s pos).2)
      have hsz2 : w.heap.size + 1 < (wr.iterAt (w.heap.size + 1) s (pos + (Utf8.decode s pos).2)).heap.size := by rw [Lib.iterAt_size]; omega
      rw [List.drop_drop] at hcc
      have Hcc := Lib.hid hcc
      have Hacc := Lib.hid hacc
      have HL := Lib.hid hL
      have Hone := Lib.hid hone
      clear hcc hd hacc hw hne hL hone
      generalize Utf8.decode s pos = d at *
      obtain ⟨c, wd⟩ := d
      by_cases h0 : c = 0
      · subst h0
        go_wp2_with fail
        refine (write_rune w.heap.size w.heap.size acc 65533 (by omega) (by omega) _ hI2 (by omega) (by omega)).mono ?_
        rintro e w2 ⟨rfl, h1, b1, k1⟩
        go_wp2
        go_roundw
        case rel =>
          refine ⟨pos + wd, acc ++ Lib.encodeRune 65533, .inr h1, k1.iter hit2 (by omega), hbw2.trans b1, ?_, hwl, ?_⟩
          · rw [← Hacc.out, Hcc.out, U.clean1_zero, List.append_assoc]
          · have := U.encodeRune_length 65533
            rw [List.length_append]; omega
        case measure =>
          simp only [World.iterPos, k1.iter hit2 (by omega), hit]
          omega
      by_cases h13 : c = 13
      · subst h13
        obtain rfl : wd = 1 := Hone.out (by omega)
        have hex : (s.extract (pos + 1) s.size).data.toList = s.data.toList.drop (pos + 1) := by
          rw [Lib.extract_data]
          exact List.take_of_length_le (by simp)
        cases hlf : (s.data.toList.drop (pos + 1)).head? == some 10
        · -- a carriage return by itself
          have hpf : Lib.hasPrefix (s.extract (pos + 1) s.size).data.toList (ByteArray.mk #[10]).data.toList = false := by
            rw [hex]
            exact (U.hasPrefix_lf _).trans hlf
          rw [hlf] at Hcc
          have Hpf := Lib.hid hpf
          have Hlf := Lib.hid hlf
          clear hpf hlf
          go_wp2_with fail
          refine (Tryz.strings_HasPrefix _ _ _).mono ?_
          rintro e w1 ⟨rfl, rfl⟩
          rw [Hpf.out]
          go_wp2_with fail
          refine (write_byte w.heap.size w.heap.size acc 10 (by omega) _ hI2 (by omega) (by omega)).mono ?_
          rintro e w2 ⟨rfl, h1, b1, k1⟩
          go_wp2
          go_roundw
          case rel =>
            refine ⟨pos + 1, acc ++ [UInt8.ofNat 10], .inr h1, k1.iter hit2 (by omega), hbw2.trans b1, ?_, hwl, ?_⟩
            · rw [← Hacc.out, Hcc.out, U.clean1_cr, List.append_assoc]
            · rw [List.length_append, List.length_cons, List.length_nil]; omega
          case measure =>
            simp only [World.iterPos, k1.iter hit2 (by omega), hit]
            omega
        · -- a line feed comes behind it
          have hpf : Lib.hasPrefix (s.extract (pos + 1) s.size).data.toList (ByteArray.mk #[10]).data.toList = true := by
            rw [hex]
            exact (U.hasPrefix_lf _).trans hlf
          rw [hlf] at Hcc
          have Hpf := Lib.hid hpf
          have Hlf := Lib.hid hlf
          clear hpf hlf
          go_wp2_with fail
          refine (Tryz.strings_HasPrefix _ _ _).mono ?_
          rintro e w1 ⟨rfl, rfl⟩
          rw [Hpf.out]
          go_wp2_with fail
          go_roundw
          case rel =>
            refine ⟨pos + 1, acc, hI2, hit2, hbw2, ?_, hwl, by omega⟩
            rw [← Hacc.out, Hcc.out, U.clean1_skip, List.nil_append]
          case measure =>
            simp only [World.iterPos, hit2, hit]
            omega
      · go_wp2_with fail
        refine (write_rune w.heap.size w.heap.size acc c (by omega) (by omega) _ hI2 (by omega) (by omega)).mono ?_
        rintro e w2 ⟨rfl, h1, b1, k1⟩
        go_wp2
        go_roundw
        case rel =>
          refine ⟨pos + wd, acc ++ Lib.encodeRune c, .inr h1, k1.iter hit2 (by omega), hbw2.trans b1, ?_, hwl, ?_⟩
          · rw [← Hacc.out, Hcc.out, U.clean1_other _ h0 h13 HL.out, List.append_assoc]
          · have := U.encodeRune_length c
            rw [List.length_append]; omega
        case measure =>
          simp only [World.iterPos, k1.iter hit2 (by omega), hit]
          omega
    · have hnx : ∀ ty, (Instr.next (.pointer (some ⟨w.heap.size + 1, 0, none⟩)) true ty).run Tryz.prog wr = _ := fun ty => Lib.run_next_end_at wr (w.heap.size + 1) s pos ty hit hp
      go_wp2_with fail
      refine (Tryz.Builder_String_any_k w.heap.size w.heap.size acc _ hI (by omega)).mono ?_
      rintro e W1 ⟨rfl, _, b1, _⟩
      go_wp2
      go_ret
      have e0 : s.data.toList.drop pos = [] := List.drop_of_length_le (by simp; omega)
      rw [e0, U.clean_nil, List.append_nil] at hacc
      subst hacc
      exact ⟨rfl, hbw.trans b1⟩

end Go.Proofs.YtmfkefcdddoooaaGreatDoor

namespace Go.Proofs.YtmfkefcdddoooaaGreatDoor
open Go.RowKit

theorem picked_facts (a n : Int) (hn : 0 < n) : (a.tmod n < 0 → a.tmod n + n = a % n) ∧ (¬ a.tmod n < 0 → a.tmod n = a % n) ∧ -n < a.tmod n ∧ a.tmod n < n := by
  have h1 := Int.emod_nonneg a (b := n) (by omega)
  have h2 := Int.emod_lt_of_pos a hn
  have h3 := Int.tmod_lt_of_pos a hn
  have h4 : -n < a.tmod n := by
    have := Int.lt_tmod_of_pos a hn
    exact this
  have h5 := Int.mul_tdiv_add_tmod a n
  have h6 := Int.mul_ediv_add_emod a n
  have key : ∀ x y p q : Int, n * x + p = a → n * y + q = a → -n < p - q → p - q < 2 * n → p - q ≠ 0 → p - q ≠ n → False := by
    intro x y p q e1 e2 l1 l2 n1 n2
    have e : p - q = n * (y - x) := by rw [Int.mul_sub]; omega
    rcases Int.lt_trichotomy (y - x) 0 with h | h | h
    · have := Int.mul_le_mul_of_nonneg_left (show y - x ≤ -1 by omega) (Int.le_of_lt hn)
      omega
    · rw [h] at e; omega
    · rcases Int.lt_or_le (y - x) 2 with h' | h'
      · have : y - x = 1 := by omega
        rw [this] at e; omega
      · have := Int.mul_le_mul_of_nonneg_left h' (Int.le_of_lt hn)
        omega
  refine ⟨fun h => ?_, fun h => ?_, h4, h3⟩
  · have k := key (a / n) (a.tdiv n) (a % n) (a.tmod n) h6 h5 (by omega) (by omega)
    by_cases e : a % n - a.tmod n = 0
    · omega
    · by_cases e' : a % n - a.tmod n = n
      · omega
      · exact (k e e').elim
  · have k := key (a / n) (a.tdiv n) (a % n) (a.tmod n) h6 h5 (by omega) (by omega)
    by_cases e : a % n - a.tmod n = 0
    · omega
    · by_cases e' : a % n - a.tmod n = n
      · omega
      · exact (k e e').elim

set_option maxHeartbeats 1000000 in
set_option maxRecDepth 100000 in
theorem picked_walk (a n : Int) (w : World) (hn : 0 < n) (hn2 : n ≤ 2147483647) :
    Calls Tryz.prog 25 #[.int .i64 a, .int .i64 n] w fun e w' => e = .returned (.int .i64 (a % n)) ∧ w = w' := by
  obtain ⟨f1, f2, f3, f4⟩ := picked_facts a n hn
  by_cases h0 : 0 ≤ a
  · have e1 := Int.emod_nonneg a (b := n) (by omega)
    have e2 := Int.emod_lt_of_pos a hn
    clear f1 f2 f3 f4
    go_enter Tryz.func25, Tryz.ntmps25
    go_wp2_with fail
    go_ret
    exact ⟨rfl, rfl⟩
  · by_cases h : a.tmod n < 0
    · have e := Lib.hid (f1 h)
      clear f1 f2
      go_enter Tryz.func25, Tryz.ntmps25
      go_wp2_with fail
      go_ret
      rw [← e.out]
      exact ⟨rfl, rfl⟩
    · have e := Lib.hid (f2 h)
      clear f1 f2
      go_enter Tryz.func25, Tryz.ntmps25
      go_wp2_with fail
      go_ret
      rw [← e.out]
      exact ⟨rfl, rfl⟩

end Go.Proofs.YtmfkefcdddoooaaGreatDoor

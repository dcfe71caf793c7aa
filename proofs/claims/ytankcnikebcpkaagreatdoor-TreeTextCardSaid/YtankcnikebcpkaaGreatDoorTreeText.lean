/- TreeText: the walk. -/
import Derived.Test.YtankcnikebcpkaaGreatDoorTextPre
import Derived.Handy
import Derived.StillTactics
import Derived.StillTailTactics
import Derived.Outline
namespace Go.Proofs.YtankcnikebcpkaaGreatDoor
open Go.RowKit

theorem pt_lt (j : Nat) : U.lts (pt j).data.toList ≤ 1 := by
  unfold pt
  split <;> decide
theorem pt_noT (j : Nat) : U.noT (pt j).data.toList := by
  unfold pt U.noT
  split <;> decide
theorem noT_append {a b : List UInt8} (h1 : U.noT a) (h2 : U.noT b) : U.noT (a ++ b) := fun x hx => (List.mem_append.1 hx).elim (h1 x) (h2 x)
theorem say_take {l : List U.Tok} {k : Nat} {t : U.Tok} (h : l[k]? = some t) : ((l.take (k + 1)).map fun t => U.Tk.say t.tk).flatten = ((l.take k).map fun t => U.Tk.say t.tk).flatten ++ U.Tk.say t.tk := by
  obtain ⟨hi, e⟩ := List.getElem?_eq_some_iff.1 h
  rw [List.take_succ_eq_append_getElem hi, e]
  simp

set_option maxHeartbeats 8000000 in
set_option maxRecDepth 1000000 in
theorem tree_text (ao : Option Addr) (cap : Nat) (zs : List Int) (w : World) (hr : Rd w w.heap.size ao zs) (hG : Glob w) :
    Calls Tryz.prog 4 #[.slice ao zs.length cap] w fun e w' => e = .returned (.bool true) ∧ Below w.heap.size w w' := by
  have HR := Lib.hid hr
  clear hr
  go_enter Tryz.func4, Tryz.ntmps4
  go_wp2_with fail
  go_loopw [3, 4] (fun t i wr => ∃ (k : Nat) (T : ByteArray), k ≤ zs.length ∧ k ≤ 40 ∧ i = .int .i64 k ∧ t = .string T ∧ Below w.heap.size w wr ∧ T.size ≤ 11 * k ∧ U.lts T.data.toList ≤ k ∧ U.noT T.data.toList) (fun _ i _ => zs.length - (intOf i).toNat)
  case atStart => exact ⟨0, ⟨#[]⟩, Nat.zero_le _, Nat.zero_le _, rfl, rfl, Below.refl _ _, Nat.le_refl _, Nat.le_refl _, fun b hb => by cases hb⟩
  case round =>
    obtain ⟨k, T, hk, hkn, rfl, rfl, hbw, hT, hL, hno⟩ := hrel
    have hbs := hbw.size
    by_cases hlt : k < zs.length ∧ k < 40
    · obtain ⟨hlt, hlt2⟩ := hlt
      obtain ⟨ad, rfl, hb, hc⟩ := (HR.out.below hbw) k zs[k] (List.getElem?_eq_getElem hlt)
      generalize zs[k] = z at *
      have hc2 : ∀ o, (wr.alloc o).cell? (ad.add k) = some (.int .i64 z) := fun o => by
        rw [World.cell?_alloc_lt wr o (ad.add k) (by rw [add_block]; omega)]
        exact hc
      have hk0 : (0 : Int) ≤ (k : Int) := Int.natCast_nonneg _
      have hk1 : (k : Int) < (zs.length : Int) := by omega
      obtain ⟨j, hj, ej⟩ : ∃ j : Nat, j < 14 ∧ z % 14 = (j : Int) := ⟨(z % 14).toNat, by omega, by omega⟩
      have EJ := Lib.hid ej
      clear ej
      have hlc := pt_cell j hj
      have hlg := pt_get j
      have hsz := pt_size j
      have HLT := Lib.hid (pt_lt j)
      have HNT := Lib.hid (noT_append hno (pt_noT j))
      have hj0 : (0 : Int) ≤ (j : Int) := Int.natCast_nonneg _
      have hj1 : (j : Int) < 14 := by omega
      clear hno
      go_wp2_with ((go_at_call_of 12 (Value.int IntKind.i64 z); refine (picked_walk _ _ _ (by omega) (by omega)).mono ?_; rintro e w' ⟨rfl, rfl⟩; rw [EJ.out]))
      go_roundw
      case rel => exact ⟨k + 1, _, by omega, by omega, by go_num, rfl, by go_grown, by rw [ByteArray.size_append]; omega, by have := HLT.out; rw [ByteArray.data_append, Array.toList_append, U.lts_append]; omega, by rw [ByteArray.data_append, Array.toList_append]; exact HNT.out⟩
      case measure => simp [intOf]; omega
    · have hT6 : T.size ≤ 600 := by omega
      have HP := Lib.hid (parsed_walk T wr hT6 (hG.below hbw))
      have hlt5 := U.toks_lt T.data.toList
      have HB := Lib.hid (fun (W : World) (hb : Below wr.heap.size wr W) => built_tree T W hT6 ((hG.below hbw).below hb) (by omega))
      have hbok := U.build_ok ((U.toks T.data.toList).map U.Tok.tk) (fun t ht => by
        obtain ⟨x, hx, rfl⟩ := List.mem_map.1 ht
        have := U.toks_kinds _ x hx
        show (x.kind : Int) = 1 ∨ (x.kind : Int) = 2 ∨ (x.kind : Int) = 3 ∨ (x.kind : Int) = 4
        omega) (by rw [List.length_map]; omega)
      have hwd := U.build_words ((U.toks T.data.toList).map U.Tok.tk) (fun t ht hk => by
        obtain ⟨x, hx, rfl⟩ := List.mem_map.1 ht
        have hk' : (x.kind : Int) = 1 := hk
        exact U.toks_calm hno x hx (by omega)) hbok
      have hal := U.build_all ((U.toks T.data.toList).map U.Tok.tk)
      rw [List.length_map] at hal
      have htl : T.data.toList.length ≤ 600 := by rw [Array.length_toList]; exact hT6
      have htx : ∀ t ∈ U.toks T.data.toList, t.text.length ≤ 600 := fun t ht => Nat.le_trans (U.toks_texts _ t ht) htl
      obtain ⟨L, hLe⟩ : ∃ L, (U.build ((U.toks T.data.toList).map U.Tok.tk)).1 = L := ⟨_, rfl⟩
      rw [hLe] at HB hwd hal
      have hcase : ((k : Int) < (zs.length : Int) ∧ ¬ (k : Int) < 40) ∨ ¬ (k : Int) < (zs.length : Int) := by omega
      have HBW := Lib.hid hbw
      have htn : (U.toks T.data.toList).length ≤ 81 := by omega
      obtain ⟨TS, hTS⟩ : ∃ TS, U.toks T.data.toList = TS := ⟨_, rfl⟩
      rw [hTS] at HP hwd hal htx htn
      have hsl : ∀ m, (((TS.take m).map fun t => U.Tk.say t.tk).flatten).length ≤ 600 * m := by
        intro m
        induction m with
        | zero => simp
        | succ m ih =>
          cases hx : TS[m]? with
          | none =>
            have h1 := List.getElem?_eq_none_iff.1 hx
            rw [List.take_of_length_le (by omega)]
            rw [List.take_of_length_le h1] at ih
            omega
          | some t =>
            rw [say_take hx, List.length_append]
            have h1 := htx t (List.mem_of_getElem? hx)
            have h2 : (U.Tk.say t.tk).length ≤ 600 := by
              unfold U.Tk.say
              split
              · exact h1
              · exact Nat.zero_le _
            omega
      rw [List.map_map] at hwd
      have hwl : (U.wdL L).length ≤ 1048576 := by
        have h1 := hsl TS.length
        rw [List.take_length] at h1
        rw [hwd]
        exact Nat.le_trans h1 (by omega)
      have HW := Lib.hid (fun (v : Value) (W : World) (hR : RdNs W (· < W.heap.size) v L) => words_walk _ L (Nat.le_refl _) hwl v W hR)
      have HWD := Lib.hid hwd
      have HSL := Lib.hid hsl
      have HTX := Lib.hid htx
      clear hlt hno hbw hbok hal htl hlt5 hwd hsl htx hwl hLe hL
      rcases hcase with ⟨h1z, h2z⟩ | h1z
      all_goals
        go_wp2_with fail
        refine HP.out.mono ?_
        rintro e w2 ⟨v1, rfl, hR1, hb1⟩
        have HB2 := Lib.hid (HB.out w2 hb1)
        have HR1 := Lib.hid hR1
        obtain ⟨ta, tcap, ev, _⟩ := hR1
        subst ev
        have HB1 := Lib.hid hb1
        clear hb1
        go_wp2_with fail
        refine HB2.out.mono ?_
        rintro e w3 ⟨v2, rfl, hR3, hb3⟩
        have HR3 := Lib.hid hR3
        have HR1b := Lib.hid (HR1.out.below hb3)
        have HW2 := Lib.hid (HW.out v2 w3 hR3)
        obtain ⟨vo, vcap, ev, _⟩ := hR3
        subst ev
        have HE := Lib.hid (HBW.out.trans ((HB1.out.trans (hb3.mono HB1.out.size)).mono HBW.out.size))
        clear hb3
        go_wp2_with fail
        go_loopw [9, 10] (fun u i wq => ∃ (m : Nat) (W : ByteArray), m ≤ TS.length ∧ i = .int .i64 m ∧ u = .string W ∧ Hid (W.data.toList = ((TS.take m).map fun t => U.Tk.say t.tk).flatten) ∧ w3 = wq) (fun _ i _ => TS.length - (intOf i).toNat)
        case atStart => exact ⟨0, ⟨#[]⟩, Nat.zero_le _, rfl, rfl, Lib.hid rfl, rfl⟩
        case round =>
          obtain ⟨m, W, hm, rfl, rfl, HWT, rfl⟩ := hrel
          have hws : W.size ≤ 600 * m := by
            have h1 : W.size = (((TS.take m).map fun t => U.Tk.say t.tk).flatten).length := by rw [← HWT.out, Array.length_toList]; rfl
            rw [h1]
            exact HSL.out m
          by_cases hlm : m < TS.length
          · have hx := List.getElem?_eq_getElem hlm
            generalize TS[m]'hlm = t at hx
            obtain ⟨_, _, e9, hc9⟩ := HR1b.out
            injection e9 with e91 e92 e93
            subst e91
            obtain ⟨g, o, av, rfl, hgb, c0, _, _, _, c4, _⟩ := hc9 m t hx
            have HST := Lib.hid (say_take hx)
            have htx5 := HTX.out t (List.mem_of_getElem? hx)
            have hm0 : (0 : Int) ≤ (m : Int) := by omega
            have hm1 : (m : Int) < (TS.length : Int) := by omega
            by_cases hk3 : t.kind = 3
            · have hk3i : (t.kind : Int) = 3 := by omega
              have HS3 := Lib.hid (show U.Tk.say t.tk = t.text from if_pos hk3i)
              have n5 : ¬ 9223372036854775807 < W.size + t.text.length := by omega
              clear hx hc9
              go_wp2_with fail
              go_roundw
              case rel => exact ⟨m + 1, _, by omega, by go_num, rfl, Lib.hid (by rw [HST.out, HS3.out, ← HWT.out]; simp [ByteArray.data_append, Array.toList_append]), trivial⟩
              case measure => simp [intOf]; omega
            · have hk3i : ¬ (t.kind : Int) = 3 := by omega
              have HS3 := Lib.hid (show U.Tk.say t.tk = [] from if_neg hk3i)
              clear hx hc9
              go_wp2_with fail
              go_roundw
              case rel => exact ⟨m + 1, _, by omega, by go_num, rfl, Lib.hid (by rw [HST.out, HS3.out, ← HWT.out, List.append_nil]), trivial⟩
              case measure => simp [intOf]; omega
          · obtain rfl : m = TS.length := by omega
            have hz : ¬ (TS.length : Int) < (TS.length : Int) := by omega
            have HWE := Lib.hid (show W.data.toList = U.wdL L by rw [HWT.out, List.take_length, HWD.out]; rfl)
            go_wp2_with fail
            refine HW2.out.mono ?_
            rintro e w5 ⟨X, rfl, hX, hb5⟩
            obtain rfl : X = W := ByteArray.ext (Array.ext' (hX.trans HWE.out.symm))
            have HE5 := Lib.hid (HE.out.trans (hb5.mono HE.out.size))
            clear hX hb5
            go_wp2_with fail
            go_ret
            exact ⟨rfl, HE5.out⟩

end Go.Proofs.YtankcnikebcpkaaGreatDoor

/- The reference: startText, EmitText. -/
import Derived.Test.YtfockedeikdbjaaRefFault
import Derived.Test.YtfockedeikdbjaaEmitText
import Derived.Test.YtfockedeikdbjaaRefEscape
import Derived.Test.YtfockedeikdbjaaRdKC
import Derived.Deep.RegionWith
namespace Go.Proofs.Ytfockedeikdbjaa
open Go.RowKit

theorem att_len {a : U.Att} (h1 : a.1.length ≤ 12) (h2 : a.2.length ≤ 1048576) : (U.attE a).length ≤ 6291472 := by
  have h3 := (U.esc_length true a.2).2
  have : (U.attE a).length = a.1.length + (U.esc true a.2).length + 4 := by simp [U.attE]; omega
  omega

set_option maxHeartbeats 8000000 in
set_option maxRecDepth 1000000 in
theorem start_text (nm : List UInt8) (ao : Option Addr) (cap : Nat) (al : List U.Att) (w : World) (hA : RdA w w.heap.size (.slice ao al.length cap) al) (hn : nm.length ≤ 12) (h4 : al.length ≤ 4) (ha : ∀ a ∈ al, a.1.length ≤ 12 ∧ a.2.length ≤ 1048576) :
    Calls Try.prog 19 #[.string ⟨nm.toArray⟩, .slice ao al.length cap] w fun e w' => (∃ T : ByteArray, e = .returned (.string T) ∧ T.data.toList = 60 :: (nm ++ al.flatMap U.attE) ∧ T.size ≤ 25165901) ∧ Below w.heap.size w w' := by
  have hns : (ByteArray.mk nm.toArray).size = nm.length := size_of_mk _
  have HA := Lib.hid hA
  have HN := Lib.hid ha
  have s0 : (ByteArray.mk #[60]).size = 1 := rfl
  have s1 : (ByteArray.mk #[32]).size = 1 := rfl
  have s2 : (ByteArray.mk #[61, 34]).size = 2 := rfl
  have s3 : (ByteArray.mk #[34]).size = 1 := rfl
  clear hA ha
  go_enter Try.func19, Try.ntmps19
  go_wp2_with fail
  go_loopw [5, 12] (fun tv i wr => ∃ (k : Nat) (T : ByteArray), k ≤ al.length ∧ i = .int .i64 k ∧ tv = .string T ∧ Hid (T.data.toList = 60 :: (nm ++ (al.take k).flatMap U.attE)) ∧ T.size ≤ 13 + 6291472 * k ∧ Below w.heap.size w wr) (fun _ i _ => al.length - (intOf i).toNat)
  case atStart => exact ⟨0, _, Nat.zero_le _, rfl, rfl, (by show _ = _; simp), by rw [ByteArray.size_append, hns, s0]; omega, Below.refl _ _⟩
  case round =>
    obtain ⟨k, T, hk, rfl, rfl, hT, hTs, hbw⟩ := hrel
    by_cases hlt : k < al.length
    · have hx := List.getElem?_eq_getElem hlt
      have hm := List.getElem_mem hlt
      generalize al[k]'hlt = x at hx hm
      obtain ⟨g, o, rfl, hg, d0, d1⟩ := HA.out.at hx
      have c0 := (hbw.cell (p := ⟨g, o + k * 2, none⟩) hg).trans d0
      have c1 := (hbw.cell (p := ⟨g, o + k * 2 + 1, none⟩) hg).trans d1
      have hk0 : (0 : Int) ≤ (k : Int) := Int.natCast_nonneg _
      have hk1 : (k : Int) < (al.length : Int) := by omega
      have hbs := hbw.size
      have hx1 : (ByteArray.mk x.1.toArray).size = x.1.length := size_of_mk _
      obtain ⟨hx12, hx2⟩ := HN.out x hm
      have hesc := fun W => ref_escape ⟨x.2.toArray⟩ true W (by rw [size_of_mk]; omega)
      rw [list_of_mk] at hesc
      have hal := att_len hx12 hx2
      obtain ⟨E, hE⟩ : ∃ E, U.esc true x.2 = E := ⟨_, rfl⟩
      have hatt : U.attE x = 32 :: (x.1 ++ 61 :: 34 :: (E ++ [34])) := by unfold U.attE; rw [hE]
      rw [hE] at hesc
      have hEs : (ByteArray.mk E.toArray).size = E.length := size_of_mk _
      have hatl : (U.attE x).length = x.1.length + E.length + 4 := by rw [hatt]; simp; omega
      have hEl : x.1.length + E.length + 4 ≤ 6291472 := by omega
      have hnx : (al.take (k + 1)).flatMap U.attE = (al.take k).flatMap U.attE ++ U.attE x := by
        obtain ⟨hk', e⟩ := List.getElem?_eq_some_iff.1 hx
        rw [List.take_succ_eq_append_getElem hk', e, List.flatMap_append]
        simp
      have HE := Lib.hid hesc
      have HT := Lib.hid hatt
      have HNX := Lib.hid hnx
      have hqa := heap_alloc_new wr (.cells #[.string ⟨x.1.toArray⟩, .string ⟨x.2.toArray⟩] 49 (0, 0))
      have HQA := Lib.hid hqa
      have n1 : ¬ 9223372036854775807 < 1 + x.1.length := by omega
      have n2 : ¬ 9223372036854775807 < 1 + x.1.length + 2 := by omega
      have n3 : ¬ 9223372036854775807 < 1 + x.1.length + 2 + E.length := by omega
      have n4 : ¬ 9223372036854775807 < 1 + x.1.length + 2 + E.length + 1 := by omega
      have n5 : ¬ 9223372036854775807 < T.size + (1 + x.1.length + 2 + E.length + 1) := by omega
      clear hx hm d0 d1 hesc hal hE hatt hatl hnx hqa
      go_wp2_with fail
      go_region_with (go_at_call 18; refine (HE.out _).mono ?_; rintro e w5 ⟨rfl, hb5⟩; have v0 : w5.cell? ⟨wr.heap.size, 0, none⟩ = some (.string ⟨x.1.toArray⟩) := (hb5.cell (p := ⟨wr.heap.size, 0, none⟩) (by simp)).trans (by show (wr.alloc _).cell? _ = _; rw [Lib.cell_of_heap HQA.out]; rfl))
      all_goals
        have hb7 : Below w.heap.size w w5 := ((hbw.alloc hbs _).drew).trans (hb5.mono (by simp; omega))
        have hT2 : Hid ((T ++ (ByteArray.mk #[32] ++ ByteArray.mk x.1.toArray ++ ByteArray.mk #[61, 34] ++ ByteArray.mk E.toArray ++ ByteArray.mk #[34])).data.toList = 60 :: (nm ++ (al.take (k + 1)).flatMap U.attE)) := by
          show _ = _
          have e : (ByteArray.mk #[32] ++ ByteArray.mk x.1.toArray ++ ByteArray.mk #[61, 34] ++ ByteArray.mk E.toArray ++ ByteArray.mk #[34]).data.toList = U.attE x := by rw [HT.out]; simp
          have e2 := hT.out
          rw [HNX.out, ← e]
          simp only [ByteArray.data_append, Array.toList_append, e2]
          simp
        clear hb5
        go_wp2_with fail
        go_roundw
        case rel => exact ⟨k + 1, _, by omega, by go_num, rfl, hT2, by simp only [ByteArray.size_append, hx1, hEs, s1, s2, s3]; omega, hb7⟩
        case measure => simp [intOf]; omega
    · have hall : al.take k = al := List.take_of_length_le (by omega)
      rw [hall] at hT
      clear hall
      go_wp2_with fail
      go_ret
      exact ⟨⟨T, rfl, hT.out, by omega⟩, hbw⟩

set_option maxHeartbeats 8000000 in
set_option maxRecDepth 1000000 in
theorem ref_etext (v : Value) (l : List U.Tk) (w : World) (hL : RdKC w w.heap.size v l) (hz : l.length ≤ most) (hs : ∀ t ∈ l, Small 1048576 t) :
    Calls Try.prog 9 #[v] w fun e w' => e = .returned (.tuple #[.string ⟨(U.textOf l).1.toArray⟩, .int .i64 ((U.textOf l).2 : Nat)]) ∧ Below w.heap.size w w' := by
  have hc := emit_fault v l w hL.1 hz (fun t ht => (hs t ht).fits.more (by unfold most; omega))
  obtain ⟨ao, cap, rfl, hcap⟩ := hL.len
  have hzz : l.length ≤ 9223372036854775807 := hz
  by_cases h0 : U.fault l = 0
  · rw [h0, show ((0 : Nat) : Int) = 0 from rfl] at hc
    have h300 : l.length ≤ 300 := by unfold U.fault at h0; split at h0; cases h0; omega
    have hft : ∀ t ∈ l, _ := U.faults_tok l false (by unfold U.fault at h0; split at h0; cases h0; exact h0)
    have hR : U.textOf l = if 600 < (U.emit (l.map U.Tk.tok)).length then ([], 1) else (U.emit (l.map U.Tk.tok), 0) := by unfold U.textOf; rw [if_pos h0]
    obtain ⟨R, hRR⟩ : ∃ R, U.textOf l = R := ⟨_, rfl⟩
    rw [hRR] at hR
    rw [hRR]
    have HR := Lib.hid hR
    have HC := Lib.hid hc
    have HL := Lib.hid hL
    have HS := Lib.hid hs
    have HF := Lib.hid hft
    clear hc hL hs hft hR hRR h0
    go_enter Try.func9, Try.ntmps9
    go_wp2_with (go_at_call 7; refine HC.out.mono ?_; rintro e w2 ⟨rfl, hb2⟩)
    have hs2 := hb2.size
    go_loopw [5, 15] (fun tv i wr => ∃ (k : Nat) (T : ByteArray), k ≤ l.length ∧ i = .int .i64 k ∧ tv = .string T ∧ Hid (T.data.toList = U.emit ((l.take k).map U.Tk.tok)) ∧ T.size ≤ 30000000 * k ∧ Below w.heap.size w wr) (fun _ i _ => l.length - (intOf i).toNat)
    case atStart => exact ⟨0, ⟨#[]⟩, Nat.zero_le _, rfl, rfl, rfl, Nat.le_refl _, hb2⟩
    case round =>
      obtain ⟨k, T, hk, rfl, rfl, hT, hTs, hbw⟩ := hrel
      have hbs := hbw.size
      by_cases hlt : k < l.length
      · have hx := List.getElem?_eq_getElem hlt
        have hm := List.getElem_mem hlt
        generalize l[k]'hlt = x at hx hm
        obtain ⟨g, o, aoA, capA, rfl, hg, d0, d1, d2, d3, d4, hA, hcA⟩ := HL.out.at hx
        have c0 := (hbw.cell (p := ⟨g, o + k * 5, none⟩) hg).trans d0
        have c1 := (hbw.cell (p := ⟨g, o + k * 5 + 1, none⟩) hg).trans d1
        have c2 := (hbw.cell (p := ⟨g, o + k * 5 + 2, none⟩) hg).trans d2
        have c3 := (hbw.cell (p := ⟨g, o + k * 5 + 3, none⟩) hg).trans d3
        have c4 := (hbw.cell (p := ⟨g, o + k * 5 + 4, none⟩) hg).trans d4
        have hk0 : (0 : Int) ≤ (k : Int) := Int.natCast_nonneg _
        have hk1 : (k : Int) < (l.length : Int) := by omega
        have hbN := hbw.alloc hbs (.cells #[.int .i64 x.kind, .string ⟨x.name.toArray⟩, .slice aoA x.attrs.length capA, .bool x.self, .string ⟨x.text.toArray⟩] 33 (0, 0))
        have hxk := HF.out x hm
        obtain ⟨m1, m2, m3, m4⟩ := HS.out x hm
        have het := U.emit_take hx
        have hns : (ByteArray.mk x.name.toArray).size = x.name.length := size_of_mk _
        have hfin : ∀ Y : ByteArray, Y.data.toList = U.tokE x.tok → Hid ((T ++ Y).data.toList = U.emit ((l.take (k + 1)).map U.Tk.tok)) := fun Y hY => by
          show _ = _
          rw [het, ← hT.out, ← hY]
          simp
        have HFIN := Lib.hid hfin
        have HXK := Lib.hid hxk
        have hx0 := hx
        clear hx hm het hfin d0 d1 d2 d3 d4
        by_cases k3 : x.kind = 3
        · have b3 : (x.kind == 3) = true := by rw [k3]; rfl
          have hE : U.tokE x.tok = U.esc false x.text := by
            unfold U.tokE U.Tk.tok
            rw [k3]
            rfl
          have hesc := fun W => ref_escape ⟨x.text.toArray⟩ false W (by rw [size_of_mk]; omega)
          rw [list_of_mk] at hesc
          have hel := (U.esc_length false x.text).2
          rw [hE] at HFIN
          generalize U.esc false x.text = E at hesc hel HFIN
          have hEs : (ByteArray.mk E.toArray).size = E.length := size_of_mk _
          have HE := Lib.hid hesc
          have hT2 := HFIN.out ⟨E.toArray⟩ rfl
          clear k3 hE hesc HFIN hxk
          go_wp2_with (go_at_call 18; refine (HE.out _).mono ?_; rintro e w5 ⟨rfl, hb5⟩)
          go_roundw
          case rel => exact ⟨k + 1, _, by omega, by go_num, rfl, hT2, by rw [ByteArray.size_append, hEs]; omega, hbN.trans (hb5.mono hbN.size)⟩
          case measure => simp [intOf]; omega
        have b3 : (x.kind == 3) = false := beq_eq_false_iff_ne.2 k3
        by_cases k2 : x.kind = 2
        · have b2 : (x.kind == 2) = true := by rw [k2]; rfl
          have hE : U.tokE x.tok = U.endE x.name := by
            unfold U.tokE U.Tk.tok
            rw [k2]
            rfl
          have hnm : x.name.length ≤ 12 := by
            rcases HXK.out with h | ⟨_, h, _⟩ | ⟨_, h, _⟩
            · omega
            · exact U.isName_le h
            · exact U.isName_le h
          have s1 : (ByteArray.mk #[60, 47]).size = 2 := rfl
          have s2 : (ByteArray.mk #[62]).size = 1 := rfl
          have hT2 := HFIN.out (ByteArray.mk #[60, 47] ++ ByteArray.mk x.name.toArray ++ ByteArray.mk #[62]) (by rw [hE]; simp [U.endE])
          clear k3 k2 hE HFIN hxk
          go_wp2_with fail
          go_roundw
          case rel => exact ⟨k + 1, _, by omega, by go_num, rfl, hT2, by simp only [ByteArray.size_append, hns, s1, s2]; omega, hbN⟩
          case measure => simp [intOf]; omega
        have b2 : (x.kind == 2) = false := beq_eq_false_iff_ne.2 k2
        have k1 : x.kind = 1 ∧ U.isName x.name = true ∧ U.attsOk x.attrs := by
          rcases HXK.out with h | ⟨h, _⟩ | h
          · exact absurd h k3
          · exact absurd h k2
          · exact h
        obtain ⟨k1, kn, ka1, ka2, ka3⟩ := k1
        have hnm := U.isName_le kn
        have hst := start_text x.name aoA capA x.attrs (wr.alloc (.cells #[.int .i64 x.kind, .string ⟨x.name.toArray⟩, .slice aoA x.attrs.length capA, .bool x.self, .string ⟨x.text.toArray⟩] 33 (0, 0))) ((hA.keep fun p hp => hbN.cell hp).more hbN.size) hnm ka2 (fun a ha => ⟨U.isName_le (ka1 a ha), (m4 a ha).2⟩)
        have hE : U.tokE x.tok = 60 :: (x.name ++ x.attrs.flatMap U.attE) ++ U.tailE x.self := by
          unfold U.tokE U.Tk.tok
          rw [k1]
          show U.startE x.name x.attrs x.self = _
          simp [U.startE]
        rw [hE] at HFIN
        have HST := Lib.hid hst
        clear k3 k2 k1 kn ka1 ka3 hst hE hxk hA m4
        have s1 : (ByteArray.mk #[47, 62]).size = 2 := rfl
        have s2 : (ByteArray.mk #[62]).size = 1 := rfl
        cases hsf : x.self with
        | true =>
          rw [hsf] at HFIN HST
          go_wp2_with (go_at_call 19; refine HST.out.mono ?_; rintro e w5 ⟨⟨Y, rfl, hY, hYs⟩, hb5⟩; have hT2 := HFIN.out (Y ++ ByteArray.mk #[47, 62]) (by simp only [ByteArray.data_append, Array.toList_append, hY]; rfl); have HY := Lib.hid hY; clear hY)
          go_roundw
          case rel => exact ⟨k + 1, _, by omega, by go_num, rfl, hT2, by simp only [ByteArray.size_append, s1]; omega, (hbw.alloc hbs _).trans (hb5.mono (hbw.alloc hbs _).size)⟩
          case measure => simp [intOf]; omega
        | false =>
          rw [hsf] at HFIN HST
          go_wp2_with (go_at_call 19; refine HST.out.mono ?_; rintro e w5 ⟨⟨Y, rfl, hY, hYs⟩, hb5⟩; have hT2 := HFIN.out (Y ++ ByteArray.mk #[62]) (by simp only [ByteArray.data_append, Array.toList_append, hY]; rfl); have HY := Lib.hid hY; clear hY)
          go_roundw
          case rel => exact ⟨k + 1, _, by omega, by go_num, rfl, hT2, by simp only [ByteArray.size_append, s2]; omega, (hbw.alloc hbs _).trans (hb5.mono (hbw.alloc hbs _).size)⟩
          case measure => simp [intOf]; omega
      · have hall : l.take k = l := List.take_of_length_le (by omega)
        rw [hall] at hT
        have hTl : T.size = (U.emit (l.map U.Tk.tok)).length := by rw [← hT.out, Array.length_toList]; rfl
        have HTL := Lib.hid hTl
        clear hall hTl
        by_cases h6 : 600 < T.size
        · have h6z : (600 : Int) < (T.size : Int) := by omega
          go_wp2_with fail
          go_ret2
          refine ⟨?_, hbw⟩
          have h10 := HR.out
          rw [if_pos (by rw [← HTL.out]; exact h6)] at h10
          rw [h10]
          rfl
        · have h6z : ¬ (600 : Int) < (T.size : Int) := by omega
          go_wp2_with fail
          go_ret2
          refine ⟨?_, hbw⟩
          have h10 := HR.out
          rw [if_neg (by rw [← HTL.out]; exact h6)] at h10
          rw [h10]
          show Ending.returned (.tuple #[.string T, .int .i64 0]) = .returned (.tuple #[.string ⟨(U.emit (l.map U.Tk.tok)).toArray⟩, .int .i64 0])
          rw [← hT.out]
  · have hR : U.textOf l = ([], U.fault l) := by unfold U.textOf; rw [if_neg h0]
    rw [hR]
    have hne : (((U.fault l : Nat) : Int) != 0) = true := bne_iff_ne.2 (by omega)
    generalize U.fault l = R at hc hne
    have HC := Lib.hid hc
    clear hc hL hs h0 hR
    show Calls _ _ _ _ fun e w' => e = .returned (.tuple #[.string ⟨#[]⟩, .int .i64 (R : Int)]) ∧ _
    go_enter Try.func9, Try.ntmps9
    go_wp2_with (go_at_call 7; refine HC.out.mono ?_; rintro e w2 ⟨rfl, hb2⟩)
    go_ret2
    exact ⟨rfl, hb2⟩

end Go.Proofs.Ytfockedeikdbjaa

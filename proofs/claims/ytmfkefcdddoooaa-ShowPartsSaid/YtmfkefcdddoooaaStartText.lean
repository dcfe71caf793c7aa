/- The reference: startText. -/
import Derived.Test.YtmfkefcdddoooaaRefAtts
import Derived.Test.YtmfkefcdddoooaaEmitText
import Derived.Test.YtmfkefcdddoooaaRefEscape
import Derived.Test.YtmfkefcdddoooaaRdKC
import Derived.Deep.RegionWith
namespace Go.Proofs.Ytmfkefcdddoooaa
open Go.RowKit

theorem att_len {a : U.Att} (h1 : a.1.length ≤ 12) (h2 : a.2.length ≤ 1048576) : (U.attE a).length ≤ 6291472 := by
  have h3 := (U.esc_length true a.2).2
  have : (U.attE a).length = a.1.length + (U.esc true a.2).length + 4 := by simp [U.attE]; omega
  omega

set_option maxHeartbeats 8000000 in
set_option maxRecDepth 1000000 in
theorem start_text (nm : List UInt8) (ao : Option Addr) (cap : Nat) (al : List U.Att) (w : World) (hA : RdA w w.heap.size (.slice ao al.length cap) al) (hn : nm.length ≤ 12) (h4 : al.length ≤ 4) (ha : ∀ a ∈ al, a.1.length ≤ 12 ∧ a.2.length ≤ 1048576) :
    Calls Try.prog 56 #[.string ⟨nm.toArray⟩, .slice ao al.length cap] w fun e w' => (∃ T : ByteArray, e = .returned (.string T) ∧ T.data.toList = 60 :: (nm ++ al.flatMap U.attE) ∧ T.size ≤ 25165901) ∧ Below w.heap.size w w' := by
  have hns : (ByteArray.mk nm.toArray).size = nm.length := size_of_mk _
  have HA := Lib.hid hA
  have HN := Lib.hid ha
  have s0 : (ByteArray.mk #[60]).size = 1 := rfl
  have s1 : (ByteArray.mk #[32]).size = 1 := rfl
  have s2 : (ByteArray.mk #[61, 34]).size = 2 := rfl
  have s3 : (ByteArray.mk #[34]).size = 1 := rfl
  clear hA ha
  go_enter Try.func56, Try.ntmps56
  go_wp2_with fail
  go_loopw [5, 12] (fun tv i wr => ∃ (k : Nat) (T : ByteArray), k ≤ al.length ∧ i = .int .i64 k ∧ tv = .string T ∧ Hid (T.data.toList = 60 :: (nm ++ (al.take k).flatMap U.attE)) ∧ T.size ≤ 13 + 6291472 * k ∧ Below w.heap.size w wr) (fun _ i _ => al.length - (intOf i).toNat)
  case atStart => exact ⟨0, _, Nat.zero_le _, rfl, rfl, (by show _ = _; simp), by rw [ByteArray.size_append, hns, s0]; omega, Below.refl _ _⟩
  case round =>
    obtain ⟨k, T, hk, rfl, rfl, hT, hTs, hbw⟩ := hrel
    by_cases hlt : k < al.length
    · have hx := List.getElem?_eq_getElem hlt
      have hm := List.getElem_mem hlt
      generalize al[k]'hlt = x at hx hm
      obtain ⟨g, o, rfl, hg, d0, d1⟩ := HA.out.at hx
      have c0 := (hbw.cell (p := ⟨g, o + k * 2, none⟩) hg).trans d0
      have c1 := (hbw.cell (p := ⟨g, o + k * 2 + 1, none⟩) hg).trans d1
      have hk0 : (0 : Int) ≤ (k : Int) := Int.natCast_nonneg _
      have hk1 : (k : Int) < (al.length : Int) := by omega
      have hbs := hbw.size
      have hx1 : (ByteArray.mk x.1.toArray).size = x.1.length := size_of_mk _
      obtain ⟨hx12, hx2⟩ := HN.out x hm
      have hesc := fun W => ref_escape ⟨x.2.toArray⟩ true W (by rw [size_of_mk]; omega)
      rw [list_of_mk] at hesc
      have hal := att_len hx12 hx2
      obtain ⟨E, hE⟩ : ∃ E, U.esc true x.2 = E := ⟨_, rfl⟩
      have hatt : U.attE x = 32 :: (x.1 ++ 61 :: 34 :: (E ++ [34])) := by unfold U.attE; rw [hE]
      rw [hE] at hesc
      have hEs : (ByteArray.mk E.toArray).size = E.length := size_of_mk _
      have hatl : (U.attE x).length = x.1.length + E.length + 4 := by rw [hatt]; simp; omega
      have hEl : x.1.length + E.length + 4 ≤ 6291472 := by omega
      have hnx : (al.take (k + 1)).flatMap U.attE = (al.take k).flatMap U.attE ++ U.attE x := by
        obtain ⟨hk', e⟩ := List.getElem?_eq_some_iff.1 hx
        rw [List.take_succ_eq_append_getElem hk', e, List.flatMap_append]
        simp
      have HE := Lib.hid hesc
      have HT := Lib.hid hatt
      have HNX := Lib.hid hnx
      have hqa := heap_alloc_new wr (.cells #[.string ⟨x.1.toArray⟩, .string ⟨x.2.toArray⟩] 48 (0, 0))
      have HQA := Lib.hid hqa
      have n1 : ¬ 9223372036854775807 < 1 + x.1.length := by omega
      have n2 : ¬ 9223372036854775807 < 1 + x.1.length + 2 := by omega
      have n3 : ¬ 9223372036854775807 < 1 + x.1.length + 2 + E.length := by omega
      have n4 : ¬ 9223372036854775807 < 1 + x.1.length + 2 + E.length + 1 := by omega
      have n5 : ¬ 9223372036854775807 < T.size + (1 + x.1.length + 2 + E.length + 1) := by omega
      clear hx hm d0 d1 hesc hal hE hatt hatl hnx hqa
      go_wp2_with fail
      go_region_with (go_at_call 55; refine (HE.out _).mono ?_; rintro e w5 ⟨rfl, hb5⟩; have v0 : w5.cell? ⟨wr.heap.size, 0, none⟩ = some (.string ⟨x.1.toArray⟩) := (hb5.cell (p := ⟨wr.heap.size, 0, none⟩) (by simp)).trans (by show (wr.alloc _).cell? _ = _; rw [Lib.cell_of_heap HQA.out]; rfl))
      all_goals
        have hb7 : Below w.heap.size w w5 := ((hbw.alloc hbs _).drew).trans (hb5.mono (by simp; omega))
        have hT2 : Hid ((T ++ (ByteArray.mk #[32] ++ ByteArray.mk x.1.toArray ++ ByteArray.mk #[61, 34] ++ ByteArray.mk E.toArray ++ ByteArray.mk #[34])).data.toList = 60 :: (nm ++ (al.take (k + 1)).flatMap U.attE)) := by
          show _ = _
          have e : (ByteArray.mk #[32] ++ ByteArray.mk x.1.toArray ++ ByteArray.mk #[61, 34] ++ ByteArray.mk E.toArray ++ ByteArray.mk #[34]).data.toList = U.attE x := by rw [HT.out]; simp
          have e2 := hT.out
          rw [HNX.out, ← e]
          simp only [ByteArray.data_append, Array.toList_append, e2]
          simp
        clear hb5
        go_wp2_with fail
        go_roundw
        case rel => exact ⟨k + 1, _, by omega, by go_num, rfl, hT2, by simp only [ByteArray.size_append, hx1, hEs, s1, s2, s3]; omega, hb7⟩
        case measure => simp [intOf]; omega
    · have hall : al.take k = al := List.take_of_length_le (by omega)
      rw [hall] at hT
      clear hall
      go_wp2_with fail
      go_ret
      exact ⟨⟨T, rfl, hT.out, by omega⟩, hbw⟩

end Go.Proofs.Ytmfkefcdddoooaa

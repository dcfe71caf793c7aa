/- emit.escape, emit.writeStart, emit.writeToken. -/
import Derived.Test.YtmfkefcdddoooaaCheckNames
import Derived.Test.YtmfkefcdddoooaaEmitText
import Derived.Test.YtmfkefcdddoooaaEscape
import Derived.Deep.RegionWith
namespace Go.Proofs.Ytmfkefcdddoooaa
open Go.RowKit

theorem bld_lt {B b : Nat} {l : List UInt8} {w : World} (h : Bld B b l w) : b < w.heap.size := by
  rcases h with h | h <;> exact h.lt
theorem bld_base {B b : Nat} {l : List UInt8} {w : World} (h : Bld B b l w) : B ≤ b := by
  rcases h with h | h <;> exact h.1
theorem bld_below {B b : Nat} {l : List UInt8} {w w' : World} (h : Bld B b l w) (hb : Below w.heap.size w w') : Bld B b l w' := by
  rcases h with h | h
  · have hlt := h.lt
    obtain ⟨hB, v, hbk, hown, hne⟩ := h
    exact .inl ⟨hB, v, (hb.block b hlt).trans hbk, hown.kept (row := none) ⟨hb.os, hb.tape, hb.output, hb.size, fun i hi _ => hb.block i hi⟩ (by
      rcases v.ownBlock with _ | b
      · exact .inl rfl
      · right; simp), hne⟩
  · exact .inr (bldAt_below h hb)
theorem OthersKeptRefl (b : Nat) (w : World) : Kept b w w := Lib.OthersKept.refl _ _ w
theorem kept_below {b : Nat} {w w' : World} (h : Below w.heap.size w w') : Kept b w w' := fun k _ hk _ _ => (h.block k (Array.getElem?_eq_some_iff.1 hk).1).trans hk
theorem kept_cell {b q : Nat} {w w' : World} {cs : Array Value} {e : TypeId} {fz : Nat × Nat} (h : Kept b w w') (hq : w.heap[q]? = some (.cells cs e fz)) (hb : q ≠ b) (he : e ≠ 5) : w'.heap[q]? = some (.cells cs e fz) :=
  h q _ hq (fun x => hb (Option.some.inj x)) (fun c f x => he (by injection x))

set_option maxHeartbeats 4000000 in
set_option maxRecDepth 1000000 in
theorem escape_cut (s : ByteArray) (q : Bool) (w : World) :
    Calls Try.prog 43 #[.string s, .bool q] w fun e w' => e = .returned (.string ⟨(U.esc q (s.data.toList.take 601)).toArray⟩) ∧ Below w.heap.size w w' := by
  have hl : s.data.toList.length = s.size := by rw [Array.length_toList]; rfl
  have hz : (s.extract 0 (min (s.size : Int) 601).toNat).size ≤ 601 := by rw [ByteArray.size_extract]; omega
  have he := escape_walk (s.extract 0 (min (s.size : Int) 601).toNat) q w (by omega)
  have hx : (s.extract 0 (min (s.size : Int) 601).toNat).data.toList = s.data.toList.take 601 := by
    rw [Lib.extract_data, List.drop_zero, Nat.sub_zero]
    by_cases h : s.size ≤ 601
    · rw [List.take_of_length_le (by omega), List.take_of_length_le (by omega)]
    · rw [show (min (s.size : Int) 601).toNat = 601 by omega]
  rw [hx] at he
  have HE := Lib.hid he
  have hm1 : (0 : Int) ≤ min (s.size : Int) 601 := by omega
  have hm2 : min (s.size : Int) 601 ≤ (s.size : Int) := by omega
  clear he hl hx hz
  go_enter Try.func43, Try.ntmps43
  go_wp2_with (go_at_call 60; refine HE.out.mono ?_; rintro e w' ⟨rfl, hb'⟩)
  go_ret
  exact ⟨rfl, hb'⟩

set_option maxHeartbeats 8000000 in
set_option maxRecDepth 1000000 in
theorem write_start (B b : Nat) (acc : List UInt8) (t : U.Tk) (ao : Option Addr) (cap : Nat) (w : World) (h : Bld B b acc w) (hB : B ≤ w.heap.size) (hA : RdA w B (.slice ao t.attrs.length cap) t.attrs) (hf : Fits most t)
    (hn : t.name.length ≤ 12) (ha4 : t.attrs.length ≤ 4) (han : ∀ a ∈ t.attrs, a.1.length ≤ 12) (hacc : acc.length ≤ 600) :
    Calls Try.prog 41 #[.pointer (some ⟨b, 0, none⟩), tkVal t ao cap] w fun e w' => e = .returned (.tuple #[]) ∧ BldAt B b (acc ++ U.startC t.name t.attrs t.self) w' ∧ Below B w w' ∧ Kept b w w' := by
  have HA := Lib.hid hA
  have HN := Lib.hid han
  have HH := Lib.hid h
  have HF := Lib.hid hf
  clear hA han h hf
  unfold tkVal
  have hns : (ByteArray.mk t.name.toArray).size = t.name.length := size_of_mk _
  have hq := heap_alloc_new w (.cells #[.int .i64 t.kind, .string ⟨t.name.toArray⟩, .slice ao t.attrs.length cap, .bool t.self, .string ⟨t.text.toArray⟩] 31 (0, 0))
  have HQ := Lib.hid hq
  clear hq
  go_enter Try.func41, Try.ntmps41
  have hb4 := (Below.refl w.heap.size w).alloc (Nat.le_refl _) (.cells #[.int .i64 t.kind, .string ⟨t.name.toArray⟩, .slice ao t.attrs.length cap, .bool t.self, .string ⟨t.text.toArray⟩] 31 (0, 0))
  have hbb : b < w.heap.size := by
    have h := HH.out
    exact bld_lt h
  have hneb : w.heap.size ≠ b := by omega
  have HB4 := Lib.hid hb4
  have hBB : B ≤ b := bld_base HH.out
  have hw1 : ∀ W acc', Bld B b acc' W → B ≤ W.heap.size → acc'.length ≤ 20000 → ∀ s : ByteArray, s.size ≤ 20000 → Calls Try.prog 42 #[.pointer (some ⟨b, 0, none⟩), .string s] W fun e w' => e = .returned (.tuple #[.int .i64 s.size, .nilIface]) ∧ BldAt B b (acc' ++ s.data.toList) w' ∧ Below B W w' ∧ Kept b W w' :=
    fun W acc' h hB hl s hs => write_string B b acc' s W h (by omega) hB
  have HW := Lib.hid hw1
  clear hb4 hw1
  have hs0 : (ByteArray.mk #[60]).size = 1 := rfl
  go_wp2_with (go_at_call 42; refine (HW.out _ acc (bld_below HH.out ((Below.refl _ w).alloc (Nat.le_refl _) _)) (by simp; omega) (by omega) _ (by rw [ByteArray.size_append, hns, hs0]; omega)).mono ?_; rintro e w2 ⟨rfl, k2, b2, o2⟩; have q2 := kept_cell o2 HQ.out hneb (by decide); have u2 : w2.cell? ⟨w.heap.size, 2, none⟩ = some (.slice ao t.attrs.length cap) := (by rw [Lib.cell_of_heap q2]; rfl))
  have hbw2 : Below B w w2 := ((Below.refl B w).alloc hB _).trans b2
  have hk2 : BldAt B b (acc ++ 60 :: t.name ++ (t.attrs.take 0).flatMap U.attC) w2 := by
    have : (ByteArray.mk #[60] ++ ByteArray.mk t.name.toArray).data.toList = 60 :: t.name := by simp
    rw [this] at k2
    simpa using k2
  clear k2 u2 q2
  go_loopw [14] (fun i wr => ∃ k : Nat, k ≤ t.attrs.length ∧ i = .int .i64 k ∧ BldAt B b (acc ++ 60 :: t.name ++ (t.attrs.take k).flatMap U.attC) wr ∧ Below B w wr ∧
    Kept b (w.alloc (.cells #[.int .i64 t.kind, .string ⟨t.name.toArray⟩, .slice ao t.attrs.length cap, .bool t.self, .string ⟨t.text.toArray⟩] 31 (0, 0))) wr ∧ (acc ++ 60 :: t.name ++ (t.attrs.take k).flatMap U.attC).length ≤ 613 + 3622 * k) (fun i _ => t.attrs.length - (intOf i).toNat)
  case atStart => exact ⟨0, Nat.zero_le _, rfl, hk2, hbw2, o2, by simp; omega⟩
  case round =>
    obtain ⟨k, hk, rfl, hbk, hbw, hkp, hlen⟩ := hrel
    have HBK := Lib.hid hbk
    have HKP := Lib.hid hkp
    have HLEN := Lib.hid hlen
    clear hbk hkp hk2 o2 hlen
    have hbs := hbw.size
    by_cases hlt : k < t.attrs.length
    · have hx := List.getElem?_eq_getElem hlt
      have hm := List.getElem_mem hlt
      generalize t.attrs[k]'hlt = x at hx hm
      obtain ⟨g, o, rfl, hg, d0, d1⟩ := HA.out.at hx
      have c0 := (hbw.cell (p := ⟨g, o + k * 2, none⟩) hg).trans d0
      have c1 := (hbw.cell (p := ⟨g, o + k * 2 + 1, none⟩) hg).trans d1
      have hk0 : (0 : Int) ≤ (k : Int) := Int.natCast_nonneg _
      have hk1 : (k : Int) < (t.attrs.length : Int) := by omega
      have hx1 : (ByteArray.mk x.1.toArray).size = x.1.length := size_of_mk _
      have hx12 := HN.out x hm
      have hesc := fun W => escape_cut ⟨x.2.toArray⟩ true W
      rw [list_of_mk] at hesc
      have hel := (U.esc_length true (x.2.take 601)).2
      have htl : (x.2.take 601).length ≤ 601 := by rw [List.length_take]; omega
      obtain ⟨E, hE⟩ : ∃ E, U.esc true (x.2.take 601) = E := ⟨_, rfl⟩
      have hatt : U.attC x = 32 :: (x.1 ++ 61 :: 34 :: (E ++ [34])) := by unfold U.attC; rw [hE]
      rw [hE] at hesc hel
      have hEs : (ByteArray.mk E.toArray).size = E.length := size_of_mk _
      have hEl : E.length ≤ 3606 := by omega
      have hnx : (t.attrs.take (k + 1)).flatMap U.attC = (t.attrs.take k).flatMap U.attC ++ U.attC x := by
        obtain ⟨hk', e⟩ := List.getElem?_eq_some_iff.1 hx
        rw [List.take_succ_eq_append_getElem hk', e, List.flatMap_append]
        simp
      have HE := Lib.hid hesc
      have HT := Lib.hid hatt
      have HNX := Lib.hid hnx
      have hqa := heap_alloc_new wr (.cells #[.string ⟨x.1.toArray⟩, .string ⟨x.2.toArray⟩] 48 (0, 0))
      have HQA := Lib.hid hqa
      have s1 : (ByteArray.mk #[32]).size = 1 := rfl
      have s2 : (ByteArray.mk #[61, 34]).size = 2 := rfl
      have s3 : (ByteArray.mk #[34]).size = 1 := rfl
      have n1 : ¬ 9223372036854775807 < 1 + x.1.length := by omega
      have n2 : ¬ 9223372036854775807 < 1 + x.1.length + 2 := by omega
      have n3 : ¬ 9223372036854775807 < 1 + x.1.length + 2 + E.length := by omega
      have n4 : ¬ 9223372036854775807 < 1 + x.1.length + 2 + E.length + 1 := by omega
      clear hx hm d0 d1 hesc hel htl hE hatt hnx hqa
      go_wp2_with fail
      go_region_with (first
        | (go_at_call 43; refine (HE.out _).mono ?_; rintro e w5 ⟨rfl, hb5⟩; have v0 : w5.cell? ⟨wr.heap.size, 0, none⟩ = some (.string ⟨x.1.toArray⟩) := (hb5.cell (p := ⟨wr.heap.size, 0, none⟩) (by simp)).trans (by show (wr.alloc _).cell? _ = _; rw [Lib.cell_of_heap HQA.out]; rfl))
        | (go_at_call 42; refine (HW.out _ _ (.inr (bldAt_below (bldAt_below HBK.out ((Below.refl _ wr).alloc (Nat.le_refl _) _).drew) (hb5.mono (by simp)))) (by have := hb5.size; simp at this; omega) (by have := HLEN.out; omega) _ (by simp only [ByteArray.size_append, hx1, hEs, s1, s2, s3]; omega)).mono ?_; rintro e w6 ⟨rfl, k6, b6, o6⟩))
      all_goals
        have hk6 : BldAt B b (acc ++ 60 :: t.name ++ (t.attrs.take (k + 1)).flatMap U.attC) w6 := by
          have e : (ByteArray.mk #[32] ++ ByteArray.mk x.1.toArray ++ ByteArray.mk #[61, 34] ++ ByteArray.mk E.toArray ++ ByteArray.mk #[34]).data.toList = U.attC x := by rw [HT.out]; simp
          rw [e] at k6
          rw [HNX.out, ← List.append_assoc]
          exact k6
        have hb7 : Below B w w6 := ((((hbw.alloc (Nat.le_trans hB hbs) _).drew).trans (hb5.mono (Nat.le_trans hB (by simp; omega)))).trans b6)
        have hk7 := (((HKP.out.alloc _).drew).trans (kept_below hb5)).trans o6
        have hl7 : (acc ++ 60 :: t.name ++ (t.attrs.take (k + 1)).flatMap U.attC).length ≤ 613 + 3622 * (k + 1) := by
          have h1 := HLEN.out
          have h2 : (U.attC x).length = x.1.length + E.length + 4 := by rw [HT.out]; simp; omega
          rw [HNX.out, ← List.append_assoc, List.length_append, h2]
          omega
        clear k6 hb5 b6 o6
        go_wp2_with fail
        go_roundw
        case rel => exact ⟨k + 1, by omega, by go_num, hk6, hb7, hk7, hl7⟩
        case measure => simp [intOf]; omega
    · have hall : t.attrs.take k = t.attrs := List.take_of_length_le (by omega)
      rw [hall] at HBK HLEN
      have hl : (acc ++ 60 :: t.name ++ t.attrs.flatMap U.attC).length ≤ 15101 := by have := HLEN.out; omega
      have hq9 := kept_cell HKP.out HQ.out hneb (by decide)
      have u3 : wr.cell? ⟨w.heap.size, 3, none⟩ = some (.bool t.self) := by rw [Lib.cell_of_heap hq9]; rfl
      have HL := Lib.hid hl
      clear hq9 hall hl
      have z1 : (ByteArray.mk #[47]).size = 1 := rfl
      have z2 : (ByteArray.mk #[62]).size = 1 := rfl
      have hkp9 : Kept b w wr := fun k o hk hb ho => HKP.out k o (((OthersKeptRefl b w).alloc _) k o hk hb ho) hb ho
      cases hsf : t.self with
      | true =>
        go_wp2_with (go_at_call_of 42 (Value.string (ByteArray.mk #[47])); refine (HW.out _ _ (.inr HBK.out) (by omega) (by have := HL.out; omega) _ (by rw [z1]; omega)).mono ?_; rintro e w6 ⟨rfl, k6, b6, o6⟩)
        have hb6s := b6.size
        refine (HW.out _ _ (.inr k6) (by omega) (by have := HL.out; rw [List.length_append, show (ByteArray.mk #[47]).data.toList.length = 1 from rfl]; omega) ⟨#[62]⟩ (by rw [z2]; omega)).mono ?_
        rintro e w7 ⟨rfl, k7, b7, o7⟩
        go_wp2_with fail
        go_end0
        refine ⟨rfl, ?_, (hbw.trans b6).trans b7, (hkp9.trans o6).trans o7⟩
        have e1 : acc ++ U.startC t.name t.attrs true = acc ++ 60 :: t.name ++ t.attrs.flatMap U.attC ++ (ByteArray.mk #[47]).data.toList ++ (ByteArray.mk #[62]).data.toList := by
          simp [U.startC, U.tailE]
        rw [hsf, e1]
        exact k7
      | false =>
        go_wp2_with (go_at_call 42; refine (HW.out _ _ (.inr HBK.out) (by omega) (by have := HL.out; omega) _ (by rw [z2]; omega)).mono ?_; rintro e w6 ⟨rfl, k6, b6, o6⟩)
        go_end0
        refine ⟨rfl, ?_, hbw.trans b6, hkp9.trans o6⟩
        have e1 : acc ++ U.startC t.name t.attrs false = acc ++ 60 :: t.name ++ t.attrs.flatMap U.attC ++ (ByteArray.mk #[62]).data.toList := by
          simp [U.startC, U.tailE]
        rw [hsf, e1]
        exact k6

set_option maxHeartbeats 8000000 in
set_option maxRecDepth 1000000 in
theorem write_token (B b : Nat) (acc : List UInt8) (t : U.Tk) (ao : Option Addr) (cap : Nat) (w : World) (h : Bld B b acc w) (hB : B ≤ w.heap.size) (hA : RdA w B (.slice ao t.attrs.length cap) t.attrs) (hf : Fits most t)
    (hok : t.kind = 3 ∨ (t.kind = 2 ∧ t.name.length ≤ 12) ∨ (t.kind = 1 ∧ t.name.length ≤ 12 ∧ t.attrs.length ≤ 4 ∧ ∀ a ∈ t.attrs, a.1.length ≤ 12)) (hacc : acc.length ≤ 600) :
    Calls Try.prog 22 #[.pointer (some ⟨b, 0, none⟩), tkVal t ao cap] w fun e w' => e = .returned (.tuple #[]) ∧ BldAt B b (acc ++ U.tokC t) w' ∧ Below B w w' ∧ Kept b w w' := by
  have hns : (ByteArray.mk t.name.toArray).size = t.name.length := size_of_mk _
  have hb4 := (Below.refl w.heap.size w).alloc (Nat.le_refl _) (.cells #[.int .i64 t.kind, .string ⟨t.name.toArray⟩, .slice ao t.attrs.length cap, .bool t.self, .string ⟨t.text.toArray⟩] 31 (0, 0))
  have hB4 := (Below.refl B w).alloc hB (.cells #[.int .i64 t.kind, .string ⟨t.name.toArray⟩, .slice ao t.attrs.length cap, .bool t.self, .string ⟨t.text.toArray⟩] 31 (0, 0))
  have hk4 := (OthersKeptRefl b w).alloc (.cells #[.int .i64 t.kind, .string ⟨t.name.toArray⟩, .slice ao t.attrs.length cap, .bool t.self, .string ⟨t.text.toArray⟩] 31 (0, 0))
  have hbl := bld_below h hb4
  have HB4 := Lib.hid hB4
  have HK4 := Lib.hid hk4
  have HBL := Lib.hid hbl
  have HH := Lib.hid h
  rcases hok with k | ⟨k, hn⟩ | ⟨k, hn, ha4, han⟩
  · have b1 : (t.kind == 1) = false := by rw [k]; rfl
    have b2 : (t.kind == 2) = false := by rw [k]; rfl
    have b3 : (t.kind == 3) = true := by rw [k]; rfl
    have hC : U.tokC t = U.esc false (t.text.take 601) := by unfold U.tokC; rw [if_pos k]
    rw [hC]
    have hesc := fun W => escape_cut ⟨t.text.toArray⟩ false W
    rw [list_of_mk] at hesc
    have hel := (U.esc_length false (t.text.take 601)).2
    have htl : (t.text.take 601).length ≤ 601 := by rw [List.length_take]; omega
    generalize U.esc false (t.text.take 601) = E at hesc hel
    have hEs : (ByteArray.mk E.toArray).size = E.length := size_of_mk _
    have hEl : E.length ≤ 3606 := by omega
    have HE := Lib.hid hesc
    have hbs4 := hb4.size
    clear hesc hel htl hf hA hB4 hk4 hbl h k hC hb4
    unfold tkVal
    go_enter Try.func22, Try.ntmps22
    go_wp2_with (first
      | (go_at_call 43; refine (HE.out _).mono ?_; rintro e w5 ⟨rfl, hb5⟩)
      | (go_at_call 42; refine (write_string B b acc _ w5 (bld_below HBL.out hb5) (by rw [hEs]; omega) (Nat.le_trans (Nat.le_trans hB hbs4) hb5.size)).mono ?_; rintro e w6 ⟨rfl, k6, b6, o6⟩))
    go_end0
    exact ⟨rfl, k6, (HB4.out.trans (hb5.mono (Nat.le_trans hB hbs4))).trans b6, (HK4.out.trans (kept_below hb5)).trans o6⟩
  · have b1 : (t.kind == 1) = false := by rw [k]; rfl
    have b2 : (t.kind == 2) = true := by rw [k]; rfl
    have hC : U.tokC t = U.endE t.name := by unfold U.tokC; rw [if_neg (by omega), if_pos k]
    rw [hC]
    have s1 : (ByteArray.mk #[60, 47]).size = 2 := rfl
    have s2 : (ByteArray.mk #[62]).size = 1 := rfl
    have hbs4 := hb4.size
    clear hf hA hB4 hk4 hbl h k hC hb4
    unfold tkVal
    go_enter Try.func22, Try.ntmps22
    go_wp2_with (go_at_call 42; refine (write_string B b acc _ _ HBL.out (by simp only [ByteArray.size_append, hns, s1, s2]; omega) (Nat.le_trans hB hbs4)).mono ?_; rintro e w6 ⟨rfl, k6, b6, o6⟩)
    go_end0
    refine ⟨rfl, ?_, HB4.out.trans b6, HK4.out.trans o6⟩
    have e1 : U.endE t.name = (ByteArray.mk #[60, 47] ++ ByteArray.mk t.name.toArray ++ ByteArray.mk #[62]).data.toList := by simp [U.endE]
    rw [e1]
    exact k6
  · have b1 : (t.kind == 1) = true := by rw [k]; rfl
    have hC : U.tokC t = U.startC t.name t.attrs t.self := by unfold U.tokC; rw [if_neg (by omega), if_neg (by omega)]
    rw [hC]
    have hws := write_start B b acc t ao cap _ hbl (Nat.le_trans hB hb4.size) (hA.keep fun p hp => hB4.cell hp) hf hn ha4 han hacc
    unfold tkVal at hws
    have HW := Lib.hid hws
    clear hws hf hA hB4 hk4 hbl h k hC han hb4
    unfold tkVal
    go_enter Try.func22, Try.ntmps22
    go_wp2_with (go_at_call 41; refine HW.out.mono ?_; rintro e w6 ⟨rfl, k6, b6, o6⟩)
    go_end0
    exact ⟨rfl, k6, HB4.out.trans b6, HK4.out.trans o6⟩

end Go.Proofs.Ytmfkefcdddoooaa

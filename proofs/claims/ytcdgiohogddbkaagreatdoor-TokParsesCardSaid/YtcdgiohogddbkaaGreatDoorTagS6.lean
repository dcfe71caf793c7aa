/- The reference: tagAt's loop, state 6. -/
import Derived.Test.YtcdgiohogddbkaaGreatDoorP16
namespace Go.Proofs.YtcdgiohogddbkaaGreatDoor
open Go.RowKit

set_option maxHeartbeats 16000000 in
set_option maxRecDepth 1000000 in
theorem tag_round6 (s : ByteArray) (a : Nat) (w : World) (hs : s.size ≤ 1048576) (iA : TypeInfo) (hiA : Tryz.prog.info? 52 = some iA) (hA0 : iA.zero = some (.agg #[.string .empty, .string .empty])) (hA1 : iA.size = 2) (hA2 : iA.bytes = 32)
    (K : Act → World → Prop) (wr : World)
    (u5 u6 u8 u14 u16 u17 u19 u20 u21 u22 u23 u24 u25 u26 u27 u28 u29 u30 u31 u32 u33 u34 u35 u36 u37 u38 u39 u40 u41 u42 u43 u44 u45 u46 u47 u48 u49 u50 u51 u52 u53 u54 u55 u56 u57 u58 u59
    u60 u61 u62 u63 u64 u65 u66 u67 u68 u69 u70 u71 u72 u73 u74 u75 u76 u77 u78 u79 u80 u81 u82 u83 u84 u85 u86 u87 u88 u89 u90 u91 u92 u93 u94 u95 u96 u97 u98 u99 u100 u101 u102 u103 u104
    u105 u106 u107 u108 u109 u110 u111 u112 u113 u114 u115 u116 u117 u118 u119 u120 u121 u122 u123 u124 u125 u126 u127 u128 u129 u130 u131 u132 u133 u134 u135 u136 u137 u138 u139 u140 u141
    u142 u143 u144 u145 u146 u147 u148 u149 u150 u151 u152 u153 u154 u155 u156 u157 u158 u159 u160 u161 u162 u163 u164 u165 u166 u167 u168 u169 u170 u171 u172 u173 u174 u175 u176 u177 u178
    u179 u180 u181 u182 u183 u184 u185 u186 u187 u188 u189 u190 u191 u192 u193 u194 u195 u196 u197 u198 u199 u200 u201 u202 u203 u204 u205 u206 : Value)
    (k : Nat) (tname name value : List UInt8) (quote : UInt8) (slash : Bool) (all : List U.Att) (hak : a ≤ k) (hlt : k < s.size) (hW : TagW w wr u8 tname all)
    (hrun : Hid (U.runM ⟨6, tname, name, value, quote, slash, all⟩ (s.data.toList.drop k) = U.runM U.st0 (s.data.toList.drop a))) (l1 : name.length ≤ k) (l2 : value.length ≤ k) (l3 : tname.length ≤ k) (l4 : all.length ≤ k) :
    Code.wp Tryz.prog tagBody (Exit.then (fun a' w' => TagI s a w a' w' ∧ tagMu s a' < tagMu s ⟨#[.string s, .int .i64 (k : Nat), undef, undef, .pointer (some ⟨w.heap.size, 0, none⟩), u5, u6, .pointer (some ⟨w.heap.size + 1, 0, none⟩), u8, .int .i64 ((6 : Nat) : Int), .string
      ⟨name.toArray⟩, .string ⟨value.toArray⟩, .int .u8 quote.toNat, .bool slash, u14, undef, u16, u17, undef, u19, u20, u21, u22, u23, u24, u25, u26, u27, u28, u29, u30, u31, u32, u33, u34,
      u35, u36, u37, u38, u39, u40, u41, u42, u43, u44, u45, u46, u47, u48, u49, u50, u51, u52, u53, u54, u55, u56, u57, u58, u59, u60, u61, u62, u63, u64, u65, u66, u67, u68, u69, u70, u71,
      u72, u73, u74, u75, u76, u77, u78, u79, u80, u81, u82, u83, u84, u85, u86, u87, u88, u89, u90, u91, u92, u93, u94, u95, u96, u97, u98, u99, u100, u101, u102, u103, u104, u105, u106,
      u107, u108, u109, u110, u111, u112, u113, u114, u115, u116, u117, u118, u119, u120, u121, u122, u123, u124, u125, u126, u127, u128, u129, u130, u131, u132, u133, u134, u135, u136,
      u137, u138, u139, u140, u141, u142, u143, u144, u145, u146, u147, u148, u149, u150, u151, u152, u153, u154, u155, u156, u157, u158, u159, u160, u161, u162, u163, u164, u165, u166,
      u167, u168, u169, u170, u171, u172, u173, u174, u175, u176, u177, u178, u179, u180, u181, u182, u183, u184, u185, u186, u187, u188, u189, u190, u191, u192, u193, u194, u195, u196,
      u197, u198, u199, u200, u201, u202, u203, u204, u205, u206, undef], []⟩)
      (Exit.inBlock 0 (Exit.then K (bodyPost Tryz.prog Tryz.f28 fun e w' => ∃ v, e = .returned v ∧ tagV s.data.toList a w.heap.size w' v ∧ Below w.heap.size w w')))) ⟨#[.string s, .int .i64 (k : Nat), undef, undef, .pointer (some ⟨w.heap.size, 0, none⟩), u5, u6, .pointer (some ⟨w.heap.size + 1, 0, none⟩), u8, .int .i64 ((6 : Nat) : Int), .string
      ⟨name.toArray⟩, .string ⟨value.toArray⟩, .int .u8 quote.toNat, .bool slash, u14, undef, u16, u17, undef, u19, u20, u21, u22, u23, u24, u25, u26, u27, u28, u29, u30, u31, u32, u33, u34,
      u35, u36, u37, u38, u39, u40, u41, u42, u43, u44, u45, u46, u47, u48, u49, u50, u51, u52, u53, u54, u55, u56, u57, u58, u59, u60, u61, u62, u63, u64, u65, u66, u67, u68, u69, u70, u71,
      u72, u73, u74, u75, u76, u77, u78, u79, u80, u81, u82, u83, u84, u85, u86, u87, u88, u89, u90, u91, u92, u93, u94, u95, u96, u97, u98, u99, u100, u101, u102, u103, u104, u105, u106,
      u107, u108, u109, u110, u111, u112, u113, u114, u115, u116, u117, u118, u119, u120, u121, u122, u123, u124, u125, u126, u127, u128, u129, u130, u131, u132, u133, u134, u135, u136,
      u137, u138, u139, u140, u141, u142, u143, u144, u145, u146, u147, u148, u149, u150, u151, u152, u153, u154, u155, u156, u157, u158, u159, u160, u161, u162, u163, u164, u165, u166,
      u167, u168, u169, u170, u171, u172, u173, u174, u175, u176, u177, u178, u179, u180, u181, u182, u183, u184, u185, u186, u187, u188, u189, u190, u191, u192, u193, u194, u195, u196,
      u197, u198, u199, u200, u201, u202, u203, u204, u205, u206, undef], []⟩ wr := by
  have hk : k ≤ s.size := Nat.le_of_lt hlt
  have hb := (s[k]'hlt).toNat_lt
  have hdr := drop_byte (byte_get s hlt)
  have hc1 := hW.cell
  have hf1 := hW.frozen 1
  have hsz := hW.size
  have zt := str_size tname
  have zn := str_size name
  have zv := str_size value
  have hcv := one_byte wr (s[k]'hlt)
  conv => arg 2; whnf
  cases hsp : U.isSp (s[k]'hlt)
  · by_cases h62 : ((s[k]'hlt).toNat : Int) = 62
    · have te47 : (((s[k]'hlt).toNat : Int) == 47) = false := by rw [h62]; rfl
      have tn47 : (((s[k]'hlt).toNat : Int) != 47) = true := by rw [h62]; rfl
      have te62 : (((s[k]'hlt).toNat : Int) == 62) = true := beq_yes h62
      have tn62 : (((s[k]'hlt).toNat : Int) != 62) = false := by rw [h62]; rfl
      have te61 : (((s[k]'hlt).toNat : Int) == 61) = false := by rw [h62]; rfl
      have tn61 : (((s[k]'hlt).toNat : Int) != 61) = true := by rw [h62]; rfl
      have te34 : (((s[k]'hlt).toNat : Int) == 34) = false := by rw [h62]; rfl
      have tn34 : (((s[k]'hlt).toNat : Int) != 34) = true := by rw [h62]; rfl
      have te39 : (((s[k]'hlt).toNat : Int) == 39) = false := by rw [h62]; rfl
      have tn39 : (((s[k]'hlt).toNat : Int) != 39) = true := by rw [h62]; rfl
      have ub62 : s[k]'hlt = 62 := (byte_eq (k := 62) (by decide)).1 (by omega)
      have Hsp := Lib.hid hsp
      have HN : Hid (U.runM U.st0 (s.data.toList.drop a) = some (⟨1, tname, name, value, quote, false, (all ++ [(U.low name, U.unesc value)])⟩, s.data.toList.drop (k + 1))) := by
        show _ = _
        rw [← hrun.out, hdr]
        exact U.runM_fin _ (U.step_F2 ub62)
      clear hsp h62 ub62 hdr hrun
      have rl := lowered_walk (ByteArray.mk name.toArray)
      rw [list_of_mk, size_of_mk] at rl
      have ru := ref_unescape (ByteArray.mk value.toArray)
      rw [list_of_mk, size_of_mk] at ru
      go_wp2_with (refine (is_space _ _).mono ?_; rintro e w9 ⟨rfl, rfl⟩; rw [Hsp.out])
      refine (rl _ (by omega)).mono ?_
      rintro e w2 ⟨rfl, b2⟩
      have hW2 := hW.later b2
      have hs2 := hW2.size
      go_wp2_with fail
      refine (ru _ (by omega)).mono ?_
      rintro e w3 ⟨rfl, b3⟩
      have hW3 := hW2.later b3
      have hs3 := hW3.size
      go_wp2_with (at_builtin; refine wpList_append_own _ rfl _ _ 32 rfl (w.heap.size + 2) 52 iA _ 2 32 Tryz.underlying32 hiA hA0 hA1 hA2 rfl (by decide) _ _ _ rfl (hW3.own.alloc _) ⟨w3.heap.size, 0, none⟩ 1 1 [str (U.low name), str (U.unesc value)] rfl rfl ?c1 ?c2 ?c3 ?c4 ?c5 ?_)
      case c1 =>
        intro j u hj
        match j, hj with
        | 0, hj => simp at hj; subst hj; simp [Addr.add, str]
        | 1, hj => simp at hj; subst hj; simp [Addr.add, str]
        | (j + 2), hj => simp at hj
      case c2 => intro u hu; simp at hu; rcases hu with rfl | rfl <;> rfl
      case c3 => unfold maxLen; omega
      case c4 => omega
      case c5 => simp; omega
      intro v' w4 hown' hgrow _
      have hW4 := (hW3.alloc _).grown (U.low name, U.unesc value) hown' hgrow
      have hs4 := hW4.size
      have hc4 := hW4.cell
      have hf4 := hW4.frozen 1
      have l5 : (all ++ [(U.low name, U.unesc value)]).length ≤ k + 1 := by rw [List.length_append]; simp; omega
      clear hcv
      have hWF := hW4
      clear hW4
      generalize hAL : (all ++ [(U.low name, U.unesc value)]) = AL at hWF l5 HN
      clear hAL
      have rt := lowered_walk (ByteArray.mk tname.toArray)
      rw [list_of_mk, size_of_mk] at rt
      obtain ⟨aoA, capA, rfl⟩ := own_form hWF.own
      go_wp2_with (refine (is_space _ _).mono ?_; rintro e w9 ⟨rfl, rfl⟩; rw [Hsp.out])
      refine (rt _ (by omega)).mono ?_
      rintro e w5 ⟨rfl, b5⟩
      have hW5 := hWF.later b5
      have hc5 := hW5.cell
      have hf5 := hW5.frozen 1
      have hs5 := hW5.size
      have HT := hW5.setName (U.low tname)
      have HD0 := DedW.start HT
      generalize hD : (w5.setCell ⟨w.heap.size + 1, 1, none⟩ (.string ⟨(U.low tname).toArray⟩)).heap.size = D at HD0
      clear hD
      go_wp2_with fail
      go_loopw [168] (fun vi wr => ∃ (i : Nat) (av : Value), vi = .int .i64 i ∧ i ≤ AL.length ∧ DedW w wr D (.slice aoA AL.length capA) (U.low tname) AL av (U.firsts [] (AL.take i))) (fun vi _ => AL.length - (intOf vi).toNat)
      case atStart => exact ⟨0, _, rfl, Nat.zero_le _, HD0⟩
      case round =>
        obtain ⟨i, av, rfl, hi, hD⟩ := hrel
        have hDs := hD.size
        have hDb := hD.base
        by_cases hil : i < AL.length
        · have hx := List.getElem?_eq_getElem hil
          have HFT := Lib.hid (firsts_take hx)
          obtain ⟨gA, cA, eA, ca, cb⟩ := row_att hD.rowA hx
          injection eA with e1 e2 e3
          subst e1
          subst e3
          clear hx
          generalize AL[i] = x at *
          have hfl := firsts_le (AL.take i) []
          rw [List.length_take] at hfl
          have hfl2 : (U.firsts [] (AL.take i)).length ≤ i := by simp at hfl; omega
          clear hfl
          generalize U.firsts [] (AL.take i) = F at *
          obtain ⟨aoF, capF, rfl⟩ := own_form hD.rowF
          have hD1 := hD.alloc (.cells #[.string ⟨x.1.toArray⟩, .string ⟨x.2.toArray⟩] 52)
          have hca1 := hD1.attrs
          go_wp2_with fail
          go_loopw [17, 175] (fun vf vj wx => ∃ j : Nat, vj = .int .i64 j ∧ j ≤ F.length ∧ vf = .bool ((F.take j).all (fun c => c.1 != x.1)) ∧ DedW w wx D (.slice (some ⟨gA, 0, none⟩) AL.length capA) (U.low tname) AL (.slice aoF F.length capF) F ∧ wx.cell? ⟨wr.heap.size, 0, none⟩ = some (.string ⟨x.1.toArray⟩) ∧ wx.cell? ⟨wr.heap.size, 1, none⟩ = some (.string ⟨x.2.toArray⟩) ∧ wr.heap.size < wx.heap.size) (fun _ vj _ => F.length - (intOf vj).toNat)
          case atStart => exact ⟨0, rfl, Nat.zero_le _, rfl, hD1, by simp, by simp, by simp⟩
          case round =>
            obtain ⟨j, rfl, hj, rfl, hE, cx0, cx1, hxs⟩ := hrel
            have hEs := hE.size
            generalize hq : (F.take j).all (fun c => c.1 != x.1) = fr at *
            by_cases hjl : j < F.length
            · have hy := List.getElem?_eq_getElem hjl
              have HAT := Lib.hid (all_take (fun c => c.1 != x.1) hy)
              rw [hq] at HAT
              obtain ⟨gF, cF, eF, fa, fb⟩ := row_att hE.rowF hy
              injection eF with e1 e2 e3
              subst e1
              subst e3
              clear hy hq
              generalize F[j] = y at *
              have hE1 := hE.alloc (.cells #[.string ⟨y.1.toArray⟩, .string ⟨y.2.toArray⟩] 52)
              have dx0 := (cell_alloc_old wr (.cells #[.string ⟨y.1.toArray⟩, .string ⟨y.2.toArray⟩] 52) ⟨_, 0, none⟩ hxs).trans cx0
              have dx1 := (cell_alloc_old wr (.cells #[.string ⟨y.1.toArray⟩, .string ⟨y.2.toArray⟩] 52) ⟨_, 1, none⟩ hxs).trans cx1
              cases fr
              · go_wp2_with fail
                go_roundw
                case rel => exact ⟨j + 1, by go_num, by omega, by rw [HAT.out]; rfl, hE1, dx0, dx1, by simp; omega⟩
                case measure => simp [intOf] <;> omega
              · go_wp2_with fail
                go_roundw
                case rel => exact ⟨j + 1, by go_num, by omega, by rw [HAT.out]; rfl, hE1, dx0, dx1, by simp; omega⟩
                case measure => simp [intOf] <;> omega
            · obtain rfl : j = F.length := by omega
              rw [List.take_length] at hq
              rw [hq] at HFT
              clear hq
              have hca2 := hE.attrs
              cases fr
              · have HFT2 : U.firsts [] (AL.take (i + 1)) = F := HFT.out
                have HF2 := Lib.hid HFT2
                clear HFT2
                go_wp2_with fail
                go_roundw
                case rel => exact ⟨i + 1, _, by go_num, by omega, by rw [HF2.out]; exact hE⟩
                case measure => simp [intOf] <;> omega
              · have HFT2 : U.firsts [] (AL.take (i + 1)) = F ++ [x] := HFT.out
                have HF2 := Lib.hid HFT2
                clear HFT2
                go_wp2_with (at_builtin; refine wpList_append_own _ rfl _ _ 32 rfl D 52 iA _ 2 32 Tryz.underlying32 hiA hA0 hA1 hA2 rfl (by decide) _ _ _ rfl (hE.rowF.alloc _) ⟨_, 0, none⟩ 1 1 [str x.1, str x.2] rfl rfl ?c1 ?c2 ?c3 ?c4 ?c5 ?_)
                case c1 =>
                  intro j u hj
                  match j, hj with
                  | 0, hj => simp at hj; subst hj; simp [str]
                  | 1, hj => simp at hj; subst hj; simp [str]
                  | (j + 2), hj => simp at hj
                case c2 => first | exact ⟨rfl, rfl⟩ | (intro u hu; simp at hu; rcases hu with rfl | rfl <;> rfl)
                case c3 => unfold maxLen; omega
                case c4 => omega
                case c5 => first | omega | (simp; omega)
                intro v7 w7 hown7 hgrow7 _
                obtain ⟨ao7, cap7, rfl⟩ := own_form hown7
                have htag7 := (hE.alloc (.cells #[.string ⟨x.1.toArray⟩, .string ⟨x.2.toArray⟩] 52)).tag_grown hgrow7
                have hput := (hE.alloc (.cells #[.string ⟨x.1.toArray⟩, .string ⟨x.2.toArray⟩] 52)).put x hown7 hgrow7
                have hc7 : w7.cell? ⟨w.heap.size + 1, 2, none⟩ = some (.slice aoF F.length capF) := by rw [Lib.cell_of_heap htag7]; rfl
                have hf7 : w7.frozen? ⟨w.heap.size + 1, 2, none⟩ = false := Lib.frozen_of_heap htag7 2
                clear htag7
                go_wp2_with fail
                go_roundw
                case rel => exact ⟨i + 1, _, by go_num, by omega, by rw [HF2.out]; exact hput⟩
                case measure => simp [intOf] <;> omega
        · obtain rfl : i = AL.length := by omega
          rw [List.take_length] at hD
          obtain ⟨d0, d1, d2, d3, d4⟩ := hD.tagCells
          obtain ⟨r0, r1, r2, r3, r4⟩ := hD.resCells
          have f3 := hD.frozen 3
          have g0 := hD.resFrozen 0
          have g1 := hD.resFrozen 1
          have g2 := hD.resFrozen 2
          have g3 := hD.resFrozen 3
          have g4 := hD.resFrozen 4
          obtain ⟨aoF, capF, rfl⟩ := own_form hD.rowF
          go_wp2_with fail
          obtain ⟨hb9, ho9, hw9⟩ := hD.final false
          have x0 : (finalW wr w.heap.size (U.low tname) (.slice aoF (U.firsts [] AL).length capF) false).cell? ⟨w.heap.size, 0, none⟩ = some (.int .i64 0) := by rw [Lib.cell_of_heap hb9]; rfl
          have x1 : (finalW wr w.heap.size (U.low tname) (.slice aoF (U.firsts [] AL).length capF) false).cell? ⟨w.heap.size, 1, none⟩ = some (.string ⟨(U.low tname).toArray⟩) := by rw [Lib.cell_of_heap hb9]; rfl
          have x2 : (finalW wr w.heap.size (U.low tname) (.slice aoF (U.firsts [] AL).length capF) false).cell? ⟨w.heap.size, 2, none⟩ = some (.slice aoF (U.firsts [] AL).length capF) := by rw [Lib.cell_of_heap hb9]; rfl
          have x3 : (finalW wr w.heap.size (U.low tname) (.slice aoF (U.firsts [] AL).length capF) false).cell? ⟨w.heap.size, 3, none⟩ = some (.bool false) := by rw [Lib.cell_of_heap hb9]; rfl
          have x4 : (finalW wr w.heap.size (U.low tname) (.slice aoF (U.firsts [] AL).length capF) false).cell? ⟨w.heap.size, 4, none⟩ = some (.string ⟨#[]⟩) := by rw [Lib.cell_of_heap hb9]; rfl
          generalize hW9 : finalW wr w.heap.size (U.low tname) (.slice aoF (U.firsts [] AL).length capF) false = W9 at x0 x1 x2 x3 x4 ho9 hw9
          unfold finalW at hW9
          rw [hW9]
          clear hW9 hb9
          refine bodyPost_ret (v := .tuple #[.agg #[.int .i64 0, .string ⟨(U.low tname).toArray⟩, .slice aoF (U.firsts [] AL).length capF, .bool false, .string ⟨#[]⟩], .int .i64 ((k : Int) + 1), .bool true]) ?hres rfl ?_
          case hres => simp [results, Tryz.results28, go_sem, x0, x1, x2, x3, x4]
          refine ⟨_, rfl, ?_, hw9⟩
          unfold tagV
          rw [HN.out]
          exact ⟨_, k + 1, rfl, rfl, by omega, by rw [len_list]; omega, ho9⟩
    have te62 := beq_no h62
    have tn62 : (((s[k]'hlt).toNat : Int) != 62) = true := bne_iff_ne.2 h62
    have ub62 : s[k]'hlt ≠ 62 := fun e => h62 (by rw [e]; rfl)
    have Hsp := Lib.hid hsp
    have HN : Hid (U.runM ⟨6, tname, name, (value ++ [s[k]'hlt]), quote, slash, all⟩ (s.data.toList.drop (k + 1)) = U.runM U.st0 (s.data.toList.drop a)) := by
      show _ = _
      rw [← hrun.out, hdr]
      exact (U.runM_go _ (U.step_F3 hsp ub62)).symm
    clear hsp h62 ub62 hdr hrun
    go_wp2_with (refine (is_space _ _).mono ?_; rintro e w9 ⟨rfl, rfl⟩; rw [Hsp.out])
    refine ⟨?_, by simp [tagMu, intOf] <;> omega⟩
    unfold TagI
    refine ⟨_, _, _, _, _, _, _, _, _, _, _, _, _, _, _, _, _, _, _, _, _, _, _, _, _, _, _, _, _, _, _, _, _, _, _, _, _, _, _, _, _, _, _, _, _, _, _, _, _, _, _, _, _, _, _, _, _, _, _, _, _, _, _,
      _, _, _, _, _, _, _, _, _, _, _, _, _, _, _, _, _, _, _, _, _, _, _, _, _, _, _, _, _, _, _, _, _, _, _, _, _, _, _, _, _, _, _, _, _, _, _, _, _, _, _, _, _, _, _, _, _, _, _, _, _, _, _,
      _, _, _, _, _, _, _, _, _, _, _, _, _, _, _, _, _, _, _, _, _, _, _, _, _, _, _, _, _, _, _, _, _, _, _, _, _, _, _, _, _, _, _, _, _, _, _, _, _, _, _, _, _, _, _, _, _, _, _, _, _, _, _,
      _, _, _, _, _, _, _, _, _, _, _, ?_, rfl⟩
    exact ⟨k + 1, ⟨6, tname, name, (value ++ [s[k]'hlt]), quote, slash, all⟩, by omega, by omega, by go_num, rfl, Nat.le_of_ble_eq_true rfl, rfl, congrArg Value.string (str_push _ _), rfl, rfl, hW.alloc _, HN, Nat.le_succ_of_le l1, (by show (value ++ [_]).length ≤ _; simp; omega), Nat.le_succ_of_le l3, Nat.le_succ_of_le l4⟩
  · obtain ⟨ub47, ub62, ub61, ub34, ub39⟩ := U.isSp_ne hsp
    have h47 : ¬ ((s[k]'hlt).toNat : Int) = 47 := fun e => ub47 ((byte_eq (k := 47) (by decide)).1 (by omega))
    have te47 := beq_no h47
    have tn47 : (((s[k]'hlt).toNat : Int) != 47) = true := bne_iff_ne.2 h47
    have h62 : ¬ ((s[k]'hlt).toNat : Int) = 62 := fun e => ub62 ((byte_eq (k := 62) (by decide)).1 (by omega))
    have te62 := beq_no h62
    have tn62 : (((s[k]'hlt).toNat : Int) != 62) = true := bne_iff_ne.2 h62
    have h61 : ¬ ((s[k]'hlt).toNat : Int) = 61 := fun e => ub61 ((byte_eq (k := 61) (by decide)).1 (by omega))
    have te61 := beq_no h61
    have tn61 : (((s[k]'hlt).toNat : Int) != 61) = true := bne_iff_ne.2 h61
    have h34 : ¬ ((s[k]'hlt).toNat : Int) = 34 := fun e => ub34 ((byte_eq (k := 34) (by decide)).1 (by omega))
    have te34 := beq_no h34
    have tn34 : (((s[k]'hlt).toNat : Int) != 34) = true := bne_iff_ne.2 h34
    have h39 : ¬ ((s[k]'hlt).toNat : Int) = 39 := fun e => ub39 ((byte_eq (k := 39) (by decide)).1 (by omega))
    have te39 := beq_no h39
    have tn39 : (((s[k]'hlt).toNat : Int) != 39) = true := bne_iff_ne.2 h39
    have Hsp := Lib.hid hsp
    have HN : Hid (U.runM ⟨1, tname, name, value, quote, false, (all ++ [(U.low name, U.unesc value)])⟩ (s.data.toList.drop (k + 1)) = U.runM U.st0 (s.data.toList.drop a)) := by
      show _ = _
      rw [← hrun.out, hdr]
      exact (U.runM_go _ (U.step_F1 hsp)).symm
    clear hsp h47 ub47 h62 ub62 h61 ub61 h34 ub34 h39 ub39 hdr hrun
    have rl := lowered_walk (ByteArray.mk name.toArray)
    rw [list_of_mk, size_of_mk] at rl
    have ru := ref_unescape (ByteArray.mk value.toArray)
    rw [list_of_mk, size_of_mk] at ru
    go_wp2_with (refine (is_space _ _).mono ?_; rintro e w9 ⟨rfl, rfl⟩; rw [Hsp.out])
    refine (rl _ (by omega)).mono ?_
    rintro e w2 ⟨rfl, b2⟩
    have hW2 := hW.later b2
    have hs2 := hW2.size
    go_wp2_with fail
    refine (ru _ (by omega)).mono ?_
    rintro e w3 ⟨rfl, b3⟩
    have hW3 := hW2.later b3
    have hs3 := hW3.size
    go_wp2_with (at_builtin; refine wpList_append_own _ rfl _ _ 32 rfl (w.heap.size + 2) 52 iA _ 2 32 Tryz.underlying32 hiA hA0 hA1 hA2 rfl (by decide) _ _ _ rfl (hW3.own.alloc _) ⟨w3.heap.size, 0, none⟩ 1 1 [str (U.low name), str (U.unesc value)] rfl rfl ?c1 ?c2 ?c3 ?c4 ?c5 ?_)
    case c1 =>
      intro j u hj
      match j, hj with
      | 0, hj => simp at hj; subst hj; simp [Addr.add, str]
      | 1, hj => simp at hj; subst hj; simp [Addr.add, str]
      | (j + 2), hj => simp at hj
    case c2 => intro u hu; simp at hu; rcases hu with rfl | rfl <;> rfl
    case c3 => unfold maxLen; omega
    case c4 => omega
    case c5 => simp; omega
    intro v' w4 hown' hgrow _
    have hW4 := (hW3.alloc _).grown (U.low name, U.unesc value) hown' hgrow
    have hs4 := hW4.size
    have hc4 := hW4.cell
    have hf4 := hW4.frozen 1
    have l5 : (all ++ [(U.low name, U.unesc value)]).length ≤ k + 1 := by rw [List.length_append]; simp; omega
    clear hcv
    go_wp2_with (refine (is_space _ _).mono ?_; rintro e w9 ⟨rfl, rfl⟩; rw [Hsp.out])
    refine ⟨?_, by simp [tagMu, intOf] <;> omega⟩
    unfold TagI
    refine ⟨_, _, _, _, _, _, _, _, _, _, _, _, _, _, _, _, _, _, _, _, _, _, _, _, _, _, _, _, _, _, _, _, _, _, _, _, _, _, _, _, _, _, _, _, _, _, _, _, _, _, _, _, _, _, _, _, _, _, _, _, _, _, _,
      _, _, _, _, _, _, _, _, _, _, _, _, _, _, _, _, _, _, _, _, _, _, _, _, _, _, _, _, _, _, _, _, _, _, _, _, _, _, _, _, _, _, _, _, _, _, _, _, _, _, _, _, _, _, _, _, _, _, _, _, _, _, _,
      _, _, _, _, _, _, _, _, _, _, _, _, _, _, _, _, _, _, _, _, _, _, _, _, _, _, _, _, _, _, _, _, _, _, _, _, _, _, _, _, _, _, _, _, _, _, _, _, _, _, _, _, _, _, _, _, _, _, _, _, _, _, _,
      _, _, _, _, _, _, _, _, _, _, _, ?_, rfl⟩
    exact ⟨k + 1, ⟨1, tname, name, value, quote, false, (all ++ [(U.low name, U.unesc value)])⟩, by omega, by omega, by go_num, rfl, Nat.le_of_ble_eq_true rfl, rfl, rfl, rfl, rfl, hW4, HN, Nat.le_succ_of_le l1, Nat.le_succ_of_le l2, Nat.le_succ_of_le l3, l5⟩

end Go.Proofs.YtcdgiohogddbkaaGreatDoor

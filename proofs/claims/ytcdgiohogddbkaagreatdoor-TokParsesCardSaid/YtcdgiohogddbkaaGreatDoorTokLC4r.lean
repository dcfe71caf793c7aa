/- The reference's tokens: a round of its loop: C4r. -/
import Derived.Test.YtcdgiohogddbkaaGreatDoorP23
import Derived.Test.YtcdgiohogddbkaaGreatDoorTokRR
namespace Go.Proofs.YtcdgiohogddbkaaGreatDoor
open Go.RowKit

set_option maxHeartbeats 16000000 in
set_option maxRecDepth 1000000 in
theorem tok_roundC4r (s : ByteArray) (w z : World) (hs : s.size ≤ 600) (hz : Shut s z (w.heap.size + 4) (w.heap.size + 1 + 1) (w.heap.size + 1) w.heap.size (w.heap.size + 1 + 1 + 1)) (K : Act → World → Prop) (P : Ending → World → Prop) (wr : World)
    (u8 u9 u10 u11 u12 u13 u14 u15 u16 u19 u20 u21 u22 u23 u24 u25 u26 u27 u28 u29 u30 u31 u32 u33 u34 u35 u36 u37 u38 u39 u40 u41 u42 u43 u44 u45 u46 u47 u48 u49 u50 u51 u52 u53 u54 u55 u56
    u57 u58 u59 u60 u61 u62 u63 u64 u65 u66 u67 u68 u69 u70 u71 u72 u73 u74 u75 u76 u77 u78 u79 u80 u81 u82 u83 u84 u85 u86 u87 u88 u89 u90 u91 u92 u93 u94 u95 u96 u97 u98 u99 u100 u101 u102
    u103 u104 u105 u106 u107 u108 u109 u110 u111 u112 u113 u114 u115 u116 u117 u118 u119 u120 u121 u122 u123 u124 u125 u126 u127 u128 u129 u130 u131 u132 u133 u134 u135 u136 u137 u138 u139
    u140 u141 u142 u143 u144 u145 u146 u147 u148 u149 u150 u151 u152 u153 u154 u155 u156 u157 u158 u159 u160 u161 u162 u163 u164 u165 u166 u167 u168 u169 u170 u171 u172 u173 u174 u175 u176
    u177 u178 u179 u180 u181 u182 u183 u184 u185 u186 u187 u188 u189 u190 u191 u192 u193 u194 u195 u196 u197 u198 u199 u200 u201 u202 u203 u204 u205 u206 u207 u208 u209 u210 u211 u212 u213
    u214 u215 u216 u217 u218 u219 u220 u221 u222 u223 u224 u225 u226 u227 u228 u229 u230 u231 u232 u233 u234 u235 u236 u237 u238 u239 u240 u241 u242 u243 u244 u245 u246 u247 u248 u249 u250
    u251 u252 u253 u254 u255 : Value)
    (k : Nat) (v : Value) (txt : List UInt8) (l : List (U.Tok × Value)) (h : TokW w z wr (w.heap.size + 4) (w.heap.size + 1 + 1) (w.heap.size + 1) v txt l)
    (HEQ : Hid (List.map (·.1) l ++ U.toksT txt (s.data.toList.drop k) = U.toks s.data.toList)) (ht : txt.length ≤ k) (hl : l.length ≤ 3 * k) (hlt : k < s.size) (h60 : ((s[k]'hlt).toNat : Int) = 60) (h1 : k + 1 < s.size) (c : UInt8) (ec : s[k + 1]'h1 = c) (h33 : ¬ (c.toNat : Int) = 33) (h63 : ¬ (c.toNat : Int) = 63) (h47 : ¬ (c.toNat : Int) = 47) (hal : U.isAl c = true) (st : U.St) (rest nm : List UInt8) (hrun : U.runM U.st0 (s.data.toList.drop (k + 1)) = some (st, rest)) (hnm : nm = U.low st.tname) (hrn : U.rawName nm = true) :
    Code.wp Tryz.prog tokBody (Exit.then (fun a' w' => TkI s w z a' w' ∧ tkMu s a' < tkMu s ⟨#[.string s, .pointer (some ⟨w.heap.size, 0, none⟩), .slice none 0 0, .pointer (some ⟨w.heap.size + 1, 0, none⟩), .pointer (some ⟨w.heap.size + 1 + 1, 0, none⟩), .pointer (some
      ⟨w.heap.size + 1 + 1 + 1, 0, none⟩), .func (.func 25) #[] #[.pointer (some ⟨w.heap.size + 1 + 1 + 1, 0, none⟩), .pointer (some ⟨w.heap.size, 0, none⟩),
      .pointer (some ⟨w.heap.size + 1, 0, none⟩)], .int .i64 (k : Nat), u8, u9, u10, u11, u12, u13, u14, u15, u16, .func (.func 23) #[] #[.pointer (some
      ⟨w.heap.size + 1 + 1, 0, none⟩), .pointer (some ⟨w.heap.size + 1, 0, none⟩)], .func (.func 25) #[] #[.pointer (some ⟨w.heap.size + 1 + 1 + 1, 0, none⟩),
      .pointer (some ⟨w.heap.size, 0, none⟩), .pointer (some ⟨w.heap.size + 1, 0, none⟩)], u19, u20, u21, u22, u23, u24, u25, u26, u27, u28, u29, u30, u31, u32, u33, u34, u35, u36, u37, u38,
      u39, u40, u41, u42, u43, u44, u45, u46, u47, u48, u49, u50, u51, u52, u53, u54, u55, u56, u57, u58, u59, u60, u61, u62, u63, u64, u65, u66, u67, u68, u69, u70, u71, u72, u73, u74, u75,
      u76, u77, u78, u79, u80, u81, u82, u83, u84, u85, u86, u87, u88, u89, u90, u91, u92, u93, u94, u95, u96, u97, u98, u99, u100, u101, u102, u103, u104, u105, u106, u107, u108, u109,
      u110, u111, u112, u113, u114, u115, u116, u117, u118, u119, u120, u121, u122, u123, u124, u125, u126, u127, u128, u129, u130, u131, u132, u133, u134, u135, u136, u137, u138, u139,
      u140, u141, u142, u143, u144, u145, u146, u147, u148, u149, u150, u151, u152, u153, u154, u155, u156, u157, u158, u159, u160, u161, u162, u163, u164, u165, u166, u167, u168, u169,
      u170, u171, u172, u173, u174, u175, u176, u177, u178, u179, u180, u181, u182, u183, u184, u185, u186, u187, u188, u189, u190, u191, u192, u193, u194, u195, u196, u197, u198, u199,
      u200, u201, u202, u203, u204, u205, u206, u207, u208, u209, u210, u211, u212, u213, u214, u215, u216, u217, u218, u219, u220, u221, u222, u223, u224, u225, u226, u227, u228, u229,
      u230, u231, u232, u233, u234, u235, u236, u237, u238, u239, u240, u241, u242, u243, u244, u245, u246, u247, u248, u249, u250, u251, u252, u253, u254, u255, undef, undef, undef], []⟩)
      (Exit.inBlock 0 (Exit.then K (bodyPost Tryz.prog Tryz.f12 P)))) ⟨#[.string s, .pointer (some ⟨w.heap.size, 0, none⟩), .slice none 0 0, .pointer (some ⟨w.heap.size + 1, 0, none⟩), .pointer (some ⟨w.heap.size + 1 + 1, 0, none⟩), .pointer (some
      ⟨w.heap.size + 1 + 1 + 1, 0, none⟩), .func (.func 25) #[] #[.pointer (some ⟨w.heap.size + 1 + 1 + 1, 0, none⟩), .pointer (some ⟨w.heap.size, 0, none⟩),
      .pointer (some ⟨w.heap.size + 1, 0, none⟩)], .int .i64 (k : Nat), u8, u9, u10, u11, u12, u13, u14, u15, u16, .func (.func 23) #[] #[.pointer (some
      ⟨w.heap.size + 1 + 1, 0, none⟩), .pointer (some ⟨w.heap.size + 1, 0, none⟩)], .func (.func 25) #[] #[.pointer (some ⟨w.heap.size + 1 + 1 + 1, 0, none⟩),
      .pointer (some ⟨w.heap.size, 0, none⟩), .pointer (some ⟨w.heap.size + 1, 0, none⟩)], u19, u20, u21, u22, u23, u24, u25, u26, u27, u28, u29, u30, u31, u32, u33, u34, u35, u36, u37, u38,
      u39, u40, u41, u42, u43, u44, u45, u46, u47, u48, u49, u50, u51, u52, u53, u54, u55, u56, u57, u58, u59, u60, u61, u62, u63, u64, u65, u66, u67, u68, u69, u70, u71, u72, u73, u74, u75,
      u76, u77, u78, u79, u80, u81, u82, u83, u84, u85, u86, u87, u88, u89, u90, u91, u92, u93, u94, u95, u96, u97, u98, u99, u100, u101, u102, u103, u104, u105, u106, u107, u108, u109,
      u110, u111, u112, u113, u114, u115, u116, u117, u118, u119, u120, u121, u122, u123, u124, u125, u126, u127, u128, u129, u130, u131, u132, u133, u134, u135, u136, u137, u138, u139,
      u140, u141, u142, u143, u144, u145, u146, u147, u148, u149, u150, u151, u152, u153, u154, u155, u156, u157, u158, u159, u160, u161, u162, u163, u164, u165, u166, u167, u168, u169,
      u170, u171, u172, u173, u174, u175, u176, u177, u178, u179, u180, u181, u182, u183, u184, u185, u186, u187, u188, u189, u190, u191, u192, u193, u194, u195, u196, u197, u198, u199,
      u200, u201, u202, u203, u204, u205, u206, u207, u208, u209, u210, u211, u212, u213, u214, u215, u216, u217, u218, u219, u220, u221, u222, u223, u224, u225, u226, u227, u228, u229,
      u230, u231, u232, u233, u234, u235, u236, u237, u238, u239, u240, u241, u242, u243, u244, u245, u246, u247, u248, u249, u250, u251, u252, u253, u254, u255, undef, undef, undef], []⟩ wr := by
  obtain ⟨s0, s1⟩ := h.fixed hz.text hz.s1 hz.s2 hz.s3
  have hbs := h.below.size
  have hBs := h.size
  obtain ⟨t0, t1⟩ := h.textCell
  obtain ⟨o0, o1⟩ := h.outCell
  have hal : ∀ w', Calls Tryz.prog 27 #[.int .u8 0] w' fun e w'' => e = .returned (.bool false) ∧ w' = w'' := fun w' => is_alpha 0 w'
  have HAL := Lib.hid hal
  clear hal
  have hg := drop_byte (byte_get s hlt)
  have hk0 : (0 : Int) ≤ (k : Int) := Int.natCast_nonneg _
  have hk1 : (k : Int) < (s.size : Int) := by omega
  conv => arg 2; whnf
  have b60 := beq_yes h60
  have e60 : s[k]'hlt = 60 := (byte_eq (k := 60) (by decide)).1 (by omega)
  rw [e60] at hg
  have hg1 := drop_byte (byte_get s h1)
  have hi3 : (k : Int) + 1 < (s.size : Int) := by omega
  rw [ec] at hg1
  rw [hg1] at hg
  have hac : ∀ w', Calls Tryz.prog 27 #[.int .u8 c.toNat] w' fun e w'' => e = .returned (.bool (U.isAl c)) ∧ w' = w'' := fun w' => is_alpha c w'
  have HAC0 := Lib.hid hac
  have HG := Lib.hid hg
  clear hac hg hg1 e60 h60
  have b33 := beq_no h33
  have b63 := beq_no h63
  have b47 := beq_no h47
  have hac : ∀ w', Calls Tryz.prog 27 #[.int .u8 c.toNat] w' fun e w'' => e = .returned (.bool true) ∧ w' = w'' := fun w' => hal ▸ HAC0.out w'
  have HAC := Lib.hid hac
  clear hac
  have htg := tag_at s (k + 1) wr (by omega) (by omega)
  rw [show ((k + 1 : Nat) : Int) = (k : Int) + 1 by omega] at htg
  unfold tagV at htg
  obtain ⟨f0, f1⟩ := h.fixed hz.fn hz.f1 hz.f2 hz.f3
  have hit : U.item (s.data.toList.drop k) = U.startI (s.data.toList.drop (k + 1)) := by
    rw [HG.out, drop_byte (byte_get s h1), ec, U.item_cons, if_neg (by decide), if_pos hal]
  unfold U.startI at hit
  clear hal h47 h63 h33
  rw [hrun] at htg hit
  simp only at htg hit
  obtain ⟨al, has⟩ : ∃ al, al = U.firsts [] st.all := ⟨_, rfl⟩
  obtain ⟨sl, hsl⟩ : ∃ sl, sl = st.slash := ⟨_, rfl⟩
  rw [← hnm, ← has, ← hsl] at htg hit
  have HTG := Lib.hid htg
  have HI := Lib.hid hit
  obtain ⟨iT, hiT, hT0, hT1, hT2⟩ := info_parts infoTok
  clear htg hit hrun hnm has hsl
  go_upto_region 35 with (first
    | (go_at_call 27; first | (refine (HAC.out _).mono ?_; rintro e w2 ⟨rfl, rfl⟩))
    | (go_at_call 28; refine HTG.out.mono ?_; rintro e w3 ⟨vt, rfl, ⟨av, p, rfl, hrest, hp1, hp2, hown⟩, hb3⟩; obtain ⟨aoA, capA, rfl⟩ := own_form hown
       have hs3 := hb3.size
       have h4 := (h.later hb3).alloc (.cells #[.int .i64 0, .string ⟨nm.toArray⟩, .slice aoA al.length capA, .bool sl, .string ⟨#[]⟩] 34 (0, 0)); obtain ⟨g0, g1⟩ := h4.fixed hz.fn hz.f1 hz.f2 hz.f3)
    | (go_at_call 23
       go_must (refine (flush_walk w z _ _ _ _ v txt l h4 (by omega) (by omega)).mono ?_; rintro e w5 ⟨rfl, v2, l2, h2, e2, n2, hoth⟩
                obtain ⟨hHB, hNB⟩ := hoth w3.heap.size (by omega) (by simp) (fun e => by have := (h.row.lt _ e.symm).2; omega)
                rw [heap_alloc_new] at hHB; obtain ⟨ao2, cap2, rfl⟩ := own_form h2.row
                have hownA : w5.ownsRow w.heap.size 52 2 (.slice aoA al.length capA) al.length (attCells al) := own_same ((own_base hown hbs).alloc _) (fun g hg => (hoth g (by have := (hown.lt g hg).1; omega) (by have := (hown.lt g hg).2; simp; omega) (fun e => by have := (h.row.lt _ e.symm).2; have := (hown.lt g hg).1; omega)).1)
                have h6 := h2.setOther hHB (by omega) hNB 0 (.int .i64 1)
                have hA6 := own_setOther hownA hHB (by decide) 0 (.int .i64 1)
                have hH6 : (w5.setCell ⟨w3.heap.size, 0, none⟩ (.int .i64 1)).heap[w3.heap.size]? = some (tagBlock nm (.slice aoA al.length capA) sl) := by simp [World.setCell, Array.getElem?_modify, hHB]
                have y0 := Lib.frozen_of_heap hHB 0
                have z0 : w5.cell? ⟨w3.heap.size, 0, none⟩ = some (.int .i64 0) := by rw [Lib.cell_of_heap hHB]; rfl
                obtain ⟨r0, r1⟩ := h6.outCell
                have x0 : (w5.setCell ⟨w3.heap.size, 0, none⟩ (.int .i64 1)).cell? ⟨w3.heap.size, 0, none⟩ = some (.int .i64 1) := by rw [Lib.cell_of_heap hH6]; rfl
                have x1 : (w5.setCell ⟨w3.heap.size, 0, none⟩ (.int .i64 1)).cell? ⟨w3.heap.size, 1, none⟩ = some (.string ⟨nm.toArray⟩) := by rw [Lib.cell_of_heap hH6]; rfl
                have x2 : (w5.setCell ⟨w3.heap.size, 0, none⟩ (.int .i64 1)).cell? ⟨w3.heap.size, 2, none⟩ = some (.slice aoA al.length capA) := by rw [Lib.cell_of_heap hH6]; rfl
                have x3 : (w5.setCell ⟨w3.heap.size, 0, none⟩ (.int .i64 1)).cell? ⟨w3.heap.size, 3, none⟩ = some (.bool sl) := by rw [Lib.cell_of_heap hH6]; rfl
                have x4 : (w5.setCell ⟨w3.heap.size, 0, none⟩ (.int .i64 1)).cell? ⟨w3.heap.size, 4, none⟩ = some (.string ⟨#[]⟩) := by rw [Lib.cell_of_heap hH6]; rfl
                have hN := h6.alloc (tagBlock nm (.slice aoA al.length capA) sl)
                have hcells := new_cells5 (heap_alloc_new (w5.setCell ⟨w3.heap.size, 0, none⟩ (.int .i64 1)) (tagBlock nm (.slice aoA al.length capA) sl))
                have hz6 : (w5.setCell ⟨w3.heap.size, 0, none⟩ (.int .i64 1)).heap.size = w5.heap.size := by simp [World.setCell]
                rw [hz6] at hcells
                have hAN := hA6.alloc (tagBlock nm (.slice aoA al.length capA) sl)
                have hHN := (Lib.alloc_old (w5.setCell ⟨w3.heap.size, 0, none⟩ (.int .i64 1)) (tagBlock nm (.slice aoA al.length capA) sl) w3.heap.size (Array.getElem?_eq_some_iff.1 hH6).1).trans hH6
                have h5s := h2.size
                clear hoth hown hownA))
    | (at_builtin; refine wpList_append_own _ rfl _ _ 22 rfl (w.heap.size + 4) 34 iT _ 5 72 Tryz.underlying22 hiT hT0 hT1 hT2 rfl (by decide) _ _ _ rfl hN.row ⟨_, 0, none⟩ 1 1 [.int .i64 1, .string ⟨nm.toArray⟩, .slice aoA al.length capA, .bool sl, .string ⟨#[]⟩] rfl rfl ?c1 ?c2 ?c3 ?c4 ?c5 ?_))
  case c1 => exact hcells
  case c2 => first | exact ⟨rfl, rfl, rfl, rfl, rfl⟩ | (intro u hu; simp at hu; rcases hu with rfl | rfl | rfl | rfl | rfl <;> rfl)
  case c3 => unfold maxLen; omega
  case c4 => omega
  case c5 => have := h2.size; simp; omega
  intro v7 w7 hown7 hgrow7 _
  obtain ⟨ao7, cap7, rfl⟩ := own_form hown7
  obtain ⟨q0, q1⟩ := hN.outGrown hgrow7
  have HP := hN.put ⟨1, nm, al, sl, []⟩ (.slice aoA al.length capA) hAN hown7 hgrow7
  have hH7 : w7.heap[w3.heap.size]? = some (tagBlock nm (.slice aoA al.length capA) sl) := (hgrow7.block _ (by have := (Array.getElem?_eq_some_iff.1 hHN).1; simpa using this) hNB).trans hHN
  have hH8 : (w7.setCell ⟨w.heap.size + 1, 0, none⟩ (.slice ao7 (l2.length + 1) cap7)).heap[w3.heap.size]? = some (tagBlock nm (.slice aoA al.length capA) sl) := (Below.heap_setCell _ _ _ _ (show w3.heap.size ≠ w.heap.size + 1 by omega)).trans hH7
  rw [len_list] at hp2
  have HR := Lib.hid hrest
  have E2 : Hid (List.map (·.1) (l2 ++ [((⟨1, nm, al, sl, []⟩ : U.Tok), Value.slice aoA al.length capA)]) = l.map (·.1) ++ (U.chars txt ++ [⟨1, nm, al, sl, []⟩])) := by
    show _ = _
    rw [List.map_append, e2, List.append_assoc]
    rfl
  have N2 : (l2 ++ [((⟨1, nm, al, sl, []⟩ : U.Tok), Value.slice aoA al.length capA)]).length ≤ l.length + 2 := by rw [List.length_append, List.length_singleton]; omega
  clear hrest hown7 hgrow7 hH7 hHN hAN hcells hN hH6 hA6 h6 x0 x1 x2 x3 x4 r0 r1 y0 z0 hz6 hHB hNB
  go_upto_region 35 with fail
  go_cut [177] (fun c177 wx => c177 = .bool false ∧ TokW w z wx (w.heap.size + 4) (w.heap.size + 1 + 1) (w.heap.size + 1) (.slice ao7 (l2.length + 1) cap7) [] (l2 ++ [((⟨1, nm, al, sl, []⟩ : U.Tok), Value.slice aoA al.length capA)]) ∧ wx.heap[w3.heap.size]? = some (tagBlock nm (.slice aoA al.length capA) sl))
  case first =>
    have x1 : (w7.setCell ⟨w.heap.size + 1, 0, none⟩ (.slice ao7 (l2.length + 1) cap7)).cell? ⟨w3.heap.size, 1, none⟩ = some (.string ⟨nm.toArray⟩) := by rw [Lib.cell_of_heap hH8]; rfl
    have HRN := Lib.hid hrn
    clear hrn
    go_wp2_with fail
    all_goals
      go_meet
      refine ⟨?_, HP, hH8⟩
      have hrn := HRN.out
      simp_all [U.rawName]
  case rest =>
    obtain ⟨rfl, hW, hB8⟩ := hcut
    clear HP hH8
    clear s0 s1 t0 t1 o0 o1 HAL b60 b33 b63 b47 HAC f0 f1 g0 g1 HTG HAC0 HG q0 q1
    have hnl := raw_len hrn
    have hBw := (Array.getElem?_eq_some_iff.1 hB8).1
    have hws := hW.size
    have hSB := (hW.fix _ hz.s1 hz.s2 hz.s3).trans hz.text
    go_wp2_with fail
    go_loopw [7, 15] (fun va vr wq => ∃ q : Nat, p ≤ q ∧ q ≤ s.size ∧ va = .int .i64 q ∧ vr = .string ⟨((s.data.toList.drop p).take (q - p)).toArray⟩ ∧ Below wc.heap.size wc wq ∧ Hid (∀ i, i < q - p → U.rawEnd nm ((s.data.toList.drop p).drop i) = false)) (fun va _ _ => s.size - (intOf va).toNat)
    case atStart => exact ⟨p, Nat.le_refl _, hp2, rfl, by simp, Below.refl _ _, Lib.hid (fun i hi => absurd hi (by omega))⟩
    case round =>
      obtain ⟨q, hpq, hqs, rfl, rfl, hb, hall⟩ := hrel
      refine raw_round s hs p q nm _ sl wc _ _ _ hSB hB8 hnl _ _ _ _ _ _ _ _ _ _ _ _ _ _ _ _ _ _ _ _ _ _ _ _ _ _ _ _ _ _ _ _ _ _ _ _ _ _ _ _ _ _ _ _ _ _ _ _ _ _ _ _ _ _ _ _ _ _ _ _ _ _ _ _ _ _ _ _ _ _ _ _ _ _ _ _ _ _ _ _ _ _ _ _ _ _ _ _ _ _ _ _ _ _ _ _ _ _ _ _ _ _ _ _ _ _ _ _ _ _ _ _ _ _ _ _ _ _ _ _ _ _ _ _ _ _ _ _ _ _ _ _ _ _ _ _ _ _ _ _ _ _ _ _ _ _ _ _ _ _ _ _ _ _ _ _ _ _ _ _ _ _ _ _ _ _ _ _ _ _ _ _ _ _ _ _ _ _ _ _ _ _ _ _ _ _ _ _ _ _ _ _ _ _ _ _ _ _ _ _ _ _ _ _ _ _ _ _ _ _ _ _ _ _ _ _ _ _ _ _ _ _ _ _ _ _ _ _ _ _ _ _ _ _ _ _ _ _ _ _ _ _ _ _ _ _ _ _ _ _ _ _ _ _ _ _ _ hpq hqs hb hall ?_
      clear hpq hqs hb hall
      intro q2 y16 y178 y179 y180 y181 y182 y183 y184 y185 y186 y187 y188 y189 y190 y191 y192 y193 y194 y195 y196 y197 y198 y199 y200 y201 y202 y203 y204 y205 y206 y207 y208 y209 y210 y211 y212 y213 y214 y215 y216 y217 y218 y219 y220 y221 y222 y223 y224 y225 y226 y227 y228 y229 y230 y231 y232 y233 y234 y235 y236 y237 y238 y239 y240 y241 y242 w9 g1 g2 g3 g4
      have hW9 := hW.later g3
      have hB9 := (g3.block _ hBw).trans hB8
      have h9s := hW9.size
      have x1 : w9.cell? ⟨w3.heap.size, 1, none⟩ = some (.string ⟨nm.toArray⟩) := by rw [Lib.cell_of_heap hB9]; rfl
      obtain ⟨r0, r1⟩ := hW9.outCell
      have hrs : ((s.data.toList.drop p).take (q2 - p)).length ≤ 600 := by
        rw [List.length_take, List.length_drop, len_list]
        omega
      have G4 := Lib.hid g4
      generalize hRR : (s.data.toList.drop p).take (q2 - p) = R at hrs ⊢
      have HRR := Lib.hid hRR
      have HRN := Lib.hid hrn
      clear hRR g4 hrn hW hB8 hSB hB9
      obtain ⟨c0, nt, hnt⟩ : ∃ c0 nt, nm = c0 :: nt := by
        have := HRN.out
        cases nm with
        | nil => cases this
        | cons a b => exact ⟨a, b, rfl⟩
      have hnz := size_of_mk nm
      have hn0 : (0 : Int) < (nm.length : Int) := by rw [hnt, List.length_cons]; omega
      have hn1 : 0 < (ByteArray.mk nm.toArray).size := by omega
      have hn2 : (ByteArray.mk nm.toArray)[0]'hn1 = c0 := by subst hnt; rfl
      have HNT := Lib.hid hnt
      clear hnt
      by_cases t116 : (c0.toNat : Int) = 116
      · have y116 := beq_yes t116
        have e116 : c0 = 116 := (byte_eq (k := 116) (by decide)).1 (by omega)
        have ru := ref_unescape (ByteArray.mk R.toArray) w9 (by rw [size_of_mk]; omega)
        rw [list_of_mk] at ru
        by_cases hR : R = []
        · --F1{
          have ht : U.rawToks nm R = [] := by unfold U.rawToks; rw [if_pos hR]
          have HT := Lib.hid ht
          subst hR
          rw [U.unesc_nil] at ru
          have HRU := Lib.hid ru
          clear ht ru t116
          go_wp2_with (go_at_call 24; refine HRU.out.mono ?_; rintro e w10 ⟨rfl, b10⟩)
          refine ⟨?_, by simp [tkMu, intOf] <;> omega⟩
          unfold TkI
          refine ⟨_, _, _, _, _, _, _, _, _, _, _, _, _, _, _, _, _, _, _, _, _, _, _, _, _, _, _, _, _, _, _, _, _, _, _, _, _, _, _, _, _, _, _, _, _, _, _, _, _, _, _, _, _, _, _, _, _, _, _, _, _, _, _,
            _, _, _, _, _, _, _, _, _, _, _, _, _, _, _, _, _, _, _, _, _, _, _, _, _, _, _, _, _, _, _, _, _, _, _, _, _, _, _, _, _, _, _, _, _, _, _, _, _, _, _, _, _, _, _, _, _, _, _, _, _, _, _,
            _, _, _, _, _, _, _, _, _, _, _, _, _, _, _, _, _, _, _, _, _, _, _, _, _, _, _, _, _, _, _, _, _, _, _, _, _, _, _, _, _, _, _, _, _, _, _, _, _, _, _, _, _, _, _, _, _, _, _, _, _, _, _,
            _, _, _, _, _, _, _, _, _, _, _, _, _, _, _, _, _, _, _, _, _, _, _, _, _, _, _, _, _, _, _, _, _, _, _, _, _, _, _, _, _, _, _, _, _, _, _, _, _, _, _, _, _, _, _, _, _, _, ?_, rfl⟩
          exact TkR.raw (hW9.later b10) HEQ.out hl HI.out HRN.out g2 (by omega) g1 HR.out G4.out (by rw [HRR.out, HT.out, List.append_nil]; exact E2.out) (by omega)
        · --F2{
          have ht : U.rawToks nm R = [⟨3, [], [], false, U.unesc R⟩] := by
            unfold U.rawToks
            rw [if_neg hR, HNT.out, e116]
            rfl
          have HT := Lib.hid ht
          have hem : (U.unesc R).isEmpty = false := by
            rw [List.isEmpty_eq_false_iff]
            exact fun e => hR ((unesc_empty R).1 e)
          have HRU := Lib.hid ru
          generalize U.unesc R = DV at HT hem HRU
          clear ht ru t116 hR
          go_wp2_with (first
            | (go_at_call 24; refine HRU.out.mono ?_; rintro e w10 ⟨rfl, b10⟩; have h2 := hW9.later b10; obtain ⟨r2, r3⟩ := h2.outCell
               have hN := h2.alloc (.cells #[.int .i64 3, .string ⟨#[]⟩, .slice none 0 0, .bool false, .string ⟨DV.toArray⟩] 34 (0, 0)); have hcells := new_cells5 (heap_alloc_new w10 (.cells #[.int .i64 3, .string ⟨#[]⟩, .slice none 0 0, .bool false, .string ⟨DV.toArray⟩] 34 (0, 0))))
            | (at_builtin; refine wpList_append_own _ rfl _ _ 22 rfl (w.heap.size + 4) 34 iT _ 5 72 Tryz.underlying22 hiT hT0 hT1 hT2 rfl (by decide) _ _ _ rfl hN.row ⟨_, 0, none⟩ 1 1 [.int .i64 3, .string ⟨#[]⟩, .slice none 0 0, .bool false, .string ⟨DV.toArray⟩] rfl rfl ?c1 ?c2 ?c3 ?c4 ?c5 ?_))
          case c1 => exact hcells
          case c2 => first | exact ⟨rfl, rfl, rfl, rfl, rfl⟩ | (intro u hu; simp at hu; rcases hu with rfl | rfl | rfl | rfl | rfl <;> rfl)
          case c3 => unfold maxLen; omega
          case c4 => omega
          case c5 => have := h2.size; simp; omega
          intro v7 w7 hown7 hgrow7 _
          obtain ⟨ao7, cap7, rfl⟩ := own_form hown7
          obtain ⟨q0, q1⟩ := hN.outGrown hgrow7
          have hLL : (l2 ++ [((⟨1, nm, al, sl, []⟩ : U.Tok), Value.slice aoA al.length capA)]).length = l2.length + 1 := by rw [List.length_append, List.length_singleton]
          have HP := hN.put (v2 := .slice ao7 (l2.length + 1 + 1) cap7) ⟨3, [], [], false, DV⟩ (.slice none 0 0) (World.ownsRow_nil _ _ _ _) (by rw [hLL]; exact hown7) hgrow7
          clear hLL hown7 hgrow7 hcells hN
          go_wp2_with fail
          refine ⟨?_, by simp [tkMu, intOf] <;> omega⟩
          unfold TkI
          refine ⟨_, _, _, _, _, _, _, _, _, _, _, _, _, _, _, _, _, _, _, _, _, _, _, _, _, _, _, _, _, _, _, _, _, _, _, _, _, _, _, _, _, _, _, _, _, _, _, _, _, _, _, _, _, _, _, _, _, _, _, _, _, _, _,
            _, _, _, _, _, _, _, _, _, _, _, _, _, _, _, _, _, _, _, _, _, _, _, _, _, _, _, _, _, _, _, _, _, _, _, _, _, _, _, _, _, _, _, _, _, _, _, _, _, _, _, _, _, _, _, _, _, _, _, _, _, _, _,
            _, _, _, _, _, _, _, _, _, _, _, _, _, _, _, _, _, _, _, _, _, _, _, _, _, _, _, _, _, _, _, _, _, _, _, _, _, _, _, _, _, _, _, _, _, _, _, _, _, _, _, _, _, _, _, _, _, _, _, _, _, _, _,
            _, _, _, _, _, _, _, _, _, _, _, _, _, _, _, _, _, _, _, _, _, _, _, _, _, _, _, _, _, _, _, _, _, _, _, _, _, _, _, _, _, _, _, _, _, _, _, _, _, _, _, _, _, _, _, _, _, _, ?_, rfl⟩
          exact TkR.raw HP HEQ.out hl HI.out HRN.out g2 (by omega) g1 HR.out G4.out (by rw [HRR.out, HT.out, List.map_append, E2.out]; rfl) (by rw [List.length_append, List.length_singleton]; omega)
      · have y116 := beq_no t116
        by_cases hR : R = []
        · --F3{
          have ht : U.rawToks nm R = [] := by unfold U.rawToks; rw [if_pos hR]
          have HT := Lib.hid ht
          subst hR
          clear ht t116
          go_wp2_with fail
          refine ⟨?_, by simp [tkMu, intOf] <;> omega⟩
          unfold TkI
          refine ⟨_, _, _, _, _, _, _, _, _, _, _, _, _, _, _, _, _, _, _, _, _, _, _, _, _, _, _, _, _, _, _, _, _, _, _, _, _, _, _, _, _, _, _, _, _, _, _, _, _, _, _, _, _, _, _, _, _, _, _, _, _, _, _,
            _, _, _, _, _, _, _, _, _, _, _, _, _, _, _, _, _, _, _, _, _, _, _, _, _, _, _, _, _, _, _, _, _, _, _, _, _, _, _, _, _, _, _, _, _, _, _, _, _, _, _, _, _, _, _, _, _, _, _, _, _, _, _,
            _, _, _, _, _, _, _, _, _, _, _, _, _, _, _, _, _, _, _, _, _, _, _, _, _, _, _, _, _, _, _, _, _, _, _, _, _, _, _, _, _, _, _, _, _, _, _, _, _, _, _, _, _, _, _, _, _, _, _, _, _, _, _,
            _, _, _, _, _, _, _, _, _, _, _, _, _, _, _, _, _, _, _, _, _, _, _, _, _, _, _, _, _, _, _, _, _, _, _, _, _, _, _, _, _, _, _, _, _, _, _, _, _, _, _, _, _, _, _, _, _, _, ?_, rfl⟩
          exact TkR.raw hW9 HEQ.out hl HI.out HRN.out g2 (by omega) g1 HR.out G4.out (by rw [HRR.out, HT.out, List.append_nil]; exact E2.out) (by omega)
        · --F4{
          have ht : U.rawToks nm R = [⟨3, [], [], false, R⟩] := by
            unfold U.rawToks
            rw [if_neg hR, HNT.out, if_neg (by simp; exact fun e => t116 (by rw [e]; rfl))]
          have HT := Lib.hid ht
          have hem : R.isEmpty = false := by rw [List.isEmpty_eq_false_iff]; exact hR
          have h2 := hW9
          have hN := h2.alloc (.cells #[.int .i64 3, .string ⟨#[]⟩, .slice none 0 0, .bool false, .string ⟨R.toArray⟩] 34 (0, 0))
          have hcells := new_cells5 (heap_alloc_new w9 (.cells #[.int .i64 3, .string ⟨#[]⟩, .slice none 0 0, .bool false, .string ⟨R.toArray⟩] 34 (0, 0)))
          clear ht t116 hR
          go_wp2_with ((at_builtin; refine wpList_append_own _ rfl _ _ 22 rfl (w.heap.size + 4) 34 iT _ 5 72 Tryz.underlying22 hiT hT0 hT1 hT2 rfl (by decide) _ _ _ rfl hN.row ⟨_, 0, none⟩ 1 1 [.int .i64 3, .string ⟨#[]⟩, .slice none 0 0, .bool false, .string ⟨R.toArray⟩] rfl rfl ?c1 ?c2 ?c3 ?c4 ?c5 ?_))
          case c1 => exact hcells
          case c2 => first | exact ⟨rfl, rfl, rfl, rfl, rfl⟩ | (intro u hu; simp at hu; rcases hu with rfl | rfl | rfl | rfl | rfl <;> rfl)
          case c3 => unfold maxLen; omega
          case c4 => omega
          case c5 => have := h2.size; simp; omega
          intro v7 w7 hown7 hgrow7 _
          obtain ⟨ao7, cap7, rfl⟩ := own_form hown7
          obtain ⟨q0, q1⟩ := hN.outGrown hgrow7
          have hLL : (l2 ++ [((⟨1, nm, al, sl, []⟩ : U.Tok), Value.slice aoA al.length capA)]).length = l2.length + 1 := by rw [List.length_append, List.length_singleton]
          have HP := hN.put (v2 := .slice ao7 (l2.length + 1 + 1) cap7) ⟨3, [], [], false, R⟩ (.slice none 0 0) (World.ownsRow_nil _ _ _ _) (by rw [hLL]; exact hown7) hgrow7
          clear hLL hown7 hgrow7 hcells hN
          go_wp2_with fail
          refine ⟨?_, by simp [tkMu, intOf] <;> omega⟩
          unfold TkI
          refine ⟨_, _, _, _, _, _, _, _, _, _, _, _, _, _, _, _, _, _, _, _, _, _, _, _, _, _, _, _, _, _, _, _, _, _, _, _, _, _, _, _, _, _, _, _, _, _, _, _, _, _, _, _, _, _, _, _, _, _, _, _, _, _, _,
            _, _, _, _, _, _, _, _, _, _, _, _, _, _, _, _, _, _, _, _, _, _, _, _, _, _, _, _, _, _, _, _, _, _, _, _, _, _, _, _, _, _, _, _, _, _, _, _, _, _, _, _, _, _, _, _, _, _, _, _, _, _, _,
            _, _, _, _, _, _, _, _, _, _, _, _, _, _, _, _, _, _, _, _, _, _, _, _, _, _, _, _, _, _, _, _, _, _, _, _, _, _, _, _, _, _, _, _, _, _, _, _, _, _, _, _, _, _, _, _, _, _, _, _, _, _, _,
            _, _, _, _, _, _, _, _, _, _, _, _, _, _, _, _, _, _, _, _, _, _, _, _, _, _, _, _, _, _, _, _, _, _, _, _, _, _, _, _, _, _, _, _, _, _, _, _, _, _, _, _, _, _, _, _, _, _, ?_, rfl⟩
          exact TkR.raw HP HEQ.out hl HI.out HRN.out g2 (by omega) g1 HR.out G4.out (by rw [HRR.out, HT.out, List.map_append, E2.out]; rfl) (by rw [List.length_append, List.length_singleton]; omega)

end Go.Proofs.YtcdgiohogddbkaaGreatDoor

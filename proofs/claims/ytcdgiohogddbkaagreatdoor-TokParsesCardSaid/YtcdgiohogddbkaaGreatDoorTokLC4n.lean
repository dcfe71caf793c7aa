/- The reference's tokens: a round of its loop: C4n. -/
import Derived.Test.YtcdgiohogddbkaaGreatDoorP23
namespace Go.Proofs.YtcdgiohogddbkaaGreatDoor
open Go.RowKit

set_option maxHeartbeats 16000000 in
set_option maxRecDepth 1000000 in
theorem tok_roundC4n (s : ByteArray) (w z : World) (hs : s.size ≤ 600) (hz : Shut s z (w.heap.size + 4) (w.heap.size + 1 + 1) (w.heap.size + 1) w.heap.size (w.heap.size + 1 + 1 + 1)) (K : Act → World → Prop) (P : Ending → World → Prop) (wr : World)
    (u8 u9 u10 u11 u12 u13 u14 u15 u16 u19 u20 u21 u22 u23 u24 u25 u26 u27 u28 u29 u30 u31 u32 u33 u34 u35 u36 u37 u38 u39 u40 u41 u42 u43 u44 u45 u46 u47 u48 u49 u50 u51 u52 u53 u54 u55 u56
    u57 u58 u59 u60 u61 u62 u63 u64 u65 u66 u67 u68 u69 u70 u71 u72 u73 u74 u75 u76 u77 u78 u79 u80 u81 u82 u83 u84 u85 u86 u87 u88 u89 u90 u91 u92 u93 u94 u95 u96 u97 u98 u99 u100 u101 u102
    u103 u104 u105 u106 u107 u108 u109 u110 u111 u112 u113 u114 u115 u116 u117 u118 u119 u120 u121 u122 u123 u124 u125 u126 u127 u128 u129 u130 u131 u132 u133 u134 u135 u136 u137 u138 u139
    u140 u141 u142 u143 u144 u145 u146 u147 u148 u149 u150 u151 u152 u153 u154 u155 u156 u157 u158 u159 u160 u161 u162 u163 u164 u165 u166 u167 u168 u169 u170 u171 u172 u173 u174 u175 u176
    u177 u178 u179 u180 u181 u182 u183 u184 u185 u186 u187 u188 u189 u190 u191 u192 u193 u194 u195 u196 u197 u198 u199 u200 u201 u202 u203 u204 u205 u206 u207 u208 u209 u210 u211 u212 u213
    u214 u215 u216 u217 u218 u219 u220 u221 u222 u223 u224 u225 u226 u227 u228 u229 u230 u231 u232 u233 u234 u235 u236 u237 u238 u239 u240 u241 u242 u243 u244 u245 u246 u247 u248 u249 u250
    u251 u252 u253 u254 u255 : Value)
    (k : Nat) (v : Value) (txt : List UInt8) (l : List (U.Tok × Value)) (h : TokW w z wr (w.heap.size + 4) (w.heap.size + 1 + 1) (w.heap.size + 1) v txt l)
    (HEQ : Hid (List.map (·.1) l ++ U.toksT txt (s.data.toList.drop k) = U.toks s.data.toList)) (ht : txt.length ≤ k) (hl : l.length ≤ 3 * k) (hlt : k < s.size) (h60 : ((s[k]'hlt).toNat : Int) = 60) (h1 : k + 1 < s.size) (c : UInt8) (ec : s[k + 1]'h1 = c) (h33 : ¬ (c.toNat : Int) = 33) (h63 : ¬ (c.toNat : Int) = 63) (h47 : ¬ (c.toNat : Int) = 47) (hal : U.isAl c = true) (hrun : U.runM U.st0 (s.data.toList.drop (k + 1)) = none) :
    Code.wp Tryz.prog tokBody (Exit.then (fun a' w' => TkI s w z a' w' ∧ tkMu s a' < tkMu s ⟨#[.string s, .pointer (some ⟨w.heap.size, 0, none⟩), .slice none 0 0, .pointer (some ⟨w.heap.size + 1, 0, none⟩), .pointer (some ⟨w.heap.size + 1 + 1, 0, none⟩), .pointer (some
      ⟨w.heap.size + 1 + 1 + 1, 0, none⟩), .func (.func 25) #[] #[.pointer (some ⟨w.heap.size + 1 + 1 + 1, 0, none⟩), .pointer (some ⟨w.heap.size, 0, none⟩),
      .pointer (some ⟨w.heap.size + 1, 0, none⟩)], .int .i64 (k : Nat), u8, u9, u10, u11, u12, u13, u14, u15, u16, .func (.func 23) #[] #[.pointer (some
      ⟨w.heap.size + 1 + 1, 0, none⟩), .pointer (some ⟨w.heap.size + 1, 0, none⟩)], .func (.func 25) #[] #[.pointer (some ⟨w.heap.size + 1 + 1 + 1, 0, none⟩),
      .pointer (some ⟨w.heap.size, 0, none⟩), .pointer (some ⟨w.heap.size + 1, 0, none⟩)], u19, u20, u21, u22, u23, u24, u25, u26, u27, u28, u29, u30, u31, u32, u33, u34, u35, u36, u37, u38,
      u39, u40, u41, u42, u43, u44, u45, u46, u47, u48, u49, u50, u51, u52, u53, u54, u55, u56, u57, u58, u59, u60, u61, u62, u63, u64, u65, u66, u67, u68, u69, u70, u71, u72, u73, u74, u75,
      u76, u77, u78, u79, u80, u81, u82, u83, u84, u85, u86, u87, u88, u89, u90, u91, u92, u93, u94, u95, u96, u97, u98, u99, u100, u101, u102, u103, u104, u105, u106, u107, u108, u109,
      u110, u111, u112, u113, u114, u115, u116, u117, u118, u119, u120, u121, u122, u123, u124, u125, u126, u127, u128, u129, u130, u131, u132, u133, u134, u135, u136, u137, u138, u139,
      u140, u141, u142, u143, u144, u145, u146, u147, u148, u149, u150, u151, u152, u153, u154, u155, u156, u157, u158, u159, u160, u161, u162, u163, u164, u165, u166, u167, u168, u169,
      u170, u171, u172, u173, u174, u175, u176, u177, u178, u179, u180, u181, u182, u183, u184, u185, u186, u187, u188, u189, u190, u191, u192, u193, u194, u195, u196, u197, u198, u199,
      u200, u201, u202, u203, u204, u205, u206, u207, u208, u209, u210, u211, u212, u213, u214, u215, u216, u217, u218, u219, u220, u221, u222, u223, u224, u225, u226, u227, u228, u229,
      u230, u231, u232, u233, u234, u235, u236, u237, u238, u239, u240, u241, u242, u243, u244, u245, u246, u247, u248, u249, u250, u251, u252, u253, u254, u255, undef, undef, undef], []⟩)
      (Exit.inBlock 0 (Exit.then K (bodyPost Tryz.prog Tryz.f12 P)))) ⟨#[.string s, .pointer (some ⟨w.heap.size, 0, none⟩), .slice none 0 0, .pointer (some ⟨w.heap.size + 1, 0, none⟩), .pointer (some ⟨w.heap.size + 1 + 1, 0, none⟩), .pointer (some
      ⟨w.heap.size + 1 + 1 + 1, 0, none⟩), .func (.func 25) #[] #[.pointer (some ⟨w.heap.size + 1 + 1 + 1, 0, none⟩), .pointer (some ⟨w.heap.size, 0, none⟩),
      .pointer (some ⟨w.heap.size + 1, 0, none⟩)], .int .i64 (k : Nat), u8, u9, u10, u11, u12, u13, u14, u15, u16, .func (.func 23) #[] #[.pointer (some
      ⟨w.heap.size + 1 + 1, 0, none⟩), .pointer (some ⟨w.heap.size + 1, 0, none⟩)], .func (.func 25) #[] #[.pointer (some ⟨w.heap.size + 1 + 1 + 1, 0, none⟩),
      .pointer (some ⟨w.heap.size, 0, none⟩), .pointer (some ⟨w.heap.size + 1, 0, none⟩)], u19, u20, u21, u22, u23, u24, u25, u26, u27, u28, u29, u30, u31, u32, u33, u34, u35, u36, u37, u38,
      u39, u40, u41, u42, u43, u44, u45, u46, u47, u48, u49, u50, u51, u52, u53, u54, u55, u56, u57, u58, u59, u60, u61, u62, u63, u64, u65, u66, u67, u68, u69, u70, u71, u72, u73, u74, u75,
      u76, u77, u78, u79, u80, u81, u82, u83, u84, u85, u86, u87, u88, u89, u90, u91, u92, u93, u94, u95, u96, u97, u98, u99, u100, u101, u102, u103, u104, u105, u106, u107, u108, u109,
      u110, u111, u112, u113, u114, u115, u116, u117, u118, u119, u120, u121, u122, u123, u124, u125, u126, u127, u128, u129, u130, u131, u132, u133, u134, u135, u136, u137, u138, u139,
      u140, u141, u142, u143, u144, u145, u146, u147, u148, u149, u150, u151, u152, u153, u154, u155, u156, u157, u158, u159, u160, u161, u162, u163, u164, u165, u166, u167, u168, u169,
      u170, u171, u172, u173, u174, u175, u176, u177, u178, u179, u180, u181, u182, u183, u184, u185, u186, u187, u188, u189, u190, u191, u192, u193, u194, u195, u196, u197, u198, u199,
      u200, u201, u202, u203, u204, u205, u206, u207, u208, u209, u210, u211, u212, u213, u214, u215, u216, u217, u218, u219, u220, u221, u222, u223, u224, u225, u226, u227, u228, u229,
      u230, u231, u232, u233, u234, u235, u236, u237, u238, u239, u240, u241, u242, u243, u244, u245, u246, u247, u248, u249, u250, u251, u252, u253, u254, u255, undef, undef, undef], []⟩ wr := by
  obtain ⟨s0, s1⟩ := h.fixed hz.text hz.s1 hz.s2 hz.s3
  have hbs := h.below.size
  have hBs := h.size
  obtain ⟨t0, t1⟩ := h.textCell
  obtain ⟨o0, o1⟩ := h.outCell
  have hal : ∀ w', Calls Tryz.prog 27 #[.int .u8 0] w' fun e w'' => e = .returned (.bool false) ∧ w' = w'' := fun w' => is_alpha 0 w'
  have HAL := Lib.hid hal
  clear hal
  have hg := drop_byte (byte_get s hlt)
  have hk0 : (0 : Int) ≤ (k : Int) := Int.natCast_nonneg _
  have hk1 : (k : Int) < (s.size : Int) := by omega
  conv => arg 2; whnf
  have b60 := beq_yes h60
  have e60 : s[k]'hlt = 60 := (byte_eq (k := 60) (by decide)).1 (by omega)
  rw [e60] at hg
  have hg1 := drop_byte (byte_get s h1)
  have hi3 : (k : Int) + 1 < (s.size : Int) := by omega
  rw [ec] at hg1
  rw [hg1] at hg
  have hac : ∀ w', Calls Tryz.prog 27 #[.int .u8 c.toNat] w' fun e w'' => e = .returned (.bool (U.isAl c)) ∧ w' = w'' := fun w' => is_alpha c w'
  have HAC0 := Lib.hid hac
  have HG := Lib.hid hg
  clear hac hg hg1 e60 h60
  have b33 := beq_no h33
  have b63 := beq_no h63
  have b47 := beq_no h47
  have hac : ∀ w', Calls Tryz.prog 27 #[.int .u8 c.toNat] w' fun e w'' => e = .returned (.bool true) ∧ w' = w'' := fun w' => hal ▸ HAC0.out w'
  have HAC := Lib.hid hac
  clear hac
  have htg := tag_at s (k + 1) wr (by omega) (by omega)
  rw [show ((k + 1 : Nat) : Int) = (k : Int) + 1 by omega] at htg
  unfold tagV at htg
  obtain ⟨f0, f1⟩ := h.fixed hz.fn hz.f1 hz.f2 hz.f3
  have hit : U.item (s.data.toList.drop k) = U.startI (s.data.toList.drop (k + 1)) := by
    rw [HG.out, drop_byte (byte_get s h1), ec, U.item_cons, if_neg (by decide), if_pos hal]
  unfold U.startI at hit
  clear hal h47 h63 h33
  rw [hrun] at htg hit
  simp only at htg hit
  have HTG := Lib.hid htg
  have HI := Lib.hid hit
  clear htg hit hrun
  go_wp2_with (first
    | (go_at_call 27; first | (refine (HAC.out _).mono ?_; rintro e w2 ⟨rfl, rfl⟩))
    | (go_at_call 28; refine HTG.out.mono ?_; rintro e w3 ⟨vt, rfl, rfl, hb3⟩; have h4 := (h.later hb3).alloc (.cells #[.int .i64 0, .string ⟨#[]⟩, .slice none 0 0, .bool false, .string ⟨#[]⟩] 34 (0, 0)); obtain ⟨g0, g1⟩ := h4.fixed hz.fn hz.f1 hz.f2 hz.f3)
    | (go_at_call 23; refine (flush_walk w z _ _ _ _ v txt l h4 (by omega) (by omega)).mono ?_; rintro e w5 ⟨rfl, v2, l2, h2, e2, n2, _⟩; obtain ⟨q0, q1⟩ := h2.fixed hz.text hz.s1 hz.s2 hz.s3))
  refine ⟨?_, by simp [tkMu, intOf] <;> omega⟩
  unfold TkI
  refine ⟨_, _, _, _, _, _, _, _, _, _, _, _, _, _, _, _, _, _, _, _, _, _, _, _, _, _, _, _, _, _, _, _, _, _, _, _, _, _, _, _, _, _, _, _, _, _, _, _, _, _, _, _, _, _, _, _, _, _, _, _, _, _, _,
    _, _, _, _, _, _, _, _, _, _, _, _, _, _, _, _, _, _, _, _, _, _, _, _, _, _, _, _, _, _, _, _, _, _, _, _, _, _, _, _, _, _, _, _, _, _, _, _, _, _, _, _, _, _, _, _, _, _, _, _, _, _, _,
    _, _, _, _, _, _, _, _, _, _, _, _, _, _, _, _, _, _, _, _, _, _, _, _, _, _, _, _, _, _, _, _, _, _, _, _, _, _, _, _, _, _, _, _, _, _, _, _, _, _, _, _, _, _, _, _, _, _, _, _, _, _, _,
    _, _, _, _, _, _, _, _, _, _, _, _, _, _, _, _, _, _, _, _, _, _, _, _, _, _, _, _, _, _, _, _, _, _, _, _, _, _, _, _, _, _, _, _, _, _, _, _, _, _, _, _, _, _, _, _, _, _, ?_, rfl⟩
  exact TkR.stop h2 HEQ.out hlt hl HI.out e2 n2

end Go.Proofs.YtcdgiohogddbkaaGreatDoor

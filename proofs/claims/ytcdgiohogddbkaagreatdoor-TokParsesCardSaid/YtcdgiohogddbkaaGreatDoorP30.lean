/- Several texts in one: TokLC5, Tokens, TokParsed, Lower. -/
import Derived.Lib.ConvBytes
import Derived.Laws.IdiomStrings
import Derived.Outline
import Derived.Test.YtcdgiohogddbkaaGreatDoorP23
import Derived.Test.YtcdgiohogddbkaaGreatDoorP24
import Derived.Test.YtcdgiohogddbkaaGreatDoorP25
import Derived.Test.YtcdgiohogddbkaaGreatDoorTokLC4n
import Derived.Test.YtcdgiohogddbkaaGreatDoorTokLC4o
import Derived.Test.YtcdgiohogddbkaaGreatDoorTokLC4r
import Derived.Test.YtcdgiohogddbkaaGreatDoorP06
import Derived.Test.YtcdgiohogddbkaaGreatDoorP00
namespace Go.Proofs.YtcdgiohogddbkaaGreatDoor
open Go.RowKit

set_option maxHeartbeats 16000000 in
set_option maxRecDepth 1000000 in
theorem tok_roundC5 (s : ByteArray) (w z : World) (hs : s.size ≤ 600) (hz : Shut s z (w.heap.size + 4) (w.heap.size + 1 + 1) (w.heap.size + 1) w.heap.size (w.heap.size + 1 + 1 + 1)) (K : Act → World → Prop) (P : Ending → World → Prop) (wr : World)
    (u8 u9 u10 u11 u12 u13 u14 u15 u16 u19 u20 u21 u22 u23 u24 u25 u26 u27 u28 u29 u30 u31 u32 u33 u34 u35 u36 u37 u38 u39 u40 u41 u42 u43 u44 u45 u46 u47 u48 u49 u50 u51 u52 u53 u54 u55 u56
    u57 u58 u59 u60 u61 u62 u63 u64 u65 u66 u67 u68 u69 u70 u71 u72 u73 u74 u75 u76 u77 u78 u79 u80 u81 u82 u83 u84 u85 u86 u87 u88 u89 u90 u91 u92 u93 u94 u95 u96 u97 u98 u99 u100 u101 u102
    u103 u104 u105 u106 u107 u108 u109 u110 u111 u112 u113 u114 u115 u116 u117 u118 u119 u120 u121 u122 u123 u124 u125 u126 u127 u128 u129 u130 u131 u132 u133 u134 u135 u136 u137 u138 u139
    u140 u141 u142 u143 u144 u145 u146 u147 u148 u149 u150 u151 u152 u153 u154 u155 u156 u157 u158 u159 u160 u161 u162 u163 u164 u165 u166 u167 u168 u169 u170 u171 u172 u173 u174 u175 u176
    u177 u178 u179 u180 u181 u182 u183 u184 u185 u186 u187 u188 u189 u190 u191 u192 u193 u194 u195 u196 u197 u198 u199 u200 u201 u202 u203 u204 u205 u206 u207 u208 u209 u210 u211 u212 u213
    u214 u215 u216 u217 u218 u219 u220 u221 u222 u223 u224 u225 u226 u227 u228 u229 u230 u231 u232 u233 u234 u235 u236 u237 u238 u239 u240 u241 u242 u243 u244 u245 u246 u247 u248 u249 u250
    u251 u252 u253 u254 u255 : Value)
    (k : Nat) (v : Value) (txt : List UInt8) (l : List (U.Tok × Value)) (h : TokW w z wr (w.heap.size + 4) (w.heap.size + 1 + 1) (w.heap.size + 1) v txt l)
    (HEQ : Hid (List.map (·.1) l ++ U.toksT txt (s.data.toList.drop k) = U.toks s.data.toList)) (ht : txt.length ≤ k) (hl : l.length ≤ 3 * k) (hlt : k < s.size) (h60 : ((s[k]'hlt).toNat : Int) = 60) (h1 : k + 1 < s.size) (c : UInt8) (ec : s[k + 1]'h1 = c) (h33 : ¬ (c.toNat : Int) = 33) (h63 : ¬ (c.toNat : Int) = 63) (h47 : ¬ (c.toNat : Int) = 47) (hal : U.isAl c = false) :
    Code.wp Tryz.prog tokBody (Exit.then (fun a' w' => TkI s w z a' w' ∧ tkMu s a' < tkMu s ⟨#[.string s, .pointer (some ⟨w.heap.size, 0, none⟩), .slice none 0 0, .pointer (some ⟨w.heap.size + 1, 0, none⟩), .pointer (some ⟨w.heap.size + 1 + 1, 0, none⟩), .pointer (some
      ⟨w.heap.size + 1 + 1 + 1, 0, none⟩), .func (.func 25) #[] #[.pointer (some ⟨w.heap.size + 1 + 1 + 1, 0, none⟩), .pointer (some ⟨w.heap.size, 0, none⟩),
      .pointer (some ⟨w.heap.size + 1, 0, none⟩)], .int .i64 (k : Nat), u8, u9, u10, u11, u12, u13, u14, u15, u16, .func (.func 23) #[] #[.pointer (some
      ⟨w.heap.size + 1 + 1, 0, none⟩), .pointer (some ⟨w.heap.size + 1, 0, none⟩)], .func (.func 25) #[] #[.pointer (some ⟨w.heap.size + 1 + 1 + 1, 0, none⟩),
      .pointer (some ⟨w.heap.size, 0, none⟩), .pointer (some ⟨w.heap.size + 1, 0, none⟩)], u19, u20, u21, u22, u23, u24, u25, u26, u27, u28, u29, u30, u31, u32, u33, u34, u35, u36, u37, u38,
      u39, u40, u41, u42, u43, u44, u45, u46, u47, u48, u49, u50, u51, u52, u53, u54, u55, u56, u57, u58, u59, u60, u61, u62, u63, u64, u65, u66, u67, u68, u69, u70, u71, u72, u73, u74, u75,
      u76, u77, u78, u79, u80, u81, u82, u83, u84, u85, u86, u87, u88, u89, u90, u91, u92, u93, u94, u95, u96, u97, u98, u99, u100, u101, u102, u103, u104, u105, u106, u107, u108, u109,
      u110, u111, u112, u113, u114, u115, u116, u117, u118, u119, u120, u121, u122, u123, u124, u125, u126, u127, u128, u129, u130, u131, u132, u133, u134, u135, u136, u137, u138, u139,
      u140, u141, u142, u143, u144, u145, u146, u147, u148, u149, u150, u151, u152, u153, u154, u155, u156, u157, u158, u159, u160, u161, u162, u163, u164, u165, u166, u167, u168, u169,
      u170, u171, u172, u173, u174, u175, u176, u177, u178, u179, u180, u181, u182, u183, u184, u185, u186, u187, u188, u189, u190, u191, u192, u193, u194, u195, u196, u197, u198, u199,
      u200, u201, u202, u203, u204, u205, u206, u207, u208, u209, u210, u211, u212, u213, u214, u215, u216, u217, u218, u219, u220, u221, u222, u223, u224, u225, u226, u227, u228, u229,
      u230, u231, u232, u233, u234, u235, u236, u237, u238, u239, u240, u241, u242, u243, u244, u245, u246, u247, u248, u249, u250, u251, u252, u253, u254, u255, undef, undef, undef], []⟩)
      (Exit.inBlock 0 (Exit.then K (bodyPost Tryz.prog Tryz.f12 P)))) ⟨#[.string s, .pointer (some ⟨w.heap.size, 0, none⟩), .slice none 0 0, .pointer (some ⟨w.heap.size + 1, 0, none⟩), .pointer (some ⟨w.heap.size + 1 + 1, 0, none⟩), .pointer (some
      ⟨w.heap.size + 1 + 1 + 1, 0, none⟩), .func (.func 25) #[] #[.pointer (some ⟨w.heap.size + 1 + 1 + 1, 0, none⟩), .pointer (some ⟨w.heap.size, 0, none⟩),
      .pointer (some ⟨w.heap.size + 1, 0, none⟩)], .int .i64 (k : Nat), u8, u9, u10, u11, u12, u13, u14, u15, u16, .func (.func 23) #[] #[.pointer (some
      ⟨w.heap.size + 1 + 1, 0, none⟩), .pointer (some ⟨w.heap.size + 1, 0, none⟩)], .func (.func 25) #[] #[.pointer (some ⟨w.heap.size + 1 + 1 + 1, 0, none⟩),
      .pointer (some ⟨w.heap.size, 0, none⟩), .pointer (some ⟨w.heap.size + 1, 0, none⟩)], u19, u20, u21, u22, u23, u24, u25, u26, u27, u28, u29, u30, u31, u32, u33, u34, u35, u36, u37, u38,
      u39, u40, u41, u42, u43, u44, u45, u46, u47, u48, u49, u50, u51, u52, u53, u54, u55, u56, u57, u58, u59, u60, u61, u62, u63, u64, u65, u66, u67, u68, u69, u70, u71, u72, u73, u74, u75,
      u76, u77, u78, u79, u80, u81, u82, u83, u84, u85, u86, u87, u88, u89, u90, u91, u92, u93, u94, u95, u96, u97, u98, u99, u100, u101, u102, u103, u104, u105, u106, u107, u108, u109,
      u110, u111, u112, u113, u114, u115, u116, u117, u118, u119, u120, u121, u122, u123, u124, u125, u126, u127, u128, u129, u130, u131, u132, u133, u134, u135, u136, u137, u138, u139,
      u140, u141, u142, u143, u144, u145, u146, u147, u148, u149, u150, u151, u152, u153, u154, u155, u156, u157, u158, u159, u160, u161, u162, u163, u164, u165, u166, u167, u168, u169,
      u170, u171, u172, u173, u174, u175, u176, u177, u178, u179, u180, u181, u182, u183, u184, u185, u186, u187, u188, u189, u190, u191, u192, u193, u194, u195, u196, u197, u198, u199,
      u200, u201, u202, u203, u204, u205, u206, u207, u208, u209, u210, u211, u212, u213, u214, u215, u216, u217, u218, u219, u220, u221, u222, u223, u224, u225, u226, u227, u228, u229,
      u230, u231, u232, u233, u234, u235, u236, u237, u238, u239, u240, u241, u242, u243, u244, u245, u246, u247, u248, u249, u250, u251, u252, u253, u254, u255, undef, undef, undef], []⟩ wr := by
  obtain ⟨s0, s1⟩ := h.fixed hz.text hz.s1 hz.s2 hz.s3
  have hbs := h.below.size
  have hBs := h.size
  obtain ⟨t0, t1⟩ := h.textCell
  obtain ⟨o0, o1⟩ := h.outCell
  have hal : ∀ w', Calls Tryz.prog 27 #[.int .u8 0] w' fun e w'' => e = .returned (.bool false) ∧ w' = w'' := fun w' => is_alpha 0 w'
  have HAL := Lib.hid hal
  clear hal
  have hg := drop_byte (byte_get s hlt)
  have hk0 : (0 : Int) ≤ (k : Int) := Int.natCast_nonneg _
  have hk1 : (k : Int) < (s.size : Int) := by omega
  conv => arg 2; whnf
  have b60 := beq_yes h60
  have e60 : s[k]'hlt = 60 := (byte_eq (k := 60) (by decide)).1 (by omega)
  rw [e60] at hg
  have hg1 := drop_byte (byte_get s h1)
  have hi3 : (k : Int) + 1 < (s.size : Int) := by omega
  rw [ec] at hg1
  rw [hg1] at hg
  have hac : ∀ w', Calls Tryz.prog 27 #[.int .u8 c.toNat] w' fun e w'' => e = .returned (.bool (U.isAl c)) ∧ w' = w'' := fun w' => is_alpha c w'
  have HAC0 := Lib.hid hac
  have HG := Lib.hid hg
  clear hac hg hg1 e60 h60
  have b33 := beq_no h33
  have b63 := beq_no h63
  have b47 := beq_no h47
  have hac : ∀ w', Calls Tryz.prog 27 #[.int .u8 c.toNat] w' fun e w'' => e = .returned (.bool false) ∧ w' = w'' := fun w' => hal ▸ HAC0.out w'
  have HAC := Lib.hid hac
  clear hac
  have hit : U.item (s.data.toList.drop k) = .text := by
    rw [HG.out, U.item_cons, if_neg (by decide), hal, if_neg (by decide), if_neg (fun e => h33 (by rw [e]; rfl)), if_neg (fun e => h63 (by rw [e]; rfl)), if_neg (fun e => h47 (by rw [e]; rfl))]
  clear hal h47 h63 h33
  have HI := Lib.hid hit
  have hi1 : (k : Int) + 1 ≤ (s.size : Int) := by omega
  clear hit
  go_wp2_with ((go_at_call 27; first | (refine (HAC.out _).mono ?_; rintro e w2 ⟨rfl, rfl⟩)))
  go_region
  all_goals go_wp2_with fail
  all_goals
    refine ⟨?_, by simp [tkMu, intOf] <;> omega⟩
    unfold TkI
    refine ⟨_, _, _, _, _, _, _, _, _, _, _, _, _, _, _, _, _, _, _, _, _, _, _, _, _, _, _, _, _, _, _, _, _, _, _, _, _, _, _, _, _, _, _, _, _, _, _, _, _, _, _, _, _, _, _, _, _, _, _, _, _, _, _,
      _, _, _, _, _, _, _, _, _, _, _, _, _, _, _, _, _, _, _, _, _, _, _, _, _, _, _, _, _, _, _, _, _, _, _, _, _, _, _, _, _, _, _, _, _, _, _, _, _, _, _, _, _, _, _, _, _, _, _, _, _, _, _,
      _, _, _, _, _, _, _, _, _, _, _, _, _, _, _, _, _, _, _, _, _, _, _, _, _, _, _, _, _, _, _, _, _, _, _, _, _, _, _, _, _, _, _, _, _, _, _, _, _, _, _, _, _, _, _, _, _, _, _, _, _, _, _,
      _, _, _, _, _, _, _, _, _, _, _, _, _, _, _, _, _, _, _, _, _, _, _, _, _, _, _, _, _, _, _, _, _, _, _, _, _, _, _, _, _, _, _, _, _, _, _, _, _, _, _, _, _, _, _, _, _, _, ?_, rfl⟩
    exact TkR.text h hlt HEQ.out ht hl HI.out

end Go.Proofs.YtcdgiohogddbkaaGreatDoor

namespace Go.Proofs.YtcdgiohogddbkaaGreatDoor
open Go.RowKit

set_option maxHeartbeats 16000000 in
set_option maxRecDepth 1000000 in
theorem tokens_walk (s : ByteArray) (w : World) (hs : s.size ≤ 600) :
    Calls Tryz.prog 12 #[.string s] w fun e w' => ∃ (v : Value) (l : List (U.Tok × Value)), e = .returned v ∧ l.map (·.1) = U.toks s.data.toList ∧ w'.ownsRow (w.heap.size + 4) 34 5 v l.length (tokCells l) ∧ (∀ x ∈ l, w'.ownsRow w.heap.size 52 2 x.2 x.1.attrs.length (attCells x.1.attrs)) ∧ Below w.heap.size w w' ∧ l.length ≤ 1801 := by
  obtain ⟨z, hz, h0⟩ : ∃ z, Shut s z (w.heap.size + 4) (w.heap.size + 1 + 1) (w.heap.size + 1) w.heap.size (w.heap.size + 1 + 1 + 1) ∧ TokW w z (tz4 w s) (w.heap.size + 4) (w.heap.size + 1 + 1) (w.heap.size + 1) (.slice none 0 0) [] [] := ⟨_, tz_shut w s, tz_start w s⟩
  have hal : ∀ w', Calls Tryz.prog 27 #[.int .u8 0] w' fun e w'' => e = .returned (.bool false) ∧ w' = w'' := fun w' => is_alpha 0 w'
  have HAL := Lib.hid hal
  clear hal
  go_enter Tryz.func12, Tryz.ntmps12
  go_wp2_with fail
  go_loopw [7] (fun va wr => TkR s w z wr va) (fun va _ => s.size - (intOf va).toNat)
  case atStart => exact ⟨0, _, [], [], Nat.zero_le _, rfl, h0, by rw [List.drop_zero]; rfl, Nat.le_refl _, Nat.le_refl _⟩
  case round =>
    obtain ⟨k, v, txt, l, hk, rfl, h, heq, ht, hl⟩ := hrel
    have HEQ := Lib.hid heq
    clear heq
    by_cases hlt : k < s.size
    · by_cases h60 : ((s[k]'hlt).toNat : Int) = 60
      · by_cases h1 : k + 1 < s.size
        · obtain ⟨c, ec⟩ : ∃ c, s[k + 1]'h1 = c := ⟨_, rfl⟩
          by_cases h33 : (c.toNat : Int) = 33
          · by_cases h3 : k + 3 < s.size
            · by_cases hdd : (s.data.toList.drop (k + 1 + 1)).take 2 = [45, 45]
              · exact tok_roundC1a s w z hs hz _ _ wr _ _ _ _ _ _ _ _ _ _ _ _ _ _ _ _ _ _ _ _ _ _ _ _ _ _ _ _ _ _ _ _ _ _ _ _ _ _ _ _ _ _ _ _ _ _ _ _ _ _ _ _ _ _ _ _ _ _ _ _ _ _ _ _ _ _ _ _ _ _ _ _ _ _ _ _ _ _ _ _ _ _ _ _ _ _ _ _ _ _ _ _ _ _ _ _ _ _ _ _ _ _ _ _ _ _ _ _ _ _ _ _ _ _ _ _ _ _ _ _ _ _ _ _ _ _ _ _ _ _ _ _ _ _ _ _ _ _ _ _ _ _ _ _ _ _ _ _ _ _ _ _ _ _ _ _ _ _ _ _ _ _ _ _ _ _ _ _ _ _ _ _ _ _ _ _ _ _ _ _ _ _ _ _ _ _ _ _ _ _ _ _ _ _ _ _ _ _ _ _ _ _ _ _ _ _ _ _ _ _ _ _ _ _ _ _ _ _ _ _ _ _ _ _ _ _ _ _ _ _ _ _ _ _ _ _ _ _ _ _ _ _ _ _ _ _ k v txt l h HEQ ht hl hlt h60 h1 c ec h33 h3 hdd
              · exact tok_roundC1b s w z hs hz _ _ wr _ _ _ _ _ _ _ _ _ _ _ _ _ _ _ _ _ _ _ _ _ _ _ _ _ _ _ _ _ _ _ _ _ _ _ _ _ _ _ _ _ _ _ _ _ _ _ _ _ _ _ _ _ _ _ _ _ _ _ _ _ _ _ _ _ _ _ _ _ _ _ _ _ _ _ _ _ _ _ _ _ _ _ _ _ _ _ _ _ _ _ _ _ _ _ _ _ _ _ _ _ _ _ _ _ _ _ _ _ _ _ _ _ _ _ _ _ _ _ _ _ _ _ _ _ _ _ _ _ _ _ _ _ _ _ _ _ _ _ _ _ _ _ _ _ _ _ _ _ _ _ _ _ _ _ _ _ _ _ _ _ _ _ _ _ _ _ _ _ _ _ _ _ _ _ _ _ _ _ _ _ _ _ _ _ _ _ _ _ _ _ _ _ _ _ _ _ _ _ _ _ _ _ _ _ _ _ _ _ _ _ _ _ _ _ _ _ _ _ _ _ _ _ _ _ _ _ _ _ _ _ _ _ _ _ _ _ _ _ _ _ _ _ _ _ _ k v txt l h HEQ ht hl hlt h60 h1 c ec h33 h3 hdd
            · exact tok_roundC1c s w z hs hz _ _ wr _ _ _ _ _ _ _ _ _ _ _ _ _ _ _ _ _ _ _ _ _ _ _ _ _ _ _ _ _ _ _ _ _ _ _ _ _ _ _ _ _ _ _ _ _ _ _ _ _ _ _ _ _ _ _ _ _ _ _ _ _ _ _ _ _ _ _ _ _ _ _ _ _ _ _ _ _ _ _ _ _ _ _ _ _ _ _ _ _ _ _ _ _ _ _ _ _ _ _ _ _ _ _ _ _ _ _ _ _ _ _ _ _ _ _ _ _ _ _ _ _ _ _ _ _ _ _ _ _ _ _ _ _ _ _ _ _ _ _ _ _ _ _ _ _ _ _ _ _ _ _ _ _ _ _ _ _ _ _ _ _ _ _ _ _ _ _ _ _ _ _ _ _ _ _ _ _ _ _ _ _ _ _ _ _ _ _ _ _ _ _ _ _ _ _ _ _ _ _ _ _ _ _ _ _ _ _ _ _ _ _ _ _ _ _ _ _ _ _ _ _ _ _ _ _ _ _ _ _ _ _ _ _ _ _ _ _ _ _ _ _ _ _ _ _ _ k v txt l h HEQ ht hl hlt h60 h1 c ec h33 h3
          · by_cases h63 : (c.toNat : Int) = 63
            · exact tok_roundC2 s w z hs hz _ _ wr _ _ _ _ _ _ _ _ _ _ _ _ _ _ _ _ _ _ _ _ _ _ _ _ _ _ _ _ _ _ _ _ _ _ _ _ _ _ _ _ _ _ _ _ _ _ _ _ _ _ _ _ _ _ _ _ _ _ _ _ _ _ _ _ _ _ _ _ _ _ _ _ _ _ _ _ _ _ _ _ _ _ _ _ _ _ _ _ _ _ _ _ _ _ _ _ _ _ _ _ _ _ _ _ _ _ _ _ _ _ _ _ _ _ _ _ _ _ _ _ _ _ _ _ _ _ _ _ _ _ _ _ _ _ _ _ _ _ _ _ _ _ _ _ _ _ _ _ _ _ _ _ _ _ _ _ _ _ _ _ _ _ _ _ _ _ _ _ _ _ _ _ _ _ _ _ _ _ _ _ _ _ _ _ _ _ _ _ _ _ _ _ _ _ _ _ _ _ _ _ _ _ _ _ _ _ _ _ _ _ _ _ _ _ _ _ _ _ _ _ _ _ _ _ _ _ _ _ _ _ _ _ _ _ _ _ _ _ _ _ _ _ _ _ _ _ k v txt l h HEQ ht hl hlt h60 h1 c ec h33 h63
            · by_cases h47 : (c.toNat : Int) = 47
              · by_cases h2 : k + 2 < s.size
                · obtain ⟨d, ed⟩ : ∃ d, s[k + 2]'h2 = d := ⟨_, rfl⟩
                  cases hal : U.isAl d with
                  | true =>
                    cases hrun : U.runM U.st0 (s.data.toList.drop (k + 2)) with
                    | none => exact tok_roundC3n s w z hs hz _ _ wr _ _ _ _ _ _ _ _ _ _ _ _ _ _ _ _ _ _ _ _ _ _ _ _ _ _ _ _ _ _ _ _ _ _ _ _ _ _ _ _ _ _ _ _ _ _ _ _ _ _ _ _ _ _ _ _ _ _ _ _ _ _ _ _ _ _ _ _ _ _ _ _ _ _ _ _ _ _ _ _ _ _ _ _ _ _ _ _ _ _ _ _ _ _ _ _ _ _ _ _ _ _ _ _ _ _ _ _ _ _ _ _ _ _ _ _ _ _ _ _ _ _ _ _ _ _ _ _ _ _ _ _ _ _ _ _ _ _ _ _ _ _ _ _ _ _ _ _ _ _ _ _ _ _ _ _ _ _ _ _ _ _ _ _ _ _ _ _ _ _ _ _ _ _ _ _ _ _ _ _ _ _ _ _ _ _ _ _ _ _ _ _ _ _ _ _ _ _ _ _ _ _ _ _ _ _ _ _ _ _ _ _ _ _ _ _ _ _ _ _ _ _ _ _ _ _ _ _ _ _ _ _ _ _ _ _ _ _ _ _ _ _ _ _ _ _ k v txt l h HEQ ht hl hlt h60 h1 c ec h33 h63 h47 h2 d ed hal hrun
                    | some x => exact tok_roundC3b s w z hs hz _ _ wr _ _ _ _ _ _ _ _ _ _ _ _ _ _ _ _ _ _ _ _ _ _ _ _ _ _ _ _ _ _ _ _ _ _ _ _ _ _ _ _ _ _ _ _ _ _ _ _ _ _ _ _ _ _ _ _ _ _ _ _ _ _ _ _ _ _ _ _ _ _ _ _ _ _ _ _ _ _ _ _ _ _ _ _ _ _ _ _ _ _ _ _ _ _ _ _ _ _ _ _ _ _ _ _ _ _ _ _ _ _ _ _ _ _ _ _ _ _ _ _ _ _ _ _ _ _ _ _ _ _ _ _ _ _ _ _ _ _ _ _ _ _ _ _ _ _ _ _ _ _ _ _ _ _ _ _ _ _ _ _ _ _ _ _ _ _ _ _ _ _ _ _ _ _ _ _ _ _ _ _ _ _ _ _ _ _ _ _ _ _ _ _ _ _ _ _ _ _ _ _ _ _ _ _ _ _ _ _ _ _ _ _ _ _ _ _ _ _ _ _ _ _ _ _ _ _ _ _ _ _ _ _ _ _ _ _ _ _ _ _ _ _ _ _ _ _ k v txt l h HEQ ht hl hlt h60 h1 c ec h33 h63 h47 h2 d ed hal x.1 x.2 hrun
                  | false => exact tok_roundC3a s w z hs hz _ _ wr _ _ _ _ _ _ _ _ _ _ _ _ _ _ _ _ _ _ _ _ _ _ _ _ _ _ _ _ _ _ _ _ _ _ _ _ _ _ _ _ _ _ _ _ _ _ _ _ _ _ _ _ _ _ _ _ _ _ _ _ _ _ _ _ _ _ _ _ _ _ _ _ _ _ _ _ _ _ _ _ _ _ _ _ _ _ _ _ _ _ _ _ _ _ _ _ _ _ _ _ _ _ _ _ _ _ _ _ _ _ _ _ _ _ _ _ _ _ _ _ _ _ _ _ _ _ _ _ _ _ _ _ _ _ _ _ _ _ _ _ _ _ _ _ _ _ _ _ _ _ _ _ _ _ _ _ _ _ _ _ _ _ _ _ _ _ _ _ _ _ _ _ _ _ _ _ _ _ _ _ _ _ _ _ _ _ _ _ _ _ _ _ _ _ _ _ _ _ _ _ _ _ _ _ _ _ _ _ _ _ _ _ _ _ _ _ _ _ _ _ _ _ _ _ _ _ _ _ _ _ _ _ _ _ _ _ _ _ _ _ _ _ _ _ _ _ k v txt l h HEQ ht hl hlt h60 h1 c ec h33 h63 h47 h2 d ed hal
                · exact tok_roundC3c s w z hs hz _ _ wr _ _ _ _ _ _ _ _ _ _ _ _ _ _ _ _ _ _ _ _ _ _ _ _ _ _ _ _ _ _ _ _ _ _ _ _ _ _ _ _ _ _ _ _ _ _ _ _ _ _ _ _ _ _ _ _ _ _ _ _ _ _ _ _ _ _ _ _ _ _ _ _ _ _ _ _ _ _ _ _ _ _ _ _ _ _ _ _ _ _ _ _ _ _ _ _ _ _ _ _ _ _ _ _ _ _ _ _ _ _ _ _ _ _ _ _ _ _ _ _ _ _ _ _ _ _ _ _ _ _ _ _ _ _ _ _ _ _ _ _ _ _ _ _ _ _ _ _ _ _ _ _ _ _ _ _ _ _ _ _ _ _ _ _ _ _ _ _ _ _ _ _ _ _ _ _ _ _ _ _ _ _ _ _ _ _ _ _ _ _ _ _ _ _ _ _ _ _ _ _ _ _ _ _ _ _ _ _ _ _ _ _ _ _ _ _ _ _ _ _ _ _ _ _ _ _ _ _ _ _ _ _ _ _ _ _ _ _ _ _ _ _ _ _ _ _ k v txt l h HEQ ht hl hlt h60 h1 c ec h33 h63 h47 h2
              · cases hal : U.isAl c with
                | true =>
                  cases hrun : U.runM U.st0 (s.data.toList.drop (k + 1)) with
                  | none => exact tok_roundC4n s w z hs hz _ _ wr _ _ _ _ _ _ _ _ _ _ _ _ _ _ _ _ _ _ _ _ _ _ _ _ _ _ _ _ _ _ _ _ _ _ _ _ _ _ _ _ _ _ _ _ _ _ _ _ _ _ _ _ _ _ _ _ _ _ _ _ _ _ _ _ _ _ _ _ _ _ _ _ _ _ _ _ _ _ _ _ _ _ _ _ _ _ _ _ _ _ _ _ _ _ _ _ _ _ _ _ _ _ _ _ _ _ _ _ _ _ _ _ _ _ _ _ _ _ _ _ _ _ _ _ _ _ _ _ _ _ _ _ _ _ _ _ _ _ _ _ _ _ _ _ _ _ _ _ _ _ _ _ _ _ _ _ _ _ _ _ _ _ _ _ _ _ _ _ _ _ _ _ _ _ _ _ _ _ _ _ _ _ _ _ _ _ _ _ _ _ _ _ _ _ _ _ _ _ _ _ _ _ _ _ _ _ _ _ _ _ _ _ _ _ _ _ _ _ _ _ _ _ _ _ _ _ _ _ _ _ _ _ _ _ _ _ _ _ _ _ _ _ _ _ _ _ k v txt l h HEQ ht hl hlt h60 h1 c ec h33 h63 h47 hal hrun
                  | some x =>
                    cases hrn : U.rawName (U.low x.1.tname) with
                    | true => exact tok_roundC4r s w z hs hz _ _ wr _ _ _ _ _ _ _ _ _ _ _ _ _ _ _ _ _ _ _ _ _ _ _ _ _ _ _ _ _ _ _ _ _ _ _ _ _ _ _ _ _ _ _ _ _ _ _ _ _ _ _ _ _ _ _ _ _ _ _ _ _ _ _ _ _ _ _ _ _ _ _ _ _ _ _ _ _ _ _ _ _ _ _ _ _ _ _ _ _ _ _ _ _ _ _ _ _ _ _ _ _ _ _ _ _ _ _ _ _ _ _ _ _ _ _ _ _ _ _ _ _ _ _ _ _ _ _ _ _ _ _ _ _ _ _ _ _ _ _ _ _ _ _ _ _ _ _ _ _ _ _ _ _ _ _ _ _ _ _ _ _ _ _ _ _ _ _ _ _ _ _ _ _ _ _ _ _ _ _ _ _ _ _ _ _ _ _ _ _ _ _ _ _ _ _ _ _ _ _ _ _ _ _ _ _ _ _ _ _ _ _ _ _ _ _ _ _ _ _ _ _ _ _ _ _ _ _ _ _ _ _ _ _ _ _ _ _ _ _ _ _ _ _ _ _ _ k v txt l h HEQ ht hl hlt h60 h1 c ec h33 h63 h47 hal x.1 x.2 _ hrun rfl hrn
                    | false => exact tok_roundC4o s w z hs hz _ _ wr _ _ _ _ _ _ _ _ _ _ _ _ _ _ _ _ _ _ _ _ _ _ _ _ _ _ _ _ _ _ _ _ _ _ _ _ _ _ _ _ _ _ _ _ _ _ _ _ _ _ _ _ _ _ _ _ _ _ _ _ _ _ _ _ _ _ _ _ _ _ _ _ _ _ _ _ _ _ _ _ _ _ _ _ _ _ _ _ _ _ _ _ _ _ _ _ _ _ _ _ _ _ _ _ _ _ _ _ _ _ _ _ _ _ _ _ _ _ _ _ _ _ _ _ _ _ _ _ _ _ _ _ _ _ _ _ _ _ _ _ _ _ _ _ _ _ _ _ _ _ _ _ _ _ _ _ _ _ _ _ _ _ _ _ _ _ _ _ _ _ _ _ _ _ _ _ _ _ _ _ _ _ _ _ _ _ _ _ _ _ _ _ _ _ _ _ _ _ _ _ _ _ _ _ _ _ _ _ _ _ _ _ _ _ _ _ _ _ _ _ _ _ _ _ _ _ _ _ _ _ _ _ _ _ _ _ _ _ _ _ _ _ _ _ _ _ k v txt l h HEQ ht hl hlt h60 h1 c ec h33 h63 h47 hal x.1 x.2 _ hrun rfl hrn
                | false => exact tok_roundC5 s w z hs hz _ _ wr _ _ _ _ _ _ _ _ _ _ _ _ _ _ _ _ _ _ _ _ _ _ _ _ _ _ _ _ _ _ _ _ _ _ _ _ _ _ _ _ _ _ _ _ _ _ _ _ _ _ _ _ _ _ _ _ _ _ _ _ _ _ _ _ _ _ _ _ _ _ _ _ _ _ _ _ _ _ _ _ _ _ _ _ _ _ _ _ _ _ _ _ _ _ _ _ _ _ _ _ _ _ _ _ _ _ _ _ _ _ _ _ _ _ _ _ _ _ _ _ _ _ _ _ _ _ _ _ _ _ _ _ _ _ _ _ _ _ _ _ _ _ _ _ _ _ _ _ _ _ _ _ _ _ _ _ _ _ _ _ _ _ _ _ _ _ _ _ _ _ _ _ _ _ _ _ _ _ _ _ _ _ _ _ _ _ _ _ _ _ _ _ _ _ _ _ _ _ _ _ _ _ _ _ _ _ _ _ _ _ _ _ _ _ _ _ _ _ _ _ _ _ _ _ _ _ _ _ _ _ _ _ _ _ _ _ _ _ _ _ _ _ _ _ _ _ k v txt l h HEQ ht hl hlt h60 h1 c ec h33 h63 h47 hal
        · exact tok_roundB s w z hs hz _ _ wr _ _ _ _ _ _ _ _ _ _ _ _ _ _ _ _ _ _ _ _ _ _ _ _ _ _ _ _ _ _ _ _ _ _ _ _ _ _ _ _ _ _ _ _ _ _ _ _ _ _ _ _ _ _ _ _ _ _ _ _ _ _ _ _ _ _ _ _ _ _ _ _ _ _ _ _ _ _ _ _ _ _ _ _ _ _ _ _ _ _ _ _ _ _ _ _ _ _ _ _ _ _ _ _ _ _ _ _ _ _ _ _ _ _ _ _ _ _ _ _ _ _ _ _ _ _ _ _ _ _ _ _ _ _ _ _ _ _ _ _ _ _ _ _ _ _ _ _ _ _ _ _ _ _ _ _ _ _ _ _ _ _ _ _ _ _ _ _ _ _ _ _ _ _ _ _ _ _ _ _ _ _ _ _ _ _ _ _ _ _ _ _ _ _ _ _ _ _ _ _ _ _ _ _ _ _ _ _ _ _ _ _ _ _ _ _ _ _ _ _ _ _ _ _ _ _ _ _ _ _ _ _ _ _ _ _ _ _ _ _ _ _ _ _ _ _ k v txt l h HEQ ht hl hlt h60 h1
      · exact tok_roundA s w z hs hz _ _ wr _ _ _ _ _ _ _ _ _ _ _ _ _ _ _ _ _ _ _ _ _ _ _ _ _ _ _ _ _ _ _ _ _ _ _ _ _ _ _ _ _ _ _ _ _ _ _ _ _ _ _ _ _ _ _ _ _ _ _ _ _ _ _ _ _ _ _ _ _ _ _ _ _ _ _ _ _ _ _ _ _ _ _ _ _ _ _ _ _ _ _ _ _ _ _ _ _ _ _ _ _ _ _ _ _ _ _ _ _ _ _ _ _ _ _ _ _ _ _ _ _ _ _ _ _ _ _ _ _ _ _ _ _ _ _ _ _ _ _ _ _ _ _ _ _ _ _ _ _ _ _ _ _ _ _ _ _ _ _ _ _ _ _ _ _ _ _ _ _ _ _ _ _ _ _ _ _ _ _ _ _ _ _ _ _ _ _ _ _ _ _ _ _ _ _ _ _ _ _ _ _ _ _ _ _ _ _ _ _ _ _ _ _ _ _ _ _ _ _ _ _ _ _ _ _ _ _ _ _ _ _ _ _ _ _ _ _ _ _ _ _ _ _ _ _ _ k v txt l h HEQ ht hl hlt h60
    · obtain rfl : k = s.size := by omega
      have hEQ := HEQ
      obtain ⟨s0, s1⟩ := h.fixed hz.text hz.s1 hz.s2 hz.s3
      have hbs := h.below.size
      have hBs := h.size
      obtain ⟨f0, f1⟩ := h.fixed hz.fn hz.f1 hz.f2 hz.f3
      go_wp2_with (go_at_call 23; refine (flush_walk w z wr _ _ _ v txt l h (by omega) (by omega)).mono ?_; rintro e w3 ⟨rfl, v2, l2, h2, e2, n2, _⟩; obtain ⟨ao, cap, rfl⟩ := own_form h2.row; obtain ⟨q0, q1⟩ := h2.outCell)
      have hfin : l2.map (·.1) = U.toks s.data.toList := by
        rw [← HEQ.out, List.drop_of_length_le (by rw [len_list]; exact Nat.le_refl _), U.toksT_nil, e2]
      go_ret
      exact ⟨_, l2, rfl, hfin, h2.row, h2.atts, h2.below, by omega⟩

end Go.Proofs.YtcdgiohogddbkaaGreatDoor

namespace Go.Proofs.YtcdgiohogddbkaaGreatDoor
open Go.RowKit

set_option maxHeartbeats 4000000 in
set_option maxRecDepth 1000000 in
theorem tok_parsed (s : ByteArray) (w : World) (hz : s.size ≤ 600) :
    Calls Tryz.prog 5 #[.string s] w fun e w' => ∃ (v : Value) (l : List (U.Tok × Value)), e = .returned (.tuple #[v, .int .i64 0]) ∧ l.map (·.1) = U.toks s.data.toList ∧ w'.ownsRow (w.heap.size + 4) 34 5 v l.length (tokCells l) ∧ (∀ x ∈ l, w'.ownsRow w.heap.size 52 2 x.2 x.1.attrs.length (attCells x.1.attrs)) ∧ Below w.heap.size w w' ∧ l.length ≤ 1801 := by
  go_enter Tryz.func5, Tryz.ntmps5
  go_wp2_with (go_at_call 12; refine (tokens_walk s _ hz).mono ?_; rintro e w2 ⟨v, l, rfl, hl, ho, ha, hb, hn⟩; obtain ⟨ao, cap, rfl⟩ := own_form ho)
  go_ret2
  exact ⟨_, l, rfl, hl, ho, ha, hb, hn⟩
set_option maxHeartbeats 4000000 in
set_option maxRecDepth 1000000 in
theorem tok_parsed_big (s : ByteArray) (w : World) (hz : 600 < s.size) : Calls Tryz.prog 5 #[.string s] w fun e w' => e = .returned (.tuple #[.slice none 0 0, .int .i64 1]) ∧ Below w.heap.size w w' := by
  go_enter Tryz.func5, Tryz.ntmps5
  go_wp2_with fail
  go_ret2
  exact ⟨rfl, Below.refl _ _⟩

end Go.Proofs.YtcdgiohogddbkaaGreatDoor

namespace Go.Proofs.YtcdgiohogddbkaaGreatDoor
open Go.RowKit

/-- while the bytes are lowered: the first k are -/
structure LowW (w wr : World) (s : ByteArray) (k : Nat) : Prop where
  below : Below w.heap.size w wr
  done : ∀ (j : Nat) (b : UInt8), j < k → s.data.toList[j]? = some b → wr.cell? ⟨w.heap.size, j, none⟩ = some (.int .u8 (U.low1 b).toNat)
  todo : ∀ (j : Nat) (b : UInt8), k ≤ j → s.data.toList[j]? = some b → wr.cell? ⟨w.heap.size, j, none⟩ = some (.int .u8 b.toNat)
  warm : ∀ (j : Nat), j < s.size → wr.frozen? ⟨w.heap.size, j, none⟩ = false
theorem LowW.start (w : World) (s : ByteArray) : LowW w (Lib.bytesWorld w 5 s) s 0 := by
  refine ⟨⟨by simp [Lib.bytesWorld, World.freeze, World.alloc, World.drew, -World.alloc_eq, -World.drew_eq], by simp [Lib.bytesWorld, World.freeze, World.alloc, World.drew, -World.alloc_eq, -World.drew_eq], by simp [Lib.bytesWorld, World.freeze, World.alloc, World.drew, -World.alloc_eq, -World.drew_eq], by rw [Lib.bytesWorld_size]; omega, fun k hk => Lib.bytesWorld_at_old w _ s k hk⟩, fun j b hj => by omega, fun j b _ hb => ?_, fun j hj => ?_⟩
  · have hlt : j < s.size := by
      have := (List.getElem?_eq_some_iff.1 hb).1
      rwa [len_list] at this
    rw [Lib.bytesWorld_cell w _ s j hlt, List.getD_eq_getElem?_getD, hb]
    rfl
  · unfold World.frozen?
    rw [Lib.bytesWorld_at_new]
    have : s.size ≤ (Lib.bytesCells w 5 s).size := by
      unfold Lib.bytesCells
      rw [Array.size_append, Array.size_map]
      show s.data.size ≤ _
      omega
    simp only [Bool.and_eq_false_iff, decide_eq_false_iff_not]
    left
    show ¬ (Lib.bytesCells w 5 s).size ≤ j
    omega
theorem LowW.set {w wr : World} {s : ByteArray} {k : Nat} {b : UInt8} (h : LowW w wr s k) (hb : s.data.toList[k]? = some b) : LowW w (wr.setCell ⟨w.heap.size, k, none⟩ (.int .u8 (U.low1 b).toNat)) s (k + 1) := by
  refine ⟨h.below.setCell (p := ⟨w.heap.size, k, none⟩) (Nat.le_refl _) _, fun j c hj hc => ?_, fun j c hj hc => ?_, fun j hj => by rw [World.frozen?_setCell]; exact h.warm j hj⟩
  · by_cases e : j = k
    · subst e
      rw [hb] at hc
      injection hc with hc
      subst hc
      exact World.cell?_setCell_same _ _ _ (h.todo j b (Nat.le_refl _) hb)
    · rw [World.cell?_setCell_other _ _ _ _ (fun e2 => e (by injection e2 with _ e2; exact e2.symm))]
      exact h.done j c (by omega) hc
  · rw [World.cell?_setCell_other _ _ _ _ (fun e2 => by injection e2 with _ e2; omega)]
    exact h.todo j c (by omega) hc
theorem LowW.next {w wr : World} {s : ByteArray} {k : Nat} {b : UInt8} (h : LowW w wr s k) (hb : s.data.toList[k]? = some b) (hl : U.low1 b = b) : LowW w wr s (k + 1) := by
  refine ⟨h.below, fun j c hj hc => ?_, fun j c hj hc => h.todo j c (by omega) hc, h.warm⟩
  by_cases e : j = k
  · subst e
    rw [hb] at hc
    injection hc with hc
    subst hc
    rw [hl]
    exact h.todo j b (Nat.le_refl _) hb
  · exact h.done j c (by omega) hc
theorem LowW.fin {w wr : World} {s : ByteArray} (h : LowW w wr s s.size) (cap : Nat) : (convert 56 9 (.slice (some ⟨w.heap.size, 0, none⟩) s.size cap)).run Tryz.prog wr = .ok (.string ⟨(U.low s.data.toList).toArray⟩) wr := by
  have e : s.size = (U.low s.data.toList).length := by rw [U.low_length, len_list]
  rw [e]
  refine run_convert_bytes_back wr _ _ 5 _ cap (U.low s.data.toList) Tryz.underlying56 Tryz.underlying5 Tryz.underlying9 (fun j hj => ?_)
  have hj2 : j < s.data.toList.length := by rwa [U.low_length] at hj
  have := h.done j _ (by rwa [← e] at hj) (List.getElem?_eq_getElem hj2)
  have e2 : (U.low s.data.toList)[j] = U.low1 (s.data.toList[j]) := by simp [U.low]
  rw [e2, show (⟨w.heap.size, 0, none⟩ : Addr).add j = ⟨w.heap.size, j, none⟩ from by cases j <;> simp [Addr.add]]
  exact this

set_option maxHeartbeats 4000000 in
set_option maxRecDepth 100000 in
theorem lower_walk (s : ByteArray) (w : World) (hs : s.size ≤ 140737488351232) :
    Calls Tryz.prog 31 #[.string s] w fun e w' => e = .returned (.string ⟨(U.low s.data.toList).toArray⟩) ∧ Below w.heap.size w w' := by
  have hcv := Lib.run_convert_string_bytes (P := Tryz.prog) w 9 56 5 s (u := .string) Tryz.underlying9 Tryz.underlying56 Tryz.underlying5
  have h0 := LowW.start w s
  generalize grownCap w s.size 0 5 = cap at *
  generalize Lib.bytesWorld w 5 s = w0 at *
  go_enter Tryz.func31, Tryz.ntmps31
  go_wp2_with fail
  go_loopw [10] (fun i wr => ∃ k : Nat, k ≤ s.size ∧ i = .int .i64 k ∧ LowW w wr s k) (fun i _ => s.size - (intOf i).toNat)
  case atStart => exact ⟨0, Nat.zero_le _, rfl, h0⟩
  case round =>
    obtain ⟨k, hk, rfl, hW⟩ := hrel
    by_cases hlt : k < s.size
    · have hg := byte_get s hlt
      generalize s[k]'hlt = b at hg
      have hb := b.toNat_lt
      have hc := hW.todo k b (Nat.le_refl _) hg
      have hf := hW.warm k hlt
      by_cases hup : 65 ≤ b.toNat ∧ b.toNat ≤ 90
      · have hv : (b.toNat : Int) + 97 - 65 = ((U.low1 b).toNat : Int) := by
          unfold U.low1
          rw [if_pos hup]
          simp
          omega
        have HN := hW.set hg
        obtain ⟨u0, u1⟩ := hup
        clear hg hW
        go_wp2_with fail
        go_roundw
        case rel => exact ⟨k + 1, by omega, by go_num, HN⟩
        case measure => simp [intOf]; omega
      · have hl : U.low1 b = b := by unfold U.low1; rw [if_neg hup]
        have HN := hW.next hg hl
        clear hg hW hl
        rcases Nat.lt_or_ge b.toNat 65 with h1 | h1
        · clear hup
          go_wp2_with fail
          go_roundw
          case rel => exact ⟨k + 1, by omega, by go_num, HN⟩
          case measure => simp [intOf]; omega
        · have h2 : 91 ≤ b.toNat := by omega
          clear hup
          go_wp2_with fail
          go_roundw
          case rel => exact ⟨k + 1, by omega, by go_num, HN⟩
          case measure => simp [intOf]; omega
    · obtain rfl : k = s.size := by omega
      have hfin := hW.fin cap
      have hbl := hW.below
      clear hW
      go_wp2_with fail
      go_ret
      exact ⟨rfl, hbl⟩

end Go.Proofs.YtcdgiohogddbkaaGreatDoor

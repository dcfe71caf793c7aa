/- Several texts in one: TagS4, TagS5. -/
import Derived.Test.YtcdgiohogddbkaaGreatDoorP16
namespace Go.Proofs.YtcdgiohogddbkaaGreatDoor
open Go.RowKit

set_option maxHeartbeats 16000000 in
set_option maxRecDepth 1000000 in
theorem tag_round4 (s : ByteArray) (a : Nat) (w : World) (hs : s.size ≤ 1048576)
    (K : Act → World → Prop) (wr : World)
    (u5 u6 u8 u14 u16 u17 u19 u20 u21 u22 u23 u24 u25 u26 u27 u28 u29 u30 u31 u32 u33 u34 u35 u36 u37 u38 u39 u40 u41 u42 u43 u44 u45 u46 u47 u48 u49 u50 u51 u52 u53 u54 u55 u56 u57 u58 u59
    u60 u61 u62 u63 u64 u65 u66 u67 u68 u69 u70 u71 u72 u73 u74 u75 u76 u77 u78 u79 u80 u81 u82 u83 u84 u85 u86 u87 u88 u89 u90 u91 u92 u93 u94 u95 u96 u97 u98 u99 u100 u101 u102 u103 u104
    u105 u106 u107 u108 u109 u110 u111 u112 u113 u114 u115 u116 u117 u118 u119 u120 u121 u122 u123 u124 u125 u126 u127 u128 u129 u130 u131 u132 u133 u134 u135 u136 u137 u138 u139 u140 u141
    u142 u143 u144 u145 u146 u147 u148 u149 u150 u151 u152 u153 u154 u155 u156 u157 u158 u159 u160 u161 u162 u163 u164 u165 u166 u167 u168 u169 u170 u171 u172 u173 u174 u175 u176 u177 u178
    u179 u180 u181 u182 u183 u184 u185 u186 u187 u188 u189 u190 u191 u192 u193 u194 u195 u196 u197 u198 u199 u200 u201 u202 u203 u204 u205 u206 : Value)
    (k : Nat) (tname name value : List UInt8) (quote : UInt8) (slash : Bool) (all : List U.Att) (hak : a ≤ k) (hlt : k < s.size) (hW : TagW w wr u8 tname all)
    (hrun : Hid (U.runM ⟨4, tname, name, value, quote, slash, all⟩ (s.data.toList.drop k) = U.runM U.st0 (s.data.toList.drop a))) (l1 : name.length ≤ k) (l2 : value.length ≤ k) (l3 : tname.length ≤ k) (l4 : all.length ≤ k) :
    Code.wp Tryz.prog tagBody (Exit.then (fun a' w' => TagI s a w a' w' ∧ tagMu s a' < tagMu s ⟨#[.string s, .int .i64 (k : Nat), undef, undef, .pointer (some ⟨w.heap.size, 0, none⟩), u5, u6, .pointer (some ⟨w.heap.size + 1, 0, none⟩), u8, .int .i64 ((4 : Nat) : Int), .string
      ⟨name.toArray⟩, .string ⟨value.toArray⟩, .int .u8 quote.toNat, .bool slash, u14, undef, u16, u17, undef, u19, u20, u21, u22, u23, u24, u25, u26, u27, u28, u29, u30, u31, u32, u33, u34,
      u35, u36, u37, u38, u39, u40, u41, u42, u43, u44, u45, u46, u47, u48, u49, u50, u51, u52, u53, u54, u55, u56, u57, u58, u59, u60, u61, u62, u63, u64, u65, u66, u67, u68, u69, u70, u71,
      u72, u73, u74, u75, u76, u77, u78, u79, u80, u81, u82, u83, u84, u85, u86, u87, u88, u89, u90, u91, u92, u93, u94, u95, u96, u97, u98, u99, u100, u101, u102, u103, u104, u105, u106,
      u107, u108, u109, u110, u111, u112, u113, u114, u115, u116, u117, u118, u119, u120, u121, u122, u123, u124, u125, u126, u127, u128, u129, u130, u131, u132, u133, u134, u135, u136,
      u137, u138, u139, u140, u141, u142, u143, u144, u145, u146, u147, u148, u149, u150, u151, u152, u153, u154, u155, u156, u157, u158, u159, u160, u161, u162, u163, u164, u165, u166,
      u167, u168, u169, u170, u171, u172, u173, u174, u175, u176, u177, u178, u179, u180, u181, u182, u183, u184, u185, u186, u187, u188, u189, u190, u191, u192, u193, u194, u195, u196,
      u197, u198, u199, u200, u201, u202, u203, u204, u205, u206, undef], []⟩)
      (Exit.inBlock 0 (Exit.then K (bodyPost Tryz.prog Tryz.f28 fun e w' => ∃ v, e = .returned v ∧ tagV s.data.toList a w.heap.size w' v ∧ Below w.heap.size w w')))) ⟨#[.string s, .int .i64 (k : Nat), undef, undef, .pointer (some ⟨w.heap.size, 0, none⟩), u5, u6, .pointer (some ⟨w.heap.size + 1, 0, none⟩), u8, .int .i64 ((4 : Nat) : Int), .string
      ⟨name.toArray⟩, .string ⟨value.toArray⟩, .int .u8 quote.toNat, .bool slash, u14, undef, u16, u17, undef, u19, u20, u21, u22, u23, u24, u25, u26, u27, u28, u29, u30, u31, u32, u33, u34,
      u35, u36, u37, u38, u39, u40, u41, u42, u43, u44, u45, u46, u47, u48, u49, u50, u51, u52, u53, u54, u55, u56, u57, u58, u59, u60, u61, u62, u63, u64, u65, u66, u67, u68, u69, u70, u71,
      u72, u73, u74, u75, u76, u77, u78, u79, u80, u81, u82, u83, u84, u85, u86, u87, u88, u89, u90, u91, u92, u93, u94, u95, u96, u97, u98, u99, u100, u101, u102, u103, u104, u105, u106,
      u107, u108, u109, u110, u111, u112, u113, u114, u115, u116, u117, u118, u119, u120, u121, u122, u123, u124, u125, u126, u127, u128, u129, u130, u131, u132, u133, u134, u135, u136,
      u137, u138, u139, u140, u141, u142, u143, u144, u145, u146, u147, u148, u149, u150, u151, u152, u153, u154, u155, u156, u157, u158, u159, u160, u161, u162, u163, u164, u165, u166,
      u167, u168, u169, u170, u171, u172, u173, u174, u175, u176, u177, u178, u179, u180, u181, u182, u183, u184, u185, u186, u187, u188, u189, u190, u191, u192, u193, u194, u195, u196,
      u197, u198, u199, u200, u201, u202, u203, u204, u205, u206, undef], []⟩ wr := by
  have hk : k ≤ s.size := Nat.le_of_lt hlt
  have hb := (s[k]'hlt).toNat_lt
  have hdr := drop_byte (byte_get s hlt)
  have hc1 := hW.cell
  have hf1 := hW.frozen 1
  have hsz := hW.size
  have zt := str_size tname
  have zn := str_size name
  have zv := str_size value
  have hcv := one_byte wr (s[k]'hlt)
  conv => arg 2; whnf
  cases hsp : U.isSp (s[k]'hlt)
  · by_cases h34 : ((s[k]'hlt).toNat : Int) = 34
    · have te47 : (((s[k]'hlt).toNat : Int) == 47) = false := by rw [h34]; rfl
      have tn47 : (((s[k]'hlt).toNat : Int) != 47) = true := by rw [h34]; rfl
      have te62 : (((s[k]'hlt).toNat : Int) == 62) = false := by rw [h34]; rfl
      have tn62 : (((s[k]'hlt).toNat : Int) != 62) = true := by rw [h34]; rfl
      have te61 : (((s[k]'hlt).toNat : Int) == 61) = false := by rw [h34]; rfl
      have tn61 : (((s[k]'hlt).toNat : Int) != 61) = true := by rw [h34]; rfl
      have te34 : (((s[k]'hlt).toNat : Int) == 34) = true := beq_yes h34
      have tn34 : (((s[k]'hlt).toNat : Int) != 34) = false := by rw [h34]; rfl
      have te39 : (((s[k]'hlt).toNat : Int) == 39) = false := by rw [h34]; rfl
      have tn39 : (((s[k]'hlt).toNat : Int) != 39) = true := by rw [h34]; rfl
      have ub34 : s[k]'hlt = 34 := (byte_eq (k := 34) (by decide)).1 (by omega)
      have ubq : s[k]'hlt = 34 ∨ s[k]'hlt = 39 := .inl ub34
      have Hsp := Lib.hid hsp
      have HN : Hid (U.runM ⟨5, tname, name, [], (s[k]'hlt), slash, all⟩ (s.data.toList.drop (k + 1)) = U.runM U.st0 (s.data.toList.drop a)) := by
        show _ = _
        rw [← hrun.out, hdr]
        exact (U.runM_go _ (U.step_D2 hsp ubq)).symm
      clear hsp h34 ub34 ubq hdr hrun
      go_wp2_with (refine (is_space _ _).mono ?_; rintro e w9 ⟨rfl, rfl⟩; rw [Hsp.out])
      refine ⟨?_, by simp [tagMu, intOf] <;> omega⟩
      unfold TagI
      refine ⟨_, _, _, _, _, _, _, _, _, _, _, _, _, _, _, _, _, _, _, _, _, _, _, _, _, _, _, _, _, _, _, _, _, _, _, _, _, _, _, _, _, _, _, _, _, _, _, _, _, _, _, _, _, _, _, _, _, _, _, _, _, _, _,
        _, _, _, _, _, _, _, _, _, _, _, _, _, _, _, _, _, _, _, _, _, _, _, _, _, _, _, _, _, _, _, _, _, _, _, _, _, _, _, _, _, _, _, _, _, _, _, _, _, _, _, _, _, _, _, _, _, _, _, _, _, _, _,
        _, _, _, _, _, _, _, _, _, _, _, _, _, _, _, _, _, _, _, _, _, _, _, _, _, _, _, _, _, _, _, _, _, _, _, _, _, _, _, _, _, _, _, _, _, _, _, _, _, _, _, _, _, _, _, _, _, _, _, _, _, _, _,
        _, _, _, _, _, _, _, _, _, _, _, ?_, rfl⟩
      exact ⟨k + 1, ⟨5, tname, name, [], (s[k]'hlt), slash, all⟩, by omega, by omega, by go_num, rfl, Nat.le_of_ble_eq_true rfl, rfl, rfl, rfl, rfl, hW, HN, Nat.le_succ_of_le l1, Nat.zero_le _, Nat.le_succ_of_le l3, Nat.le_succ_of_le l4⟩
    have te34 := beq_no h34
    have tn34 : (((s[k]'hlt).toNat : Int) != 34) = true := bne_iff_ne.2 h34
    have ub34 : s[k]'hlt ≠ 34 := fun e => h34 (by rw [e]; rfl)
    by_cases h39 : ((s[k]'hlt).toNat : Int) = 39
    · have te47 : (((s[k]'hlt).toNat : Int) == 47) = false := by rw [h39]; rfl
      have tn47 : (((s[k]'hlt).toNat : Int) != 47) = true := by rw [h39]; rfl
      have te62 : (((s[k]'hlt).toNat : Int) == 62) = false := by rw [h39]; rfl
      have tn62 : (((s[k]'hlt).toNat : Int) != 62) = true := by rw [h39]; rfl
      have te61 : (((s[k]'hlt).toNat : Int) == 61) = false := by rw [h39]; rfl
      have tn61 : (((s[k]'hlt).toNat : Int) != 61) = true := by rw [h39]; rfl
      have te34' : (((s[k]'hlt).toNat : Int) == 34) = false := by rw [h39]; rfl
      have tn34' : (((s[k]'hlt).toNat : Int) != 34) = true := by rw [h39]; rfl
      have te39 : (((s[k]'hlt).toNat : Int) == 39) = true := beq_yes h39
      have tn39 : (((s[k]'hlt).toNat : Int) != 39) = false := by rw [h39]; rfl
      have ub39 : s[k]'hlt = 39 := (byte_eq (k := 39) (by decide)).1 (by omega)
      have ubq : s[k]'hlt = 34 ∨ s[k]'hlt = 39 := .inr ub39
      have Hsp := Lib.hid hsp
      have HN : Hid (U.runM ⟨5, tname, name, [], (s[k]'hlt), slash, all⟩ (s.data.toList.drop (k + 1)) = U.runM U.st0 (s.data.toList.drop a)) := by
        show _ = _
        rw [← hrun.out, hdr]
        exact (U.runM_go _ (U.step_D2 hsp ubq)).symm
      clear hsp h39 ub39 ubq h34 ub34 hdr hrun
      go_wp2_with (refine (is_space _ _).mono ?_; rintro e w9 ⟨rfl, rfl⟩; rw [Hsp.out])
      refine ⟨?_, by simp [tagMu, intOf] <;> omega⟩
      unfold TagI
      refine ⟨_, _, _, _, _, _, _, _, _, _, _, _, _, _, _, _, _, _, _, _, _, _, _, _, _, _, _, _, _, _, _, _, _, _, _, _, _, _, _, _, _, _, _, _, _, _, _, _, _, _, _, _, _, _, _, _, _, _, _, _, _, _, _,
        _, _, _, _, _, _, _, _, _, _, _, _, _, _, _, _, _, _, _, _, _, _, _, _, _, _, _, _, _, _, _, _, _, _, _, _, _, _, _, _, _, _, _, _, _, _, _, _, _, _, _, _, _, _, _, _, _, _, _, _, _, _, _,
        _, _, _, _, _, _, _, _, _, _, _, _, _, _, _, _, _, _, _, _, _, _, _, _, _, _, _, _, _, _, _, _, _, _, _, _, _, _, _, _, _, _, _, _, _, _, _, _, _, _, _, _, _, _, _, _, _, _, _, _, _, _, _,
        _, _, _, _, _, _, _, _, _, _, _, ?_, rfl⟩
      exact ⟨k + 1, ⟨5, tname, name, [], (s[k]'hlt), slash, all⟩, by omega, by omega, by go_num, rfl, Nat.le_of_ble_eq_true rfl, rfl, rfl, rfl, rfl, hW, HN, Nat.le_succ_of_le l1, Nat.zero_le _, Nat.le_succ_of_le l3, Nat.le_succ_of_le l4⟩
    have te39 := beq_no h39
    have tn39 : (((s[k]'hlt).toNat : Int) != 39) = true := bne_iff_ne.2 h39
    have ub39 : s[k]'hlt ≠ 39 := fun e => h39 (by rw [e]; rfl)
    have ubq : ¬ (s[k]'hlt = 34 ∨ s[k]'hlt = 39) := fun e => e.elim ub34 ub39
    have Hsp := Lib.hid hsp
    have HN : Hid (U.runM ⟨6, tname, name, [], quote, slash, all⟩ (s.data.toList.drop k) = U.runM U.st0 (s.data.toList.drop a)) := by
      show _ = _
      rw [← hrun.out, hdr]
      exact (U.runM_again _ (U.step_D3 hsp ubq)).symm
    clear hsp h34 ub34 h39 ub39 ubq hdr hrun
    go_wp2_with (refine (is_space _ _).mono ?_; rintro e w9 ⟨rfl, rfl⟩; rw [Hsp.out])
    refine ⟨?_, by simp [tagMu, intOf] <;> omega⟩
    unfold TagI
    refine ⟨_, _, _, _, _, _, _, _, _, _, _, _, _, _, _, _, _, _, _, _, _, _, _, _, _, _, _, _, _, _, _, _, _, _, _, _, _, _, _, _, _, _, _, _, _, _, _, _, _, _, _, _, _, _, _, _, _, _, _, _, _, _, _,
      _, _, _, _, _, _, _, _, _, _, _, _, _, _, _, _, _, _, _, _, _, _, _, _, _, _, _, _, _, _, _, _, _, _, _, _, _, _, _, _, _, _, _, _, _, _, _, _, _, _, _, _, _, _, _, _, _, _, _, _, _, _, _,
      _, _, _, _, _, _, _, _, _, _, _, _, _, _, _, _, _, _, _, _, _, _, _, _, _, _, _, _, _, _, _, _, _, _, _, _, _, _, _, _, _, _, _, _, _, _, _, _, _, _, _, _, _, _, _, _, _, _, _, _, _, _, _,
      _, _, _, _, _, _, _, _, _, _, _, ?_, rfl⟩
    exact ⟨k, ⟨6, tname, name, [], quote, slash, all⟩, by omega, by omega, by go_num, rfl, Nat.le_of_ble_eq_true rfl, rfl, rfl, rfl, rfl, hW, HN, l1, Nat.zero_le _, l3, l4⟩
  · obtain ⟨ub47, ub62, ub61, ub34, ub39⟩ := U.isSp_ne hsp
    have h47 : ¬ ((s[k]'hlt).toNat : Int) = 47 := fun e => ub47 ((byte_eq (k := 47) (by decide)).1 (by omega))
    have te47 := beq_no h47
    have tn47 : (((s[k]'hlt).toNat : Int) != 47) = true := bne_iff_ne.2 h47
    have h62 : ¬ ((s[k]'hlt).toNat : Int) = 62 := fun e => ub62 ((byte_eq (k := 62) (by decide)).1 (by omega))
    have te62 := beq_no h62
    have tn62 : (((s[k]'hlt).toNat : Int) != 62) = true := bne_iff_ne.2 h62
    have h61 : ¬ ((s[k]'hlt).toNat : Int) = 61 := fun e => ub61 ((byte_eq (k := 61) (by decide)).1 (by omega))
    have te61 := beq_no h61
    have tn61 : (((s[k]'hlt).toNat : Int) != 61) = true := bne_iff_ne.2 h61
    have h34 : ¬ ((s[k]'hlt).toNat : Int) = 34 := fun e => ub34 ((byte_eq (k := 34) (by decide)).1 (by omega))
    have te34 := beq_no h34
    have tn34 : (((s[k]'hlt).toNat : Int) != 34) = true := bne_iff_ne.2 h34
    have h39 : ¬ ((s[k]'hlt).toNat : Int) = 39 := fun e => ub39 ((byte_eq (k := 39) (by decide)).1 (by omega))
    have te39 := beq_no h39
    have tn39 : (((s[k]'hlt).toNat : Int) != 39) = true := bne_iff_ne.2 h39
    have Hsp := Lib.hid hsp
    have HN : Hid (U.runM ⟨4, tname, name, value, quote, slash, all⟩ (s.data.toList.drop (k + 1)) = U.runM U.st0 (s.data.toList.drop a)) := by
      show _ = _
      rw [← hrun.out, hdr]
      exact (U.runM_go _ (U.step_D1 hsp)).symm
    clear hsp h47 ub47 h62 ub62 h61 ub61 h34 ub34 h39 ub39 hdr hrun
    go_wp2_with (refine (is_space _ _).mono ?_; rintro e w9 ⟨rfl, rfl⟩; rw [Hsp.out])
    refine ⟨?_, by simp [tagMu, intOf] <;> omega⟩
    unfold TagI
    refine ⟨_, _, _, _, _, _, _, _, _, _, _, _, _, _, _, _, _, _, _, _, _, _, _, _, _, _, _, _, _, _, _, _, _, _, _, _, _, _, _, _, _, _, _, _, _, _, _, _, _, _, _, _, _, _, _, _, _, _, _, _, _, _, _,
      _, _, _, _, _, _, _, _, _, _, _, _, _, _, _, _, _, _, _, _, _, _, _, _, _, _, _, _, _, _, _, _, _, _, _, _, _, _, _, _, _, _, _, _, _, _, _, _, _, _, _, _, _, _, _, _, _, _, _, _, _, _, _,
      _, _, _, _, _, _, _, _, _, _, _, _, _, _, _, _, _, _, _, _, _, _, _, _, _, _, _, _, _, _, _, _, _, _, _, _, _, _, _, _, _, _, _, _, _, _, _, _, _, _, _, _, _, _, _, _, _, _, _, _, _, _, _,
      _, _, _, _, _, _, _, _, _, _, _, ?_, rfl⟩
    exact ⟨k + 1, ⟨4, tname, name, value, quote, slash, all⟩, by omega, by omega, by go_num, rfl, Nat.le_of_ble_eq_true rfl, rfl, rfl, rfl, rfl, hW, HN, Nat.le_succ_of_le l1, Nat.le_succ_of_le l2, Nat.le_succ_of_le l3, Nat.le_succ_of_le l4⟩

end Go.Proofs.YtcdgiohogddbkaaGreatDoor

namespace Go.Proofs.YtcdgiohogddbkaaGreatDoor
open Go.RowKit

set_option maxHeartbeats 16000000 in
set_option maxRecDepth 1000000 in
theorem tag_round5 (s : ByteArray) (a : Nat) (w : World) (hs : s.size ≤ 1048576) (iA : TypeInfo) (hiA : Tryz.prog.info? 52 = some iA) (hA0 : iA.zero = some (.agg #[.string .empty, .string .empty])) (hA1 : iA.size = 2) (hA2 : iA.bytes = 32)
    (K : Act → World → Prop) (wr : World)
    (u5 u6 u8 u14 u16 u17 u19 u20 u21 u22 u23 u24 u25 u26 u27 u28 u29 u30 u31 u32 u33 u34 u35 u36 u37 u38 u39 u40 u41 u42 u43 u44 u45 u46 u47 u48 u49 u50 u51 u52 u53 u54 u55 u56 u57 u58 u59
    u60 u61 u62 u63 u64 u65 u66 u67 u68 u69 u70 u71 u72 u73 u74 u75 u76 u77 u78 u79 u80 u81 u82 u83 u84 u85 u86 u87 u88 u89 u90 u91 u92 u93 u94 u95 u96 u97 u98 u99 u100 u101 u102 u103 u104
    u105 u106 u107 u108 u109 u110 u111 u112 u113 u114 u115 u116 u117 u118 u119 u120 u121 u122 u123 u124 u125 u126 u127 u128 u129 u130 u131 u132 u133 u134 u135 u136 u137 u138 u139 u140 u141
    u142 u143 u144 u145 u146 u147 u148 u149 u150 u151 u152 u153 u154 u155 u156 u157 u158 u159 u160 u161 u162 u163 u164 u165 u166 u167 u168 u169 u170 u171 u172 u173 u174 u175 u176 u177 u178
    u179 u180 u181 u182 u183 u184 u185 u186 u187 u188 u189 u190 u191 u192 u193 u194 u195 u196 u197 u198 u199 u200 u201 u202 u203 u204 u205 u206 : Value)
    (k : Nat) (tname name value : List UInt8) (quote : UInt8) (slash : Bool) (all : List U.Att) (hak : a ≤ k) (hlt : k < s.size) (hW : TagW w wr u8 tname all)
    (hrun : Hid (U.runM ⟨5, tname, name, value, quote, slash, all⟩ (s.data.toList.drop k) = U.runM U.st0 (s.data.toList.drop a))) (l1 : name.length ≤ k) (l2 : value.length ≤ k) (l3 : tname.length ≤ k) (l4 : all.length ≤ k) :
    Code.wp Tryz.prog tagBody (Exit.then (fun a' w' => TagI s a w a' w' ∧ tagMu s a' < tagMu s ⟨#[.string s, .int .i64 (k : Nat), undef, undef, .pointer (some ⟨w.heap.size, 0, none⟩), u5, u6, .pointer (some ⟨w.heap.size + 1, 0, none⟩), u8, .int .i64 ((5 : Nat) : Int), .string
      ⟨name.toArray⟩, .string ⟨value.toArray⟩, .int .u8 quote.toNat, .bool slash, u14, undef, u16, u17, undef, u19, u20, u21, u22, u23, u24, u25, u26, u27, u28, u29, u30, u31, u32, u33, u34,
      u35, u36, u37, u38, u39, u40, u41, u42, u43, u44, u45, u46, u47, u48, u49, u50, u51, u52, u53, u54, u55, u56, u57, u58, u59, u60, u61, u62, u63, u64, u65, u66, u67, u68, u69, u70, u71,
      u72, u73, u74, u75, u76, u77, u78, u79, u80, u81, u82, u83, u84, u85, u86, u87, u88, u89, u90, u91, u92, u93, u94, u95, u96, u97, u98, u99, u100, u101, u102, u103, u104, u105, u106,
      u107, u108, u109, u110, u111, u112, u113, u114, u115, u116, u117, u118, u119, u120, u121, u122, u123, u124, u125, u126, u127, u128, u129, u130, u131, u132, u133, u134, u135, u136,
      u137, u138, u139, u140, u141, u142, u143, u144, u145, u146, u147, u148, u149, u150, u151, u152, u153, u154, u155, u156, u157, u158, u159, u160, u161, u162, u163, u164, u165, u166,
      u167, u168, u169, u170, u171, u172, u173, u174, u175, u176, u177, u178, u179, u180, u181, u182, u183, u184, u185, u186, u187, u188, u189, u190, u191, u192, u193, u194, u195, u196,
      u197, u198, u199, u200, u201, u202, u203, u204, u205, u206, undef], []⟩)
      (Exit.inBlock 0 (Exit.then K (bodyPost Tryz.prog Tryz.f28 fun e w' => ∃ v, e = .returned v ∧ tagV s.data.toList a w.heap.size w' v ∧ Below w.heap.size w w')))) ⟨#[.string s, .int .i64 (k : Nat), undef, undef, .pointer (some ⟨w.heap.size, 0, none⟩), u5, u6, .pointer (some ⟨w.heap.size + 1, 0, none⟩), u8, .int .i64 ((5 : Nat) : Int), .string
      ⟨name.toArray⟩, .string ⟨value.toArray⟩, .int .u8 quote.toNat, .bool slash, u14, undef, u16, u17, undef, u19, u20, u21, u22, u23, u24, u25, u26, u27, u28, u29, u30, u31, u32, u33, u34,
      u35, u36, u37, u38, u39, u40, u41, u42, u43, u44, u45, u46, u47, u48, u49, u50, u51, u52, u53, u54, u55, u56, u57, u58, u59, u60, u61, u62, u63, u64, u65, u66, u67, u68, u69, u70, u71,
      u72, u73, u74, u75, u76, u77, u78, u79, u80, u81, u82, u83, u84, u85, u86, u87, u88, u89, u90, u91, u92, u93, u94, u95, u96, u97, u98, u99, u100, u101, u102, u103, u104, u105, u106,
      u107, u108, u109, u110, u111, u112, u113, u114, u115, u116, u117, u118, u119, u120, u121, u122, u123, u124, u125, u126, u127, u128, u129, u130, u131, u132, u133, u134, u135, u136,
      u137, u138, u139, u140, u141, u142, u143, u144, u145, u146, u147, u148, u149, u150, u151, u152, u153, u154, u155, u156, u157, u158, u159, u160, u161, u162, u163, u164, u165, u166,
      u167, u168, u169, u170, u171, u172, u173, u174, u175, u176, u177, u178, u179, u180, u181, u182, u183, u184, u185, u186, u187, u188, u189, u190, u191, u192, u193, u194, u195, u196,
      u197, u198, u199, u200, u201, u202, u203, u204, u205, u206, undef], []⟩ wr := by
  have hk : k ≤ s.size := Nat.le_of_lt hlt
  have hb := (s[k]'hlt).toNat_lt
  have hdr := drop_byte (byte_get s hlt)
  have hc1 := hW.cell
  have hf1 := hW.frozen 1
  have hsz := hW.size
  have zt := str_size tname
  have zn := str_size name
  have zv := str_size value
  have hcv := one_byte wr (s[k]'hlt)
  conv => arg 2; whnf
  by_cases hqq : ((s[k]'hlt).toNat : Int) = (quote.toNat : Int)
  · have teq : (((s[k]'hlt).toNat : Int) == (quote.toNat : Int)) = true := by rw [hqq]; simp
    have ubqq : s[k]'hlt = quote := UInt8.toNat_inj.1 (by omega)
    have HN : Hid (U.runM ⟨1, tname, name, value, quote, false, (all ++ [(U.low name, U.unesc value)])⟩ (s.data.toList.drop (k + 1)) = U.runM U.st0 (s.data.toList.drop a)) := by
      show _ = _
      rw [← hrun.out, hdr]
      exact (U.runM_go _ (U.step_E1 ubqq)).symm
    clear hqq ubqq hdr hrun
    have rl := lowered_walk (ByteArray.mk name.toArray)
    rw [list_of_mk, size_of_mk] at rl
    have ru := ref_unescape (ByteArray.mk value.toArray)
    rw [list_of_mk, size_of_mk] at ru
    go_wp2_with fail
    refine (rl _ (by omega)).mono ?_
    rintro e w2 ⟨rfl, b2⟩
    have hW2 := hW.later b2
    have hs2 := hW2.size
    go_wp2_with fail
    refine (ru _ (by omega)).mono ?_
    rintro e w3 ⟨rfl, b3⟩
    have hW3 := hW2.later b3
    have hs3 := hW3.size
    go_wp2_with (at_builtin; refine wpList_append_own _ rfl _ _ 32 rfl (w.heap.size + 2) 52 iA _ 2 32 Tryz.underlying32 hiA hA0 hA1 hA2 rfl (by decide) _ _ _ rfl (hW3.own.alloc _) ⟨w3.heap.size, 0, none⟩ 1 1 [str (U.low name), str (U.unesc value)] rfl rfl ?c1 ?c2 ?c3 ?c4 ?c5 ?_)
    case c1 =>
      intro j u hj
      match j, hj with
      | 0, hj => simp at hj; subst hj; simp [Addr.add, str]
      | 1, hj => simp at hj; subst hj; simp [Addr.add, str]
      | (j + 2), hj => simp at hj
    case c2 => intro u hu; simp at hu; rcases hu with rfl | rfl <;> rfl
    case c3 => unfold maxLen; omega
    case c4 => omega
    case c5 => simp; omega
    intro v' w4 hown' hgrow _
    have hW4 := (hW3.alloc _).grown (U.low name, U.unesc value) hown' hgrow
    have hs4 := hW4.size
    have hc4 := hW4.cell
    have hf4 := hW4.frozen 1
    have l5 : (all ++ [(U.low name, U.unesc value)]).length ≤ k + 1 := by rw [List.length_append]; simp; omega
    clear hcv
    go_wp2_with fail
    refine ⟨?_, by simp [tagMu, intOf] <;> omega⟩
    unfold TagI
    refine ⟨_, _, _, _, _, _, _, _, _, _, _, _, _, _, _, _, _, _, _, _, _, _, _, _, _, _, _, _, _, _, _, _, _, _, _, _, _, _, _, _, _, _, _, _, _, _, _, _, _, _, _, _, _, _, _, _, _, _, _, _, _, _, _,
      _, _, _, _, _, _, _, _, _, _, _, _, _, _, _, _, _, _, _, _, _, _, _, _, _, _, _, _, _, _, _, _, _, _, _, _, _, _, _, _, _, _, _, _, _, _, _, _, _, _, _, _, _, _, _, _, _, _, _, _, _, _, _,
      _, _, _, _, _, _, _, _, _, _, _, _, _, _, _, _, _, _, _, _, _, _, _, _, _, _, _, _, _, _, _, _, _, _, _, _, _, _, _, _, _, _, _, _, _, _, _, _, _, _, _, _, _, _, _, _, _, _, _, _, _, _, _,
      _, _, _, _, _, _, _, _, _, _, _, ?_, rfl⟩
    exact ⟨k + 1, ⟨1, tname, name, value, quote, false, (all ++ [(U.low name, U.unesc value)])⟩, by omega, by omega, by go_num, rfl, Nat.le_of_ble_eq_true rfl, rfl, rfl, rfl, rfl, hW4, HN, Nat.le_succ_of_le l1, Nat.le_succ_of_le l2, Nat.le_succ_of_le l3, l5⟩
  · have teq : (((s[k]'hlt).toNat : Int) == (quote.toNat : Int)) = false := by simpa using hqq
    have ubqq : s[k]'hlt ≠ quote := fun e => hqq (by rw [e])
    have HN : Hid (U.runM ⟨5, tname, name, (value ++ [s[k]'hlt]), quote, slash, all⟩ (s.data.toList.drop (k + 1)) = U.runM U.st0 (s.data.toList.drop a)) := by
      show _ = _
      rw [← hrun.out, hdr]
      exact (U.runM_go _ (U.step_E2 ubqq)).symm
    clear hqq ubqq hdr hrun
    go_wp2_with fail
    refine ⟨?_, by simp [tagMu, intOf] <;> omega⟩
    unfold TagI
    refine ⟨_, _, _, _, _, _, _, _, _, _, _, _, _, _, _, _, _, _, _, _, _, _, _, _, _, _, _, _, _, _, _, _, _, _, _, _, _, _, _, _, _, _, _, _, _, _, _, _, _, _, _, _, _, _, _, _, _, _, _, _, _, _, _,
      _, _, _, _, _, _, _, _, _, _, _, _, _, _, _, _, _, _, _, _, _, _, _, _, _, _, _, _, _, _, _, _, _, _, _, _, _, _, _, _, _, _, _, _, _, _, _, _, _, _, _, _, _, _, _, _, _, _, _, _, _, _, _,
      _, _, _, _, _, _, _, _, _, _, _, _, _, _, _, _, _, _, _, _, _, _, _, _, _, _, _, _, _, _, _, _, _, _, _, _, _, _, _, _, _, _, _, _, _, _, _, _, _, _, _, _, _, _, _, _, _, _, _, _, _, _, _,
      _, _, _, _, _, _, _, _, _, _, _, ?_, rfl⟩
    exact ⟨k + 1, ⟨5, tname, name, (value ++ [s[k]'hlt]), quote, slash, all⟩, by omega, by omega, by go_num, rfl, Nat.le_of_ble_eq_true rfl, rfl, congrArg Value.string (str_push _ _), rfl, rfl, hW.alloc _, HN, Nat.le_succ_of_le l1, (by show (value ++ [_]).length ≤ _; simp; omega), Nat.le_succ_of_le l3, Nat.le_succ_of_le l4⟩

end Go.Proofs.YtcdgiohogddbkaaGreatDoor

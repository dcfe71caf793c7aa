/- The reference's EmitFault: a round of its loop at a comment. -/
import Derived.Test.YtfockedeikdbjaaFaultF
namespace Go.Proofs.Ytfockedeikdbjaa
open Go.RowKit

set_option maxHeartbeats 16000000 in
set_option maxRecDepth 1000000 in
theorem fault_round4 (l : List U.Tk) (cap R : Nat) (w : World) (K : Act → World → Prop) (wr : World) (hz : l.length ≤ 9223372036854775807) (h300 : ¬ 300 < l.length)
    (u2 u3 u4 u5 u6 u13 u14 u15 u16 u17 u18 u19 u20 u21 u22 u23 u24 u25 u26 u27 u28 u29 u30 u31 u32 u33 u34 u35 u36 u37 u38 u39 u40 u41 u42 u43 u44 u45 u46 u47 u48 u49 u50 u51 u52 u53 u54
    u55 u56 u57 u58 u59 u60 u61 u62 u63 u64 u65 u66 u67 u68 u69 u70 u71 u72 u73 u74 u75 u76 u77 u78 u79 u80 u81 u82 u83 u84 u85 u86 u87 u88 u89 u90 u91 u92 u93 u94 u95 u96 u97 u98 u99 u100
    u101 u102 u103 u104 u105 u106 u107 u108 u109 u110 u111 u112 u113 u114 u115 u116 u117 u118 u119 u120 u121 u122 u123 u124 u125 u126 u127 u128 u129 u130 u131 u132 u133 u134 u135 u136 u137
    u138 u139 u140 u141 u142 u143 u144 u145 u146 u147 u148 u149 u150 u151 u152 u153 u154 u155 u156 u157 u158 u159 : Value)
    (k : Nat) (hbw : Below w.heap.size w wr) (HF : Hid (U.faults (U.endB (l.take k)) (l.drop k) = R)) (hlt : k < l.length) (x : U.Tk) (HX : Hid (l[k]? = some x)) (hfit : Fits most x)
    (g o : Nat) (aoA : Option Addr) (capA : Nat) (ao : Option Addr) (hao : ao = some ⟨g, o, none⟩)
    (HC : Hid (∀ (i : Nat) (t : U.Tk), l[i]? = some t → ∃ g o av, ao = some ⟨g, o, none⟩ ∧ g < w.heap.size ∧ w.cell? ⟨g, o + i * 5, none⟩ = some (.int .i64 t.kind) ∧ w.cell? ⟨g, o + i * 5 + 1, none⟩ = some (.string ⟨t.name.toArray⟩) ∧
      w.cell? ⟨g, o + i * 5 + 2, none⟩ = some av ∧ w.cell? ⟨g, o + i * 5 + 3, none⟩ = some (.bool t.self) ∧ w.cell? ⟨g, o + i * 5 + 4, none⟩ = some (.string ⟨t.text.toArray⟩) ∧ RdA w w.heap.size av t.attrs))
    (hg : g < w.heap.size) (d0 : w.cell? ⟨g, o + k * 5, none⟩ = some (.int .i64 x.kind)) (d1 : w.cell? ⟨g, o + k * 5 + 1, none⟩ = some (.string ⟨x.name.toArray⟩)) (d2 : w.cell? ⟨g, o + k * 5 + 2, none⟩ = some (.slice aoA x.attrs.length capA))
    (d3 : w.cell? ⟨g, o + k * 5 + 3, none⟩ = some (.bool x.self)) (d4 : w.cell? ⟨g, o + k * 5 + 4, none⟩ = some (.string ⟨x.text.toArray⟩)) (HA : Hid (RdA w w.heap.size (.slice aoA x.attrs.length capA) x.attrs))
    (kk : x.kind = 4) :
    Code.wp Try.prog faultBody (Exit.then (fun a' w' => FkI l ao cap R w a' w' ∧ fkMu l a' < fkMu l ⟨#[.slice ao l.length cap, undef, u2, u3, u4, u5, u6, .slice ao l.length cap, .int .i64 (l.length : Int), .bool (decide ((300 : Int) < (l.length : Int))), .slice ao l.length cap, .int
      .i64 (l.length : Int), .int .i64 (k : Int), u13, u14, u15, u16, u17, u18, u19, u20, u21, u22, u23, u24, u25, u26, u27, u28, u29, u30, u31, u32, u33, u34, u35, u36, u37, u38, u39, u40,
      u41, u42, u43, u44, u45, u46, u47, u48, u49, u50, u51, u52, u53, u54, u55, u56, u57, u58, u59, u60, u61, u62, u63, u64, u65, u66, u67, u68, u69, u70, u71, u72, u73, u74, u75, u76, u77,
      u78, u79, u80, u81, u82, u83, u84, u85, u86, u87, u88, u89, u90, u91, u92, u93, u94, u95, u96, u97, u98, u99, u100, u101, u102, u103, u104, u105, u106, u107, u108, u109, u110, u111,
      u112, u113, u114, u115, u116, u117, u118, u119, u120, u121, u122, u123, u124, u125, u126, u127, u128, u129, u130, u131, u132, u133, u134, u135, u136, u137, u138, u139, u140, u141,
      u142, u143, u144, u145, u146, u147, u148, u149, u150, u151, u152, u153, u154, u155, u156, u157, u158, u159], []⟩)
      (Exit.inBlock 0 (Exit.then K (bodyPost Try.prog Try.f7 (fun e w' => e = .returned (.int .i64 (R : Int)) ∧ Below w.heap.size w w'))))) ⟨#[.slice ao l.length cap, undef, u2, u3, u4, u5, u6, .slice ao l.length cap, .int .i64 (l.length : Int), .bool (decide ((300 : Int) < (l.length : Int))), .slice ao l.length cap, .int
      .i64 (l.length : Int), .int .i64 (k : Int), u13, u14, u15, u16, u17, u18, u19, u20, u21, u22, u23, u24, u25, u26, u27, u28, u29, u30, u31, u32, u33, u34, u35, u36, u37, u38, u39, u40,
      u41, u42, u43, u44, u45, u46, u47, u48, u49, u50, u51, u52, u53, u54, u55, u56, u57, u58, u59, u60, u61, u62, u63, u64, u65, u66, u67, u68, u69, u70, u71, u72, u73, u74, u75, u76, u77,
      u78, u79, u80, u81, u82, u83, u84, u85, u86, u87, u88, u89, u90, u91, u92, u93, u94, u95, u96, u97, u98, u99, u100, u101, u102, u103, u104, u105, u106, u107, u108, u109, u110, u111,
      u112, u113, u114, u115, u116, u117, u118, u119, u120, u121, u122, u123, u124, u125, u126, u127, u128, u129, u130, u131, u132, u133, u134, u135, u136, u137, u138, u139, u140, u141,
      u142, u143, u144, u145, u146, u147, u148, u149, u150, u151, u152, u153, u154, u155, u156, u157, u158, u159], []⟩ wr := by
  subst hao
  have hu := And.intro hz (And.intro h300 (And.intro HA HC))
  clear hu
  have f3 : x.attrs.length ≤ 9223372036854775807 := hfit
  have c0 := (hbw.cell (p := ⟨g, o + k * 5, none⟩) hg).trans d0
  have c1 := (hbw.cell (p := ⟨g, o + k * 5 + 1, none⟩) hg).trans d1
  have c2 := (hbw.cell (p := ⟨g, o + k * 5 + 2, none⟩) hg).trans d2
  have c3 := (hbw.cell (p := ⟨g, o + k * 5 + 3, none⟩) hg).trans d3
  have c4 := (hbw.cell (p := ⟨g, o + k * 5 + 4, none⟩) hg).trans d4
  have hk0 : (0 : Int) ≤ (k : Int) := Int.natCast_nonneg _
  have hk1 : (k : Int) < (l.length : Int) := by omega
  have hbs := hbw.size
  have hgo : U.faultAt (U.endB (l.take k)) x (l.drop (k + 1)) = 0 → Hid (U.faults (U.endB (l.take (k + 1))) (l.drop (k + 1)) = R) := fun h => U.faults_go HX.out HF.out h
  have hst := fun (m : Nat) (h : U.faultAt (U.endB (l.take k)) x (l.drop (k + 1)) = m) (hm : m ≠ 0) => U.faults_stop HX.out HF.out h hm
  have HGO := Lib.hid hgo
  have HST := Lib.hid hst
  have hbN := hbw.alloc hbs (tkObj x (.slice aoA x.attrs.length capA))
  clear hgo hst d0 d1 d2 d3 d4
  conv => arg 2; whnf
  have b1 : (x.kind == 1) = false := by rw [kk]; rfl
  have n1 : (x.kind != 1) = true := by rw [kk]; rfl
  have b2 : (x.kind == 2) = false := by rw [kk]; rfl
  have n2 : (x.kind != 2) = true := by rw [kk]; rfl
  have b3 : (x.kind == 3) = false := by rw [kk]; rfl
  have n3 : (x.kind != 3) = true := by rw [kk]; rfl
  have b4 : (x.kind == 4) = true := by rw [kk]; rfl
  have n4 : (x.kind != 4) = false := by rw [kk]; rfl
  have K4 := Lib.hid kk
  clear kk
  go_wp2_with fail
  go_ret
  exact ⟨by rw [HST.out 4 ((U.faultAt_text (.inr K4.out)).trans (U.form4_no (U.formOk_four K4.out))) (by decide)]; rfl, hbw.alloc hbs _⟩

end Go.Proofs.Ytfockedeikdbjaa

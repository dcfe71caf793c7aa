/- The reference's EmitFault: a round of its loop at a start. -/
import Derived.Test.YtfockedeikdbjaaFaultF
namespace Go.Proofs.Ytfockedeikdbjaa
open Go.RowKit

set_option maxHeartbeats 16000000 in
set_option maxRecDepth 1000000 in
theorem fault_round1 (l : List U.Tk) (cap R : Nat) (w : World) (K : Act → World → Prop) (wr : World) (hz : l.length ≤ 9223372036854775807) (h300 : ¬ 300 < l.length)
    (u2 u3 u4 u5 u6 u13 u14 u15 u16 u17 u18 u19 u20 u21 u22 u23 u24 u25 u26 u27 u28 u29 u30 u31 u32 u33 u34 u35 u36 u37 u38 u39 u40 u41 u42 u43 u44 u45 u46 u47 u48 u49 u50 u51 u52 u53 u54
    u55 u56 u57 u58 u59 u60 u61 u62 u63 u64 u65 u66 u67 u68 u69 u70 u71 u72 u73 u74 u75 u76 u77 u78 u79 u80 u81 u82 u83 u84 u85 u86 u87 u88 u89 u90 u91 u92 u93 u94 u95 u96 u97 u98 u99 u100
    u101 u102 u103 u104 u105 u106 u107 u108 u109 u110 u111 u112 u113 u114 u115 u116 u117 u118 u119 u120 u121 u122 u123 u124 u125 u126 u127 u128 u129 u130 u131 u132 u133 u134 u135 u136 u137
    u138 u139 u140 u141 u142 u143 u144 u145 u146 u147 u148 u149 u150 u151 u152 u153 u154 u155 u156 u157 u158 u159 : Value)
    (k : Nat) (hbw : Below w.heap.size w wr) (HF : Hid (U.faults (U.endB (l.take k)) (l.drop k) = R)) (hlt : k < l.length) (x : U.Tk) (HX : Hid (l[k]? = some x)) (hfit : Fits most x)
    (g o : Nat) (aoA : Option Addr) (capA : Nat) (ao : Option Addr) (hao : ao = some ⟨g, o, none⟩)
    (HC : Hid (∀ (i : Nat) (t : U.Tk), l[i]? = some t → ∃ g o av, ao = some ⟨g, o, none⟩ ∧ g < w.heap.size ∧ w.cell? ⟨g, o + i * 5, none⟩ = some (.int .i64 t.kind) ∧ w.cell? ⟨g, o + i * 5 + 1, none⟩ = some (.string ⟨t.name.toArray⟩) ∧
      w.cell? ⟨g, o + i * 5 + 2, none⟩ = some av ∧ w.cell? ⟨g, o + i * 5 + 3, none⟩ = some (.bool t.self) ∧ w.cell? ⟨g, o + i * 5 + 4, none⟩ = some (.string ⟨t.text.toArray⟩) ∧ RdA w w.heap.size av t.attrs))
    (hg : g < w.heap.size) (d0 : w.cell? ⟨g, o + k * 5, none⟩ = some (.int .i64 x.kind)) (d1 : w.cell? ⟨g, o + k * 5 + 1, none⟩ = some (.string ⟨x.name.toArray⟩)) (d2 : w.cell? ⟨g, o + k * 5 + 2, none⟩ = some (.slice aoA x.attrs.length capA))
    (d3 : w.cell? ⟨g, o + k * 5 + 3, none⟩ = some (.bool x.self)) (d4 : w.cell? ⟨g, o + k * 5 + 4, none⟩ = some (.string ⟨x.text.toArray⟩)) (HA : Hid (RdA w w.heap.size (.slice aoA x.attrs.length capA) x.attrs))
    (kk : x.kind = 1) :
    Code.wp Try.prog faultBody (Exit.then (fun a' w' => FkI l ao cap R w a' w' ∧ fkMu l a' < fkMu l ⟨#[.slice ao l.length cap, undef, u2, u3, u4, u5, u6, .slice ao l.length cap, .int .i64 (l.length : Int), .bool (decide ((300 : Int) < (l.length : Int))), .slice ao l.length cap, .int
      .i64 (l.length : Int), .int .i64 (k : Int), u13, u14, u15, u16, u17, u18, u19, u20, u21, u22, u23, u24, u25, u26, u27, u28, u29, u30, u31, u32, u33, u34, u35, u36, u37, u38, u39, u40,
      u41, u42, u43, u44, u45, u46, u47, u48, u49, u50, u51, u52, u53, u54, u55, u56, u57, u58, u59, u60, u61, u62, u63, u64, u65, u66, u67, u68, u69, u70, u71, u72, u73, u74, u75, u76, u77,
      u78, u79, u80, u81, u82, u83, u84, u85, u86, u87, u88, u89, u90, u91, u92, u93, u94, u95, u96, u97, u98, u99, u100, u101, u102, u103, u104, u105, u106, u107, u108, u109, u110, u111,
      u112, u113, u114, u115, u116, u117, u118, u119, u120, u121, u122, u123, u124, u125, u126, u127, u128, u129, u130, u131, u132, u133, u134, u135, u136, u137, u138, u139, u140, u141,
      u142, u143, u144, u145, u146, u147, u148, u149, u150, u151, u152, u153, u154, u155, u156, u157, u158, u159], []⟩)
      (Exit.inBlock 0 (Exit.then K (bodyPost Try.prog Try.f7 (fun e w' => e = .returned (.int .i64 (R : Int)) ∧ Below w.heap.size w w'))))) ⟨#[.slice ao l.length cap, undef, u2, u3, u4, u5, u6, .slice ao l.length cap, .int .i64 (l.length : Int), .bool (decide ((300 : Int) < (l.length : Int))), .slice ao l.length cap, .int
      .i64 (l.length : Int), .int .i64 (k : Int), u13, u14, u15, u16, u17, u18, u19, u20, u21, u22, u23, u24, u25, u26, u27, u28, u29, u30, u31, u32, u33, u34, u35, u36, u37, u38, u39, u40,
      u41, u42, u43, u44, u45, u46, u47, u48, u49, u50, u51, u52, u53, u54, u55, u56, u57, u58, u59, u60, u61, u62, u63, u64, u65, u66, u67, u68, u69, u70, u71, u72, u73, u74, u75, u76, u77,
      u78, u79, u80, u81, u82, u83, u84, u85, u86, u87, u88, u89, u90, u91, u92, u93, u94, u95, u96, u97, u98, u99, u100, u101, u102, u103, u104, u105, u106, u107, u108, u109, u110, u111,
      u112, u113, u114, u115, u116, u117, u118, u119, u120, u121, u122, u123, u124, u125, u126, u127, u128, u129, u130, u131, u132, u133, u134, u135, u136, u137, u138, u139, u140, u141,
      u142, u143, u144, u145, u146, u147, u148, u149, u150, u151, u152, u153, u154, u155, u156, u157, u158, u159], []⟩ wr := by
  subst hao
  have hu := And.intro hz (And.intro h300 (And.intro HA HC))
  clear hu
  have f3 : x.attrs.length ≤ 9223372036854775807 := hfit
  have c0 := (hbw.cell (p := ⟨g, o + k * 5, none⟩) hg).trans d0
  have c1 := (hbw.cell (p := ⟨g, o + k * 5 + 1, none⟩) hg).trans d1
  have c2 := (hbw.cell (p := ⟨g, o + k * 5 + 2, none⟩) hg).trans d2
  have c3 := (hbw.cell (p := ⟨g, o + k * 5 + 3, none⟩) hg).trans d3
  have c4 := (hbw.cell (p := ⟨g, o + k * 5 + 4, none⟩) hg).trans d4
  have hk0 : (0 : Int) ≤ (k : Int) := Int.natCast_nonneg _
  have hk1 : (k : Int) < (l.length : Int) := by omega
  have hbs := hbw.size
  have hgo : U.faultAt (U.endB (l.take k)) x (l.drop (k + 1)) = 0 → Hid (U.faults (U.endB (l.take (k + 1))) (l.drop (k + 1)) = R) := fun h => U.faults_go HX.out HF.out h
  have hst := fun (m : Nat) (h : U.faultAt (U.endB (l.take k)) x (l.drop (k + 1)) = m) (hm : m ≠ 0) => U.faults_stop HX.out HF.out h hm
  have HGO := Lib.hid hgo
  have HST := Lib.hid hst
  have hbN := hbw.alloc hbs (tkObj x (.slice aoA x.attrs.length capA))
  clear hgo hst d0 d1 d2 d3 d4
  conv => arg 2; whnf
  have b1 : (x.kind == 1) = true := by rw [kk]; rfl
  have n1 : (x.kind != 1) = false := by rw [kk]; rfl
  have b2 : (x.kind == 2) = false := by rw [kk]; rfl
  have n2 : (x.kind != 2) = true := by rw [kk]; rfl
  have b3 : (x.kind == 3) = false := by rw [kk]; rfl
  have n3 : (x.kind != 3) = true := by rw [kk]; rfl
  have b4 : (x.kind == 4) = false := by rw [kk]; rfl
  have n4 : (x.kind != 4) = true := by rw [kk]; rfl
  have K := Lib.hid (show x.kind = 1 ∨ x.kind = 2 from .inl kk)
  have KK := Lib.hid kk
  clear kk
  have hname := fun w2 => name_may ⟨x.name.toArray⟩ w2
  cases hn : U.isName x.name with
  | false =>
    have HNM := Lib.hid hname
    have HNN := Lib.hid hn
    clear hname hn
    go_wp2_with (go_at_call 13; refine (HNM.out _).mono ?_; rintro e w' ⟨rfl, rfl⟩; rw [list_of_mk, HNN.out])
    go_ret
    exact ⟨by rw [HST.out 5 (U.faultAt_name K.out HNN.out) (by decide)]; rfl, hbw.alloc hbs _⟩
  | true =>
    have HNM := Lib.hid hname
    have HNN := Lib.hid hn
    clear hname hn
    have hat := attrs_fault (.slice aoA x.attrs.length capA) x.attrs (wr.alloc (tkObj x (.slice aoA x.attrs.length capA))) (((HA.out.keep fun p hp => hbN.cell hp)).more hbN.size) f3
    unfold tkObj at hat
    by_cases ha : U.attrsFault x.attrs = 0
    · have HA0 := Lib.hid ha
      rw [ha, show ((0 : Nat) : Int) = 0 from rfl] at hat
      have HAT := Lib.hid hat
      clear ha hat
      have hqN := heap_alloc_new wr (tkObj x (.slice aoA x.attrs.length capA))
      have hold := fun (p : Addr) (hp : p.block < w.heap.size) => (hbN.cell (p := p) hp)
      unfold tkObj at hqN hold
      have HQN := Lib.hid hqN
      have HOLD := Lib.hid hold
      clear hqN hold
      have hbN2 := hbw.alloc hbs (tkObj x (.slice aoA x.attrs.length capA))
      unfold tkObj at hbN2
      go_upto_region 14 with (first
        | (go_at_call 13; refine (HNM.out _).mono ?_; rintro e w' ⟨rfl, rfl⟩; rw [list_of_mk, HNN.out])
        | (go_at_call 14; refine HAT.out.mono ?_; rintro e w5 ⟨rfl, hb5⟩; have t0 : w5.cell? ⟨wr.heap.size, 0, none⟩ = some (.int .i64 x.kind) := (hb5.cell (p := ⟨wr.heap.size, 0, none⟩) (by simp)).trans (by rw [Lib.cell_of_heap HQN.out]; rfl);
            have t1 : w5.cell? ⟨wr.heap.size, 1, none⟩ = some (.string ⟨x.name.toArray⟩) := (hb5.cell (p := ⟨wr.heap.size, 1, none⟩) (by simp)).trans (by rw [Lib.cell_of_heap HQN.out]; rfl);
            have t2 : w5.cell? ⟨wr.heap.size, 2, none⟩ = some (.slice aoA x.attrs.length capA) := (hb5.cell (p := ⟨wr.heap.size, 2, none⟩) (by simp)).trans (by rw [Lib.cell_of_heap HQN.out]; rfl);
            have t3 : w5.cell? ⟨wr.heap.size, 3, none⟩ = some (.bool x.self) := (hb5.cell (p := ⟨wr.heap.size, 3, none⟩) (by simp)).trans (by rw [Lib.cell_of_heap HQN.out]; rfl);
            have t4 : w5.cell? ⟨wr.heap.size, 4, none⟩ = some (.string ⟨x.text.toArray⟩) := (hb5.cell (p := ⟨wr.heap.size, 4, none⟩) (by simp)).trans (by rw [Lib.cell_of_heap HQN.out]; rfl);
            have HO := Lib.hid (fun (p : Addr) (hp : p.block < w.heap.size) => (hb5.cell (p := p) (Nat.lt_of_lt_of_le hp hbN2.size)).trans (HOLD.out p hp));
            have hb6 := hbN2.trans (hb5.mono hbN2.size); clear hb5 HQN HOLD))
      clear hbN2
      generalize wr.heap.size = q at *
      have L4 : U.formOk (U.endB (l.take k)) x (l.drop (k + 1)) = false → R = 4 := fun h => HST.out 4 ((U.faultAt_tag K.out HNN.out HA0.out).trans (U.form4_no h)) (by decide)
      rw [U.formOk_one KK.out] at L4
      have LH := Lib.hid L4
      clear L4
      go_upto_if 58 with fail
      cases hrn : U.rawName x.name with
      | false =>
        obtain ⟨r1, r2, r3, r4⟩ := U.rawName_no hrn
        have HRN := Lib.hid hrn
        clear hrn
        cases ht : x.text.isEmpty with
        | false =>
          go_wp2_with fail
          go_ret
          exact ⟨by rw [LH.out (by rw [ht]; rfl)]; rfl, hb6⟩
        | true =>
          have hyes := HGO.out ((U.faultAt_tag K.out HNN.out HA0.out).trans (U.form4_yes (by rw [U.formOk_one KK.out, ht, HRN.out]; rfl)))
          go_wp2_with fail
          refine ⟨?_, by simp [fkMu, intOf] <;> omega⟩
          unfold FkI
          refine ⟨_, _, _, _, _, _, _, _, _, _, _, _, _, _, _, _, _, _, _, _, _, _, _, _, _, _, _, _, _, _, _, _, _, _, _, _, _, _, _, _, _, _, _, _, _, _, _, _, _, _, _, _, _, _, _, _, _, _, _, _, _, _, _,
            _, _, _, _, _, _, _, _, _, _, _, _, _, _, _, _, _, _, _, _, _, _, _, _, _, _, _, _, _, _, _, _, _, _, _, _, _, _, _, _, _, _, _, _, _, _, _, _, _, _, _, _, _, _, _, _, _, _, _, _, _, _, _,
            _, _, _, _, _, _, _, _, _, _, _, _, _, _, _, _, _, _, _, _, _, _, _, _, _, _, _, ⟨k + 1, by omega, by go_num, hb6, hyes⟩, rfl⟩
      | true =>
        have hrc := U.rawName_cases hrn
        have HRN := Lib.hid hrn
        clear hrn
        rw [HRN.out] at LH
        have hi1 : (0 : Int) ≤ (k : Int) + 1 := by omega
        have hi3 : ((k : Int) + 1).toNat = k + 1 := by omega
        go_cut [6] (fun s6 wx => s6 = .bool (!(x.text.isEmpty && U.isEndB x.name (l.drop (k + 1)))) ∧ ∃ n, wx = w5.drewN n)
        case first =>
          cases ht : x.text.isEmpty with
          | false =>
            rcases hrc with hrc | hrc | hrc | hrc
            · have r1 : (x.name == [115, 99, 114, 105, 112, 116]) = true := by rw [hrc]; rfl
              have r2 : (x.name == [115, 116, 121, 108, 101]) = false := by rw [hrc]; rfl
              have r3 : (x.name == [116, 101, 120, 116, 97, 114, 101, 97]) = false := by rw [hrc]; rfl
              have r4 : (x.name == [116, 105, 116, 108, 101]) = false := by rw [hrc]; rfl
              clear hrc
              go_wp2_with fail
              go_quiet (fail)
              go_wp2_with fail
              go_meet
              exact ⟨by rw [ht, Bool.false_and]; rfl, _, rfl⟩
            · have r1 : (x.name == [115, 99, 114, 105, 112, 116]) = false := by rw [hrc]; rfl
              have r2 : (x.name == [115, 116, 121, 108, 101]) = true := by rw [hrc]; rfl
              have r3 : (x.name == [116, 101, 120, 116, 97, 114, 101, 97]) = false := by rw [hrc]; rfl
              have r4 : (x.name == [116, 105, 116, 108, 101]) = false := by rw [hrc]; rfl
              clear hrc
              go_wp2_with fail
              go_quiet (fail)
              go_wp2_with fail
              go_meet
              exact ⟨by rw [ht, Bool.false_and]; rfl, _, rfl⟩
            · have r1 : (x.name == [115, 99, 114, 105, 112, 116]) = false := by rw [hrc]; rfl
              have r2 : (x.name == [115, 116, 121, 108, 101]) = false := by rw [hrc]; rfl
              have r3 : (x.name == [116, 101, 120, 116, 97, 114, 101, 97]) = true := by rw [hrc]; rfl
              have r4 : (x.name == [116, 105, 116, 108, 101]) = false := by rw [hrc]; rfl
              clear hrc
              go_wp2_with fail
              go_quiet (fail)
              go_wp2_with fail
              go_meet
              exact ⟨by rw [ht, Bool.false_and]; rfl, _, rfl⟩
            · have r1 : (x.name == [115, 99, 114, 105, 112, 116]) = false := by rw [hrc]; rfl
              have r2 : (x.name == [115, 116, 121, 108, 101]) = false := by rw [hrc]; rfl
              have r3 : (x.name == [116, 101, 120, 116, 97, 114, 101, 97]) = false := by rw [hrc]; rfl
              have r4 : (x.name == [116, 105, 116, 108, 101]) = true := by rw [hrc]; rfl
              clear hrc
              go_wp2_with fail
              go_quiet (fail)
              go_wp2_with fail
              go_meet
              exact ⟨by rw [ht, Bool.false_and]; rfl, _, rfl⟩
          | true =>
            by_cases hend : k + 1 = l.length
            · have he2 : ((k : Int) + 1 == (l.length : Int)) = true := beq_iff_eq.2 (by omega)
              have HE := Lib.hid (U.isEndB_none x.name (l := l) (k := k + 1) (by omega))
              clear hend
              rcases hrc with hrc | hrc | hrc | hrc
              · have r1 : (x.name == [115, 99, 114, 105, 112, 116]) = true := by rw [hrc]; rfl
                have r2 : (x.name == [115, 116, 121, 108, 101]) = false := by rw [hrc]; rfl
                have r3 : (x.name == [116, 101, 120, 116, 97, 114, 101, 97]) = false := by rw [hrc]; rfl
                have r4 : (x.name == [116, 105, 116, 108, 101]) = false := by rw [hrc]; rfl
                clear hrc
                go_wp2_with fail
                go_quiet (fail)
                go_wp2_with fail
                go_meet
                exact ⟨by rw [HE.out, Bool.and_false]; rfl, _, rfl⟩
              · have r1 : (x.name == [115, 99, 114, 105, 112, 116]) = false := by rw [hrc]; rfl
                have r2 : (x.name == [115, 116, 121, 108, 101]) = true := by rw [hrc]; rfl
                have r3 : (x.name == [116, 101, 120, 116, 97, 114, 101, 97]) = false := by rw [hrc]; rfl
                have r4 : (x.name == [116, 105, 116, 108, 101]) = false := by rw [hrc]; rfl
                clear hrc
                go_wp2_with fail
                go_quiet (fail)
                go_wp2_with fail
                go_meet
                exact ⟨by rw [HE.out, Bool.and_false]; rfl, _, rfl⟩
              · have r1 : (x.name == [115, 99, 114, 105, 112, 116]) = false := by rw [hrc]; rfl
                have r2 : (x.name == [115, 116, 121, 108, 101]) = false := by rw [hrc]; rfl
                have r3 : (x.name == [116, 101, 120, 116, 97, 114, 101, 97]) = true := by rw [hrc]; rfl
                have r4 : (x.name == [116, 105, 116, 108, 101]) = false := by rw [hrc]; rfl
                clear hrc
                go_wp2_with fail
                go_quiet (fail)
                go_wp2_with fail
                go_meet
                exact ⟨by rw [HE.out, Bool.and_false]; rfl, _, rfl⟩
              · have r1 : (x.name == [115, 99, 114, 105, 112, 116]) = false := by rw [hrc]; rfl
                have r2 : (x.name == [115, 116, 121, 108, 101]) = false := by rw [hrc]; rfl
                have r3 : (x.name == [116, 101, 120, 116, 97, 114, 101, 97]) = false := by rw [hrc]; rfl
                have r4 : (x.name == [116, 105, 116, 108, 101]) = true := by rw [hrc]; rfl
                clear hrc
                go_wp2_with fail
                go_quiet (fail)
                go_wp2_with fail
                go_meet
                exact ⟨by rw [HE.out, Bool.and_false]; rfl, _, rfl⟩
            · have he2 : ((k : Int) + 1 == (l.length : Int)) = false := beq_eq_false_iff_ne.2 (by omega)
              have hi2 : (k : Int) + 1 < (l.length : Int) := by omega
              have hy := List.getElem?_eq_getElem (show k + 1 < l.length by omega)
              generalize l[k + 1]'(show k + 1 < l.length by omega) = y at hy
              obtain ⟨g2, o2, av2, e2, hg2, p0, p1, _⟩ := HC.out (k + 1) y hy
              injection e2 with e2
              injection e2 with e3 e4
              subst e3
              subst e4
              have q0 := (HO.out ⟨g, o + (k + 1) * 5, none⟩ hg).trans p0
              have q1 := (HO.out ⟨g, o + (k + 1) * 5 + 1, none⟩ hg).trans p1
              have HE := Lib.hid (U.isEndB_some x.name hy)
              clear hy p0 p1 hend
              cases hyk : (y.kind == 2) with
              | false =>
                have hyn : (y.kind != 2) = true := by rw [bne, hyk]; rfl
                rcases hrc with hrc | hrc | hrc | hrc
                · have r1 : (x.name == [115, 99, 114, 105, 112, 116]) = true := by rw [hrc]; rfl
                  have r2 : (x.name == [115, 116, 121, 108, 101]) = false := by rw [hrc]; rfl
                  have r3 : (x.name == [116, 101, 120, 116, 97, 114, 101, 97]) = false := by rw [hrc]; rfl
                  have r4 : (x.name == [116, 105, 116, 108, 101]) = false := by rw [hrc]; rfl
                  clear hrc
                  go_wp2_with fail
                  go_quiet (fail)
                  go_wp2_with fail
                  go_meet
                  exact ⟨by rw [HE.out, hyk, Bool.false_and, Bool.and_false]; rfl, _, rfl⟩
                · have r1 : (x.name == [115, 99, 114, 105, 112, 116]) = false := by rw [hrc]; rfl
                  have r2 : (x.name == [115, 116, 121, 108, 101]) = true := by rw [hrc]; rfl
                  have r3 : (x.name == [116, 101, 120, 116, 97, 114, 101, 97]) = false := by rw [hrc]; rfl
                  have r4 : (x.name == [116, 105, 116, 108, 101]) = false := by rw [hrc]; rfl
                  clear hrc
                  go_wp2_with fail
                  go_quiet (fail)
                  go_wp2_with fail
                  go_meet
                  exact ⟨by rw [HE.out, hyk, Bool.false_and, Bool.and_false]; rfl, _, rfl⟩
                · have r1 : (x.name == [115, 99, 114, 105, 112, 116]) = false := by rw [hrc]; rfl
                  have r2 : (x.name == [115, 116, 121, 108, 101]) = false := by rw [hrc]; rfl
                  have r3 : (x.name == [116, 101, 120, 116, 97, 114, 101, 97]) = true := by rw [hrc]; rfl
                  have r4 : (x.name == [116, 105, 116, 108, 101]) = false := by rw [hrc]; rfl
                  clear hrc
                  go_wp2_with fail
                  go_quiet (fail)
                  go_wp2_with fail
                  go_meet
                  exact ⟨by rw [HE.out, hyk, Bool.false_and, Bool.and_false]; rfl, _, rfl⟩
                · have r1 : (x.name == [115, 99, 114, 105, 112, 116]) = false := by rw [hrc]; rfl
                  have r2 : (x.name == [115, 116, 121, 108, 101]) = false := by rw [hrc]; rfl
                  have r3 : (x.name == [116, 101, 120, 116, 97, 114, 101, 97]) = false := by rw [hrc]; rfl
                  have r4 : (x.name == [116, 105, 116, 108, 101]) = true := by rw [hrc]; rfl
                  clear hrc
                  go_wp2_with fail
                  go_quiet (fail)
                  go_wp2_with fail
                  go_meet
                  exact ⟨by rw [HE.out, hyk, Bool.false_and, Bool.and_false]; rfl, _, rfl⟩
              | true =>
                have hyn : (y.kind != 2) = false := by rw [bne, hyk]; rfl
                cases hyx : (y.name == x.name) with
                | false =>
                  rcases hrc with hrc | hrc | hrc | hrc
                  · have r1 : (x.name == [115, 99, 114, 105, 112, 116]) = true := by rw [hrc]; rfl
                    have r2 : (x.name == [115, 116, 121, 108, 101]) = false := by rw [hrc]; rfl
                    have r3 : (x.name == [116, 101, 120, 116, 97, 114, 101, 97]) = false := by rw [hrc]; rfl
                    have r4 : (x.name == [116, 105, 116, 108, 101]) = false := by rw [hrc]; rfl
                    clear hrc
                    go_wp2_with fail
                    go_quiet (fail)
                    go_wp2_with fail
                    go_meet
                    exact ⟨by rw [HE.out, hyk, hyx]; simp, _, rfl⟩
                  · have r1 : (x.name == [115, 99, 114, 105, 112, 116]) = false := by rw [hrc]; rfl
                    have r2 : (x.name == [115, 116, 121, 108, 101]) = true := by rw [hrc]; rfl
                    have r3 : (x.name == [116, 101, 120, 116, 97, 114, 101, 97]) = false := by rw [hrc]; rfl
                    have r4 : (x.name == [116, 105, 116, 108, 101]) = false := by rw [hrc]; rfl
                    clear hrc
                    go_wp2_with fail
                    go_quiet (fail)
                    go_wp2_with fail
                    go_meet
                    exact ⟨by rw [HE.out, hyk, hyx]; simp, _, rfl⟩
                  · have r1 : (x.name == [115, 99, 114, 105, 112, 116]) = false := by rw [hrc]; rfl
                    have r2 : (x.name == [115, 116, 121, 108, 101]) = false := by rw [hrc]; rfl
                    have r3 : (x.name == [116, 101, 120, 116, 97, 114, 101, 97]) = true := by rw [hrc]; rfl
                    have r4 : (x.name == [116, 105, 116, 108, 101]) = false := by rw [hrc]; rfl
                    clear hrc
                    go_wp2_with fail
                    go_quiet (fail)
                    go_wp2_with fail
                    go_meet
                    exact ⟨by rw [HE.out, hyk, hyx]; simp, _, rfl⟩
                  · have r1 : (x.name == [115, 99, 114, 105, 112, 116]) = false := by rw [hrc]; rfl
                    have r2 : (x.name == [115, 116, 121, 108, 101]) = false := by rw [hrc]; rfl
                    have r3 : (x.name == [116, 101, 120, 116, 97, 114, 101, 97]) = false := by rw [hrc]; rfl
                    have r4 : (x.name == [116, 105, 116, 108, 101]) = true := by rw [hrc]; rfl
                    clear hrc
                    go_wp2_with fail
                    go_quiet (fail)
                    go_wp2_with fail
                    go_meet
                    exact ⟨by rw [HE.out, hyk, hyx]; simp, _, rfl⟩
                | true =>
                  rcases hrc with hrc | hrc | hrc | hrc
                  · have r1 : (x.name == [115, 99, 114, 105, 112, 116]) = true := by rw [hrc]; rfl
                    have r2 : (x.name == [115, 116, 121, 108, 101]) = false := by rw [hrc]; rfl
                    have r3 : (x.name == [116, 101, 120, 116, 97, 114, 101, 97]) = false := by rw [hrc]; rfl
                    have r4 : (x.name == [116, 105, 116, 108, 101]) = false := by rw [hrc]; rfl
                    clear hrc
                    go_wp2_with fail
                    go_quiet (fail)
                    go_wp2_with fail
                    go_meet
                    exact ⟨by rw [ht, HE.out, hyk, hyx]; rfl, _, rfl⟩
                  · have r1 : (x.name == [115, 99, 114, 105, 112, 116]) = false := by rw [hrc]; rfl
                    have r2 : (x.name == [115, 116, 121, 108, 101]) = true := by rw [hrc]; rfl
                    have r3 : (x.name == [116, 101, 120, 116, 97, 114, 101, 97]) = false := by rw [hrc]; rfl
                    have r4 : (x.name == [116, 105, 116, 108, 101]) = false := by rw [hrc]; rfl
                    clear hrc
                    go_wp2_with fail
                    go_quiet (fail)
                    go_wp2_with fail
                    go_meet
                    exact ⟨by rw [ht, HE.out, hyk, hyx]; rfl, _, rfl⟩
                  · have r1 : (x.name == [115, 99, 114, 105, 112, 116]) = false := by rw [hrc]; rfl
                    have r2 : (x.name == [115, 116, 121, 108, 101]) = false := by rw [hrc]; rfl
                    have r3 : (x.name == [116, 101, 120, 116, 97, 114, 101, 97]) = true := by rw [hrc]; rfl
                    have r4 : (x.name == [116, 105, 116, 108, 101]) = false := by rw [hrc]; rfl
                    clear hrc
                    go_wp2_with fail
                    go_quiet (fail)
                    go_wp2_with fail
                    go_meet
                    exact ⟨by rw [ht, HE.out, hyk, hyx]; rfl, _, rfl⟩
                  · have r1 : (x.name == [115, 99, 114, 105, 112, 116]) = false := by rw [hrc]; rfl
                    have r2 : (x.name == [115, 116, 121, 108, 101]) = false := by rw [hrc]; rfl
                    have r3 : (x.name == [116, 101, 120, 116, 97, 114, 101, 97]) = false := by rw [hrc]; rfl
                    have r4 : (x.name == [116, 105, 116, 108, 101]) = true := by rw [hrc]; rfl
                    clear hrc
                    go_wp2_with fail
                    go_quiet (fail)
                    go_wp2_with fail
                    go_meet
                    exact ⟨by rw [ht, HE.out, hyk, hyx]; rfl, _, rfl⟩
        case rest =>
          obtain ⟨rfl, n, hw⟩ := hcut
          have s0 : wc.cell? ⟨q, 0, none⟩ = some (.int .i64 x.kind) := by rw [hw]; exact t0
          have hb7 : Below w.heap.size w wc := by rw [hw]; exact below_drewN hb6 n
          clear hw t0 t1 t2 t3 t4
          cases hb : (x.text.isEmpty && U.isEndB x.name (l.drop (k + 1))) with
          | true =>
            have hyes := HGO.out ((U.faultAt_tag K.out HNN.out HA0.out).trans (U.form4_yes (by rw [U.formOk_one KK.out, HRN.out]; exact hb)))
            go_wp2_with fail
            refine ⟨?_, by simp [fkMu, intOf] <;> omega⟩
            unfold FkI
            refine ⟨_, _, _, _, _, _, _, _, _, _, _, _, _, _, _, _, _, _, _, _, _, _, _, _, _, _, _, _, _, _, _, _, _, _, _, _, _, _, _, _, _, _, _, _, _, _, _, _, _, _, _, _, _, _, _, _, _, _, _, _, _, _, _,
              _, _, _, _, _, _, _, _, _, _, _, _, _, _, _, _, _, _, _, _, _, _, _, _, _, _, _, _, _, _, _, _, _, _, _, _, _, _, _, _, _, _, _, _, _, _, _, _, _, _, _, _, _, _, _, _, _, _, _, _, _, _, _,
              _, _, _, _, _, _, _, _, _, _, _, _, _, _, _, _, _, _, _, _, _, _, _, _, _, _, _, ⟨k + 1, by omega, by go_num, hb7, hyes⟩, rfl⟩
          | false =>
            go_wp2_with fail
            go_ret
            exact ⟨by rw [LH.out hb]; rfl, hb7⟩
    · have HAT := Lib.hid hat
      clear hat
      have hne : (((U.attrsFault x.attrs : Nat) : Int) != 0) = true := bne_iff_ne.2 (by omega)
      have HA0 := Lib.hid ha
      clear ha
      go_wp2_with (first
        | (go_at_call 13; refine (HNM.out _).mono ?_; rintro e w' ⟨rfl, rfl⟩; rw [list_of_mk, HNN.out])
        | (go_at_call 14; refine HAT.out.mono ?_; rintro e w5 ⟨rfl, hb5⟩))
      go_ret
      refine ⟨?_, (hbw.alloc hbs _).trans (hb5.mono (hbw.alloc hbs _).size)⟩
      rw [HST.out _ (U.faultAt_atts K.out HNN.out HA0.out) HA0.out]
      rfl

end Go.Proofs.Ytfockedeikdbjaa

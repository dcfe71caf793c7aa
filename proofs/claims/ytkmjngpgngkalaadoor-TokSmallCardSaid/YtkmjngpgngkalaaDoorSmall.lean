/- TokSmall: the walk. -/
import Derived.Test.YtkmjngpgngkalaaDoorKeep
import Derived.Test.YtkmjngpgngkalaaDoorCountMath
import Derived.Deep.DeepCutAuto
import Derived.Outline
namespace Go.Proofs.YtkmjngpgngkalaaDoor
open Go.RowKit

set_option maxHeartbeats 8000000 in
set_option maxRecDepth 1000000 in
theorem small_walk (s : ByteArray) (w : World) (hG : Glob w) :
    Calls Tryd.prog 7 #[.string s] w fun e w' => e = .returned (.bool true) ∧ Below w.heap.size w w' := by
  have hsz : (s.extract 0 (min (s.size : Int) 600).toNat).size ≤ 600 := by
    rw [size_take _ _ (by omega)]
    omega
  have hmin0 : (0 : Int) ≤ min (s.size : Int) 600 := by omega
  have hmin1 : min (s.size : Int) 600 ≤ (s.size : Int) := by omega
  have hpb := fun w2 hG2 => parse_ok ⟨#[60, 98, 62]⟩ w2 (by decide) hG2
  rw [show (ByteArray.mk #[60, 98, 62]).data.toList = [60, 98, 62] from rfl, toks_b] at hpb
  have HPB := Lib.hid hpb
  have hp1 := parse_ok (s.extract 0 (min (s.size : Int) 600).toNat) w hsz hG
  obtain ⟨o1, o2, o3⟩ := U.toks_ok (s.extract 0 (min (s.size : Int) 600).toNat).data.toList
  have o4 := U.toks_count (s.extract 0 (min (s.size : Int) 600).toNat).data.toList
  have o5 := U.toks_names (s.extract 0 (min (s.size : Int) 600).toNat).data.toList
  rw [len_list] at o3 o4 o5
  generalize U.toks (s.extract 0 (min (s.size : Int) 600).toNat).data.toList = ts at *
  have hn : ts.length ≤ 300 := by omega
  have o6 : ∀ t ∈ ts, t.name.length ≤ 600 := fun t ht => Nat.le_trans (o5 t ht) hsz
  have HP1 := Lib.hid hp1
  clear hpb hp1 o3 o4 o5 hsz
  go_enter Tryd.func7, Tryd.ntmps7
  go_wp2_with (first
    | (go_at_call_of 13 (Value.string ⟨#[60, 98, 62]⟩); refine (HPB.out _ (hG.below hb)).mono ?_; rintro e w3 ⟨v2, rfl, hR2, hb2⟩; obtain ⟨ao2, cap2, rfl, hc2⟩ := hR2; clear hc2)
    | (refine HP1.out.mono ?_; rintro e w2 ⟨v, rfl, hR, hb⟩; obtain ⟨ao, cap, rfl, hcl⟩ := id hR; have HCL := Lib.hid hcl; clear hcl))
  have hbz := hb2.size
  go_loopw [7] (fun i wr => ∃ k : Nat, k ≤ ts.length ∧ i = .int .i64 k ∧ Below w2.heap.size w2 wr) (fun i _ => ts.length - (intOf i).toNat)
  case atStart => exact ⟨0, Nat.zero_le _, rfl, hb2⟩
  case round =>
    obtain ⟨k, hk, rfl, hbw⟩ := hrel
    by_cases hlt : k < ts.length
    · have hx := List.getElem?_eq_getElem hlt
      generalize ts[k]'hlt = x at hx
      obtain ⟨g, o, av, rfl, hg, d0, d1, d2, d3, d4, hA, hal⟩ := HCL.out k x hx
      have c0 := (hbw.cell (p := ⟨g, o + k * 5, none⟩) hg).trans d0
      have c1 := (hbw.cell (p := ⟨g, o + k * 5 + 1, none⟩) hg).trans d1
      have c2 := (hbw.cell (p := ⟨g, o + k * 5 + 2, none⟩) hg).trans d2
      have c3 := (hbw.cell (p := ⟨g, o + k * 5 + 3, none⟩) hg).trans d3
      have c4 := (hbw.cell (p := ⟨g, o + k * 5 + 4, none⟩) hg).trans d4
      obtain ⟨aoA, capA, rfl, hca⟩ := hA
      have HCA := Lib.hid hca
      have hok := o1 x (List.mem_of_getElem? hx)
      have hnl6 := o6 x (List.mem_of_getElem? hx)
      have Hx := Lib.hid hx
      have HOK := Lib.hid hok
      have hk0 : (0 : Int) ≤ (k : Int) := Int.natCast_nonneg _
      have hk1 : (k : Int) < (ts.length : Int) := by omega
      have hprev : 0 < k → ∃ kk : Nat, wr.cell? ⟨g, o + (k - 1) * 5, none⟩ = some (.int .i64 kk) ∧ ¬ (kk = 3 ∧ x.kind = 3) := by
        intro h0
        have hp := List.getElem?_eq_getElem (show k - 1 < ts.length by omega)
        obtain ⟨g2, o2', av2, e2, hg2, p0, _⟩ := HCL.out (k - 1) _ hp
        injection e2 with e2
        injection e2 with e3 e4
        subst e3
        subst e4
        refine ⟨_, (hbw.cell (p := ⟨g, o + (k - 1) * 5, none⟩) hg).trans p0, ?_⟩
        exact U.apart_at ts (k - 1) _ x o2 hp (by rw [show k - 1 + 1 = k by omega]; exact hx)
      have HPR := Lib.hid hprev
      clear hca d0 d1 d2 d3 d4 hx hok hprev
      have hbwN := hbw.alloc hbw.size (.cells #[.int .i64 x.kind, .string ⟨x.name.toArray⟩, .slice aoA x.attrs.length capA, .bool x.self, .string ⟨x.text.toArray⟩] 27 (0, 0))
      have hqN := heap_alloc_new wr (.cells #[.int .i64 x.kind, .string ⟨x.name.toArray⟩, .slice aoA x.attrs.length capA, .bool x.self, .string ⟨x.text.toArray⟩] 27 (0, 0))
      have hHk := Lib.hid (show x.kind = x.kind from rfl)
      go_upto_region 9 with fail
      go_cut [86] (fun s86 wx => s86 = .bool false ∧ wx = wr.alloc (.cells #[.int .i64 x.kind, .string ⟨x.name.toArray⟩, .slice aoA x.attrs.length capA, .bool x.self, .string ⟨x.text.toArray⟩] 27 (0, 0)))
      case first =>
        by_cases h3 : x.kind = 3
        · have htx : x.text.isEmpty = false := by
            have := HOK.out.text h3
            simpa using this
          have b3 : ((x.kind : Int) == 3) = true := by rw [h3]; rfl
          have b1 : ((x.kind : Int) == 1) = false := by rw [h3]; rfl
          have b2 : ((x.kind : Int) == 2) = false := by rw [h3]; rfl
          have H3 := Lib.hid h3
          clear h3
          rcases Nat.eq_zero_or_pos k with h0 | h0
          · subst h0
            go_wp2_with fail
            go_meet
            exact ⟨rfl, rfl⟩
          · obtain ⟨kk, hkk, hno⟩ := HPR.out h0
            have hb3 : ((kk : Int) == 3) = false := by rw [beq_eq_false_iff_ne]; intro e; exact hno ⟨by omega, H3.out⟩
            have hi0 : (0 : Int) < (k : Int) := by omega
            have hi1 : (0 : Int) ≤ (k : Int) - 1 := by omega
            have hi2 : (k : Int) - 1 < (ts.length : Int) := by omega
            have hi3 : ((k : Int) - 1).toNat = k - 1 := by omega
            have hkk2 := (cell_alloc_old wr (.cells #[.int .i64 x.kind, .string ⟨x.name.toArray⟩, .slice aoA x.attrs.length capA, .bool x.self, .string ⟨x.text.toArray⟩] 27 (0, 0)) ⟨g, o + (k - 1) * 5, none⟩ (Nat.lt_of_lt_of_le hg hbw.size)).trans hkk
            clear hno hkk
            go_wp2_with fail
            go_meet
            exact ⟨rfl, rfl⟩
        · have b3 : ((x.kind : Int) == 3) = false := by rw [beq_eq_false_iff_ne]; omega
          by_cases h1 : x.kind = 1
          · have hnm : x.name.isEmpty = false := by
              have := HOK.out.name (.inl h1)
              simpa using this
            have b1 : ((x.kind : Int) == 1) = true := by rw [h1]; rfl
            clear h1 h3
            go_wp2_with fail
            go_meet
            exact ⟨rfl, rfl⟩
          · have b1 : ((x.kind : Int) == 1) = false := by rw [beq_eq_false_iff_ne]; omega
            by_cases h2 : x.kind = 2
            · have hnm : x.name.isEmpty = false := by
                have := HOK.out.name (.inr h2)
                simpa using this
              have b2 : ((x.kind : Int) == 2) = true := by rw [h2]; rfl
              clear h1 h2 h3
              go_wp2_with fail
              go_meet
              exact ⟨rfl, rfl⟩
            · have b2 : ((x.kind : Int) == 2) = false := by rw [beq_eq_false_iff_ne]; omega
              clear h1 h2 h3
              go_wp2_with fail
              go_meet
              exact ⟨rfl, rfl⟩
      case rest =>
        obtain ⟨rfl, rfl⟩ := hcut
        have t1 : (wr.alloc (.cells #[.int .i64 x.kind, .string ⟨x.name.toArray⟩, .slice aoA x.attrs.length capA, .bool x.self, .string ⟨x.text.toArray⟩] 27 (0, 0))).cell? ⟨wr.heap.size, 1, none⟩ = some (.string ⟨x.name.toArray⟩) := by rw [Lib.cell_of_heap hqN]; rfl
        have t2 : (wr.alloc (.cells #[.int .i64 x.kind, .string ⟨x.name.toArray⟩, .slice aoA x.attrs.length capA, .bool x.self, .string ⟨x.text.toArray⟩] 27 (0, 0))).cell? ⟨wr.heap.size, 2, none⟩ = some (.slice aoA x.attrs.length capA) := by rw [Lib.cell_of_heap hqN]; rfl
        have hlow := HOK.out.low
        have honce := HOK.out.once
        have HLOW := Lib.hid hlow
        have HONCE := Lib.hid honce
        clear hlow honce c0 c1 c2 c3 c4 hqN hbw HPR
        generalize wr.alloc (.cells #[.int .i64 x.kind, .string ⟨x.name.toArray⟩, .slice aoA x.attrs.length capA, .bool x.self, .string ⟨x.text.toArray⟩] 27 (0, 0)) = w4 at *
        generalize wr.heap.size = q at *
        have hnl : (ByteArray.mk x.name.toArray).size = x.name.length := size_of_mk _
        go_wp2_with fail
        go_loopw [9] (fun i wx => ∃ j : Nat, j ≤ x.name.length ∧ i = .int .i64 j ∧ wx = w4) (fun i _ => x.name.length - (intOf i).toNat)
        case atStart => exact ⟨0, Nat.zero_le _, rfl, rfl⟩
        case round =>
          obtain ⟨j, hj, rfl, hwe⟩ := hrel
          have hwe := hwe.symm
          subst hwe
          by_cases hjl : j < x.name.length
          · have hjs : j < (ByteArray.mk x.name.toArray).size := by omega
            have hgb := byte_get (ByteArray.mk x.name.toArray) hjs
            have hno := HLOW.out _ (List.mem_of_getElem? (by rw [list_of_mk] at hgb; exact hgb))
            have hi0 : (0 : Int) ≤ (j : Int) := Int.natCast_nonneg _
            have hi1 : (j : Int) < (x.name.length : Int) := by omega
            clear hgb
            rcases Nat.lt_or_ge ((ByteArray.mk x.name.toArray)[j]'hjs).toNat 65 with hb1 | hb1
            · clear hno
              go_wp2_with fail
              go_roundw
              case rel => exact ⟨j + 1, by omega, by go_num, by first | rfl | trivial⟩
              case measure => simp [intOf]; omega
            · have hb2 : 91 ≤ ((ByteArray.mk x.name.toArray)[j]'hjs).toNat := by omega
              clear hno
              go_wp2_with fail
              go_roundw
              case rel => exact ⟨j + 1, by omega, by go_num, by first | rfl | trivial⟩
              case measure => simp [intOf]; omega
          · go_wp2_with fail
            go_loopw [10] (fun i wx => ∃ m : Nat, m ≤ x.attrs.length ∧ i = .int .i64 m ∧ ∃ n, wx = w4.drewN n) (fun i _ => x.attrs.length - (intOf i).toNat)
            case atStart => exact ⟨0, Nat.zero_le _, rfl, 0, rfl⟩
            case round =>
              obtain ⟨m, hm, rfl, n1, hw1⟩ := hrel
              have t3 : wr.cell? ⟨q, 2, none⟩ = some (.slice aoA x.attrs.length capA) := by rw [hw1]; exact t2
              have HW1 := Lib.hid hw1
              clear hw1
              by_cases hml : m < x.attrs.length
              · go_wp2_with fail
                go_loopw [11] (fun i wx => ∃ j : Nat, j ≤ m ∧ i = .int .i64 j ∧ ∃ n, wx = w4.drewN n) (fun i _ => m - (intOf i).toNat)
                case atStart => exact ⟨0, Nat.zero_le _, rfl, n1, HW1.out⟩
                case round =>
                  obtain ⟨i, hi, rfl, n2, hw2⟩ := hrel
                  have hcell : ∀ p, wr.cell? p = w4.cell? p := fun p => by rw [hw2]; rfl
                  have t4 := (hcell _).trans t2
                  have HW2 := Lib.hid hw2
                  clear hw2 t3
                  by_cases hil : i < m
                  · have hyi := List.getElem?_eq_getElem (Nat.lt_trans hil hml)
                    have hzm := List.getElem?_eq_getElem hml
                    have hne := List.pairwise_iff_getElem.1 HONCE.out i m (Nat.lt_trans hil hml) hml hil
                    generalize x.attrs[i]'(Nat.lt_trans hil hml) = y at *
                    generalize x.attrs[m]'hml = z at *
                    obtain ⟨ga, oa, rfl, hga, y1, _⟩ := HCA.out i y hyi
                    obtain ⟨gb, ob, eb, hgb, z1, _⟩ := HCA.out m z hzm
                    injection eb with eb
                    injection eb with eb1 eb2
                    subst eb1
                    subst eb2
                    have y2 := (hcell _).trans ((hbwN.cell (p := ⟨ga, oa + i * 2, none⟩) hga).trans y1)
                    have z2 := (hcell _).trans ((hbwN.cell (p := ⟨ga, oa + m * 2, none⟩) hga).trans z1)
                    have hbe : (y.1 == z.1) = false := beq_eq_false_iff_ne.2 hne
                    have hi0 : (0 : Int) ≤ (i : Int) := Int.natCast_nonneg _
                    have hi1 : (i : Int) < (x.attrs.length : Int) := by omega
                    have hi2 : (0 : Int) ≤ (m : Int) := Int.natCast_nonneg _
                    have hi3 : (m : Int) < (x.attrs.length : Int) := by omega
                    clear hyi hzm hne y1 z1 hcell
                    go_wp2_with fail
                    go_quiet (fail)
                    go_wp2_with fail
                    go_roundw
                    case rel => exact ⟨i + 1, by omega, by go_num, n2 + nq, by rw [HW2.out, World.drewN_drewN]⟩
                    case measure => simp [intOf]; omega
                  · go_wp2_with fail
                    go_roundw
                    case rel => exact ⟨m + 1, by omega, by go_num, n2, HW2.out⟩
                    case measure => simp [intOf]; omega
              · go_wp2_with fail
                go_roundw
                case rel => exact ⟨k + 1, by omega, by go_num, by rw [HW1.out]; exact below_drewN hbwN n1⟩
                case measure => simp [intOf]; omega
    · go_wp2_with fail
      go_ret
      exact ⟨rfl, (hb.trans (hbw.mono hb.size))⟩

end Go.Proofs.YtkmjngpgngkalaaDoor

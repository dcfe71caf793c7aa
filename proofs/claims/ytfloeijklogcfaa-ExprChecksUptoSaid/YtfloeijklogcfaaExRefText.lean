/- The reference: exprText. -/
import Derived.Test.YtfloeijklogcfaaExForm
import Derived.Test.YtfloeijklogcfaaStrRow
import Derived.Test.YtfloeijklogcfaaExSign4
import Derived.Test.YtfloeijklogcfaaExSign5
import Derived.Test.YtfloeijklogcfaaExSign6
namespace Go.Proofs.Ytfloeijklogcfaa
open Go.RowKit

theorem cell_alloc_oldR (w : World) (o : Obj) (p : Addr) (h : p.block < w.heap.size) : (w.alloc o).cell? p = w.cell? p := ((Below.refl w.heap.size w).alloc (Nat.le_refl _) o).cell h
theorem size_list (T : ByteArray) : T.data.toList.length = T.size := by rw [Array.length_toList]; rfl

set_option maxHeartbeats 8000000 in
set_option maxRecDepth 1000000 in
theorem ref_exT (c : Nat) : ∀ (x : U.Ex), U.cntE x ≤ c → U.cntE x ≤ 1048576 → U.exF x = 0 → ∀ (b : Nat), b ≤ 2 → ∀ (pa : Option Addr) (pcap : Nat) (w : World), RdExs w (· < w.heap.size) (.slice pa x.parts.length pcap) x.parts →
    Calls Try.prog 21 #[exVal x (.slice pa x.parts.length pcap), .int .i64 b] w fun e w' => (∃ T : ByteArray, e = .returned (.string T) ∧ T.data.toList = U.exT b x) ∧ Below w.heap.size w w' := by
  induction c using Nat.strongRecOn with
  | _ c ih =>
  intro x hc hM hv b hb2 pa pcap w hP
  obtain ⟨ho, hpv⟩ := U.exF_zero hv
  obtain ⟨hk1, hk6, hfm, ht0, ht8⟩ := U.own_zero ho
  have hone := fun h1 h2 h3 => U.form_one hfm h1 h2 h3
  have hT := U.exT_eq b x
  have hne := U.cntE_eq x
  obtain ⟨kd, tp, pl⟩ := x
  have HONE : Hid (¬ kd = 1 → ¬ kd = 2 → ¬ kd = 3 → ∃ p, pl = [p]) := hone
  have hTT : U.exT b (.mk kd tp pl) = if kd = 1 then [UInt8.ofNat (97 + tp.toNat)] else if kd = 2 then U.encl (decide (2 ≤ b)) (U.exS pl) else if kd = 3 then U.encl (decide (1 ≤ b)) (U.exA pl) else U.exP pl ++ [U.sign kd] := hT
  have hnE : U.cntE (.mk kd tp pl) = U.cntEs pl + 1 := hne
  have hP2 : RdExs w (· < w.heap.size) (.slice pa pl.length pcap) pl := hP
  have hpv2 : ∀ p ∈ pl, U.exF p = 0 := hpv
  have hk1' : 1 ≤ kd := hk1
  have hk6' : kd ≤ 6 := hk6
  have ht0' : 0 ≤ tp := ht0
  have ht8' : tp < 8 := ht8
  show Calls Try.prog 21 #[.agg #[.int .i64 kd, .int .i64 tp, .slice pa pl.length pcap], .int .i64 b] w _
  obtain ⟨R, hR⟩ : ∃ R, U.exT b (.mk kd tp pl) = R := ⟨_, rfl⟩
  rw [hR]
  rw [hR] at hTT
  have hz := hP2.short
  have HBN := Lib.hid ((Below.refl w.heap.size w).alloc (Nat.le_refl _) (.cells #[.int .i64 kd, .int .i64 tp, .slice pa pl.length pcap] 24 (0, 0)))
  have HQ := Lib.hid (heap_alloc_new w (.cells #[.int .i64 kd, .int .i64 tp, .slice pa pl.length pcap] 24 (0, 0)))
  have HP := Lib.hid hP2
  have IH := Lib.hid ih
  have HPV := Lib.hid hpv2
  clear ih hP hP2 hpv hpv2 hone hT hne hk1 hk6 ht0 ht8 hR ho hfm hv
  by_cases k1 : kd = 1
  · subst k1
    rw [if_pos rfl] at hTT
    have hb : ∃ u : UInt8, UInt8.ofNat (97 + tp.toNat) = u ∧ 97 + tp = (u.toNat : Int) := by
      have h1 : tp.toNat < 8 := by omega
      have h2 : (UInt8.ofNat (97 + tp.toNat)).toNat = 97 + tp.toNat := by rw [UInt8.toNat_ofNat']; omega
      exact ⟨_, rfl, by rw [h2]; omega⟩
    obtain ⟨u, hu, hb⟩ := hb
    rw [hu] at hTT
    subst hTT
    have hcv : (convert 41 9 (.slice (some ⟨w.heap.size + 1, 0, none⟩) 1 1)).run Try.prog ((w.alloc (.cells #[.int .i64 1, .int .i64 tp, .slice pa pl.length pcap] 24 (0, 0))).alloc (.cells #[.int .u8 (97 + tp)] 5 (0, 0))) = .ok (.string ⟨[u].toArray⟩) ((w.alloc (.cells #[.int .i64 1, .int .i64 tp, .slice pa pl.length pcap] 24 (0, 0))).alloc (.cells #[.int .u8 (97 + tp)] 5 (0, 0))) := by
      refine run_convert_bytes_back _ _ _ _ _ 1 [u] Try.underlying41 Try.underlying5 Try.underlying9 (fun j hj => ?_)
      have h := heap_alloc_new (w.alloc (.cells #[.int .i64 1, .int .i64 tp, .slice pa pl.length pcap] 24 (0, 0))) (.cells #[.int .u8 (97 + tp)] 5 (0, 0))
      have e : (w.alloc (.cells #[.int .i64 1, .int .i64 tp, .slice pa pl.length pcap] 24 (0, 0))).heap.size = w.heap.size + 1 := by simp
      rw [e] at h
      have hj0 : j = 0 := by simp at hj; omega
      subst hj0
      have e2 : (⟨w.heap.size + 1, 0, none⟩ : Addr).add 0 = ⟨w.heap.size + 1, 0, none⟩ := by simp [Addr.add]
      rw [e2, Lib.cell_of_heap h, hb]
      rfl
    have HBO := Lib.hid (fun O => HBN.out.alloc (by simp) O)
    clear hb hu HP IH HPV HONE HQ
    go_enter Try.func21, Try.ntmps21
    go_wp2_with fail
    go_ret
    exact ⟨⟨_, rfl, rfl⟩, HBO.out _⟩
  by_cases k2 : kd = 2
  · subst k2
    rw [if_neg k1, if_pos rfl] at hTT
    have HTT := Lib.hid hTT
    clear hTT HONE ht0' ht8' hk1' hk6' k1
    go_enter Try.func21, Try.ntmps21
    go_wp2_with fail
    go_loopw [5, 37] (fun tv i wr => ∃ (k : Nat) (T : ByteArray), k ≤ pl.length ∧ i = .int .i64 k ∧ tv = .string T ∧ Hid (T.data.toList = U.exS (pl.take k)) ∧ Below w.heap.size w wr) (fun _ i _ => pl.length - (intOf i).toNat)
    case atStart => exact ⟨0, ⟨#[]⟩, Nat.zero_le _, rfl, rfl, by show _ = _; rw [List.take_zero, U.exS_nil], HBN.out⟩
    case round =>
      obtain ⟨k, T, hk, rfl, rfl, HT, hbw⟩ := hrel
      by_cases hlt : k < pl.length
      · have hx := List.getElem?_eq_getElem hlt
        have hm := List.getElem_mem hlt
        generalize pl[k]'hlt = y at hx hm
        obtain ⟨g, o, cap2, qa, qcap, e0, hg, d0, d1, d2, hQ⟩ := HP.out.at hx
        injection e0 with e1 e2 e3
        subst e1
        have c0 := (hbw.cell (p := ⟨g, o + k * 3, none⟩) hg).trans d0
        have c1 := (hbw.cell (p := ⟨g, o + k * 3 + 1, none⟩) hg).trans d1
        have c2 := (hbw.cell (p := ⟨g, o + k * 3 + 2, none⟩) hg).trans d2
        have hk0 : (0 : Int) ≤ (k : Int) := Int.natCast_nonneg _
        have hk1 : (k : Int) < (pl.length : Int) := by omega
        have hct := U.cntEs_take hx
        have hcl := U.cntEs_take_le pl (k + 1)
        have HBO := Lib.hid (fun O => hbw.alloc hbw.size O)
        have hRC := fun W (hB : Below w.heap.size w W) => IH.out (U.cntE y) (by omega) y (Nat.le_refl _) (by omega) (HPV.out y hm) 1 (by decide) qa qcap W (hQ.below hB hB.size)
        unfold exVal at hRC
        have HRC := Lib.hid hRC
        have hyl := U.exT_len 1 y
        have hsl := U.exS_len (pl.take k)
        have hTs : T.size = (U.exS (pl.take k)).length := by rw [← size_list, HT.out]
        have HST := Lib.hid (U.exS_take hx)
        have hsum : T.size + 3 * U.cntE y ≤ 4194304 := by omega
        clear hRC hx hm d0 d1 d2 hQ e2 e3 hct hcl
        go_wp2_with fail
        refine (HRC.out _ (HBO.out _)).mono ?_
        rintro e w3 ⟨⟨T2, rfl, hT2⟩, hb3⟩
        have t3 := (HBO.out _).trans (hb3.mono (HBO.out _).size)
        have hT2s : T2.size = (U.exT 1 y).length := by rw [← size_list, hT2]
        have q1 : ¬ 9223372036854775807 < T.size + T2.size := by omega
        have HTN : Hid ((T ++ T2).data.toList = U.exS (pl.take (k + 1))) := by
          show _ = _
          rw [HST.out, ← HT.out, ← hT2]
          simp
        clear hT2 hb3 HRC HBO c0 c1 c2 HT HST
        go_wp2_with fail
        go_roundw
        case rel => exact ⟨k + 1, _, by omega, by go_num, rfl, HTN.out, t3⟩
        case measure => simp [intOf]; omega
      · have hz : ¬ (k : Int) < (pl.length : Int) := by omega
        have h3 := HT.out
        rw [List.take_of_length_le (by omega)] at h3
        have hsl := U.exS_len pl
        have hTs : T.size = (U.exS pl).length := by rw [← size_list, h3]
        have q1 : ¬ 9223372036854775807 < T.size + 1 := by omega
        have q2 : ¬ 9223372036854775807 < 1 + T.size := by omega
        have q3 : ¬ 9223372036854775807 < 1 + T.size + 1 := by omega
        have q4 : ¬ 9223372036854775807 < T.size + 1 + 1 := by omega
        have H3 := Lib.hid h3
        clear h3 HT
        by_cases hb : b < 2
        · have hbz : (b : Int) < 2 := by omega
          have hR9 : U.exS pl = R := by
            have h := HTT.out
            rw [show decide (2 ≤ b) = false from decide_eq_false (by omega)] at h
            exact h.symm
          have HR9 := Lib.hid hR9
          clear hR9
          go_wp2_with fail
          go_ret
          exact ⟨⟨_, rfl, H3.out.trans HR9.out⟩, hbw⟩
        · have hbz : ¬ (b : Int) < 2 := by omega
          have hR9 : 40 :: (U.exS pl ++ [41]) = R := by
            have h := HTT.out
            rw [show decide (2 ≤ b) = true from decide_eq_true (by omega)] at h
            exact h.symm
          have HR9 := Lib.hid hR9
          clear hR9
          go_wp2_with fail
          go_ret
          refine ⟨⟨_, rfl, ?_⟩, hbw⟩
          rw [← HR9.out, ← H3.out]
          simp
  by_cases k3 : kd = 3
  · subst k3
    rw [if_neg k1, if_neg k2, if_pos rfl] at hTT
    have HTT := Lib.hid hTT
    clear hTT HONE ht0' ht8' hk1' hk6' k1 k2
    go_enter Try.func21, Try.ntmps21
    go_wp2_with fail
    go_loopw [5, 54] (fun tv i wr => ∃ (k : Nat) (T : ByteArray), k ≤ pl.length ∧ i = .int .i64 k ∧ tv = .string T ∧ Hid (T.data.toList = U.exA (pl.take k)) ∧ Below w.heap.size w wr) (fun _ i _ => pl.length - (intOf i).toNat)
    case atStart => exact ⟨0, ⟨#[]⟩, Nat.zero_le _, rfl, rfl, by show _ = _; rw [List.take_zero, U.exA_nil], HBN.out⟩
    case round =>
      obtain ⟨k, T, hk, rfl, rfl, HT, hbw⟩ := hrel
      by_cases hlt : k < pl.length
      · have hx := List.getElem?_eq_getElem hlt
        have hm := List.getElem_mem hlt
        generalize pl[k]'hlt = y at hx hm
        obtain ⟨g, o, cap2, qa, qcap, e0, hg, d0, d1, d2, hQ⟩ := HP.out.at hx
        injection e0 with e1 e2 e3
        subst e1
        have c0 := (hbw.cell (p := ⟨g, o + k * 3, none⟩) hg).trans d0
        have c1 := (hbw.cell (p := ⟨g, o + k * 3 + 1, none⟩) hg).trans d1
        have c2 := (hbw.cell (p := ⟨g, o + k * 3 + 2, none⟩) hg).trans d2
        have hk0 : (0 : Int) ≤ (k : Int) := Int.natCast_nonneg _
        have hk1 : (k : Int) < (pl.length : Int) := by omega
        have hct := U.cntEs_take hx
        have hcl := U.cntEs_take_le pl (k + 1)
        have HBO := Lib.hid (fun O => hbw.alloc hbw.size O)
        have hRC := fun W (hB : Below w.heap.size w W) => IH.out (U.cntE y) (by omega) y (Nat.le_refl _) (by omega) (HPV.out y hm) 0 (by decide) qa qcap W (hQ.below hB hB.size)
        unfold exVal at hRC
        have HRC := Lib.hid hRC
        have hyl := U.exT_len 0 y
        have hsl := U.exA_len (pl.take k)
        have hTs : T.size = (U.exA (pl.take k)).length := by rw [← size_list, HT.out]
        have hst := U.exA_take hx
        have hsum : T.size + 3 * U.cntE y ≤ 4194304 := by omega
        clear hRC hx hm d0 d1 d2 hQ e2 e3 hct hcl
        by_cases hk00 : k = 0
        · subst hk00
          rw [if_pos rfl] at hst
          have HST := Lib.hid hst
          have hT0 : T.data.toList = [] := by rw [HT.out, List.take_zero, U.exA_nil]
          simp only [Nat.zero_mul, Nat.add_zero] at c0 c1 c2
          clear hst
          go_wp2_with fail
          refine (HRC.out _ (HBO.out _)).mono ?_
          rintro e w3 ⟨⟨T2, rfl, hT2⟩, hb3⟩
          have t3 := (HBO.out _).trans (hb3.mono (HBO.out _).size)
          have hT2s : T2.size = (U.exT 0 y).length := by rw [← size_list, hT2]
          have q1 : ¬ 9223372036854775807 < T.size + T2.size := by omega
          have HTN : Hid ((T ++ T2).data.toList = U.exA (pl.take 1)) := by
            show _ = _
            rw [HST.out, ← hT2]
            simp [hT0]
          clear hT2 hb3 HRC HBO c0 c1 c2 HT HST hT0
          go_wp2_with fail
          go_roundw
          case rel => exact ⟨1, _, by omega, by go_num, rfl, HTN.out, t3⟩
          case measure => simp [intOf]; omega
        · rw [if_neg hk00] at hst
          have HST := Lib.hid hst
          have hkp : (0 : Int) < (k : Int) := by omega
          have q0 : ¬ 9223372036854775807 < T.size + 1 := by omega
          clear hst hk00
          go_wp2_with fail
          refine (HRC.out _ (HBO.out _)).mono ?_
          rintro e w3 ⟨⟨T2, rfl, hT2⟩, hb3⟩
          have t3 := (HBO.out _).trans (hb3.mono (HBO.out _).size)
          have hT2s : T2.size = (U.exT 0 y).length := by rw [← size_list, hT2]
          have q1 : ¬ 9223372036854775807 < T.size + 1 + T2.size := by omega
          have HTN : Hid ((T ++ ByteArray.mk #[124] ++ T2).data.toList = U.exA (pl.take (k + 1))) := by
            show _ = _
            rw [HST.out, ← HT.out, ← hT2]
            simp
          clear hT2 hb3 HRC HBO c0 c1 c2 HT HST
          go_wp2_with fail
          go_roundw
          case rel => exact ⟨k + 1, _, by omega, by go_num, rfl, HTN.out, t3⟩
          case measure => simp [intOf]; omega
      · have hz : ¬ (k : Int) < (pl.length : Int) := by omega
        have h3 := HT.out
        rw [List.take_of_length_le (by omega)] at h3
        have hsl := U.exA_len pl
        have hTs : T.size = (U.exA pl).length := by rw [← size_list, h3]
        have q1 : ¬ 9223372036854775807 < T.size + 1 := by omega
        have q2 : ¬ 9223372036854775807 < 1 + T.size := by omega
        have q3 : ¬ 9223372036854775807 < 1 + T.size + 1 := by omega
        have q4 : ¬ 9223372036854775807 < T.size + 1 + 1 := by omega
        have H3 := Lib.hid h3
        clear h3 HT
        by_cases hb : b = 0
        · subst hb
          have hR9 : U.exA pl = R := HTT.out.symm
          have HR9 := Lib.hid hR9
          clear hR9
          go_wp2_with fail
          go_ret
          exact ⟨⟨_, rfl, H3.out.trans HR9.out⟩, hbw⟩
        · have hbz : ¬ (b : Int) = 0 := by omega
          have hR9 : 40 :: (U.exA pl ++ [41]) = R := by
            have h := HTT.out
            rw [show decide (1 ≤ b) = true from decide_eq_true (by omega)] at h
            exact h.symm
          have HR9 := Lib.hid hR9
          clear hR9
          go_wp2_with fail
          go_ret
          refine ⟨⟨_, rfl, ?_⟩, hbw⟩
          rw [← HR9.out, ← H3.out]
          simp
  obtain ⟨y, rfl⟩ := HONE.out k1 k2 k3
  have hx : [y][0]? = some y := rfl
  obtain ⟨g, o, cap2, qa, qcap, e0, hg, d0, d1, d2, hQ⟩ := HP.out.at hx
  injection e0 with e1 e2 e3
  subst e1
  simp only [Nat.zero_mul, Nat.add_zero] at d0 d1 d2
  have hTS : U.exT 2 y ++ [U.sign kd] = R := by
    rw [if_neg k1, if_neg k2, if_neg k3, U.exP_cons] at hTT
    exact hTT.symm
  have hcE : U.cntEs [y] = U.cntE y := by rw [U.cntEs_cons, U.cntEs_nil]; rfl
  have hyl := U.exT_len 2 y
  have hRC := fun W (hB : Below w.heap.size w W) => IH.out (U.cntE y) (by omega) y (Nat.le_refl _) (by omega) (HPV.out y (by simp)) 2 (by decide) qa qcap W (hQ.below hB hB.size)
  unfold exVal at hRC
  rw [show ((2 : Nat) : Int) = 2 from rfl] at hRC
  have HRC := Lib.hid hRC
  have hcase : kd = 4 ∨ kd = 5 ∨ kd = 6 := by omega
  rcases hcase with rfl | rfl | rfl
  · refine (ref_sign4 tp b g o pcap y.kind y.type (.slice qa y.parts.length qcap) w (U.exT 2 y) (by omega) hg d0 d1 d2 HRC).mono ?_
    rintro e w' ⟨⟨T, rfl, hT9⟩, hb9⟩
    exact ⟨⟨T, rfl, hT9.trans hTS⟩, hb9⟩
  · refine (ref_sign5 tp b g o pcap y.kind y.type (.slice qa y.parts.length qcap) w (U.exT 2 y) (by omega) hg d0 d1 d2 HRC).mono ?_
    rintro e w' ⟨⟨T, rfl, hT9⟩, hb9⟩
    exact ⟨⟨T, rfl, hT9.trans hTS⟩, hb9⟩
  · refine (ref_sign6 tp b g o pcap y.kind y.type (.slice qa y.parts.length qcap) w (U.exT 2 y) (by omega) hg d0 d1 d2 HRC).mono ?_
    rintro e w' ⟨⟨T, rfl, hT9⟩, hb9⟩
    exact ⟨⟨T, rfl, hT9.trans hTS⟩, hb9⟩

end Go.Proofs.Ytfloeijklogcfaa

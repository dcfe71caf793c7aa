/- expr.appendText. -/
import Derived.Test.YtfloeijklogcfaaExText
namespace Go.Proofs.Ytfloeijklogcfaa
open Go.RowKit

set_option maxHeartbeats 8000000 in
set_option maxRecDepth 1000000 in
theorem append_text (c : Nat) : ∀ (x : U.Ex), U.cntE x ≤ c → U.exF x = 0 → ∀ (N : Nat) (v : Value) (t : List UInt8) (pa : Option Addr) (pcap : Nat) (w : World), w.ownsRow N 5 1 v t.length (Lib.byteCells t) → N ≤ w.heap.size → RdExs w (· < N) (.slice pa x.parts.length pcap) x.parts → t.length + 3 * U.cntE x ≤ 8388608 →
    TextAt N x (.slice pa x.parts.length pcap) v t w := by
  induction c using Nat.strongRecOn with
  | _ c ih =>
  intro x hc hv N v t pa pcap w hown hN hP hsz
  obtain ⟨iT, hiT, hT0, hT1, hT2⟩ := info_partsE info5
  have HT := Lib.hid (BR.start hown hN)
  have hne0 : v.ownBlock ≠ some w.heap.size := fun e => by have := (hown.lt _ e).2; omega
  obtain ⟨vo, vcap, rfl⟩ := own_form hown
  obtain ⟨ho, hpv⟩ := U.exF_zero hv
  obtain ⟨hk1, hk6, hfm, ht0, ht8⟩ := U.own_zero ho
  have hone := fun h1 h2 h3 => U.form_one hfm h1 h2 h3
  have hT := U.exT_eq 0 x
  have hne := U.cntE_eq x
  obtain ⟨kd, tp, pl⟩ := x
  have HONE : Hid (¬ kd = 1 → ¬ kd = 2 → ¬ kd = 3 → ∃ p, pl = [p]) := hone
  have hTT : U.exT 0 (.mk kd tp pl) = if kd = 1 then [UInt8.ofNat (97 + tp.toNat)] else if kd = 2 then U.encl (decide (2 ≤ 0)) (U.exS pl) else if kd = 3 then U.encl (decide (1 ≤ 0)) (U.exA pl) else U.exP pl ++ [U.sign kd] := hT
  have hnE : U.cntE (.mk kd tp pl) = U.cntEs pl + 1 := hne
  have hP2 : RdExs w (· < N) (.slice pa pl.length pcap) pl := hP
  have hpv2 : ∀ p ∈ pl, U.exF p = 0 := hpv
  have hk1' : 1 ≤ kd := hk1
  have hk6' : kd ≤ 6 := hk6
  have ht0' : 0 ≤ tp := ht0
  have ht8' : tp < 8 := ht8
  unfold TextAt
  show Calls Try.prog 19 #[.slice vo t.length vcap, .agg #[.int .i64 kd, .int .i64 tp, .slice pa pl.length pcap]] w _
  obtain ⟨R, hR⟩ : ∃ R, U.exT 0 (.mk kd tp pl) = R := ⟨_, rfl⟩
  rw [hR]
  rw [hR] at hTT
  have hz := hP2.short
  have HT2 := Lib.hid (HT.out.alloc (.cells #[.int .i64 kd, .int .i64 tp, .slice pa pl.length pcap] 24 (0, 0)))
  have HQ := Lib.hid (heap_alloc_new w (.cells #[.int .i64 kd, .int .i64 tp, .slice pa pl.length pcap] 24 (0, 0)))
  have HP := Lib.hid hP2
  have IH := Lib.hid ih
  have HPV := Lib.hid hpv2
  have HNE := Lib.hid hne0
  clear ih hP hP2 hpv hpv2 hone hT hne hk1 hk6 ht0 ht8 hR hne0 ho hfm hv HT hown
  by_cases k1 : kd = 1
  · subst k1
    rw [if_pos rfl] at hTT
    subst hTT
    have hb : 97 + tp = ((UInt8.ofNat (97 + tp.toNat)).toNat : Int) := by
      have h1 : tp.toNat < 8 := by omega
      have h2 : (UInt8.ofNat (97 + tp.toNat)).toNat = 97 + tp.toNat := by rw [UInt8.toNat_ofNat']; omega
      rw [h2]
      omega
    have HB := Lib.hid hb
    have HTX := Lib.hid (fun O => (HT2.out.alloc O).own)
    simp only [List.append_nil] at HTX
    clear hb HP IH HPV HONE HQ
    go_enter Try.func19, Try.ntmps19
    go_wp2_with (at_builtin; refine wpList_append_lies _ rfl _ _ 41 rfl N 5 iT _ 1 1 Try.underlying41 hiT hT0 hT1 hT2 rfl (by decide) _ t.length _ rfl (HTX.out (.cells #[.int .u8 (97 + tp)] 5 (0, 0))) ⟨_, 0, none⟩ 1 1 [.int .u8 (97 + tp)] rfl rfl ?a1 ?a2 (by decide) ?a3 ?a4 ?a5 _ rfl ?_)
    case a1 => exact cells1 (f := (0, 0)) (by have h := heap_alloc_new (w.alloc (.cells #[.int .i64 1, .int .i64 tp, .slice pa pl.length pcap] 24 (0, 0))) (.cells #[.int .u8 (97 + tp)] 5 (0, 0)); rw [alloc_sizeE] at h; exact h)
    case a2 => intro u hu; simp at hu; subst hu; rfl
    case a3 => unfold maxLen; omega
    case a4 => omega
    case a5 => simp; omega
    intro g7 cap7 w7 hown7 hgrow7 hat7 _
    have HP7 := Lib.hid ((HT2.out.alloc (.cells #[.int .u8 (97 + tp)] 5 (0, 0))).put (UInt8.ofNat (97 + tp.toNat)) (by rw [List.append_nil, ← HB.out]; exact hown7) hgrow7 (hat7.imp id (fun e => by simp; omega)))
    clear hown7 hgrow7 hat7 HTX HT2
    go_wp2_with fail
    go_ret
    exact ⟨_, rfl, HP7.out⟩
  by_cases k2 : kd = 2
  · subst k2
    have hTS : U.exS pl = R := by
      rw [if_neg (by decide), if_pos rfl] at hTT
      exact hTT.symm
    have HTS := Lib.hid hTS
    have HT3 := HT2
    clear hTT hTS HONE HQ ht0' ht8' hk1' hk6' k1
    go_enter Try.func19, Try.ntmps19
    go_wp2_with fail
    go_loopw [0, 26] (fun tv i wr => ∃ k : Nat, k ≤ pl.length ∧ i = .int .i64 k ∧ Hid (BR N w (.slice vo t.length vcap) t wr tv (U.exS (pl.take k)))) (fun _ i _ => pl.length - (intOf i).toNat)
    case atStart => exact ⟨0, Nat.zero_le _, rfl, by show BR N w _ t _ _ _; rw [List.take_zero, U.exS_nil]; exact HT2.out⟩
    case round =>
      obtain ⟨k, hk, rfl, HTR⟩ := hrel
      obtain ⟨ta, tn, tcap, rfl, HTN⟩ := HTR.out.form2
      have hbw := HTR.out.below
      by_cases hlt : k < pl.length
      · have hx := List.getElem?_eq_getElem hlt
        have hm := List.getElem_mem hlt
        generalize pl[k]'hlt = y at hx hm
        obtain ⟨g, o, cap2, qa, qcap, e0, hg, d0, d1, d2, hQ⟩ := HP.out.at hx
        injection e0 with e1 e2 e3
        subst e1
        have c0 := (hbw.cell (p := ⟨g, o + k * 3, none⟩) hg).trans d0
        have c1 := (hbw.cell (p := ⟨g, o + k * 3 + 1, none⟩) hg).trans d1
        have c2 := (hbw.cell (p := ⟨g, o + k * 3 + 2, none⟩) hg).trans d2
        have hk0 : (0 : Int) ≤ (k : Int) := Int.natCast_nonneg _
        have hk1 : (k : Int) < (pl.length : Int) := by omega
        have hct := U.cntEs_take hx
        have hcl := U.cntEs_take_le pl (k + 1)
        have hsl := U.exS_len (pl.take k)
        have hty : (t ++ U.exS (pl.take k)).length = t.length + (U.exS (pl.take k)).length := List.length_append
        have HA := Lib.hid (HTR.out.alloc (.cells #[.int .i64 y.kind, .int .i64 y.type, .slice qa y.parts.length qcap] 24 (0, 0)))
        have hpart := append_part N y qa qcap (y.kind == 3) (.slice ta tn tcap) (t ++ U.exS (pl.take k)) _ HA.out.own (Nat.le_trans HA.out.base HA.out.grown.size) (by omega)
          (fun v' t' w' h1 h2 h3 h4 => IH.out (U.cntE y) (by omega) y (Nat.le_refl _) (HPV.out y hm) N v' t' qa qcap w' h1 (Nat.le_trans (Nat.le_trans HA.out.base HA.out.grown.size) h2) (hQ.below (HA.out.below.trans h3) (Nat.le_refl _)) (by omega))
        unfold exVal at hpart
        rw [← exT_one] at hpart
        have HPT := Lib.hid hpart
        have HEX := Lib.hid (U.exS_take hx)
        clear hpart hx hm d0 d1 d2 hQ e2 e3 hct hcl hsl hty hbw
        go_wp2_with fail
        refine HPT.out.mono ?_
        rintro e w8 ⟨v8, rfl, h8⟩
        obtain ⟨ao8, n8, cap8, rfl, hn8⟩ := h8.form2
        have HP8 := Lib.hid (HA.out.trans h8)
        clear h8 HPT HA c0 c1 c2
        go_wp2_with fail
        go_roundw
        case rel => exact ⟨k + 1, by omega, by go_num, by show BR N w _ t _ _ _; rw [HEX.out]; exact HP8.out⟩
        case measure => simp [intOf]; omega
      · have hz : ¬ (k : Int) < (pl.length : Int) := by omega
        have h3 := HTR.out
        rw [List.take_of_length_le (by omega), HTS.out] at h3
        have HR3 := Lib.hid h3
        clear h3 HTR
        go_wp2_with fail
        go_ret
        exact ⟨_, rfl, HR3.out⟩
  by_cases k3 : kd = 3
  · subst k3
    have hTS : U.exA pl = R := by
      rw [if_neg (by decide), if_neg (by decide), if_pos rfl] at hTT
      exact hTT.symm
    have HTS := Lib.hid hTS
    clear hTT hTS HONE HQ ht0' ht8' hk1' hk6' k1 k2
    go_enter Try.func19, Try.ntmps19
    go_wp2_with fail
    go_loopw [0, 43] (fun tv i wr => ∃ k : Nat, k ≤ pl.length ∧ i = .int .i64 k ∧ Hid (BR N w (.slice vo t.length vcap) t wr tv (U.exA (pl.take k)))) (fun _ i _ => pl.length - (intOf i).toNat)
    case atStart => exact ⟨0, Nat.zero_le _, rfl, by show BR N w _ t _ _ _; rw [List.take_zero, U.exA_nil]; exact HT2.out⟩
    case round =>
      obtain ⟨k, hk, rfl, HTR⟩ := hrel
      obtain ⟨ta, tn, tcap, rfl, HTN⟩ := HTR.out.form2
      have hbw := HTR.out.below
      by_cases hlt : k < pl.length
      · have hx := List.getElem?_eq_getElem hlt
        have hm := List.getElem_mem hlt
        generalize pl[k]'hlt = y at hx hm
        obtain ⟨g, o, cap2, qa, qcap, e0, hg, d0, d1, d2, hQ⟩ := HP.out.at hx
        injection e0 with e1 e2 e3
        subst e1
        have c0 := (hbw.cell (p := ⟨g, o + k * 3, none⟩) hg).trans d0
        have c1 := (hbw.cell (p := ⟨g, o + k * 3 + 1, none⟩) hg).trans d1
        have c2 := (hbw.cell (p := ⟨g, o + k * 3 + 2, none⟩) hg).trans d2
        have hk0 : (0 : Int) ≤ (k : Int) := Int.natCast_nonneg _
        have hk1 : (k : Int) < (pl.length : Int) := by omega
        have hct := U.cntEs_take hx
        have hcl := U.cntEs_take_le pl (k + 1)
        have hsl := U.exA_len (pl.take k)
        have hyl := U.exT_len 0 y
        have hty : (t ++ U.exA (pl.take k)).length = t.length + (U.exA (pl.take k)).length := List.length_append
        have HA := Lib.hid (HTR.out.alloc (.cells #[.int .i64 y.kind, .int .i64 y.type, .slice qa y.parts.length qcap] 24 (0, 0)))
        have hpart := fun v' (t' : List UInt8) w' h1 h2 (h3 : Below N w w') h4 => IH.out (U.cntE y) (by omega) y (Nat.le_refl _) (HPV.out y hm) N v' t' qa qcap w' h1 h2 (hQ.below h3 (Nat.le_refl _)) h4
        unfold TextAt exVal at hpart
        have HPT := Lib.hid hpart
        have hex := U.exA_take hx
        have hQ3 := Lib.hid (heap_alloc_new wr (.cells #[.int .i64 y.kind, .int .i64 y.type, .slice qa y.parts.length qcap] 24 (0, 0)))
        have hnr : ∀ j, (Value.slice ta tn tcap).ownBlock = some j → j < wr.heap.size := fun j hj => (HTR.out.own.lt j hj).2
        have HNR := Lib.hid hnr
        clear hpart hx hm d0 d1 d2 hQ e2 e3 hbw hnr
        by_cases hk00 : k = 0
        · subst hk00
          rw [if_pos rfl] at hex
          have HEX := Lib.hid hex
          have h9 := HPT.out _ t _ (by have h := HA.out.own; simp only [List.take_zero, U.exA_nil, List.append_nil] at h; exact h) (Nat.le_trans HA.out.base HA.out.grown.size) HA.out.below (by omega)
          have HC := Lib.hid h9
          have HA0 : Hid (BR N w (.slice vo t.length vcap) t _ _ []) := Lib.hid (by have h := HA.out; simp only [List.take_zero, U.exA_nil] at h; exact h)
          simp only [Nat.zero_mul, Nat.add_zero] at c0 c1 c2
          clear hex h9 HPT HA hct hcl hsl hyl hty hQ3 HNR HTR
          go_wp2_with fail
          refine HC.out.mono ?_
          rintro e w8 ⟨v8, rfl, h8⟩
          obtain ⟨ao8, n8, cap8, rfl, hn8⟩ := h8.form2
          have HP8 := Lib.hid (HA0.out.trans (by rw [List.append_nil]; exact h8))
          clear h8 HC HA0 c0 c1 c2
          go_wp2_with fail
          go_roundw
          case rel => exact ⟨1, by omega, by go_num, by show BR N w _ t _ _ _; rw [HEX.out]; have h := HP8.out; rw [List.nil_append] at h; exact h⟩
          case measure => simp [intOf]; omega
        · rw [if_neg hk00] at hex
          have HEX := Lib.hid hex
          have hkp : (0 : Int) < (k : Int) := by omega
          have hown9 := fun O => (HA.out.alloc O).own
          rw [← HTN.out] at hown9
          have hty2 : tn = t.length + (U.exA (pl.take k)).length := HTN.out.trans hty
          have HTX := Lib.hid hown9
          have hL : tn + 3 * U.cntE y ≤ 8388607 := by omega
          have hszN : N ≤ wr.heap.size := Nat.le_trans HTR.out.base HTR.out.grown.size
          clear hex hown9 hct hcl hsl HTR hk00 hty2 hty
          go_wp2_with (at_builtin; refine wpList_append_lies _ rfl _ _ 41 rfl N 5 iT _ 1 1 Try.underlying41 hiT hT0 hT1 hT2 rfl (by decide) _ tn _ rfl (HTX.out (.cells #[.int .u8 124] 5 (0, 0))) ⟨_, 0, none⟩ 1 1 [.int .u8 124] rfl rfl ?a1 ?a2 (by decide) ?a3 ?a4 ?a5 _ rfl ?_)
          case a1 => exact cells1 (f := (0, 0)) (by have h := heap_alloc_new (wr.alloc (.cells #[.int .i64 y.kind, .int .i64 y.type, .slice qa y.parts.length qcap] 24 (0, 0))) (.cells #[.int .u8 124] 5 (0, 0)); rw [alloc_sizeE] at h; exact h)
          case a2 => intro u hu; simp at hu; subst hu; rfl
          case a3 => unfold maxLen; omega
          case a4 => omega
          case a5 => simp; omega
          intro g7 cap7 w7 hown7 hgrow7 hat7 _
          have HP7 := Lib.hid ((HA.out.alloc (.cells #[.int .u8 124] 5 (0, 0))).put 124 (by rw [← HTN.out]; exact hown7) hgrow7 (hat7.imp id (fun e => by simp; omega)))
          have Q7 := Lib.hid ((hgrow7.block wr.heap.size (by simp; omega) (fun e => by have := HNR.out _ e.symm; omega)).trans ((Lib.alloc_old _ _ wr.heap.size (by simp)).trans hQ3.out))
          have u70 := (ex_cells Q7.out).1
          have u71 := (ex_cells Q7.out).2.1
          have u72 := (ex_cells Q7.out).2.2
          have hl7 : (t ++ (U.exA (pl.take k) ++ [124])).length = tn + 1 := by rw [HTN.out]; simp; omega
          have h9 := HPT.out _ (t ++ (U.exA (pl.take k) ++ [124])) w7 HP7.out.own (Nat.le_trans HP7.out.base HP7.out.grown.size) HP7.out.below (by omega)
          have HC := Lib.hid h9
          clear hown7 hgrow7 hat7 HTX h9 HPT HA hQ3 Q7 HNR c0 c1 c2
          go_wp2_with fail
          refine HC.out.mono ?_
          rintro e w8 ⟨v8, rfl, h8⟩
          obtain ⟨ao8, n8, cap8, rfl, hn8⟩ := h8.form2
          have HP8 := Lib.hid (HP7.out.trans h8)
          clear h8 HC HP7 u70 u71 u72
          go_wp2_with fail
          go_roundw
          case rel => exact ⟨k + 1, by omega, by go_num, by show BR N w _ t _ _ _; rw [HEX.out]; have h := HP8.out; rw [List.append_assoc] at h; exact h⟩
          case measure => simp [intOf]; omega
      · have hz : ¬ (k : Int) < (pl.length : Int) := by omega
        have h3 := HTR.out
        rw [List.take_of_length_le (by omega), HTS.out] at h3
        have HR3 := Lib.hid h3
        clear h3 HTR
        go_wp2_with fail
        go_ret
        exact ⟨_, rfl, HR3.out⟩
  obtain ⟨y, rfl⟩ := HONE.out k1 k2 k3
  have hx : [y][0]? = some y := rfl
  obtain ⟨g, o, cap2, qa, qcap, e0, hg, d0, d1, d2, hQ⟩ := HP.out.at hx
  injection e0 with e1 e2 e3
  subst e1
  simp only [Nat.zero_mul, Nat.add_zero] at d0 d1 d2
  have q0 := fun O => (cell_alloc_oldT w O ⟨g, o, none⟩ (Nat.lt_of_lt_of_le hg hN)).trans d0
  have q1 := fun O => (cell_alloc_oldT w O ⟨g, o + 1, none⟩ (Nat.lt_of_lt_of_le hg hN)).trans d1
  have q2 := fun O => (cell_alloc_oldT w O ⟨g, o + 2, none⟩ (Nat.lt_of_lt_of_le hg hN)).trans d2
  have hTS : U.encl (y.kind == 2 || y.kind == 3) (U.exT 0 y) ++ [U.sign kd] = R := by
    rw [if_neg k1, if_neg k2, if_neg k3, U.exP_cons, exT_two] at hTT
    exact hTT.symm
  have HTS := Lib.hid hTS
  have hcE : U.cntEs [y] = U.cntE y := by rw [U.cntEs_cons, U.cntEs_nil]; rfl
  have hel := U.encl_len (y.kind == 2 || y.kind == 3) (U.exT 0 y)
  have hyl := U.exT_len 0 y
  obtain ⟨EN, hEN⟩ : ∃ EN, U.encl (y.kind == 2 || y.kind == 3) (U.exT 0 y) = EN := ⟨_, rfl⟩
  rw [hEN] at hel
  have HA := Lib.hid (HT2.out.alloc (.cells #[.int .i64 y.kind, .int .i64 y.type, .slice qa y.parts.length qcap] 24 (0, 0)))
  have hpart := append_part N y qa qcap (y.kind == 2 || y.kind == 3) (.slice vo t.length vcap) t _ (by have h := HA.out.own; rw [List.append_nil] at h; exact h) (Nat.le_trans HA.out.base HA.out.grown.size) (by omega)
    (fun v' t' w' h1 h2 h3 h4 => IH.out (U.cntE y) (by omega) y (Nat.le_refl _) (HPV.out y (by simp)) N v' t' qa qcap w' h1 (Nat.le_trans (Nat.le_trans HA.out.base HA.out.grown.size) h2) (hQ.below (HA.out.below.trans h3) (Nat.le_refl _)) (by omega))
  unfold exVal at hpart
  rw [hEN] at hpart
  rw [hEN] at HTS
  have Q0 := Lib.hid ((Lib.alloc_old _ (.cells #[.int .i64 y.kind, .int .i64 y.type, .slice qa y.parts.length qcap] 24 (0, 0)) w.heap.size (by simp)).trans HQ.out)
  clear hx d0 d1 d2 hQ e2 e3 hTS hTT IH HPV HONE HP HQ HT2 hEN
  have hw : ∃ EB, (y.kind == 2 || y.kind == 3) = EB ∧ ((y.kind = 2 ∧ EB = true) ∨ (¬ y.kind = 2 ∧ y.kind = 3 ∧ EB = true) ∨ (¬ y.kind = 2 ∧ ¬ y.kind = 3 ∧ EB = false)) := by
    by_cases b2 : y.kind = 2
    · exact ⟨true, by rw [b2]; rfl, .inl ⟨b2, rfl⟩⟩
    by_cases b3 : y.kind = 3
    · exact ⟨true, by rw [b3]; rfl, .inr (.inl ⟨b2, b3, rfl⟩)⟩
    · exact ⟨false, by rw [beq_eq_false_iff_ne.2 b2, beq_eq_false_iff_ne.2 b3]; rfl, .inr (.inr ⟨b2, b3, rfl⟩)⟩
  obtain ⟨EB, hEB, hw⟩ := hw
  rw [hEB] at hpart
  clear hEB
  have hcase : kd = 4 ∨ kd = 5 ∨ kd = 6 := by omega
  clear k1 k2 k3 hk1' hk6'
  generalize hyk : y.kind = yk at hpart q0 Q0 HA hw
  generalize hyp : y.parts.length = ypl at hpart q2 Q0 HA
  have HPT := Lib.hid hpart
  clear hpart
  rcases hcase with rfl | rfl | rfl <;> rcases hw with ⟨rfl, rfl⟩ | ⟨hn2, rfl, rfl⟩ | ⟨hn2, hn3, rfl⟩
  all_goals
    try have b2 := beq_eq_false_iff_ne.2 hn2
    try have b3 := beq_eq_false_iff_ne.2 hn3
    try clear hn2
    try clear hn3
    go_enter Try.func19, Try.ntmps19
    go_wp2_with fail
    refine HPT.out.mono ?_
    rintro e w8 ⟨v8, rfl, h8⟩
    obtain ⟨ao8, n8, cap8, rfl, hn8⟩ := h8.form2
    have h9 := HA.out.trans (by rw [List.append_nil]; exact h8)
    rw [List.nil_append] at h9
    have HT9 := Lib.hid h9
    have hn9 : n8 = t.length + EN.length := hn8.trans List.length_append
    have hown9 := fun O => (HT9.out.alloc O).own
    rw [← hn8] at hown9
    have HTX := Lib.hid hown9
    have hL : n8 ≤ 8388607 := by omega
    have hsz9 : N ≤ w8.heap.size := Nat.le_trans h9.base h9.grown.size
    have Q8 := Lib.hid ((h8.block (b := w.heap.size) (by simp; omega) HNE.out).trans Q0.out)
    have u80 := (ex_cells Q8.out).1
    have HN8 := Lib.hid hn8
    clear HPT h8 h9 hn8 hown9 q0 q1 q2 Q0 HA hn9 hel hyl hcE
    go_wp2_with (first | (at_builtin; refine wpList_append_lies _ rfl _ _ 41 rfl N 5 iT _ 1 1 Try.underlying41 hiT hT0 hT1 hT2 rfl (by decide) _ n8 _ rfl (HTX.out (.cells #[.int .u8 42] 5 (0, 0))) ⟨_, 0, none⟩ 1 1 [.int .u8 42] rfl rfl ?b1 ?b2 (by decide) ?b3 ?b4 ?b5 _ rfl ?_) | (at_builtin; refine wpList_append_lies _ rfl _ _ 41 rfl N 5 iT _ 1 1 Try.underlying41 hiT hT0 hT1 hT2 rfl (by decide) _ n8 _ rfl (HTX.out (.cells #[.int .u8 43] 5 (0, 0))) ⟨_, 0, none⟩ 1 1 [.int .u8 43] rfl rfl ?b1 ?b2 (by decide) ?b3 ?b4 ?b5 _ rfl ?_) | (at_builtin; refine wpList_append_lies _ rfl _ _ 41 rfl N 5 iT _ 1 1 Try.underlying41 hiT hT0 hT1 hT2 rfl (by decide) _ n8 _ rfl (HTX.out (.cells #[.int .u8 63] 5 (0, 0))) ⟨_, 0, none⟩ 1 1 [.int .u8 63] rfl rfl ?b1 ?b2 (by decide) ?b3 ?b4 ?b5 _ rfl ?_))
    case b1 => exact cells1 (heap_alloc_new w8 (.cells #[.int .u8 _] 5 (0, 0)))
    case b2 => intro u hu; simp at hu; subst hu; rfl
    case b3 => unfold maxLen; omega
    case b4 => omega
    case b5 => simp; omega
    intro g10 cap10 w10 hown10 hgrow10 hat10 _
    have HO := Lib.hid hown10
    have HG := Lib.hid hgrow10
    have HAT := Lib.hid hat10
    clear hown10 hgrow10 hat10 HTX
    go_wp2_with fail
    go_ret
    refine ⟨_, rfl, ?_⟩
    rw [← HTS.out]
    exact (HT9.out.alloc _).put _ (by rw [← HN8.out]; exact HO.out) HG.out (HAT.out.imp id (fun e => by simp; omega))

end Go.Proofs.Ytfloeijklogcfaa

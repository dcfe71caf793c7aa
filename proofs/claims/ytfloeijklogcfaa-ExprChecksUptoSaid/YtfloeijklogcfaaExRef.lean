/- The reference: exprFault. -/
import Derived.Test.YtfloeijklogcfaaExForm
namespace Go.Proofs.Ytfloeijklogcfaa
open Go.RowKit

theorem cell_alloc_oldE (w : World) (o : Obj) (p : Addr) (h : p.block < w.heap.size) : (w.alloc o).cell? p = w.cell? p := ((Below.refl w.heap.size w).alloc (Nat.le_refl _) o).cell h
/-- no part of the same kind among the first k -/
def noSame (x : U.Ex) (l : List U.Ex) : Bool := !(l.any (fun p => p.kind == x.kind) && (x.kind == 2 || x.kind == 3))
theorem form_split (x : U.Ex) : x.form = ((if x.kind = 1 then x.parts.length == 0 else if x.kind = 2 then x.parts.length != 1 else if x.kind = 3 then decide (2 ≤ x.parts.length) else x.parts.length == 1) && ((x.kind == 1 || x.type == 0) && noSame x x.parts)) := by
  unfold U.Ex.form noSame
  by_cases h1 : x.kind = 1
  · simp [h1]
  by_cases h2 : x.kind = 2
  · simp [h2]; cases (x.type == 0) <;> simp [Bool.and_comm]
  by_cases h3 : x.kind = 3
  · simp [h3]; cases (x.type == 0) <;> simp [Bool.and_comm]
  · have b1 : (x.kind == 1) = false := beq_eq_false_iff_ne.2 h1
    have b2 : (x.kind == 2) = false := beq_eq_false_iff_ne.2 h2
    have b3 : (x.kind == 3) = false := beq_eq_false_iff_ne.2 h3
    rw [if_neg h1, if_neg h2, if_neg h3, if_neg h1, if_neg h2, if_neg h3, b1, b2, b3]
    simp [Bool.and_comm]
theorem noSame_take {x : U.Ex} {l : List U.Ex} {k : Nat} {y : U.Ex} (hx : l[k]? = some y) : noSame x (l.take (k + 1)) = (noSame x (l.take k) && !(y.kind == x.kind && (x.kind == 2 || x.kind == 3))) := by
  obtain ⟨hk, e⟩ := List.getElem?_eq_some_iff.1 hx
  unfold noSame
  rw [List.take_succ_eq_append_getElem hk, e, List.any_append]
  cases (x.kind == 2 || x.kind == 3) <;> simp
theorem noSame_no {x : U.Ex} {l : List U.Ex} {k : Nat} {y : U.Ex} (hx : l[k]? = some y) (h1 : y.kind = x.kind) (h2 : x.kind = 2 ∨ x.kind = 3) : noSame x l = false := by
  unfold noSame
  have h3 : l.any (fun p => p.kind == x.kind) = true := List.any_eq_true.2 ⟨y, List.mem_of_getElem? hx, by simp [h1]⟩
  rw [h3]
  rcases h2 with h2 | h2 <;> simp [h2]

set_option maxHeartbeats 8000000 in
set_option maxRecDepth 1000000 in
theorem expr_fault (c : Nat) : ∀ (x : U.Ex), U.cntE x ≤ c → ∀ (pa : Option Addr) (pcap : Nat) (w : World), RdExs w (· < w.heap.size) (.slice pa x.parts.length pcap) x.parts →
    Calls Try.prog 20 #[exVal x (.slice pa x.parts.length pcap)] w fun e w' => e = .returned (.int .i64 (U.exF x : Nat)) ∧ Below w.heap.size w w' := by
  induction c using Nat.strongRecOn with
  | _ c ih =>
  intro x hc pa pcap w hP
  obtain ⟨R, hR⟩ : ∃ R, U.exF x = R := ⟨_, rfl⟩
  rw [hR]
  rw [U.exF_eq] at hR
  unfold U.Ex.own at hR
  rw [form_split] at hR
  have hne := U.cntE_eq x
  have hz := hP.short
  obtain ⟨kd, tp, pl⟩ := x
  have hP2 : RdExs w (· < w.heap.size) (.slice pa pl.length pcap) pl := hP
  have hne2 : U.cntE (.mk kd tp pl) = U.cntEs pl + 1 := hne
  have hz2 : pl.length ≤ 9223372036854775807 := hz
  have hR2 : (if (if kd < 1 ∨ 6 < kd then 3 else if ((if kd = 1 then pl.length == 0 else if kd = 2 then pl.length != 1 else if kd = 3 then decide (2 ≤ pl.length) else pl.length == 1) && ((kd == 1 || tp == 0) && noSame (.mk kd tp pl) pl)) = false then 4 else if 0 ≤ tp ∧ tp < 8 then 0 else 2) = 0 then U.exFs pl else (if kd < 1 ∨ 6 < kd then 3 else if ((if kd = 1 then pl.length == 0 else if kd = 2 then pl.length != 1 else if kd = 3 then decide (2 ≤ pl.length) else pl.length == 1) && ((kd == 1 || tp == 0) && noSame (.mk kd tp pl) pl)) = false then 4 else if 0 ≤ tp ∧ tp < 8 then 0 else 2)) = R := hR
  show Calls Try.prog 20 #[.agg #[.int .i64 kd, .int .i64 tp, .slice pa pl.length pcap]] w _
  have HQ := Lib.hid (heap_alloc_new w (.cells #[.int .i64 kd, .int .i64 tp, .slice pa pl.length pcap] 24 (0, 0)))
  have hbN := (Below.refl w.heap.size w).alloc (Nat.le_refl _) (.cells #[.int .i64 kd, .int .i64 tp, .slice pa pl.length pcap] 24 (0, 0))
  have HBN := Lib.hid hbN
  have HP := Lib.hid hP2
  have IH := Lib.hid ih
  clear hbN hP hP2 hne hz hR ih
  by_cases hk : kd < 1 ∨ 6 < kd
  · rw [if_pos hk, if_neg (by decide)] at hR2
    subst hR2
    clear HP IH HQ
    by_cases h1 : kd < 1
    · go_enter Try.func20, Try.ntmps20
      go_wp2_with fail
      go_ret
      exact ⟨rfl, HBN.out⟩
    · have h2 : 6 < kd := hk.resolve_left h1
      go_enter Try.func20, Try.ntmps20
      go_wp2_with fail
      go_ret
      exact ⟨rfl, HBN.out⟩
  have h1 : ¬ kd < 1 := fun h => hk (.inl h)
  have h2 : ¬ 6 < kd := fun h => hk (.inr h)
  rw [if_neg hk] at hR2
  clear hk
  by_cases k1 : kd = 1
  · subst k1
    have hns : noSame (.mk 1 tp pl) pl = true := by
      have b1 : ((U.Ex.mk 1 tp pl).kind == 2 || (U.Ex.mk 1 tp pl).kind == 3) = false := rfl
      unfold noSame
      rw [b1]
      simp
    rw [hns] at hR2
    by_cases hl : pl.length = 0
    · have hR3 : U.exFs pl = 0 := by
        obtain rfl : pl = [] := List.eq_nil_of_length_eq_zero hl
        exact U.exFs_nil
      rw [hR3] at hR2
      have hl2 : ((pl.length : Int) == 0) = true := beq_iff_eq.2 (by omega)
      have hl3 : ¬ (0 : Int) < (pl.length : Int) := by omega
      by_cases ht : 0 ≤ tp ∧ tp < 8
      · have h0 : 0 = R := by simpa [ht.1, ht.2, hl] using hR2
        subst h0
        have ht1 : ¬ tp < 0 := by omega
        have ht2 : ¬ 7 < tp := by omega
        clear hR2 IH HP ht hns hR3 hl
        go_enter Try.func20, Try.ntmps20
        go_wp2_with fail
        go_loopw [52] (fun i wr => i = .int .i64 0 ∧ Below (w.heap.size + 1) (w.alloc (.cells #[.int .i64 1, .int .i64 tp, .slice pa pl.length pcap] 24 (0, 0))) wr) (fun _ _ => 0)
        case atStart => exact ⟨rfl, Below.refl _ _⟩
        case round =>
          obtain ⟨rfl, hbx⟩ := hrel
          have hbw : Below w.heap.size w wr := HBN.out.trans (hbx.mono (by simp))
          have Q3 := Lib.hid ((hbx.block w.heap.size (Nat.lt_succ_self _)).trans HQ.out)
          have x0 := (ex_cells Q3.out).1
          have x1 := (ex_cells Q3.out).2.1
          have x2 := (ex_cells Q3.out).2.2
          go_wp2_with fail
          go_loopw [83] (fun i wr => i = .int .i64 0 ∧ Below w.heap.size w wr) (fun _ _ => 0)
          case atStart => exact ⟨rfl, hbw⟩
          case round =>
            clear hbw hbx x0 x1 x2 Q3
            obtain ⟨rfl, hbw⟩ := hrel
            go_wp2_with fail
            go_ret
            exact ⟨rfl, hbw⟩
      · have h0 : 2 = R := by simpa [ht, hl] using hR2
        subst h0
        clear hR2 IH HP hns hR3 hl
        by_cases ht1 : tp < 0
        · go_enter Try.func20, Try.ntmps20
          go_wp2_with fail
          go_loopw [52] (fun i wr => i = .int .i64 0 ∧ Below (w.heap.size + 1) (w.alloc (.cells #[.int .i64 1, .int .i64 tp, .slice pa pl.length pcap] 24 (0, 0))) wr) (fun _ _ => 0)
          case atStart => exact ⟨rfl, Below.refl _ _⟩
          case round =>
            obtain ⟨rfl, hbx⟩ := hrel
            have hbw : Below w.heap.size w wr := HBN.out.trans (hbx.mono (by simp))
            have Q3 := Lib.hid ((hbx.block w.heap.size (Nat.lt_succ_self _)).trans HQ.out)
            have x0 := (ex_cells Q3.out).1
            have x1 := (ex_cells Q3.out).2.1
            have x2 := (ex_cells Q3.out).2.2
            go_wp2_with fail
            go_ret
            exact ⟨rfl, hbw⟩
        · have ht2 : 7 < tp := by omega
          clear ht
          go_enter Try.func20, Try.ntmps20
          go_wp2_with fail
          go_loopw [52] (fun i wr => i = .int .i64 0 ∧ Below (w.heap.size + 1) (w.alloc (.cells #[.int .i64 1, .int .i64 tp, .slice pa pl.length pcap] 24 (0, 0))) wr) (fun _ _ => 0)
          case atStart => exact ⟨rfl, Below.refl _ _⟩
          case round =>
            obtain ⟨rfl, hbx⟩ := hrel
            have hbw : Below w.heap.size w wr := HBN.out.trans (hbx.mono (by simp))
            have Q3 := Lib.hid ((hbx.block w.heap.size (Nat.lt_succ_self _)).trans HQ.out)
            have x0 := (ex_cells Q3.out).1
            have x1 := (ex_cells Q3.out).2.1
            have x2 := (ex_cells Q3.out).2.2
            go_wp2_with fail
            go_ret
            exact ⟨rfl, hbw⟩
    · have h0 : 4 = R := by simpa [hl] using hR2
      subst h0
      have hl2 : ((pl.length : Int) == 0) = false := beq_eq_false_iff_ne.2 (by omega)
      clear hR2 IH HP hns hl
      go_enter Try.func20, Try.ntmps20
      go_wp2_with fail
      go_ret
      exact ⟨rfl, HBN.out⟩
  by_cases k2 : kd = 2
  · subst k2
    by_cases ht : tp = 0
    · subst ht
      by_cases hl : pl.length ≠ 1
      · have hRT : noSame (.mk 2 0 pl) pl = true → U.exFs pl = R := fun h => by rw [h] at hR2; simpa [hl] using hR2
        have hRF : noSame (.mk 2 0 pl) pl = false → 4 = R := fun h => by rw [h] at hR2; simpa using hR2
        have hl2 : ((pl.length : Int) != 1) = true := bne_iff_ne.2 (by omega)
        have HRT := Lib.hid hRT
        have HRF := Lib.hid hRF
        clear hRT hRF hR2 hl
        go_enter Try.func20, Try.ntmps20
        go_wp2_with fail
        go_loopw [52] (fun i wr => ∃ k : Nat, k ≤ pl.length ∧ i = .int .i64 k ∧ Below (w.heap.size + 1) (w.alloc (.cells #[.int .i64 2, .int .i64 0, .slice pa pl.length pcap] 24 (0, 0))) wr ∧ Hid (noSame (.mk 2 0 pl) (pl.take k) = true)) (fun i _ => pl.length - (intOf i).toNat)
        case atStart => exact ⟨0, Nat.zero_le _, rfl, Below.refl _ _, by show _ = _; rw [List.take_zero]; rfl⟩
        case round =>
          obtain ⟨k, hk, rfl, hbx, HNS⟩ := hrel
          have hsz : w.heap.size + 1 ≤ wr.heap.size := by have h := hbx.size; simp at h; exact h
          have hnb : w.heap.size ≠ wr.heap.size := by omega
          have hbw : Below w.heap.size w wr := HBN.out.trans (hbx.mono (by simp))
          have Q3 := Lib.hid ((hbx.block w.heap.size (Nat.lt_succ_self _)).trans HQ.out)
          have x0 := (ex_cells Q3.out).1
          have x1 := (ex_cells Q3.out).2.1
          have x2 := (ex_cells Q3.out).2.2
          by_cases hlt : k < pl.length
          · have hx := List.getElem?_eq_getElem hlt
            generalize pl[k]'hlt = y at hx
            obtain ⟨yk, yt, yp⟩ := y
            obtain ⟨g, o, cap2, qa, qcap, e0, hg, d0, d1, d2, hQ⟩ := HP.out.at hx
            injection e0 with e1 e2 e3
            subst e1
            have c0 : wr.cell? ⟨g, o + k * 3, none⟩ = some (.int .i64 yk) := (hbw.cell (p := ⟨g, o + k * 3, none⟩) hg).trans d0
            have c1 : wr.cell? ⟨g, o + k * 3 + 1, none⟩ = some (.int .i64 yt) := (hbw.cell (p := ⟨g, o + k * 3 + 1, none⟩) hg).trans d1
            have c2 : wr.cell? ⟨g, o + k * 3 + 2, none⟩ = some (.slice qa yp.length qcap) := (hbw.cell (p := ⟨g, o + k * 3 + 2, none⟩) hg).trans d2
            have hk0 : (0 : Int) ≤ (k : Int) := Int.natCast_nonneg _
            have hk1 : (k : Int) < (pl.length : Int) := by omega
            have q0 := fun O => (cell_alloc_oldE wr O ⟨w.heap.size, 0, none⟩ hsz).trans x0
            clear HRT IH x0 x1 x2
            by_cases hy : yk = 2
            · subst hy
              have h4 := HRF.out (noSame_no (x := .mk 2 0 pl) hx rfl (.inl rfl))
              subst h4
              clear HRF HNS hx d0 d1 d2 e2 e3 hQ
              go_wp2_with fail
              go_ret
              exact ⟨rfl, hbw.alloc hbw.size _⟩
            · have hyb : (yk == 2) = false := beq_eq_false_iff_ne.2 hy
              have hn2 : noSame (.mk 2 0 pl) (pl.take (k + 1)) = true := by
                rw [noSame_take hx, HNS.out]
                have : ((U.Ex.mk yk yt yp).kind == (U.Ex.mk 2 0 pl).kind) = false := beq_eq_false_iff_ne.2 hy
                rw [this]
                rfl
              have HN2 := Lib.hid hn2
              clear hn2 hx d0 d1 d2 e2 e3 hQ
              go_wp2_with fail
              go_roundw
              case rel => exact ⟨k + 1, by omega, by go_num, hbx.alloc hsz _, HN2.out⟩
              case measure => simp [intOf]; omega
          · have hz : ¬ (k : Int) < (pl.length : Int) := by omega
            have h3 := HNS.out
            rw [List.take_of_length_le (by omega)] at h3
            have hR5 := HRT.out h3
            have HR5 := Lib.hid hR5
            clear h3 hR5 HRT HRF HNS hlt
            go_wp2_with fail
            go_loopw [83] (fun i wr => ∃ k : Nat, k ≤ pl.length ∧ i = .int .i64 k ∧ Below w.heap.size w wr ∧ Hid (U.exFs (pl.drop k) = R)) (fun i _ => pl.length - (intOf i).toNat)
            case atStart => exact ⟨0, Nat.zero_le _, rfl, hbw, HR5.out⟩
            case round =>
              clear hbw hbx hnb hsz hk x0 x1 x2 Q3 hz
              obtain ⟨k, hk, rfl, hbw, HF⟩ := hrel
              by_cases hlt : k < pl.length
              · have hx := List.getElem?_eq_getElem hlt
                generalize pl[k]'hlt = y at hx
                obtain ⟨g, o, cap2, qa, qcap, e0, hg, d0, d1, d2, hQ⟩ := HP.out.at hx
                injection e0 with e1 e2 e3
                subst e1
                have c0 := (hbw.cell (p := ⟨g, o + k * 3, none⟩) hg).trans d0
                have c1 := (hbw.cell (p := ⟨g, o + k * 3 + 1, none⟩) hg).trans d1
                have c2 := (hbw.cell (p := ⟨g, o + k * 3 + 2, none⟩) hg).trans d2
                have hk0 : (0 : Int) ≤ (k : Int) := Int.natCast_nonneg _
                have hk1 : (k : Int) < (pl.length : Int) := by omega
                have hge := U.cntEs_get hx
                have hst := HF.out
                rw [U.exFs_drop hx] at hst
                have hRC := fun W (hB : Below w.heap.size w W) => IH.out (U.cntE y) (by omega) y (Nat.le_refl _) qa qcap W (hQ.below hB hB.size)
                unfold exVal at hRC
                have HBO := Lib.hid (fun O => hbw.alloc hbw.size O)
                generalize U.exF y = F at hRC hst
                by_cases hF0 : F = 0
                · rw [if_pos hF0] at hst
                  have hFz : ((F : Nat) : Int) = 0 := by omega
                  have HST := Lib.hid hst
                  have HRC := Lib.hid hRC
                  clear hRC hst hF0 hge hx hQ d0 d1 d2 e2 e3
                  go_wp2_with fail
                  refine (HRC.out _ (HBO.out _)).mono ?_
                  rintro e w4 ⟨rfl, hb4⟩
                  have t4 := (HBO.out _).trans (hb4.mono (HBO.out _).size)
                  clear hb4 HRC HBO
                  go_wp2_with fail
                  go_roundw
                  case rel => exact ⟨k + 1, by omega, by go_num, t4, HST.out⟩
                  case measure => simp [intOf]; omega
                · rw [if_neg hF0] at hst
                  subst hst
                  have hne2 : (((F : Nat) : Int) != 0) = true := bne_iff_ne.2 (by omega)
                  have HRC := Lib.hid hRC
                  clear hRC hF0 hge hx hQ d0 d1 d2 e2 e3
                  go_wp2_with fail
                  refine (HRC.out _ (HBO.out _)).mono ?_
                  rintro e w4 ⟨rfl, hb4⟩
                  have t4 := (HBO.out _).trans (hb4.mono (HBO.out _).size)
                  clear hb4 HRC HBO
                  go_wp2_with fail
                  go_ret
                  exact ⟨rfl, t4⟩
              · have hz : ¬ (k : Int) < (pl.length : Int) := by omega
                have h3 := HF.out
                rw [List.drop_eq_nil_of_le (by omega), U.exFs_nil] at h3
                subst h3
                go_wp2_with fail
                go_ret
                exact ⟨rfl, hbw⟩
      · have h4 : 4 = R := by simpa [hl] using hR2
        subst h4
        have hl2 : ((pl.length : Int) != 1) = false := bne_eq_false_iff_eq.2 (by omega)
        clear hR2 IH HP hl
        go_enter Try.func20, Try.ntmps20
        go_wp2_with fail
        go_ret
        exact ⟨rfl, HBN.out⟩
    · have ht2 : (tp != 0) = true := bne_iff_ne.2 ht
      have h4 : 4 = R := by simpa [ht] using hR2
      subst h4
      clear hR2 IH HP
      by_cases hl : pl.length ≠ 1
      · have hl2 : ((pl.length : Int) != 1) = true := bne_iff_ne.2 (by omega)
        clear hl
        go_enter Try.func20, Try.ntmps20
        go_wp2_with fail
        go_ret
        exact ⟨rfl, HBN.out⟩
      · have hl2 : ((pl.length : Int) != 1) = false := bne_eq_false_iff_eq.2 (by omega)
        clear hl
        go_enter Try.func20, Try.ntmps20
        go_wp2_with fail
        go_ret
        exact ⟨rfl, HBN.out⟩
  by_cases k3 : kd = 3
  · subst k3
    by_cases ht : tp = 0
    · subst ht
      by_cases hl : 2 ≤ pl.length
      · have hRT : noSame (.mk 3 0 pl) pl = true → U.exFs pl = R := fun h => by rw [h] at hR2; simpa [hl] using hR2
        have hRF : noSame (.mk 3 0 pl) pl = false → 4 = R := fun h => by rw [h] at hR2; simpa using hR2
        have hl2 : (1 : Int) < (pl.length : Int) := by omega
        have HRT := Lib.hid hRT
        have HRF := Lib.hid hRF
        clear hRT hRF hR2 hl
        go_enter Try.func20, Try.ntmps20
        go_wp2_with fail
        go_loopw [52] (fun i wr => ∃ k : Nat, k ≤ pl.length ∧ i = .int .i64 k ∧ Below (w.heap.size + 1) (w.alloc (.cells #[.int .i64 3, .int .i64 0, .slice pa pl.length pcap] 24 (0, 0))) wr ∧ Hid (noSame (.mk 3 0 pl) (pl.take k) = true)) (fun i _ => pl.length - (intOf i).toNat)
        case atStart => exact ⟨0, Nat.zero_le _, rfl, Below.refl _ _, by show _ = _; rw [List.take_zero]; rfl⟩
        case round =>
          obtain ⟨k, hk, rfl, hbx, HNS⟩ := hrel
          have hsz : w.heap.size + 1 ≤ wr.heap.size := by have h := hbx.size; simp at h; exact h
          have hnb : w.heap.size ≠ wr.heap.size := by omega
          have hbw : Below w.heap.size w wr := HBN.out.trans (hbx.mono (by simp))
          have Q3 := Lib.hid ((hbx.block w.heap.size (Nat.lt_succ_self _)).trans HQ.out)
          have x0 := (ex_cells Q3.out).1
          have x1 := (ex_cells Q3.out).2.1
          have x2 := (ex_cells Q3.out).2.2
          by_cases hlt : k < pl.length
          · have hx := List.getElem?_eq_getElem hlt
            generalize pl[k]'hlt = y at hx
            obtain ⟨yk, yt, yp⟩ := y
            obtain ⟨g, o, cap2, qa, qcap, e0, hg, d0, d1, d2, hQ⟩ := HP.out.at hx
            injection e0 with e1 e2 e3
            subst e1
            have c0 : wr.cell? ⟨g, o + k * 3, none⟩ = some (.int .i64 yk) := (hbw.cell (p := ⟨g, o + k * 3, none⟩) hg).trans d0
            have c1 : wr.cell? ⟨g, o + k * 3 + 1, none⟩ = some (.int .i64 yt) := (hbw.cell (p := ⟨g, o + k * 3 + 1, none⟩) hg).trans d1
            have c2 : wr.cell? ⟨g, o + k * 3 + 2, none⟩ = some (.slice qa yp.length qcap) := (hbw.cell (p := ⟨g, o + k * 3 + 2, none⟩) hg).trans d2
            have hk0 : (0 : Int) ≤ (k : Int) := Int.natCast_nonneg _
            have hk1 : (k : Int) < (pl.length : Int) := by omega
            have q0 := fun O => (cell_alloc_oldE wr O ⟨w.heap.size, 0, none⟩ hsz).trans x0
            clear HRT IH x0 x1 x2
            by_cases hy : yk = 3
            · subst hy
              have h4 := HRF.out (noSame_no (x := .mk 3 0 pl) hx rfl (.inr rfl))
              subst h4
              clear HRF HNS hx d0 d1 d2 e2 e3 hQ
              go_wp2_with fail
              go_ret
              exact ⟨rfl, hbw.alloc hbw.size _⟩
            · have hyb : (yk == 3) = false := beq_eq_false_iff_ne.2 hy
              have hn2 : noSame (.mk 3 0 pl) (pl.take (k + 1)) = true := by
                rw [noSame_take hx, HNS.out]
                have : ((U.Ex.mk yk yt yp).kind == (U.Ex.mk 3 0 pl).kind) = false := beq_eq_false_iff_ne.2 hy
                rw [this]
                rfl
              have HN2 := Lib.hid hn2
              clear hn2 hx d0 d1 d2 e2 e3 hQ
              go_wp2_with fail
              go_roundw
              case rel => exact ⟨k + 1, by omega, by go_num, hbx.alloc hsz _, HN2.out⟩
              case measure => simp [intOf]; omega
          · have hz : ¬ (k : Int) < (pl.length : Int) := by omega
            have h3 := HNS.out
            rw [List.take_of_length_le (by omega)] at h3
            have hR5 := HRT.out h3
            have HR5 := Lib.hid hR5
            clear h3 hR5 HRT HRF HNS hlt
            go_wp2_with fail
            go_loopw [83] (fun i wr => ∃ k : Nat, k ≤ pl.length ∧ i = .int .i64 k ∧ Below w.heap.size w wr ∧ Hid (U.exFs (pl.drop k) = R)) (fun i _ => pl.length - (intOf i).toNat)
            case atStart => exact ⟨0, Nat.zero_le _, rfl, hbw, HR5.out⟩
            case round =>
              clear hbw hbx hnb hsz hk x0 x1 x2 Q3 hz
              obtain ⟨k, hk, rfl, hbw, HF⟩ := hrel
              by_cases hlt : k < pl.length
              · have hx := List.getElem?_eq_getElem hlt
                generalize pl[k]'hlt = y at hx
                obtain ⟨g, o, cap2, qa, qcap, e0, hg, d0, d1, d2, hQ⟩ := HP.out.at hx
                injection e0 with e1 e2 e3
                subst e1
                have c0 := (hbw.cell (p := ⟨g, o + k * 3, none⟩) hg).trans d0
                have c1 := (hbw.cell (p := ⟨g, o + k * 3 + 1, none⟩) hg).trans d1
                have c2 := (hbw.cell (p := ⟨g, o + k * 3 + 2, none⟩) hg).trans d2
                have hk0 : (0 : Int) ≤ (k : Int) := Int.natCast_nonneg _
                have hk1 : (k : Int) < (pl.length : Int) := by omega
                have hge := U.cntEs_get hx
                have hst := HF.out
                rw [U.exFs_drop hx] at hst
                have hRC := fun W (hB : Below w.heap.size w W) => IH.out (U.cntE y) (by omega) y (Nat.le_refl _) qa qcap W (hQ.below hB hB.size)
                unfold exVal at hRC
                have HBO := Lib.hid (fun O => hbw.alloc hbw.size O)
                generalize U.exF y = F at hRC hst
                by_cases hF0 : F = 0
                · rw [if_pos hF0] at hst
                  have hFz : ((F : Nat) : Int) = 0 := by omega
                  have HST := Lib.hid hst
                  have HRC := Lib.hid hRC
                  clear hRC hst hF0 hge hx hQ d0 d1 d2 e2 e3
                  go_wp2_with fail
                  refine (HRC.out _ (HBO.out _)).mono ?_
                  rintro e w4 ⟨rfl, hb4⟩
                  have t4 := (HBO.out _).trans (hb4.mono (HBO.out _).size)
                  clear hb4 HRC HBO
                  go_wp2_with fail
                  go_roundw
                  case rel => exact ⟨k + 1, by omega, by go_num, t4, HST.out⟩
                  case measure => simp [intOf]; omega
                · rw [if_neg hF0] at hst
                  subst hst
                  have hne2 : (((F : Nat) : Int) != 0) = true := bne_iff_ne.2 (by omega)
                  have HRC := Lib.hid hRC
                  clear hRC hF0 hge hx hQ d0 d1 d2 e2 e3
                  go_wp2_with fail
                  refine (HRC.out _ (HBO.out _)).mono ?_
                  rintro e w4 ⟨rfl, hb4⟩
                  have t4 := (HBO.out _).trans (hb4.mono (HBO.out _).size)
                  clear hb4 HRC HBO
                  go_wp2_with fail
                  go_ret
                  exact ⟨rfl, t4⟩
              · have hz : ¬ (k : Int) < (pl.length : Int) := by omega
                have h3 := HF.out
                rw [List.drop_eq_nil_of_le (by omega), U.exFs_nil] at h3
                subst h3
                go_wp2_with fail
                go_ret
                exact ⟨rfl, hbw⟩
      · have h4 : 4 = R := by simpa [hl] using hR2
        subst h4
        have hl2 : ¬ (1 : Int) < (pl.length : Int) := by omega
        clear hR2 IH HP hl
        go_enter Try.func20, Try.ntmps20
        go_wp2_with fail
        go_ret
        exact ⟨rfl, HBN.out⟩
    · have ht2 : (tp != 0) = true := bne_iff_ne.2 ht
      have h4 : 4 = R := by simpa [ht] using hR2
      subst h4
      clear hR2 IH HP
      by_cases hl : 2 ≤ pl.length
      · have hl2 : (1 : Int) < (pl.length : Int) := by omega
        clear hl
        go_enter Try.func20, Try.ntmps20
        go_wp2_with fail
        go_ret
        exact ⟨rfl, HBN.out⟩
      · have hl2 : ¬ (1 : Int) < (pl.length : Int) := by omega
        clear hl
        go_enter Try.func20, Try.ntmps20
        go_wp2_with fail
        go_ret
        exact ⟨rfl, HBN.out⟩
  by_cases ht : tp = 0
  · subst ht
    by_cases hl : pl.length = 1
    · have hRT : noSame (.mk kd 0 pl) pl = true → U.exFs pl = R := fun h => by rw [h] at hR2; simpa [hl, k1, k2, k3] using hR2
      have hRF : noSame (.mk kd 0 pl) pl = false → 4 = R := fun h => by rw [h] at hR2; simpa using hR2
      have hl2 : ((pl.length : Int) == 1) = true := beq_iff_eq.2 (by omega)
      have HRT := Lib.hid hRT
      have HRF := Lib.hid hRF
      clear hRT hRF hR2 hl
      go_enter Try.func20, Try.ntmps20
      go_wp2_with fail
      go_loopw [52] (fun i wr => ∃ k : Nat, k ≤ pl.length ∧ i = .int .i64 k ∧ Below (w.heap.size + 1) (w.alloc (.cells #[.int .i64 kd, .int .i64 0, .slice pa pl.length pcap] 24 (0, 0))) wr ∧ Hid (noSame (.mk kd 0 pl) (pl.take k) = true)) (fun i _ => pl.length - (intOf i).toNat)
      case atStart => exact ⟨0, Nat.zero_le _, rfl, Below.refl _ _, by show _ = _; rw [List.take_zero]; rfl⟩
      case round =>
        obtain ⟨k, hk, rfl, hbx, HNS⟩ := hrel
        have hsz : w.heap.size + 1 ≤ wr.heap.size := by have h := hbx.size; simp at h; exact h
        have hnb : w.heap.size ≠ wr.heap.size := by omega
        have hbw : Below w.heap.size w wr := HBN.out.trans (hbx.mono (by simp))
        have Q3 := Lib.hid ((hbx.block w.heap.size (Nat.lt_succ_self _)).trans HQ.out)
        have x0 := (ex_cells Q3.out).1
        have x1 := (ex_cells Q3.out).2.1
        have x2 := (ex_cells Q3.out).2.2
        by_cases hlt : k < pl.length
        · have hx := List.getElem?_eq_getElem hlt
          generalize pl[k]'hlt = y at hx
          obtain ⟨yk, yt, yp⟩ := y
          obtain ⟨g, o, cap2, qa, qcap, e0, hg, d0, d1, d2, hQ⟩ := HP.out.at hx
          injection e0 with e1 e2 e3
          subst e1
          have c0 : wr.cell? ⟨g, o + k * 3, none⟩ = some (.int .i64 yk) := (hbw.cell (p := ⟨g, o + k * 3, none⟩) hg).trans d0
          have c1 : wr.cell? ⟨g, o + k * 3 + 1, none⟩ = some (.int .i64 yt) := (hbw.cell (p := ⟨g, o + k * 3 + 1, none⟩) hg).trans d1
          have c2 : wr.cell? ⟨g, o + k * 3 + 2, none⟩ = some (.slice qa yp.length qcap) := (hbw.cell (p := ⟨g, o + k * 3 + 2, none⟩) hg).trans d2
          have hk0 : (0 : Int) ≤ (k : Int) := Int.natCast_nonneg _
          have hk1 : (k : Int) < (pl.length : Int) := by omega
          have q0 := fun O => (cell_alloc_oldE wr O ⟨w.heap.size, 0, none⟩ hsz).trans x0
          clear HRT IH x0 x1 x2
          have hn2 : noSame (.mk kd 0 pl) (pl.take (k + 1)) = true := by
            rw [noSame_take hx, HNS.out]
            have b2 : ((U.Ex.mk kd 0 pl).kind == 2) = false := beq_eq_false_iff_ne.2 k2
            have b3 : ((U.Ex.mk kd 0 pl).kind == 3) = false := beq_eq_false_iff_ne.2 k3
            rw [b2, b3]
            simp
          have HN2 := Lib.hid hn2
          clear hn2 hx d0 d1 d2 e2 e3 hQ
          by_cases hy : yk = kd
          · subst hy
            have b2 : (yk == 2) = false := beq_eq_false_iff_ne.2 k2
            have b3 : (yk == 3) = false := beq_eq_false_iff_ne.2 k3
            go_wp2_with fail
            go_roundw
            case rel => exact ⟨k + 1, by omega, by go_num, hbx.alloc hsz _, HN2.out⟩
            case measure => simp [intOf]; omega
          · have hyb : (yk == kd) = false := beq_eq_false_iff_ne.2 hy
            go_wp2_with fail
            go_roundw
            case rel => exact ⟨k + 1, by omega, by go_num, hbx.alloc hsz _, HN2.out⟩
            case measure => simp [intOf]; omega
        · have hz : ¬ (k : Int) < (pl.length : Int) := by omega
          have h3 := HNS.out
          rw [List.take_of_length_le (by omega)] at h3
          have hR5 := HRT.out h3
          have HR5 := Lib.hid hR5
          clear h3 hR5 HRT HRF HNS hlt
          go_wp2_with fail
          go_loopw [83] (fun i wr => ∃ k : Nat, k ≤ pl.length ∧ i = .int .i64 k ∧ Below w.heap.size w wr ∧ Hid (U.exFs (pl.drop k) = R)) (fun i _ => pl.length - (intOf i).toNat)
          case atStart => exact ⟨0, Nat.zero_le _, rfl, hbw, HR5.out⟩
          case round =>
            clear hbw hbx hnb hsz hk x0 x1 x2 Q3 hz
            obtain ⟨k, hk, rfl, hbw, HF⟩ := hrel
            by_cases hlt : k < pl.length
            · have hx := List.getElem?_eq_getElem hlt
              generalize pl[k]'hlt = y at hx
              obtain ⟨g, o, cap2, qa, qcap, e0, hg, d0, d1, d2, hQ⟩ := HP.out.at hx
              injection e0 with e1 e2 e3
              subst e1
              have c0 := (hbw.cell (p := ⟨g, o + k * 3, none⟩) hg).trans d0
              have c1 := (hbw.cell (p := ⟨g, o + k * 3 + 1, none⟩) hg).trans d1
              have c2 := (hbw.cell (p := ⟨g, o + k * 3 + 2, none⟩) hg).trans d2
              have hk0 : (0 : Int) ≤ (k : Int) := Int.natCast_nonneg _
              have hk1 : (k : Int) < (pl.length : Int) := by omega
              have hge := U.cntEs_get hx
              have hst := HF.out
              rw [U.exFs_drop hx] at hst
              have hRC := fun W (hB : Below w.heap.size w W) => IH.out (U.cntE y) (by omega) y (Nat.le_refl _) qa qcap W (hQ.below hB hB.size)
              unfold exVal at hRC
              have HBO := Lib.hid (fun O => hbw.alloc hbw.size O)
              generalize U.exF y = F at hRC hst
              by_cases hF0 : F = 0
              · rw [if_pos hF0] at hst
                have hFz : ((F : Nat) : Int) = 0 := by omega
                have HST := Lib.hid hst
                have HRC := Lib.hid hRC
                clear hRC hst hF0 hge hx hQ d0 d1 d2 e2 e3
                go_wp2_with fail
                refine (HRC.out _ (HBO.out _)).mono ?_
                rintro e w4 ⟨rfl, hb4⟩
                have t4 := (HBO.out _).trans (hb4.mono (HBO.out _).size)
                clear hb4 HRC HBO
                go_wp2_with fail
                go_roundw
                case rel => exact ⟨k + 1, by omega, by go_num, t4, HST.out⟩
                case measure => simp [intOf]; omega
              · rw [if_neg hF0] at hst
                subst hst
                have hne2 : (((F : Nat) : Int) != 0) = true := bne_iff_ne.2 (by omega)
                have HRC := Lib.hid hRC
                clear hRC hF0 hge hx hQ d0 d1 d2 e2 e3
                go_wp2_with fail
                refine (HRC.out _ (HBO.out _)).mono ?_
                rintro e w4 ⟨rfl, hb4⟩
                have t4 := (HBO.out _).trans (hb4.mono (HBO.out _).size)
                clear hb4 HRC HBO
                go_wp2_with fail
                go_ret
                exact ⟨rfl, t4⟩
            · have hz : ¬ (k : Int) < (pl.length : Int) := by omega
              have h3 := HF.out
              rw [List.drop_eq_nil_of_le (by omega), U.exFs_nil] at h3
              subst h3
              go_wp2_with fail
              go_ret
              exact ⟨rfl, hbw⟩
    · have h4 : 4 = R := by simpa [hl, k1, k2, k3] using hR2
      subst h4
      have hl2 : ((pl.length : Int) == 1) = false := beq_eq_false_iff_ne.2 (by omega)
      clear hR2 IH HP hl
      go_enter Try.func20, Try.ntmps20
      go_wp2_with fail
      go_ret
      exact ⟨rfl, HBN.out⟩
  · have ht2 : (tp != 0) = true := bne_iff_ne.2 ht
    have h4 : 4 = R := by simpa [ht, k1, k2, k3] using hR2
    subst h4
    clear hR2 IH HP
    by_cases hl : pl.length = 1
    · have hl2 : ((pl.length : Int) == 1) = true := beq_iff_eq.2 (by omega)
      clear hl
      go_enter Try.func20, Try.ntmps20
      go_wp2_with fail
      go_ret
      exact ⟨rfl, HBN.out⟩
    · have hl2 : ((pl.length : Int) == 1) = false := beq_eq_false_iff_ne.2 (by omega)
      clear hl
      go_enter Try.func20, Try.ntmps20
      go_wp2_with fail
      go_ret
      exact ⟨rfl, HBN.out⟩

end Go.Proofs.Ytfloeijklogcfaa

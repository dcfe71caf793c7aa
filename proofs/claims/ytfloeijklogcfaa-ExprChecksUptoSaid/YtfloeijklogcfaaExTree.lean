/- expr.checkTree. -/
import Derived.Test.YtfloeijklogcfaaExForm
namespace Go.Proofs.Ytfloeijklogcfaa
open Go.RowKit

set_option maxHeartbeats 8000000 in
set_option maxRecDepth 1000000 in
theorem check_tree (c : Nat) : ∀ (x : U.Ex), U.cntE x ≤ c → ∀ (pa : Option Addr) (pcap : Nat) (w : World), RdExs w (· < w.heap.size) (.slice pa x.parts.length pcap) x.parts →
    Calls Try.prog 18 #[exVal x (.slice pa x.parts.length pcap)] w fun e w' => e = .returned (.int .i64 (U.exF x : Nat)) ∧ Below w.heap.size w w' := by
  induction c using Nat.strongRecOn with
  | _ c ih =>
  intro x hc pa pcap w hP
  obtain ⟨R, hR⟩ : ∃ R, U.exF x = R := ⟨_, rfl⟩
  rw [hR]
  have hbN := (Below.refl w.heap.size w).alloc (Nat.le_refl _) (exObj x (.slice pa x.parts.length pcap))
  have HQ := Lib.hid (heap_alloc_new w (exObj x (.slice pa x.parts.length pcap)))
  have hHF := has_form x pa pcap _ (hP.below hbN hbN.size)
  have hHL := fun W => is_letter x.type W
  unfold exObj at hbN HQ hHF
  unfold exVal at hHF ⊢
  rw [U.exF_eq] at hR
  have HBN := Lib.hid hbN
  have HP := Lib.hid hP
  have hne := U.cntE_eq x
  have IH := Lib.hid ih
  have hz := hP.short
  clear hbN hP ih
  unfold U.Ex.own at hR
  by_cases hk : x.kind < 1 ∨ 6 < x.kind
  · rw [if_pos hk, if_neg (by decide)] at hR
    subst hR
    clear hHF hHL HP IH
    by_cases h1 : x.kind < 1
    · go_enter Try.func18, Try.ntmps18
      go_wp2_with fail
      go_ret
      exact ⟨rfl, HBN.out⟩
    · have h2 : 6 < x.kind := hk.resolve_left h1
      go_enter Try.func18, Try.ntmps18
      go_wp2_with fail
      go_ret
      exact ⟨rfl, HBN.out⟩
  have h1 : ¬ x.kind < 1 := fun h => hk (.inl h)
  have h2 : ¬ 6 < x.kind := fun h => hk (.inr h)
  rw [if_neg hk] at hR
  by_cases hf : x.form = false
  · rw [if_pos hf, if_neg (by decide)] at hR
    subst hR
    rw [hf] at hHF
    have HHF := Lib.hid hHF
    clear hHF hHL HP IH
    go_enter Try.func18, Try.ntmps18
    go_wp2_with (go_at_call 24; refine HHF.out.mono ?_; rintro e w2 ⟨rfl, hb2⟩)
    go_ret
    exact ⟨rfl, HBN.out.trans (hb2.mono HBN.out.size)⟩
  have hf1 : x.form = true := by
    cases h : x.form with
    | true => rfl
    | false => exact absurd h hf
  rw [hf1] at hHF
  rw [if_neg hf] at hR
  have HHF := Lib.hid hHF
  clear hHF hf hf1
  by_cases ht : 0 ≤ x.type ∧ x.type < 8
  · rw [if_pos ht, if_pos rfl] at hR
    have hdl : decide (0 ≤ x.type ∧ x.type < 8) = true := decide_eq_true ht
    rw [hdl] at hHL
    have HHL := Lib.hid hHL
    have HR := Lib.hid hR
    clear hHL hR hdl
    go_enter Try.func18, Try.ntmps18
    go_wp2_with fail
    refine HHF.out.mono ?_
    rintro e w2 ⟨rfl, hb2⟩
    have t2 := HBN.out.trans (hb2.mono HBN.out.size)
    have Q2 := Lib.hid ((hb2.block w.heap.size (by simp)).trans HQ.out)
    have u21 := (ex_cells Q2.out).2.1
    have u22 := (ex_cells Q2.out).2.2
    clear hb2 HHF HQ HBN
    go_wp2_with (go_at_call 25; refine (HHL.out _).mono ?_; rintro e w3 ⟨rfl, rfl⟩)
    clear HHL
    go_loopw [27] (fun i wr => ∃ k : Nat, k ≤ x.parts.length ∧ i = .int .i64 k ∧ Below w.heap.size w wr ∧ Hid (U.exFs (x.parts.drop k) = R)) (fun i _ => x.parts.length - (intOf i).toNat)
    case atStart => exact ⟨0, Nat.zero_le _, rfl, t2, HR.out⟩
    case round =>
      obtain ⟨k, hk, rfl, hbw, HF⟩ := hrel
      by_cases hlt : k < x.parts.length
      · have hx := List.getElem?_eq_getElem hlt
        generalize x.parts[k]'hlt = y at hx
        obtain ⟨g, o, cap2, qa, qcap, e0, hg, d0, d1, d2, hQ⟩ := HP.out.at hx
        injection e0 with e1 e2 e3
        subst e1
        have c0 := (hbw.cell (p := ⟨g, o + k * 3, none⟩) hg).trans d0
        have c1 := (hbw.cell (p := ⟨g, o + k * 3 + 1, none⟩) hg).trans d1
        have c2 := (hbw.cell (p := ⟨g, o + k * 3 + 2, none⟩) hg).trans d2
        have hk0 : (0 : Int) ≤ (k : Int) := Int.natCast_nonneg _
        have hk1 : (k : Int) < (x.parts.length : Int) := by omega
        have hge := U.cntEs_get hx
        have hst := HF.out
        rw [U.exFs_drop hx] at hst
        have hRC := fun W (hB : Below w.heap.size w W) => IH.out (U.cntE y) (by omega) y (Nat.le_refl _) qa qcap W (hQ.below hB hB.size)
        unfold exVal at hRC
        have HBO := Lib.hid (fun O => hbw.alloc hbw.size O)
        generalize U.exF y = F at hRC hst
        by_cases hF0 : F = 0
        · rw [if_pos hF0] at hst
          have hFz : ((F : Nat) : Int) = 0 := by omega
          have HST := Lib.hid hst
          have HRC := Lib.hid hRC
          clear hRC hst hF0 hge hx hQ d0 d1 d2 e2 e3
          go_wp2_with fail
          refine (HRC.out _ (HBO.out _)).mono ?_
          rintro e w4 ⟨rfl, hb4⟩
          have t4 := (HBO.out _).trans (hb4.mono (HBO.out _).size)
          clear hb4 HRC HBO
          go_wp2_with fail
          go_roundw
          case rel => exact ⟨k + 1, by omega, by go_num, t4, HST.out⟩
          case measure => simp [intOf]; omega
        · rw [if_neg hF0] at hst
          subst hst
          have hne2 : (((F : Nat) : Int) != 0) = true := bne_iff_ne.2 (by omega)
          have HRC := Lib.hid hRC
          clear hRC hF0 hge hx hQ d0 d1 d2 e2 e3
          go_wp2_with fail
          refine (HRC.out _ (HBO.out _)).mono ?_
          rintro e w4 ⟨rfl, hb4⟩
          have t4 := (HBO.out _).trans (hb4.mono (HBO.out _).size)
          clear hb4 HRC HBO
          go_wp2_with fail
          go_ret
          exact ⟨rfl, t4⟩
      · have hz : ¬ (k : Int) < (x.parts.length : Int) := by omega
        have h3 := HF.out
        rw [List.drop_eq_nil_of_le (by omega), U.exFs_nil] at h3
        subst h3
        go_wp2_with fail
        go_ret
        exact ⟨rfl, hbw⟩
  · rw [if_neg ht, if_neg (by decide)] at hR
    subst hR
    have hdl : decide (0 ≤ x.type ∧ x.type < 8) = false := decide_eq_false ht
    rw [hdl] at hHL
    have HHL := Lib.hid hHL
    clear hHL hdl HP IH
    go_enter Try.func18, Try.ntmps18
    go_wp2_with fail
    refine HHF.out.mono ?_
    rintro e w2 ⟨rfl, hb2⟩
    have t2 := HBN.out.trans (hb2.mono HBN.out.size)
    have Q2 := Lib.hid ((hb2.block w.heap.size (by simp)).trans HQ.out)
    have u21 := (ex_cells Q2.out).2.1
    clear hb2 HHF HQ HBN
    go_wp2_with (go_at_call 25; refine (HHL.out _).mono ?_; rintro e w3 ⟨rfl, rfl⟩)
    go_ret
    exact ⟨rfl, t2⟩

end Go.Proofs.Ytfloeijklogcfaa

/- expr.Check, expr.Print. -/
import Derived.Test.YtfloeijklogcfaaExTree
import Derived.Test.YtfloeijklogcfaaExText2
import Derived.Test.YtfloeijklogcfaaStrRow
namespace Go.Proofs.Ytfloeijklogcfaa
open Go.RowKit

set_option maxHeartbeats 4000000 in
set_option maxRecDepth 1000000 in
theorem expr_check (x : U.Ex) (pa : Option Addr) (pcap : Nat) (w : World) (hP : RdExs w (· < w.heap.size) (.slice pa x.parts.length pcap) x.parts) (hc : U.cntE x ≤ 1048576) :
    Calls Try.prog 7 #[exVal x (.slice pa x.parts.length pcap)] w fun e w' => e = .returned (.int .i64 (U.exFault x : Nat)) ∧ Below w.heap.size w w' := by
  have hbN := (Below.refl w.heap.size w).alloc (Nat.le_refl _) (exObj x (.slice pa x.parts.length pcap))
  have HQ := Lib.hid (heap_alloc_new w (exObj x (.slice pa x.parts.length pcap)))
  have hCT := fun W (hB : Below w.heap.size w W) => check_tree _ x (Nat.le_refl _) pa pcap W (hP.below hB hB.size)
  have hAT := fun (h0 : U.exF x = 0) W (hB : Below w.heap.size w W) => append_text _ x (Nat.le_refl _) h0 W.heap.size (.slice none 0 0) [] pa pcap W (World.ownsRow_nil _ _ _ _) (Nat.le_refl _) (hP.below hB hB.size) (by simp; omega)
  obtain ⟨R, hR⟩ : ∃ R, U.exFault x = R := ⟨_, rfl⟩
  rw [hR]
  unfold U.exFault at hR
  unfold TextAt at hAT
  unfold exObj at hbN HQ
  unfold exVal at hCT hAT ⊢
  have HBN := Lib.hid hbN
  have hl := U.exT_len 0 x
  obtain ⟨T, hT⟩ : ∃ T, U.exT 0 x = T := ⟨_, rfl⟩
  rw [hT] at hR hAT hl
  generalize hF : U.exF x = F at hCT hR hAT
  clear hP hbN hF hT
  by_cases hF0 : F = 0
  · subst hF0
    rw [if_pos rfl] at hR
    have HCT := Lib.hid hCT
    have HAT := Lib.hid (hAT rfl)
    have HR := Lib.hid hR
    clear hCT hAT hR
    go_enter Try.func7, Try.ntmps7
    go_wp2_with fail
    refine (HCT.out _ HBN.out).mono ?_
    rintro e w2 ⟨rfl, hb2⟩
    have t2 := HBN.out.trans (hb2.mono HBN.out.size)
    have Q2 := Lib.hid ((hb2.block w.heap.size (by simp)).trans HQ.out)
    have u20 := (ex_cells Q2.out).1
    have u21 := (ex_cells Q2.out).2.1
    have u22 := (ex_cells Q2.out).2.2
    clear hb2 HCT HQ HBN
    go_wp2_with fail
    refine (HAT.out _ t2).mono ?_
    rintro e w3 ⟨v3, rfl, h3⟩
    obtain ⟨ao3, n3, cap3, rfl, hn3⟩ := h3.form2
    have t3 := t2.trans (h3.below.mono t2.size)
    have hn4 : n3 = T.length := hn3
    have h1 := HR.out
    clear HAT h3 hn3 HR u20 u21 u22
    by_cases h40 : 40 < T.length
    · rw [if_pos h40] at h1
      subst h1
      have hz : (40 : Int) < (n3 : Int) := by omega
      clear hn4
      go_wp2_with fail
      go_ret
      exact ⟨rfl, t3⟩
    · rw [if_neg h40] at h1
      subst h1
      have hz : ¬ (40 : Int) < (n3 : Int) := by omega
      clear hn4
      go_wp2_with fail
      go_ret
      exact ⟨rfl, t3⟩
  · rw [if_neg hF0] at hR
    subst hR
    have hne2 : (((F : Nat) : Int) != 0) = true := bne_iff_ne.2 (by omega)
    have HCT := Lib.hid hCT
    clear hCT hAT hF0
    go_enter Try.func7, Try.ntmps7
    go_wp2_with fail
    refine (HCT.out _ HBN.out).mono ?_
    rintro e w2 ⟨rfl, hb2⟩
    have t2 := HBN.out.trans (hb2.mono HBN.out.size)
    clear hb2 HCT HQ HBN
    go_wp2_with fail
    go_ret
    exact ⟨rfl, t2⟩

theorem exF_of_fault {x : U.Ex} (h0 : U.exFault x = 0) : U.exF x = 0 := by
  by_cases h : U.exF x = 0
  · exact h
  · unfold U.exFault at h0
    rw [if_neg h] at h0
    exact h0
set_option maxHeartbeats 4000000 in
set_option maxRecDepth 1000000 in
theorem expr_print (x : U.Ex) (pa : Option Addr) (pcap : Nat) (w : World) (hP : RdExs w (· < w.heap.size) (.slice pa x.parts.length pcap) x.parts) (hc : U.cntE x ≤ 1048576) :
    Calls Try.prog 9 #[exVal x (.slice pa x.parts.length pcap)] w fun e w' => e = .returned (.tuple #[.string ⟨(U.exPrint x).1.toArray⟩, .int .i64 ((U.exPrint x).2 : Nat)]) ∧ Below w.heap.size w w' := by
  have hbN := (Below.refl w.heap.size w).alloc (Nat.le_refl _) (exObj x (.slice pa x.parts.length pcap))
  have HQ := Lib.hid (heap_alloc_new w (exObj x (.slice pa x.parts.length pcap)))
  have hCT := fun W (hB : Below w.heap.size w W) => expr_check x pa pcap W (hP.below hB hB.size) hc
  have hAT := fun (h0 : U.exFault x = 0) W (hB : Below w.heap.size w W) => append_text _ x (Nat.le_refl _) (exF_of_fault h0) W.heap.size (.slice none 0 0) [] pa pcap W (World.ownsRow_nil _ _ _ _) (Nat.le_refl _) (hP.below hB hB.size) (by simp; omega)
  obtain ⟨R, hR⟩ : ∃ R, U.exPrint x = R := ⟨_, rfl⟩
  rw [hR]
  unfold U.exPrint at hR
  unfold TextAt at hAT
  unfold exObj at hbN HQ
  unfold exVal at hCT hAT ⊢
  have HBN := Lib.hid hbN
  obtain ⟨T, hT⟩ : ∃ T, U.exT 0 x = T := ⟨_, rfl⟩
  rw [hT] at hR hAT
  generalize hF : U.exFault x = F at hCT hR hAT
  clear hP hbN hF hT
  by_cases hF0 : F = 0
  · subst hF0
    rw [if_pos rfl] at hR
    subst hR
    have HCT := Lib.hid hCT
    have HAT := Lib.hid (hAT rfl)
    clear hCT hAT
    go_enter Try.func9, Try.ntmps9
    go_wp2_with fail
    refine (HCT.out _ HBN.out).mono ?_
    rintro e w2 ⟨rfl, hb2⟩
    have t2 := HBN.out.trans (hb2.mono HBN.out.size)
    have Q2 := Lib.hid ((hb2.block w.heap.size (by simp)).trans HQ.out)
    have u20 := (ex_cells Q2.out).1
    have u21 := (ex_cells Q2.out).2.1
    have u22 := (ex_cells Q2.out).2.2
    clear hb2 HCT HQ HBN
    go_wp2_with fail
    refine (HAT.out _ t2).mono ?_
    rintro e w3 ⟨v3, rfl, h3⟩
    have ho := h3.own
    rw [List.nil_append] at ho
    have hcv := str_of_row ho
    obtain ⟨ao3, n3, cap3, rfl, hn3⟩ := h3.form2
    have t3 := t2.trans (h3.below.mono t2.size)
    clear HAT h3 hn3 u20 u21 u22 ho
    go_wp2_with fail
    go_ret2
    exact ⟨rfl, t3⟩
  · rw [if_neg hF0] at hR
    subst hR
    have hne2 : (((F : Nat) : Int) != 0) = true := bne_iff_ne.2 (by omega)
    have HCT := Lib.hid hCT
    clear hCT hAT hF0
    go_enter Try.func9, Try.ntmps9
    go_wp2_with fail
    refine (HCT.out _ HBN.out).mono ?_
    rintro e w2 ⟨rfl, hb2⟩
    have t2 := HBN.out.trans (hb2.mono HBN.out.size)
    clear hb2 HCT HQ HBN
    go_wp2_with fail
    go_ret2
    exact ⟨rfl, t2⟩

end Go.Proofs.Ytfloeijklogcfaa

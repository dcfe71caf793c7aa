/- emit.checkAt. -/
import Derived.Test.YtmfkefcdddoooaaHasForm
import Derived.Deep.RegionWith
namespace Go.Proofs.Ytmfkefcdddoooaa
open Go.RowKit

set_option maxHeartbeats 8000000 in
set_option maxRecDepth 1000000 in
theorem check_mid (ao : Option Addr) (cap : Nat) (l : List U.Tk) (k : Nat) (t : U.Tk) (w : World) (hL : RdKC w w.heap.size (.slice ao l.length cap) l) (hz : l.length ≤ most) (ht : l[k]? = some t) (hf : Fits most t) (hck : ¬ cap = k + 1) :
    Calls Try.prog 40 #[.slice ao l.length cap, .int .i64 (k : Int)] w fun e w' => e = .returned (.int .i64 (U.faultAt (U.endB (l.take k)) t (l.drop (k + 1)) : Nat)) ∧ Below w.heap.size w w' := by
  have hcap := hL.2.1.le
  have hzz : l.length ≤ 9223372036854775807 := hz
  obtain ⟨g, o, aoA, capA, rfl, hg, c0, c1, c2, c3, c4, hA, hcA⟩ := hL.at ht
  have hlt := (List.getElem?_eq_some_iff.1 ht).1
  have hk0 : (0 : Int) ≤ (k : Int) := Int.natCast_nonneg _
  have hk1 : (k : Int) < (l.length : Int) := by omega
  have hk2 : (k : Int) ≤ (cap : Int) := by omega
  have hk3 : (0 : Int) ≤ (k : Int) + 1 := by omega
  have hk4 : (k : Int) + 1 ≤ (l.length : Int) := by omega
  have hk5 : ((k : Int) + 1).toNat = k + 1 := by omega
  have hwr : IntKind.i64.wrap ((k : Int) + 1) = (k : Int) + 1 := by unfold IntKind.wrap; simp [IntKind.bits, IntKind.signed]; omega
  have hcz : ¬ cap = 0 := by omega
  have hn : t.attrs.length ≤ 9223372036854775807 := hf
  obtain ⟨R, hR⟩ : ∃ R, U.faultAt (U.endB (l.take k)) t (l.drop (k + 1)) = R := ⟨_, rfl⟩
  rw [hR]
  have HR := Lib.hid hR
  have HL := Lib.hid hL
  have HF := Lib.hid hf
  clear hR hL hf
  have hfm : ∀ (W : World) (_ : t.kind = 1 ∨ t.kind = 2 ∨ t.kind = 3 ∨ t.kind = 4), Below w.heap.size w W → Calls Try.prog 58 #[tkVal t aoA capA, .slice (some ⟨g, o, none⟩) k cap, .slice (some ⟨g, o + (k + 1) * 5, none⟩) (l.length - (k + 1)) (cap - (k + 1))] W
      fun e w' => e = .returned (.bool (U.formOk (U.endB (l.take k)) t (l.drop (k + 1)))) ∧ Below W.heap.size W w' := fun W hk hB =>
    has_form t aoA capA _ _ (l.take k) (l.drop (k + 1)) W (((HL.out.1.take k _ (by omega)).below hB).more hB.size) (((HL.out.1.drop (k + 1) (cap - (k + 1))).below hB).more hB.size) (by rw [List.length_take]; omega) hn hk
  unfold tkVal at hfm
  have HFM := Lib.hid hfm
  clear hfm
  by_cases k3 : t.kind = 3
  · have kk := k3
    have HK := Lib.hid (show t.kind = 1 ∨ t.kind = 2 ∨ t.kind = 3 ∨ t.kind = 4 from .inr (.inr (.inl kk)))
    clear k3
    have K := Lib.hid kk
    have b1 : (t.kind == 1) = false := by rw [kk]; rfl
    have b2 : (t.kind == 2) = false := by rw [kk]; rfl
    have b3 : (t.kind == 3) = true := by rw [kk]; rfl
    have b4 : (t.kind == 4) = false := by rw [kk]; rfl
    clear kk
    cases hfo : U.formOk (U.endB (l.take k)) t (l.drop (k + 1)) with
    | true =>
      rw [hfo] at HFM
      have h0 : R = 0 := by rw [← HR.out]; exact (U.faultAt_text (.inl K.out)).trans (U.form4_yes hfo)
      subst h0
      clear hfo
      go_enter Try.func40, Try.ntmps40
      go_wp2_with fail
      go_region_with (go_at_call 58; refine (HFM.out _ HK.out (((Below.refl _ w).alloc (Nat.le_refl _) _).drew)).mono ?_; rintro e w2 ⟨rfl, hb2⟩)
      go_wp2_with fail
      go_ret
      exact ⟨rfl, (((Below.refl _ w).alloc (Nat.le_refl _) _).drew).trans (hb2.mono (by simp))⟩
    | false =>
      rw [hfo] at HFM
      have h0 : R = 4 := by rw [← HR.out]; exact (U.faultAt_text (.inl K.out)).trans (U.form4_no hfo)
      subst h0
      clear hfo
      go_enter Try.func40, Try.ntmps40
      go_wp2_with fail
      go_region_with (go_at_call 58; refine (HFM.out _ HK.out (((Below.refl _ w).alloc (Nat.le_refl _) _).drew)).mono ?_; rintro e w2 ⟨rfl, hb2⟩)
      go_wp2_with fail
      go_ret
      exact ⟨rfl, (((Below.refl _ w).alloc (Nat.le_refl _) _).drew).trans (hb2.mono (by simp))⟩
  by_cases k4 : t.kind = 4
  · have kk := k4
    have HK := Lib.hid (show t.kind = 1 ∨ t.kind = 2 ∨ t.kind = 3 ∨ t.kind = 4 from .inr (.inr (.inr kk)))
    clear k3 k4
    have K := Lib.hid kk
    have b1 : (t.kind == 1) = false := by rw [kk]; rfl
    have b2 : (t.kind == 2) = false := by rw [kk]; rfl
    have b3 : (t.kind == 3) = false := by rw [kk]; rfl
    have b4 : (t.kind == 4) = true := by rw [kk]; rfl
    clear kk
    cases hfo : U.formOk (U.endB (l.take k)) t (l.drop (k + 1)) with
    | true =>
      rw [hfo] at HFM
      have h0 : R = 0 := by rw [← HR.out]; exact (U.faultAt_text (.inr K.out)).trans (U.form4_yes hfo)
      subst h0
      clear hfo
      go_enter Try.func40, Try.ntmps40
      go_wp2_with fail
      go_region_with (go_at_call 58; refine (HFM.out _ HK.out (((Below.refl _ w).alloc (Nat.le_refl _) _).drew)).mono ?_; rintro e w2 ⟨rfl, hb2⟩)
      go_wp2_with fail
      go_ret
      exact ⟨rfl, (((Below.refl _ w).alloc (Nat.le_refl _) _).drew).trans (hb2.mono (by simp))⟩
    | false =>
      rw [hfo] at HFM
      have h0 : R = 4 := by rw [← HR.out]; exact (U.faultAt_text (.inr K.out)).trans (U.form4_no hfo)
      subst h0
      clear hfo
      go_enter Try.func40, Try.ntmps40
      go_wp2_with fail
      go_region_with (go_at_call 58; refine (HFM.out _ HK.out (((Below.refl _ w).alloc (Nat.le_refl _) _).drew)).mono ?_; rintro e w2 ⟨rfl, hb2⟩)
      go_wp2_with fail
      go_ret
      exact ⟨rfl, (((Below.refl _ w).alloc (Nat.le_refl _) _).drew).trans (hb2.mono (by simp))⟩
  by_cases k2 : t.kind = 2
  · have kk := k2
    have HK := Lib.hid (show t.kind = 1 ∨ t.kind = 2 ∨ t.kind = 3 ∨ t.kind = 4 from .inr (.inl kk))
    clear k3 k4 k2
    have K := Lib.hid kk
    have b1 : (t.kind == 1) = false := by rw [kk]; rfl
    have b2 : (t.kind == 2) = true := by rw [kk]; rfl
    have b3 : (t.kind == 3) = false := by rw [kk]; rfl
    have b4 : (t.kind == 4) = false := by rw [kk]; rfl
    clear kk
    have hb4 := (Below.refl w.heap.size w).alloc (Nat.le_refl _) (.cells #[.int .i64 t.kind, .string ⟨t.name.toArray⟩, .slice aoA t.attrs.length capA, .bool t.self, .string ⟨t.text.toArray⟩] 31 (0, 0))
    have HQ := Lib.hid (heap_alloc_new w (.cells #[.int .i64 t.kind, .string ⟨t.name.toArray⟩, .slice aoA t.attrs.length capA, .bool t.self, .string ⟨t.text.toArray⟩] 31 (0, 0)))
    have hcn := check_names t aoA capA (w.alloc (.cells #[.int .i64 t.kind, .string ⟨t.name.toArray⟩, .slice aoA t.attrs.length capA, .bool t.self, .string ⟨t.text.toArray⟩] 31 (0, 0))) ((hA.keep fun p hp => hb4.cell hp).more hb4.size) hcA HF.out
    unfold tkVal at hcn
    by_cases hnf : U.namesFault t = 0
    · have hla : U.faultAt (U.endB (l.take k)) t (l.drop (k + 1)) = U.form4 (U.endB (l.take k)) t (l.drop (k + 1)) := by unfold U.faultAt; rw [if_pos (.inr K.out), if_pos hnf]
      have HLA := Lib.hid hla
      rw [hnf, show ((0 : Nat) : Int) = 0 from rfl] at hcn
      have HCN := Lib.hid hcn
      clear hcn hnf hla
      cases hfo : U.formOk (U.endB (l.take k)) t (l.drop (k + 1)) with
      | true =>
        rw [hfo] at HFM
        have h0 : R = 0 := by rw [← HR.out]; exact HLA.out.trans (U.form4_yes hfo)
        subst h0
        clear hfo
        go_enter Try.func40, Try.ntmps40
        go_wp2_with (go_at_call 57; refine HCN.out.mono ?_; rintro e w5 ⟨rfl, hb5⟩; have u0 : w5.cell? ⟨w.heap.size, 0, none⟩ = some (.int .i64 t.kind) := (hb5.cell (p := ⟨w.heap.size, 0, none⟩) (by simp)).trans (by rw [Lib.cell_of_heap HQ.out]; rfl); have u1 : w5.cell? ⟨w.heap.size, 1, none⟩ = some (.string ⟨t.name.toArray⟩) := (hb5.cell (p := ⟨w.heap.size, 1, none⟩) (by simp)).trans (by rw [Lib.cell_of_heap HQ.out]; rfl); have u2 : w5.cell? ⟨w.heap.size, 2, none⟩ = some (.slice aoA t.attrs.length capA) := (hb5.cell (p := ⟨w.heap.size, 2, none⟩) (by simp)).trans (by rw [Lib.cell_of_heap HQ.out]; rfl); have u3 : w5.cell? ⟨w.heap.size, 3, none⟩ = some (.bool t.self) := (hb5.cell (p := ⟨w.heap.size, 3, none⟩) (by simp)).trans (by rw [Lib.cell_of_heap HQ.out]; rfl); have u4 : w5.cell? ⟨w.heap.size, 4, none⟩ = some (.string ⟨t.text.toArray⟩) := (hb5.cell (p := ⟨w.heap.size, 4, none⟩) (by simp)).trans (by rw [Lib.cell_of_heap HQ.out]; rfl); have hb6 := hb4.trans (hb5.mono hb4.size))
        go_region_with (go_at_call 58; refine (HFM.out _ HK.out hb6.drew).mono ?_; rintro e w2 ⟨rfl, hb2⟩)
        go_wp2_with fail
        go_ret
        exact ⟨rfl, hb6.drew.trans (hb2.mono hb6.drew.size)⟩
      | false =>
        rw [hfo] at HFM
        have h0 : R = 4 := by rw [← HR.out]; exact HLA.out.trans (U.form4_no hfo)
        subst h0
        clear hfo
        go_enter Try.func40, Try.ntmps40
        go_wp2_with (go_at_call 57; refine HCN.out.mono ?_; rintro e w5 ⟨rfl, hb5⟩; have u0 : w5.cell? ⟨w.heap.size, 0, none⟩ = some (.int .i64 t.kind) := (hb5.cell (p := ⟨w.heap.size, 0, none⟩) (by simp)).trans (by rw [Lib.cell_of_heap HQ.out]; rfl); have u1 : w5.cell? ⟨w.heap.size, 1, none⟩ = some (.string ⟨t.name.toArray⟩) := (hb5.cell (p := ⟨w.heap.size, 1, none⟩) (by simp)).trans (by rw [Lib.cell_of_heap HQ.out]; rfl); have u2 : w5.cell? ⟨w.heap.size, 2, none⟩ = some (.slice aoA t.attrs.length capA) := (hb5.cell (p := ⟨w.heap.size, 2, none⟩) (by simp)).trans (by rw [Lib.cell_of_heap HQ.out]; rfl); have u3 : w5.cell? ⟨w.heap.size, 3, none⟩ = some (.bool t.self) := (hb5.cell (p := ⟨w.heap.size, 3, none⟩) (by simp)).trans (by rw [Lib.cell_of_heap HQ.out]; rfl); have u4 : w5.cell? ⟨w.heap.size, 4, none⟩ = some (.string ⟨t.text.toArray⟩) := (hb5.cell (p := ⟨w.heap.size, 4, none⟩) (by simp)).trans (by rw [Lib.cell_of_heap HQ.out]; rfl); have hb6 := hb4.trans (hb5.mono hb4.size))
        go_region_with (go_at_call 58; refine (HFM.out _ HK.out hb6.drew).mono ?_; rintro e w2 ⟨rfl, hb2⟩)
        go_wp2_with fail
        go_ret
        exact ⟨rfl, hb6.drew.trans (hb2.mono hb6.drew.size)⟩
    · have hla : R = U.namesFault t := by rw [← HR.out]; unfold U.faultAt; rw [if_pos (.inr K.out), if_neg hnf]
      have hne : (((U.namesFault t : Nat) : Int) != 0) = true := bne_iff_ne.2 (by omega)
      have HCN := Lib.hid hcn
      subst hla
      clear hcn hnf
      go_enter Try.func40, Try.ntmps40
      go_wp2_with (go_at_call 57; refine HCN.out.mono ?_; rintro e w5 ⟨rfl, hb5⟩)
      go_ret
      exact ⟨rfl, hb4.trans (hb5.mono hb4.size)⟩
  by_cases k1 : t.kind = 1
  · have kk := k1
    have HK := Lib.hid (show t.kind = 1 ∨ t.kind = 2 ∨ t.kind = 3 ∨ t.kind = 4 from .inl kk)
    clear k3 k4 k2 k1
    have K := Lib.hid kk
    have b1 : (t.kind == 1) = true := by rw [kk]; rfl
    have b2 : (t.kind == 2) = false := by rw [kk]; rfl
    have b3 : (t.kind == 3) = false := by rw [kk]; rfl
    have b4 : (t.kind == 4) = false := by rw [kk]; rfl
    clear kk
    have hb4 := (Below.refl w.heap.size w).alloc (Nat.le_refl _) (.cells #[.int .i64 t.kind, .string ⟨t.name.toArray⟩, .slice aoA t.attrs.length capA, .bool t.self, .string ⟨t.text.toArray⟩] 31 (0, 0))
    have HQ := Lib.hid (heap_alloc_new w (.cells #[.int .i64 t.kind, .string ⟨t.name.toArray⟩, .slice aoA t.attrs.length capA, .bool t.self, .string ⟨t.text.toArray⟩] 31 (0, 0)))
    have hcn := check_names t aoA capA (w.alloc (.cells #[.int .i64 t.kind, .string ⟨t.name.toArray⟩, .slice aoA t.attrs.length capA, .bool t.self, .string ⟨t.text.toArray⟩] 31 (0, 0))) ((hA.keep fun p hp => hb4.cell hp).more hb4.size) hcA HF.out
    unfold tkVal at hcn
    by_cases hnf : U.namesFault t = 0
    · have hla : U.faultAt (U.endB (l.take k)) t (l.drop (k + 1)) = U.form4 (U.endB (l.take k)) t (l.drop (k + 1)) := by unfold U.faultAt; rw [if_pos (.inl K.out), if_pos hnf]
      have HLA := Lib.hid hla
      rw [hnf, show ((0 : Nat) : Int) = 0 from rfl] at hcn
      have HCN := Lib.hid hcn
      clear hcn hnf hla
      cases hfo : U.formOk (U.endB (l.take k)) t (l.drop (k + 1)) with
      | true =>
        rw [hfo] at HFM
        have h0 : R = 0 := by rw [← HR.out]; exact HLA.out.trans (U.form4_yes hfo)
        subst h0
        clear hfo
        go_enter Try.func40, Try.ntmps40
        go_wp2_with (go_at_call 57; refine HCN.out.mono ?_; rintro e w5 ⟨rfl, hb5⟩; have u0 : w5.cell? ⟨w.heap.size, 0, none⟩ = some (.int .i64 t.kind) := (hb5.cell (p := ⟨w.heap.size, 0, none⟩) (by simp)).trans (by rw [Lib.cell_of_heap HQ.out]; rfl); have u1 : w5.cell? ⟨w.heap.size, 1, none⟩ = some (.string ⟨t.name.toArray⟩) := (hb5.cell (p := ⟨w.heap.size, 1, none⟩) (by simp)).trans (by rw [Lib.cell_of_heap HQ.out]; rfl); have u2 : w5.cell? ⟨w.heap.size, 2, none⟩ = some (.slice aoA t.attrs.length capA) := (hb5.cell (p := ⟨w.heap.size, 2, none⟩) (by simp)).trans (by rw [Lib.cell_of_heap HQ.out]; rfl); have u3 : w5.cell? ⟨w.heap.size, 3, none⟩ = some (.bool t.self) := (hb5.cell (p := ⟨w.heap.size, 3, none⟩) (by simp)).trans (by rw [Lib.cell_of_heap HQ.out]; rfl); have u4 : w5.cell? ⟨w.heap.size, 4, none⟩ = some (.string ⟨t.text.toArray⟩) := (hb5.cell (p := ⟨w.heap.size, 4, none⟩) (by simp)).trans (by rw [Lib.cell_of_heap HQ.out]; rfl); have hb6 := hb4.trans (hb5.mono hb4.size))
        go_region_with (go_at_call 58; refine (HFM.out _ HK.out hb6.drew).mono ?_; rintro e w2 ⟨rfl, hb2⟩)
        go_wp2_with fail
        go_ret
        exact ⟨rfl, hb6.drew.trans (hb2.mono hb6.drew.size)⟩
      | false =>
        rw [hfo] at HFM
        have h0 : R = 4 := by rw [← HR.out]; exact HLA.out.trans (U.form4_no hfo)
        subst h0
        clear hfo
        go_enter Try.func40, Try.ntmps40
        go_wp2_with (go_at_call 57; refine HCN.out.mono ?_; rintro e w5 ⟨rfl, hb5⟩; have u0 : w5.cell? ⟨w.heap.size, 0, none⟩ = some (.int .i64 t.kind) := (hb5.cell (p := ⟨w.heap.size, 0, none⟩) (by simp)).trans (by rw [Lib.cell_of_heap HQ.out]; rfl); have u1 : w5.cell? ⟨w.heap.size, 1, none⟩ = some (.string ⟨t.name.toArray⟩) := (hb5.cell (p := ⟨w.heap.size, 1, none⟩) (by simp)).trans (by rw [Lib.cell_of_heap HQ.out]; rfl); have u2 : w5.cell? ⟨w.heap.size, 2, none⟩ = some (.slice aoA t.attrs.length capA) := (hb5.cell (p := ⟨w.heap.size, 2, none⟩) (by simp)).trans (by rw [Lib.cell_of_heap HQ.out]; rfl); have u3 : w5.cell? ⟨w.heap.size, 3, none⟩ = some (.bool t.self) := (hb5.cell (p := ⟨w.heap.size, 3, none⟩) (by simp)).trans (by rw [Lib.cell_of_heap HQ.out]; rfl); have u4 : w5.cell? ⟨w.heap.size, 4, none⟩ = some (.string ⟨t.text.toArray⟩) := (hb5.cell (p := ⟨w.heap.size, 4, none⟩) (by simp)).trans (by rw [Lib.cell_of_heap HQ.out]; rfl); have hb6 := hb4.trans (hb5.mono hb4.size))
        go_region_with (go_at_call 58; refine (HFM.out _ HK.out hb6.drew).mono ?_; rintro e w2 ⟨rfl, hb2⟩)
        go_wp2_with fail
        go_ret
        exact ⟨rfl, hb6.drew.trans (hb2.mono hb6.drew.size)⟩
    · have hla : R = U.namesFault t := by rw [← HR.out]; unfold U.faultAt; rw [if_pos (.inl K.out), if_neg hnf]
      have hne : (((U.namesFault t : Nat) : Int) != 0) = true := bne_iff_ne.2 (by omega)
      have HCN := Lib.hid hcn
      subst hla
      clear hcn hnf
      go_enter Try.func40, Try.ntmps40
      go_wp2_with (go_at_call 57; refine HCN.out.mono ?_; rintro e w5 ⟨rfl, hb5⟩)
      go_ret
      exact ⟨rfl, hb4.trans (hb5.mono hb4.size)⟩
  have h0 : R = 3 := by rw [← HR.out]; exact U.faultAt_kind k1 k2 k3 k4
  subst h0
  have b1 : (t.kind == 1) = false := beq_eq_false_iff_ne.2 k1
  have b2 : (t.kind == 2) = false := beq_eq_false_iff_ne.2 k2
  have b3 : (t.kind == 3) = false := beq_eq_false_iff_ne.2 k3
  have b4 : (t.kind == 4) = false := beq_eq_false_iff_ne.2 k4
  clear k1 k2 k3 k4
  go_enter Try.func40, Try.ntmps40
  go_wp2_with fail
  go_ret
  exact ⟨rfl, (Below.refl _ w).alloc (Nat.le_refl _) _⟩

end Go.Proofs.Ytmfkefcdddoooaa

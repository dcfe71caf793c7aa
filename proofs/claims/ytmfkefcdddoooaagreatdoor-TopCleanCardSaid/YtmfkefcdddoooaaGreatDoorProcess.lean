/- (*builder).process. -/
import Derived.Test.YtmfkefcdddoooaaGreatDoorStart2
namespace Go.Proofs.YtmfkefcdddoooaaGreatDoor
open Go.RowKit

set_option maxRecDepth 100000 in
theorem process_start (N : Nat) (w : World) (bp : Nat) (s : U.Bst) (ov pv tv : Value) (outl opl : List NV) (h : TBld N w bp s ov pv tv outl opl) (hb : s.bulk ≤ 1048575) (ht : TxOk s) (hop : s.op.length ≤ 1048576) (hcnt : s.cnt ≤ 1048576)
    (kind : Int) (name : List UInt8) (ao : Option Addr) (n cap : Nat) (self : Bool) (text : List UInt8) (attrs : List U.Att) (hA : RdA w N (.slice ao n cap) attrs) (hal : attrs.length ≤ 1048576) :
    Calls Tryz.prog 71 #[.pointer (some ⟨bp, 0, none⟩), .agg #[.int .i64 kind, .string ⟨name.toArray⟩, .slice ao n cap, .bool self, .string ⟨text.toArray⟩]] w fun e w' => e = .returned (.tuple #[]) ∧ Became N bp w (mine ov pv tv opl) w' (s.start name attrs self) := by
  by_cases hd : (U.Bst.closeBefore ⟨s.out, s.op, s.tx, s.cnt, []⟩ name).op.length = 10
  · exact start_deep N w bp s ov pv tv outl opl h (by omega) ht hop kind name ao n cap self text attrs hd
  · exact start_more N w bp s ov pv tv outl opl h hb ht hop hcnt kind name ao n cap self text attrs hA hal hd

set_option maxHeartbeats 8000000 in
set_option maxRecDepth 1000000 in
theorem process_walk (N : Nat) (w : World) (bp : Nat) (s : U.Bst) (ov pv tv : Value) (outl opl : List NV) (h : TBld N w bp s ov pv tv outl opl) (hok : s.Ok) (hcnt : s.cnt ≤ 1000) (ht : TxOk s) (htl : s.tx.length ≤ 1023)
    (t : U.Tk) (ao : Option Addr) (n cap : Nat) (hA : RdA w N (.slice ao n cap) t.attrs) (hal : t.attrs.length ≤ 1048576) :
    Calls Tryz.prog 42 #[.pointer (some ⟨bp, 0, none⟩), .agg #[.int .i64 t.kind, .string ⟨t.name.toArray⟩, .slice ao n cap, .bool t.self, .string ⟨t.text.toArray⟩]] w fun e w' => e = .returned (.int .i64 ((s.stepE t).2 : Nat)) ∧ Became N bp w (mine ov pv tv opl) w' (s.stepE t).1 := by
  have hbu : s.bulk ≤ 1048575 := Nat.le_trans hok.bulk (by omega)
  have hop : s.op.length ≤ 1048576 := Nat.le_trans hok.deep (by omega)
  have hstep := U.Bst.step_ok hok t
  have hlt := h.lt
  have hbl := fun O => (Below.refl w.heap.size w).alloc (Nat.le_refl _) O
  have hB := Lib.hid (fun O => h.later (hbl O))
  have hF := Lib.hid (fun O => (Fr.later (bp := bp) (M := mine ov pv tv opl) (hbl O)))
  have hA2 := Lib.hid (fun O => hA.later ((hbl O).mono (by have := h.base; omega)))
  obtain ⟨kind, name, attrs, self, text⟩ := t
  by_cases k1 : kind = 1
  · subst k1
    have HP := Lib.hid (fun O => process_start N _ bp s ov pv tv outl opl (hB.out O) hbu ht hop (by omega) 1 name ao n cap self text attrs (hA2.out O) hal)
    have HS := Lib.hid (show s.step ⟨1, name, attrs, self, text⟩ = s.start name attrs self by unfold U.Bst.step; rw [if_pos rfl])
    have HSE := Lib.hid (show s.stepE ⟨1, name, attrs, self, text⟩ = (s.step ⟨1, name, attrs, self, text⟩, if 150 < (s.step ⟨1, name, attrs, self, text⟩).cnt then 1 else 0) by unfold U.Bst.stepE; rw [if_pos (.inl rfl)])
    clear hA h
    go_enter Tryz.func42, Tryz.ntmps42
    go_wp2_with fail
    refine (HP.out _).mono ?_
    rintro e w2 ⟨rfl, hK⟩
    rw [← HS.out] at hK
    obtain ⟨ov2, pv2, tv2, outl2, opl2, hB2, hF2⟩ := hK
    have HK := Lib.hid (show Became N bp w (mine ov pv tv opl) w2 (s.step ⟨1, name, attrs, self, text⟩) from ⟨_, _, _, _, _, hB2, (hF.out _).trans hF2⟩)
    obtain ⟨_, _, _, d3, _⟩ := hB2.cells
    have hc := hstep.2
    clear hB2 hF2 hstep
    by_cases h150 : 150 < (s.step ⟨1, name, attrs, self, text⟩).cnt
    · have hz : (150 : Int) < ((s.step ⟨1, name, attrs, self, text⟩).cnt : Int) := by omega
      have HQ := Lib.hid h150
      clear h150
      go_wp2_with fail
      go_ret
      refine ⟨?_, by rw [HSE.out]; exact HK.out⟩
      rw [HSE.out]
      show _ = Ending.returned (.int .i64 ((if 150 < (s.step ⟨1, name, attrs, self, text⟩).cnt then 1 else 0 : Nat) : Nat))
      rw [if_pos HQ.out]
      rfl
    · have hz : ¬ (150 : Int) < ((s.step ⟨1, name, attrs, self, text⟩).cnt : Int) := by omega
      have HQ := Lib.hid h150
      clear h150
      go_wp2_with fail
      go_ret
      refine ⟨?_, by rw [HSE.out]; exact HK.out⟩
      rw [HSE.out]
      show _ = Ending.returned (.int .i64 ((if 150 < (s.step ⟨1, name, attrs, self, text⟩).cnt then 1 else 0 : Nat) : Nat))
      rw [if_neg HQ.out]
      rfl
  by_cases k2 : kind = 2
  · subst k2
    have HP := Lib.hid (fun O => process_end N _ bp s ov pv tv outl opl (hB.out O) (by omega) ht hop name)
    have HS := Lib.hid (show s.step ⟨2, name, attrs, self, text⟩ = s.ends name by unfold U.Bst.step; rw [if_neg (show ¬ (2 : Int) = 1 by decide), if_pos rfl])
    have HSE := Lib.hid (show s.stepE ⟨2, name, attrs, self, text⟩ = (s.step ⟨2, name, attrs, self, text⟩, if 150 < (s.step ⟨2, name, attrs, self, text⟩).cnt then 1 else 0) by unfold U.Bst.stepE; rw [if_pos (.inr (.inl rfl))])
    clear hA h
    go_enter Tryz.func42, Tryz.ntmps42
    go_wp2_with fail
    refine (HP.out _).mono ?_
    rintro e w2 ⟨rfl, hK⟩
    rw [← HS.out] at hK
    obtain ⟨ov2, pv2, tv2, outl2, opl2, hB2, hF2⟩ := hK
    have HK := Lib.hid (show Became N bp w (mine ov pv tv opl) w2 (s.step ⟨2, name, attrs, self, text⟩) from ⟨_, _, _, _, _, hB2, (hF.out _).trans hF2⟩)
    obtain ⟨_, _, _, d3, _⟩ := hB2.cells
    have hc := hstep.2
    clear hB2 hF2 hstep
    by_cases h150 : 150 < (s.step ⟨2, name, attrs, self, text⟩).cnt
    · have hz : (150 : Int) < ((s.step ⟨2, name, attrs, self, text⟩).cnt : Int) := by omega
      have HQ := Lib.hid h150
      clear h150
      go_wp2_with fail
      go_ret
      refine ⟨?_, by rw [HSE.out]; exact HK.out⟩
      rw [HSE.out]
      show _ = Ending.returned (.int .i64 ((if 150 < (s.step ⟨2, name, attrs, self, text⟩).cnt then 1 else 0 : Nat) : Nat))
      rw [if_pos HQ.out]
      rfl
    · have hz : ¬ (150 : Int) < ((s.step ⟨2, name, attrs, self, text⟩).cnt : Int) := by omega
      have HQ := Lib.hid h150
      clear h150
      go_wp2_with fail
      go_ret
      refine ⟨?_, by rw [HSE.out]; exact HK.out⟩
      rw [HSE.out]
      show _ = Ending.returned (.int .i64 ((if 150 < (s.step ⟨2, name, attrs, self, text⟩).cnt then 1 else 0 : Nat) : Nat))
      rw [if_neg HQ.out]
      rfl
  by_cases k3 : kind = 3
  · subst k3
    have HP := Lib.hid (fun O => process_chars N _ bp s ov pv tv outl opl (hB.out O) htl hop (by omega) text)
    have HS := Lib.hid (show s.step ⟨3, name, attrs, self, text⟩ = s.chars text by unfold U.Bst.step; rw [if_neg (show ¬ (3 : Int) = 1 by decide), if_neg (show ¬ (3 : Int) = 2 by decide), if_pos rfl])
    have HSE := Lib.hid (show s.stepE ⟨3, name, attrs, self, text⟩ = (s.step ⟨3, name, attrs, self, text⟩, if 150 < (s.step ⟨3, name, attrs, self, text⟩).cnt then 1 else 0) by unfold U.Bst.stepE; rw [if_pos (.inr (.inr (.inl rfl)))])
    clear hA h
    go_enter Tryz.func42, Tryz.ntmps42
    go_wp2_with fail
    refine (HP.out _).mono ?_
    rintro e w2 ⟨rfl, hK⟩
    rw [← HS.out] at hK
    obtain ⟨ov2, pv2, tv2, outl2, opl2, hB2, hF2⟩ := hK
    have HK := Lib.hid (show Became N bp w (mine ov pv tv opl) w2 (s.step ⟨3, name, attrs, self, text⟩) from ⟨_, _, _, _, _, hB2, (hF.out _).trans hF2⟩)
    obtain ⟨_, _, _, d3, _⟩ := hB2.cells
    have hc := hstep.2
    clear hB2 hF2 hstep
    by_cases h150 : 150 < (s.step ⟨3, name, attrs, self, text⟩).cnt
    · have hz : (150 : Int) < ((s.step ⟨3, name, attrs, self, text⟩).cnt : Int) := by omega
      have HQ := Lib.hid h150
      clear h150
      go_wp2_with fail
      go_ret
      refine ⟨?_, by rw [HSE.out]; exact HK.out⟩
      rw [HSE.out]
      show _ = Ending.returned (.int .i64 ((if 150 < (s.step ⟨3, name, attrs, self, text⟩).cnt then 1 else 0 : Nat) : Nat))
      rw [if_pos HQ.out]
      rfl
    · have hz : ¬ (150 : Int) < ((s.step ⟨3, name, attrs, self, text⟩).cnt : Int) := by omega
      have HQ := Lib.hid h150
      clear h150
      go_wp2_with fail
      go_ret
      refine ⟨?_, by rw [HSE.out]; exact HK.out⟩
      rw [HSE.out]
      show _ = Ending.returned (.int .i64 ((if 150 < (s.step ⟨3, name, attrs, self, text⟩).cnt then 1 else 0 : Nat) : Nat))
      rw [if_neg HQ.out]
      rfl
  by_cases k4 : kind = 4
  · subst k4
    have HS := Lib.hid (show s.step ⟨4, name, attrs, self, text⟩ = s by unfold U.Bst.step; rw [if_neg (show ¬ (4 : Int) = 1 by decide), if_neg (show ¬ (4 : Int) = 2 by decide), if_neg (show ¬ (4 : Int) = 3 by decide)])
    have HSE := Lib.hid (show s.stepE ⟨4, name, attrs, self, text⟩ = (s.step ⟨4, name, attrs, self, text⟩, if 150 < (s.step ⟨4, name, attrs, self, text⟩).cnt then 1 else 0) by unfold U.Bst.stepE; rw [if_pos (.inr (.inr (.inr rfl)))])
    have HK := Lib.hid (fun O => (show Became N bp w (mine ov pv tv opl) (w.alloc O) (s.step ⟨4, name, attrs, self, text⟩) by rw [HS.out]; exact ⟨_, _, _, _, _, hB.out O, hF.out O⟩))
    obtain ⟨_, _, _, c3, _⟩ := h.cells
    have d3 := fun O => (cell_alloc_old w O ⟨bp, 3, none⟩ hlt).trans c3
    rw [← HS.out] at d3
    clear hA h hstep c3
    go_enter Tryz.func42, Tryz.ntmps42
    by_cases h150 : 150 < (s.step ⟨4, name, attrs, self, text⟩).cnt
    · have hz : (150 : Int) < ((s.step ⟨4, name, attrs, self, text⟩).cnt : Int) := by omega
      have HQ := Lib.hid h150
      clear h150
      go_wp2_with fail
      go_ret
      refine ⟨?_, by rw [HSE.out]; exact HK.out _⟩
      rw [HSE.out]
      show _ = Ending.returned (.int .i64 ((if 150 < (s.step ⟨4, name, attrs, self, text⟩).cnt then 1 else 0 : Nat) : Nat))
      rw [if_pos HQ.out]
      rfl
    · have hz : ¬ (150 : Int) < ((s.step ⟨4, name, attrs, self, text⟩).cnt : Int) := by omega
      have HQ := Lib.hid h150
      clear h150
      go_wp2_with fail
      go_ret
      refine ⟨?_, by rw [HSE.out]; exact HK.out _⟩
      rw [HSE.out]
      show _ = Ending.returned (.int .i64 ((if 150 < (s.step ⟨4, name, attrs, self, text⟩).cnt then 1 else 0 : Nat) : Nat))
      rw [if_neg HQ.out]
      rfl
  have HSE := Lib.hid (show s.stepE ⟨kind, name, attrs, self, text⟩ = (s, 3) by unfold U.Bst.stepE; rw [if_neg (by rintro (e | e | e | e); exact k1 e; exact k2 e; exact k3 e; exact k4 e)])
  have HK := Lib.hid (fun O => (show Became N bp w (mine ov pv tv opl) (w.alloc O) s from ⟨_, _, _, _, _, hB.out O, hF.out O⟩))
  have b1 : ((kind : Int) == 1) = false := by simpa using k1
  have b2 : ((kind : Int) == 2) = false := by simpa using k2
  have b3 : ((kind : Int) == 3) = false := by simpa using k3
  have b4 : ((kind : Int) == 4) = false := by simpa using k4
  clear hA h hstep k1 k2 k3 k4
  go_enter Tryz.func42, Tryz.ntmps42
  go_wp2_with fail
  go_ret
  exact ⟨by rw [HSE.out]; rfl, by rw [HSE.out]; exact HK.out _⟩

end Go.Proofs.YtmfkefcdddoooaaGreatDoor

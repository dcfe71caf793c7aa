/- Several texts in one: Process, Build. -/
import Derived.Test.YtankcnikebcpkaaGreatDoorStart2
namespace Go.Proofs.YtankcnikebcpkaaGreatDoor
open Go.RowKit

set_option maxRecDepth 100000 in
theorem process_start (N : Nat) (w : World) (bp : Nat) (s : U.Bst) (ov pv tv : Value) (outl opl : List NV) (h : TBld N w bp s ov pv tv outl opl) (hb : s.bulk ≤ 1048575) (ht : TxOk s) (hop : s.op.length ≤ 1048576) (hcnt : s.cnt ≤ 1048576)
    (kind : Int) (name : List UInt8) (ao : Option Addr) (n cap : Nat) (self : Bool) (text : List UInt8) (attrs : List U.Att) (hA : RdA w N (.slice ao n cap) attrs) (hal : attrs.length ≤ 1048576) :
    Calls Tryz.prog 69 #[.pointer (some ⟨bp, 0, none⟩), .agg #[.int .i64 kind, .string ⟨name.toArray⟩, .slice ao n cap, .bool self, .string ⟨text.toArray⟩]] w fun e w' => e = .returned (.tuple #[]) ∧ Became N bp w (mine ov pv tv opl) w' (s.start name attrs self) := by
  by_cases hd : (U.Bst.closeBefore ⟨s.out, s.op, s.tx, s.cnt, []⟩ name).op.length = 10
  · exact start_deep N w bp s ov pv tv outl opl h (by omega) ht hop kind name ao n cap self text attrs hd
  · exact start_more N w bp s ov pv tv outl opl h hb ht hop hcnt kind name ao n cap self text attrs hA hal hd

set_option maxHeartbeats 8000000 in
set_option maxRecDepth 1000000 in
theorem process_walk (N : Nat) (w : World) (bp : Nat) (s : U.Bst) (ov pv tv : Value) (outl opl : List NV) (h : TBld N w bp s ov pv tv outl opl) (hok : s.Ok) (hcnt : s.cnt ≤ 1000) (ht : TxOk s) (htl : s.tx.length ≤ 1023)
    (t : U.Tk) (ao : Option Addr) (n cap : Nat) (hA : RdA w N (.slice ao n cap) t.attrs) (hal : t.attrs.length ≤ 1048576) :
    Calls Tryz.prog 44 #[.pointer (some ⟨bp, 0, none⟩), .agg #[.int .i64 t.kind, .string ⟨t.name.toArray⟩, .slice ao n cap, .bool t.self, .string ⟨t.text.toArray⟩]] w fun e w' => e = .returned (.int .i64 ((s.stepE t).2 : Nat)) ∧ Became N bp w (mine ov pv tv opl) w' (s.stepE t).1 := by
  have hbu : s.bulk ≤ 1048575 := Nat.le_trans hok.bulk (by omega)
  have hop : s.op.length ≤ 1048576 := Nat.le_trans hok.deep (by omega)
  have hstep := U.Bst.step_ok hok t
  have hlt := h.lt
  have hbl := fun O => (Below.refl w.heap.size w).alloc (Nat.le_refl _) O
  have hB := Lib.hid (fun O => h.later (hbl O))
  have hF := Lib.hid (fun O => (Fr.later (bp := bp) (M := mine ov pv tv opl) (hbl O)))
  have hA2 := Lib.hid (fun O => hA.later ((hbl O).mono (by have := h.base; omega)))
  obtain ⟨kind, name, attrs, self, text⟩ := t
  by_cases k1 : kind = 1
  · subst k1
    have HP := Lib.hid (fun O => process_start N _ bp s ov pv tv outl opl (hB.out O) hbu ht hop (by omega) 1 name ao n cap self text attrs (hA2.out O) hal)
    have HS := Lib.hid (show s.step ⟨1, name, attrs, self, text⟩ = s.start name attrs self by unfold U.Bst.step; rw [if_pos rfl])
    have HSE := Lib.hid (show s.stepE ⟨1, name, attrs, self, text⟩ = (s.step ⟨1, name, attrs, self, text⟩, if 150 < (s.step ⟨1, name, attrs, self, text⟩).cnt then 1 else 0) by unfold U.Bst.stepE; rw [if_pos (.inl rfl)])
    clear hA h
    go_enter Tryz.func44, Tryz.ntmps44
    go_wp2_with fail
    refine (HP.out _).mono ?_
    rintro e w2 ⟨rfl, hK⟩
    rw [← HS.out] at hK
    obtain ⟨ov2, pv2, tv2, outl2, opl2, hB2, hF2⟩ := hK
    have HK := Lib.hid (show Became N bp w (mine ov pv tv opl) w2 (s.step ⟨1, name, attrs, self, text⟩) from ⟨_, _, _, _, _, hB2, (hF.out _).trans hF2⟩)
    obtain ⟨_, _, _, d3, _⟩ := hB2.cells
    have hc := hstep.2
    clear hB2 hF2 hstep
    by_cases h150 : 150 < (s.step ⟨1, name, attrs, self, text⟩).cnt
    · have hz : (150 : Int) < ((s.step ⟨1, name, attrs, self, text⟩).cnt : Int) := by omega
      have HQ := Lib.hid h150
      clear h150
      go_wp2_with fail
      go_ret
      refine ⟨?_, by rw [HSE.out]; exact HK.out⟩
      rw [HSE.out]
      show _ = Ending.returned (.int .i64 ((if 150 < (s.step ⟨1, name, attrs, self, text⟩).cnt then 1 else 0 : Nat) : Nat))
      rw [if_pos HQ.out]
      rfl
    · have hz : ¬ (150 : Int) < ((s.step ⟨1, name, attrs, self, text⟩).cnt : Int) := by omega
      have HQ := Lib.hid h150
      clear h150
      go_wp2_with fail
      go_ret
      refine ⟨?_, by rw [HSE.out]; exact HK.out⟩
      rw [HSE.out]
      show _ = Ending.returned (.int .i64 ((if 150 < (s.step ⟨1, name, attrs, self, text⟩).cnt then 1 else 0 : Nat) : Nat))
      rw [if_neg HQ.out]
      rfl
  by_cases k2 : kind = 2
  · subst k2
    have HP := Lib.hid (fun O => process_end N _ bp s ov pv tv outl opl (hB.out O) (by omega) ht hop name)
    have HS := Lib.hid (show s.step ⟨2, name, attrs, self, text⟩ = s.ends name by unfold U.Bst.step; rw [if_neg (show ¬ (2 : Int) = 1 by decide), if_pos rfl])
    have HSE := Lib.hid (show s.stepE ⟨2, name, attrs, self, text⟩ = (s.step ⟨2, name, attrs, self, text⟩, if 150 < (s.step ⟨2, name, attrs, self, text⟩).cnt then 1 else 0) by unfold U.Bst.stepE; rw [if_pos (.inr (.inl rfl))])
    clear hA h
    go_enter Tryz.func44, Tryz.ntmps44
    go_wp2_with fail
    refine (HP.out _).mono ?_
    rintro e w2 ⟨rfl, hK⟩
    rw [← HS.out] at hK
    obtain ⟨ov2, pv2, tv2, outl2, opl2, hB2, hF2⟩ := hK
    have HK := Lib.hid (show Became N bp w (mine ov pv tv opl) w2 (s.step ⟨2, name, attrs, self, text⟩) from ⟨_, _, _, _, _, hB2, (hF.out _).trans hF2⟩)
    obtain ⟨_, _, _, d3, _⟩ := hB2.cells
    have hc := hstep.2
    clear hB2 hF2 hstep
    by_cases h150 : 150 < (s.step ⟨2, name, attrs, self, text⟩).cnt
    · have hz : (150 : Int) < ((s.step ⟨2, name, attrs, self, text⟩).cnt : Int) := by omega
      have HQ := Lib.hid h150
      clear h150
      go_wp2_with fail
      go_ret
      refine ⟨?_, by rw [HSE.out]; exact HK.out⟩
      rw [HSE.out]
      show _ = Ending.returned (.int .i64 ((if 150 < (s.step ⟨2, name, attrs, self, text⟩).cnt then 1 else 0 : Nat) : Nat))
      rw [if_pos HQ.out]
      rfl
    · have hz : ¬ (150 : Int) < ((s.step ⟨2, name, attrs, self, text⟩).cnt : Int) := by omega
      have HQ := Lib.hid h150
      clear h150
      go_wp2_with fail
      go_ret
      refine ⟨?_, by rw [HSE.out]; exact HK.out⟩
      rw [HSE.out]
      show _ = Ending.returned (.int .i64 ((if 150 < (s.step ⟨2, name, attrs, self, text⟩).cnt then 1 else 0 : Nat) : Nat))
      rw [if_neg HQ.out]
      rfl
  by_cases k3 : kind = 3
  · subst k3
    have HP := Lib.hid (fun O => process_chars N _ bp s ov pv tv outl opl (hB.out O) htl hop (by omega) text)
    have HS := Lib.hid (show s.step ⟨3, name, attrs, self, text⟩ = s.chars text by unfold U.Bst.step; rw [if_neg (show ¬ (3 : Int) = 1 by decide), if_neg (show ¬ (3 : Int) = 2 by decide), if_pos rfl])
    have HSE := Lib.hid (show s.stepE ⟨3, name, attrs, self, text⟩ = (s.step ⟨3, name, attrs, self, text⟩, if 150 < (s.step ⟨3, name, attrs, self, text⟩).cnt then 1 else 0) by unfold U.Bst.stepE; rw [if_pos (.inr (.inr (.inl rfl)))])
    clear hA h
    go_enter Tryz.func44, Tryz.ntmps44
    go_wp2_with fail
    refine (HP.out _).mono ?_
    rintro e w2 ⟨rfl, hK⟩
    rw [← HS.out] at hK
    obtain ⟨ov2, pv2, tv2, outl2, opl2, hB2, hF2⟩ := hK
    have HK := Lib.hid (show Became N bp w (mine ov pv tv opl) w2 (s.step ⟨3, name, attrs, self, text⟩) from ⟨_, _, _, _, _, hB2, (hF.out _).trans hF2⟩)
    obtain ⟨_, _, _, d3, _⟩ := hB2.cells
    have hc := hstep.2
    clear hB2 hF2 hstep
    by_cases h150 : 150 < (s.step ⟨3, name, attrs, self, text⟩).cnt
    · have hz : (150 : Int) < ((s.step ⟨3, name, attrs, self, text⟩).cnt : Int) := by omega
      have HQ := Lib.hid h150
      clear h150
      go_wp2_with fail
      go_ret
      refine ⟨?_, by rw [HSE.out]; exact HK.out⟩
      rw [HSE.out]
      show _ = Ending.returned (.int .i64 ((if 150 < (s.step ⟨3, name, attrs, self, text⟩).cnt then 1 else 0 : Nat) : Nat))
      rw [if_pos HQ.out]
      rfl
    · have hz : ¬ (150 : Int) < ((s.step ⟨3, name, attrs, self, text⟩).cnt : Int) := by omega
      have HQ := Lib.hid h150
      clear h150
      go_wp2_with fail
      go_ret
      refine ⟨?_, by rw [HSE.out]; exact HK.out⟩
      rw [HSE.out]
      show _ = Ending.returned (.int .i64 ((if 150 < (s.step ⟨3, name, attrs, self, text⟩).cnt then 1 else 0 : Nat) : Nat))
      rw [if_neg HQ.out]
      rfl
  by_cases k4 : kind = 4
  · subst k4
    have HS := Lib.hid (show s.step ⟨4, name, attrs, self, text⟩ = s by unfold U.Bst.step; rw [if_neg (show ¬ (4 : Int) = 1 by decide), if_neg (show ¬ (4 : Int) = 2 by decide), if_neg (show ¬ (4 : Int) = 3 by decide)])
    have HSE := Lib.hid (show s.stepE ⟨4, name, attrs, self, text⟩ = (s.step ⟨4, name, attrs, self, text⟩, if 150 < (s.step ⟨4, name, attrs, self, text⟩).cnt then 1 else 0) by unfold U.Bst.stepE; rw [if_pos (.inr (.inr (.inr rfl)))])
    have HK := Lib.hid (fun O => (show Became N bp w (mine ov pv tv opl) (w.alloc O) (s.step ⟨4, name, attrs, self, text⟩) by rw [HS.out]; exact ⟨_, _, _, _, _, hB.out O, hF.out O⟩))
    obtain ⟨_, _, _, c3, _⟩ := h.cells
    have d3 := fun O => (cell_alloc_old w O ⟨bp, 3, none⟩ hlt).trans c3
    rw [← HS.out] at d3
    clear hA h hstep c3
    go_enter Tryz.func44, Tryz.ntmps44
    by_cases h150 : 150 < (s.step ⟨4, name, attrs, self, text⟩).cnt
    · have hz : (150 : Int) < ((s.step ⟨4, name, attrs, self, text⟩).cnt : Int) := by omega
      have HQ := Lib.hid h150
      clear h150
      go_wp2_with fail
      go_ret
      refine ⟨?_, by rw [HSE.out]; exact HK.out _⟩
      rw [HSE.out]
      show _ = Ending.returned (.int .i64 ((if 150 < (s.step ⟨4, name, attrs, self, text⟩).cnt then 1 else 0 : Nat) : Nat))
      rw [if_pos HQ.out]
      rfl
    · have hz : ¬ (150 : Int) < ((s.step ⟨4, name, attrs, self, text⟩).cnt : Int) := by omega
      have HQ := Lib.hid h150
      clear h150
      go_wp2_with fail
      go_ret
      refine ⟨?_, by rw [HSE.out]; exact HK.out _⟩
      rw [HSE.out]
      show _ = Ending.returned (.int .i64 ((if 150 < (s.step ⟨4, name, attrs, self, text⟩).cnt then 1 else 0 : Nat) : Nat))
      rw [if_neg HQ.out]
      rfl
  have HSE := Lib.hid (show s.stepE ⟨kind, name, attrs, self, text⟩ = (s, 3) by unfold U.Bst.stepE; rw [if_neg (by rintro (e | e | e | e); exact k1 e; exact k2 e; exact k3 e; exact k4 e)])
  have HK := Lib.hid (fun O => (show Became N bp w (mine ov pv tv opl) (w.alloc O) s from ⟨_, _, _, _, _, hB.out O, hF.out O⟩))
  have b1 : ((kind : Int) == 1) = false := by simpa using k1
  have b2 : ((kind : Int) == 2) = false := by simpa using k2
  have b3 : ((kind : Int) == 3) = false := by simpa using k3
  have b4 : ((kind : Int) == 4) = false := by simpa using k4
  clear hA h hstep k1 k2 k3 k4
  go_enter Tryz.func44, Tryz.ntmps44
  go_wp2_with fail
  go_ret
  exact ⟨by rw [HSE.out]; rfl, by rw [HSE.out]; exact HK.out _⟩

end Go.Proofs.YtankcnikebcpkaaGreatDoor

namespace Go.Proofs.YtankcnikebcpkaaGreatDoor
open Go.RowKit

theorem U.Bst.add_tx2 (s : U.Bst) (n : U.Nd) : (s.add n).tx = s.tx := U.Bst.add_tx s n
theorem closeLast_tx (s : U.Bst) (name : List UInt8) : (s.closeLast name).tx = s.tx ∨ (s.closeLast name).tx = [] := by
  unfold U.Bst.closeLast
  split
  · exact .inl rfl
  · unfold U.Bst.closeFrom
    cases s.op.length - (U.idx name s.op - 1) with
    | zero => exact .inl rfl
    | succ n => rw [U.Bst.popN_succ]; exact .inr (U.Bst.pop_tx _)
theorem closeBefore_tx (s : U.Bst) (name : List UInt8) : (s.closeBefore name).tx = s.tx ∨ (s.closeBefore name).tx = [] := by
  have h1 : (s.closePar name).tx = s.tx ∨ (s.closePar name).tx = [] := by
    unfold U.Bst.closePar
    split
    · exact closeLast_tx _ _
    · exact .inl rfl
  unfold U.Bst.closeBefore
  split
  · rcases closeLast_tx (s.closePar name) [108, 105] with h | h
    · rw [h]; exact h1
    · exact .inr h
  · exact h1
theorem step_tx (s : U.Bst) (t : U.Tk) : (s.step t).tx = s.tx ∨ (s.step t).tx = [] ∨ (s.step t).tx = s.tx ++ [t.text] := by
  unfold U.Bst.step
  split
  · unfold U.Bst.start U.Bst.start1
    have h0 := closeBefore_tx ⟨s.out, s.op, s.tx, s.cnt, []⟩ t.name
    have h1 : (U.Bst.closeBefore ⟨s.out, s.op, s.tx, s.cnt, []⟩ t.name).tx = s.tx ∨ (U.Bst.closeBefore ⟨s.out, s.op, s.tx, s.cnt, []⟩ t.name).tx = [] := h0
    split
    · split
      · rcases h1 with h | h
        · exact .inl h
        · exact .inr (.inl h)
      · rcases h1 with h | h
        · exact .inl h
        · exact .inr (.inl h)
    · right
      left
      unfold U.Bst.start2
      split
      · rw [U.Bst.add_tx]; exact U.Bst.endText_tx _
      · exact U.Bst.endText_tx _
  split
  · unfold U.Bst.ends
    rcases closeLast_tx (if s.hid = t.name then ({ s with hid := [] } : U.Bst) else s) t.name with h | h
    · left; rw [h]; split <;> rfl
    · exact .inr (.inl h)
  split
  · unfold U.Bst.chars
    split
    · exact .inl rfl
    · exact .inr (.inr rfl)
  · exact .inl rfl
theorem step_txok {s : U.Bst} {t : U.Tk} {k : Nat} (h : TxOk s) (hk : s.tx.length ≤ k) (hk2 : k + 1 ≤ 1024) (ht : t.text.length ≤ 1048576) : TxOk (s.step t) ∧ (s.step t).tx.length ≤ k + 1 := by
  rcases step_tx s t with e | e | e
  · exact ⟨⟨by rw [e]; exact h.1, by rw [e]; exact h.2⟩, by rw [e]; omega⟩
  · exact ⟨TxOk.of_nil e, by rw [e]; exact Nat.zero_le _⟩
  · refine ⟨⟨by rw [e, List.length_append, List.length_singleton]; omega, by
      rw [e]
      intro x hx
      rcases List.mem_append.1 hx with hx | hx
      · exact h.2 x hx
      · obtain rfl := List.mem_singleton.1 hx
        exact ht⟩, by rw [e, List.length_append, List.length_singleton]; omega⟩
theorem TBld.new (w : World) : TBld w.heap.size (w.alloc (.cells #[.slice none 0 0, .slice none 0 0, .slice none 0 0, .int .i64 0, .string ⟨#[]⟩] 86 (0, 0))) w.heap.size U.Bst.new (.slice none 0 0) (.slice none 0 0) (.slice none 0 0) [] [] :=
  ⟨Nat.le_refl _, heap_alloc_new w _, World.ownsRow_nil _ _ _ _, World.ownsRow_nil _ _ _ _, World.ownsRow_nil _ _ _ _, rfl, rfl, (fun x hx => by cases hx), (fun x hx => by cases hx), by
    refine List.pairwise_cons.2 ⟨fun b _ => .inl rfl, List.pairwise_cons.2 ⟨fun b hb => by simp at hb, List.Pairwise.nil⟩⟩⟩
/-- what is outside reads as it is to read -/
theorem TBld.out_rd {N : Nat} {w : World} {bp : Nat} {s : U.Bst} {ov pv tv : Value} {outl opl : List NV} (h : TBld N w bp s ov pv tv outl opl) : RdNs w (· < w.heap.size) ov s.out := by
  have := RdNs.of_own (S := (· < w.heap.size)) h.out (fun x hx => (h.dout x hx).keep (fun _ _ => rfl) (fun b hb => hb.1)) (fun g hg => (h.out.lt g hg).2)
  rwa [h.eout] at this

set_option maxHeartbeats 8000000 in
set_option maxRecDepth 1000000 in
theorem tree_build (w : World) (v : Value) (l : List U.Tk) (hR : RdK w w.heap.size v l) (hm : l.length ≤ 9223372036854775807) (hS : ∀ t ∈ l, t.text.length ≤ 1048576 ∧ t.attrs.length ≤ 1048576) :
    Calls Tryz.prog 29 #[v] w fun e w' => ∃ nv, e = .returned (.tuple #[nv, .int .i64 ((U.build l).2 : Nat)]) ∧ Below w.heap.size w w' ∧ RdNs w' (· < w'.heap.size) nv (U.build l).1 := by
  obtain ⟨ao, cap, rfl, hc⟩ := hR
  by_cases h300 : 300 < l.length
  · have hz : (300 : Int) < (l.length : Int) := by omega
    have HE := Lib.hid (show U.build l = ([], 1) by unfold U.build; rw [if_pos h300])
    clear h300 hc
    go_enter Tryz.func29, Tryz.ntmps29
    go_wp2_with fail
    go_ret2
    refine ⟨_, by rw [HE.out]; rfl, Below.refl _ _, by rw [HE.out]; exact RdNs.nil _ _⟩
  · have hz : ¬ (300 : Int) < (l.length : Int) := by omega
    have HE := Lib.hid (show U.build l = U.Bst.new.run l by unfold U.build; rw [if_neg h300])
    have H3 := Lib.hid h300
    have HC := Lib.hid hc
    have hB0 := TBld.new w
    have hb0 : Below w.heap.size w (w.alloc (.cells #[.slice none 0 0, .slice none 0 0, .slice none 0 0, .int .i64 0, .string ⟨#[]⟩] 86 (0, 0))) := (Below.refl w.heap.size w).alloc (Nat.le_refl _) _
    have H0 := Became.refl hB0
    have HX := Lib.hid (And.intro hB0 hb0)
    clear h300 hc hB0 hb0
    go_enter Tryz.func29, Tryz.ntmps29
    go_wp2_with fail
    go_loopw [13] (fun i wr => ∃ (k : Nat) (s : U.Bst), k ≤ l.length ∧ i = .int .i64 k ∧ Hid (Became w.heap.size w.heap.size (w.alloc (.cells #[.slice none 0 0, .slice none 0 0, .slice none 0 0, .int .i64 0, .string ⟨#[]⟩] 86 (0, 0))) (mine (.slice none 0 0) (.slice none 0 0) (.slice none 0 0) []) wr s) ∧ Hid (s.Ok ∧ s.cnt ≤ k ∧ TxOk s ∧ s.tx.length ≤ k ∧ U.Bst.new.run l = s.run (l.drop k))) (fun i _ => l.length - (intOf i).toNat)
    case atStart => exact ⟨0, U.Bst.new, Nat.zero_le _, rfl, H0, ⟨⟨Nat.zero_le _, Nat.zero_le _⟩, Nat.zero_le _, TxOk.of_nil rfl, Nat.zero_le _, rfl⟩⟩
    case round =>
      obtain ⟨k, s, hk, rfl, HK, HR⟩ := hrel
      obtain ⟨ov, pv, tv, outl, opl, hB, hF⟩ := HK.out
      obtain ⟨r1, r2, r3, r4, r5⟩ := HR.out
      have hbw : Below w.heap.size w wr := HX.out.2.trans (HX.out.1.below hF)
      have hl3 : l.length ≤ 300 := by have := H3.out; omega
      by_cases hlt : k < l.length
      · have hx := List.getElem?_eq_getElem hlt
        generalize l[k]'hlt = t at hx
        obtain ⟨g, o, av, rfl, hg, d0, d1, d2, d3, d4, hA⟩ := HC.out k t hx
        have hSm := hS t (List.mem_of_getElem? hx)
        obtain ⟨aa, acap, rfl⟩ : ∃ aa acap, av = .slice aa t.attrs.length acap := by obtain ⟨a, b, e, _⟩ := hA; exact ⟨a, b, e⟩
        have e0 := (hbw.cell (p := ⟨g, o + k * 5, none⟩) hg).trans d0
        have e1 := (hbw.cell (p := ⟨g, o + k * 5 + 1, none⟩) hg).trans d1
        have e2 := (hbw.cell (p := ⟨g, o + k * 5 + 2, none⟩) hg).trans d2
        have e3 := (hbw.cell (p := ⟨g, o + k * 5 + 3, none⟩) hg).trans d3
        have e4 := (hbw.cell (p := ⟨g, o + k * 5 + 4, none⟩) hg).trans d4
        have hbl := fun O => (Below.refl wr.heap.size wr).alloc (Nat.le_refl _) O
        have HP := Lib.hid (fun O => process_walk w.heap.size _ w.heap.size s ov pv tv outl opl (hB.later (hbl O)) r1 (by omega) r3 (by omega) t aa t.attrs.length acap ((hA.later hbw).later ((hbl O).mono hbw.size)) hSm.2)
        have hFF := Lib.hid (fun O => hF.trans (Fr.later (hbl O)))
        have hd : l.drop k = t :: l.drop (k + 1) := by
          obtain ⟨h1, h2⟩ := List.getElem?_eq_some_iff.1 hx
          rw [← h2]
          exact List.drop_eq_getElem_cons h1
        rw [hd] at r5
        have hlz : (k : Int) < (l.length : Int) := by omega
        have HX2 := Lib.hid hx
        have HSm := Lib.hid hSm
        have HR2 := Lib.hid (And.intro r1 (And.intro r2 (And.intro r3 (And.intro r4 r5))))
        clear d0 d1 d2 d3 d4 hA hB hF hbl hd hx HK HR r1 r2 r3 r4 r5 hSm
        go_wp2_with fail
        refine (HP.out _).mono ?_
        rintro e w2 ⟨rfl, hK⟩
        have HK2 := Lib.hid (show Became w.heap.size w.heap.size (w.alloc (.cells #[.slice none 0 0, .slice none 0 0, .slice none 0 0, .int .i64 0, .string ⟨#[]⟩] 86 (0, 0))) (mine (.slice none 0 0) (.slice none 0 0) (.slice none 0 0) []) w2 (s.stepE t).1 by
          obtain ⟨ov9, pv9, tv9, outl9, opl9, hB9, hF9⟩ := hK
          exact ⟨_, _, _, _, _, hB9, (hFF.out _).trans hF9⟩)
        clear hK
        by_cases he : (s.stepE t).2 = 0
        · have hz0 : ((s.stepE t).2 : Int) = 0 := by omega
          have HN := Lib.hid (show (s.stepE t).1.Ok ∧ (s.stepE t).1.cnt ≤ k + 1 ∧ TxOk (s.stepE t).1 ∧ (s.stepE t).1.tx.length ≤ k + 1 ∧ U.Bst.new.run l = (s.stepE t).1.run (l.drop (k + 1)) by
            obtain ⟨r1, r2, r3, r4, r5⟩ := HR2.out
            have h1 := U.Bst.step_ok r1 t
            have h2 := step_txok (t := t) r3 r4 (by omega) HSm.out.1
            refine ⟨?_, ?_, ?_, ?_, ?_⟩
            · unfold U.Bst.stepE; split
              · exact h1.1
              · exact r1
            · unfold U.Bst.stepE; split
              · exact Nat.le_trans h1.2 (by omega)
              · exact Nat.le_trans r2 (by omega)
            · unfold U.Bst.stepE; split
              · exact h2.1
              · exact r3
            · unfold U.Bst.stepE; split
              · exact h2.2
              · exact Nat.le_trans r4 (by omega)
            · rw [r5, U.Bst.run, if_pos he])
          clear he
          go_wp2_with fail
          go_roundw
          case rel => exact ⟨k + 1, (s.stepE t).1, by omega, by go_num, HK2, HN⟩
          case measure => simp [intOf]; omega
        · have hz0 : ¬ ((s.stepE t).2 : Int) = 0 := by omega
          have HQ := Lib.hid (show U.build l = ([], (s.stepE t).2) by
            rw [HE.out, HR2.out.2.2.2.2, U.Bst.run, if_neg he])
          have HBW := Lib.hid (show Below w.heap.size w w2 by
            obtain ⟨ov9, pv9, tv9, outl9, opl9, hB9, hF9⟩ := HK2.out
            exact HX.out.2.trans (HX.out.1.below hF9))
          clear he
          go_wp2_with fail
          go_ret2
          exact ⟨_, by rw [HQ.out]; rfl, HBW.out, by rw [HQ.out]; exact RdNs.nil _ _⟩
      · obtain rfl : k = l.length := by omega
        have hlz : ¬ (l.length : Int) < (l.length : Int) := by omega
        have HQ := Lib.hid (show U.build l = (s.done, 0) by rw [HE.out, r5, List.drop_length, U.Bst.run])
        have HP := Lib.hid (close_from w.heap.size wr w.heap.size s ov pv tv outl opl hB (Nat.le_trans r1.bulk (by omega)) r3 (Nat.le_trans r1.deep (by omega)) 0 (Nat.zero_le _))
        have hbk : (s.closeFrom 0).bulk ≤ 1048576 := Nat.le_trans (U.Bst.popN_bulk _ _) (Nat.le_trans r1.bulk (by omega))
        have htk : TxOk (s.closeFrom 0) := by
          unfold U.Bst.closeFrom
          cases s.op.length - 0 with
          | zero => exact r3
          | succ n => rw [U.Bst.popN_succ]; exact TxOk.of_nil (U.Bst.pop_tx _)
        have HF := Lib.hid hF
        clear hB hF r1 r2 r3 r4 r5 HK HR
        go_wp2_with fail
        refine HP.out.mono ?_
        rintro e w2 ⟨rfl, hK⟩
        obtain ⟨ov2, pv2, tv2, outl2, opl2, hB2, hF2⟩ := hK
        have HP2 := Lib.hid (end_text w.heap.size w2 w.heap.size _ ov2 pv2 tv2 outl2 opl2 hB2 hbk htk)
        have HF2 := Lib.hid (HF.out.trans hF2)
        clear hB2 hF2
        go_wp2_with fail
        refine HP2.out.mono ?_
        rintro e w3 ⟨rfl, hK⟩
        obtain ⟨ov3, pv3, tv3, outl3, opl3, hB3, hF3⟩ := hK
        have HZ := Lib.hid (And.intro (HX.out.2.trans (HX.out.1.below (HF2.out.trans hF3))) hB3.out_rd)
        obtain ⟨d0, _, _, _, _⟩ := hB3.cells
        obtain ⟨oo, ocap, rfl⟩ := own_form hB3.out
        clear hB3 hF3
        go_wp2_with fail
        go_ret2
        exact ⟨_, by rw [HQ.out]; rfl, HZ.out.1, by rw [HQ.out]; exact HZ.out.2⟩

end Go.Proofs.YtankcnikebcpkaaGreatDoor

/- The reference: exprText at an expression of the kind 5. -/
import Derived.Test.YtfloeijklogcfaaExForm
namespace Go.Proofs.Ytfloeijklogcfaa
open Go.RowKit

theorem cell_old5 (w : World) (o : Obj) (p : Addr) (h : p.block < w.heap.size) : (w.alloc o).cell? p = w.cell? p := ((Below.refl w.heap.size w).alloc (Nat.le_refl _) o).cell h
set_option maxHeartbeats 16000000 in
set_option maxRecDepth 1000000 in
theorem ref_sign5 (tp b : Int) (g o pcap : Nat) (yk yt : Int) (qv : Value) (w : World) (T0 : List UInt8) (hl : T0.length ≤ 4194304) (hg : g < w.heap.size)
    (d0 : w.cell? ⟨g, o, none⟩ = some (.int .i64 yk)) (d1 : w.cell? ⟨g, o + 1, none⟩ = some (.int .i64 yt)) (d2 : w.cell? ⟨g, o + 2, none⟩ = some qv)
    (HRC : Hid (∀ W, Below w.heap.size w W → Calls Try.prog 21 #[.agg #[.int .i64 yk, .int .i64 yt, qv], .int .i64 2] W fun e w' => (∃ T : ByteArray, e = .returned (.string T) ∧ T.data.toList = T0) ∧ Below W.heap.size W w')) :
    Calls Try.prog 21 #[.agg #[.int .i64 5, .int .i64 tp, .slice (some ⟨g, o, none⟩) 1 pcap], .int .i64 b] w fun e w' => (∃ T : ByteArray, e = .returned (.string T) ∧ T.data.toList = T0 ++ [43]) ∧ Below w.heap.size w w' := by
  have HBN := Lib.hid ((Below.refl w.heap.size w).alloc (Nat.le_refl _) (.cells #[.int .i64 5, .int .i64 tp, .slice (some ⟨g, o, none⟩) 1 pcap] 24 (0, 0)))
  have HQ := Lib.hid (heap_alloc_new w (.cells #[.int .i64 5, .int .i64 tp, .slice (some ⟨g, o, none⟩) 1 pcap] 24 (0, 0)))
  have HBD := Lib.hid (HBN.out.drew)
  have HBL := Lib.hid ((HBN.out.alloc (by simp) (.cells #[.string ⟨#[42]⟩, .string ⟨#[43]⟩, .string ⟨#[63]⟩] 9 (0, 0))).drew)
  have HX2 : Hid (((w.alloc (.cells #[.int .i64 5, .int .i64 tp, .slice (some ⟨g, o, none⟩) 1 pcap] 24 (0, 0))).alloc (.cells #[.string ⟨#[42]⟩, .string ⟨#[43]⟩, .string ⟨#[63]⟩] 9 (0, 0))).drew.heap[w.heap.size]? = some (.cells #[.int .i64 5, .int .i64 tp, .slice (some ⟨g, o, none⟩) 1 pcap] 24 (0, 0))) := (Lib.alloc_old _ _ w.heap.size (by simp)).trans HQ.out
  have HL2 : Hid (((w.alloc (.cells #[.int .i64 5, .int .i64 tp, .slice (some ⟨g, o, none⟩) 1 pcap] 24 (0, 0))).alloc (.cells #[.string ⟨#[42]⟩, .string ⟨#[43]⟩, .string ⟨#[63]⟩] 9 (0, 0))).drew.heap[w.heap.size + 1]? = some (.cells #[.string ⟨#[42]⟩, .string ⟨#[43]⟩, .string ⟨#[63]⟩] 9 (0, 0))) := by
    have h := heap_alloc_new (w.alloc (.cells #[.int .i64 5, .int .i64 tp, .slice (some ⟨g, o, none⟩) 1 pcap] 24 (0, 0))) (.cells #[.string ⟨#[42]⟩, .string ⟨#[43]⟩, .string ⟨#[63]⟩] 9 (0, 0))
    have e : (w.alloc (.cells #[.int .i64 5, .int .i64 tp, .slice (some ⟨g, o, none⟩) 1 pcap] 24 (0, 0))).heap.size = w.heap.size + 1 := by simp
    rw [e] at h
    exact h
  have HS2 : Hid (w.heap.size + 1 < ((w.alloc (.cells #[.int .i64 5, .int .i64 tp, .slice (some ⟨g, o, none⟩) 1 pcap] 24 (0, 0))).alloc (.cells #[.string ⟨#[42]⟩, .string ⟨#[43]⟩, .string ⟨#[63]⟩] 9 (0, 0))).drew.heap.size) := by
    show w.heap.size + 1 < ((w.alloc (.cells #[.int .i64 5, .int .i64 tp, .slice (some ⟨g, o, none⟩) 1 pcap] 24 (0, 0))).alloc (.cells #[.string ⟨#[42]⟩, .string ⟨#[43]⟩, .string ⟨#[63]⟩] 9 (0, 0))).heap.size
    simp
  have q0 := fun O => (cell_old5 w O ⟨g, o, none⟩ hg).trans d0
  have q1 := fun O => (cell_old5 w O ⟨g, o + 1, none⟩ hg).trans d1
  have q2 := fun O => (cell_old5 w O ⟨g, o + 2, none⟩ hg).trans d2
  have HL := Lib.hid hl
  have HG := Lib.hid (show w.heap.size < (w.alloc (.cells #[.int .i64 5, .int .i64 tp, .slice (some ⟨g, o, none⟩) 1 pcap] 24 (0, 0))).heap.size by simp)
  clear d0 d1 d2 hl
  go_enter Try.func21, Try.ntmps21
  go_wp2_with fail
  go_region_with (go_at_call 21; first
    | (refine (HRC.out _ HBD.out).mono ?_; rintro e w3 ⟨⟨T2, rfl, hT2⟩, hb3⟩; have t3 := Lib.hid (HBD.out.trans (hb3.mono HBD.out.size)); have u30 := (ex_cells ((hb3.block w.heap.size HG.out).trans HQ.out)).1; have hlt3 : w.heap.size < w3.heap.size := (Nat.lt_of_lt_of_le HG.out hb3.size); have u31 := fun O => (cell_old5 w3 O ⟨w.heap.size, 0, none⟩ hlt3).trans u30; have q5 : ¬ 9223372036854775807 < T2.size + 1 := (by have h1 := HL.out; rw [← hT2, Array.length_toList] at h1; have h2 : T2.data.size = T2.size := rfl; omega); have HT2 := Lib.hid hT2; clear hT2 hb3 HBL HX2 HL2 HS2 HBD HRC q0 q1 q2)
    | (refine (HRC.out _ HBL.out).mono ?_; rintro e w3 ⟨⟨T2, rfl, hT2⟩, hb3⟩; have t3 := Lib.hid (HBL.out.trans (hb3.mono HBL.out.size)); have u30 := (ex_cells ((hb3.block w.heap.size (Nat.lt_of_succ_lt HS2.out)).trans HX2.out)).1; have v30 := ex_cells ((hb3.block (w.heap.size + 1) HS2.out).trans HL2.out); have v31 := v30.1; have v32 := v30.2.1; have v33 := v30.2.2; clear v30; have q5 : ¬ 9223372036854775807 < T2.size + 1 := (by have h1 := HL.out; rw [← hT2, Array.length_toList] at h1; have h2 : T2.data.size = T2.size := rfl; omega); have HT2 := Lib.hid hT2; clear hT2 hb3 HBL HX2 HL2 HS2 HBD HRC q0 q1 q2))
  all_goals
    have HBO := Lib.hid (fun O => t3.out.alloc t3.out.size O)
    go_wp2_with fail
    go_ret
    refine ⟨⟨_, rfl, ?_⟩, ?_⟩
    · rw [← HT2.out]; simp
    · first | exact t3.out | exact HBO.out _

end Go.Proofs.Ytfloeijklogcfaa

/- slices.ContainsFunc over expressions; expr.hasForm, expr.isLetter. -/
import Derived.Test.YtfloeijklogcfaaEx
import Derived.WalkSpells
import Derived.Deep.QuietTactic
import Derived.Deep.RegionWith
import Derived.BigQuiet
import Derived.Deep.Quiet
import Derived.Handy
import Derived.Outline
import Derived.Shelf.Abstract
import Derived.Laws.EntriesVeiled
namespace Go.Proofs.Ytfloeijklogcfaa
open Go.RowKit

def exObj (x : U.Ex) (pv : Value) : Obj := .cells #[.int .i64 x.kind, .int .i64 x.type, pv] 24 (0, 0)
theorem ex_cells {w : World} {b : Nat} {x0 x1 x2 : Value} {T : TypeId} {f : Nat × Nat} (h : w.heap[b]? = some (.cells #[x0, x1, x2] T f)) : w.cell? ⟨b, 0, none⟩ = some x0 ∧ w.cell? ⟨b, 1, none⟩ = some x1 ∧ w.cell? ⟨b, 2, none⟩ = some x2 := by
  refine ⟨?_, ?_, ?_⟩ <;> rw [Lib.cell_of_heap h] <;> rfl
theorem take_anyE {l : List U.Ex} {k : Nat} {x : U.Ex} (p : U.Ex → Bool) (hx : l[k]? = some x) (h : (l.take k).any p = false) (hp : p x = false) : (l.take (k + 1)).any p = false := by
  obtain ⟨hk, e⟩ := List.getElem?_eq_some_iff.1 hx
  rw [List.take_succ_eq_append_getElem hk, e, List.any_append, h]
  simp [hp]

theorem form_mk (k t : Int) (p : List U.Ex) : (U.Ex.mk k t p).form = if k = 1 then p.length == 0 else if k = 2 then t == 0 && (p.length != 1 && !p.any (fun p => p.kind == 2)) else if k = 3 then t == 0 && (decide (2 ≤ p.length) && !p.any (fun p => p.kind == 3)) else t == 0 && p.length == 1 := rfl

/-- a function that tells something of an expression, in whatever world behind this one -/
def TellsE (g : Nat) (lb : Array Value) (p : U.Ex → Bool) (w : World) : Prop :=
  ∀ (W : World) (x : U.Ex) (pv : Value), Below w.heap.size w W → Calls Try.prog g (#[exVal x pv] ++ lb) W fun e w' => e = .returned (.bool (p x)) ∧ Below w.heap.size w w'

set_option maxHeartbeats 4000000 in
set_option maxRecDepth 1000000 in
theorem index_ex (g : Nat) (lb : Array Value) (eg : ∀ args w, (callFunc g args).run Try.prog w = .ok (.enter g args) w) (p : U.Ex → Bool) (v : Value) (l : List U.Ex) (w : World) (hA : RdExs w (· < w.heap.size) v l) (hp : TellsE g lb p w) :
    Calls Try.prog 37 #[v, .func (.func g) #[] lb] w fun e w' => ∃ i : Int, e = .returned (.int .i64 i) ∧ (0 ≤ i ↔ l.any p = true) ∧ Below w.heap.size w w' := by
  obtain ⟨ao, cap, rfl, hcl, hcm⟩ := hA.form
  have HA := Lib.hid hA
  have HP := Lib.hid hp
  unfold maxLen at hcm
  have hz : l.length ≤ 9223372036854775807 := by omega
  clear hA hp hcl hcm
  go_enter Try.func37, Try.ntmps37
  go_wp2_with fail
  go_loopw [8] (fun i wr => ∃ k : Nat, k ≤ l.length ∧ i = .int .i64 k ∧ Below w.heap.size w wr ∧ Hid ((l.take k).any p = false)) (fun i _ => l.length - (intOf i).toNat)
  case atStart => exact ⟨0, Nat.zero_le _, rfl, Below.refl _ _, rfl⟩
  case round =>
    obtain ⟨k, hk, rfl, hbw, HN⟩ := hrel
    by_cases hlt : k < l.length
    · have hx := List.getElem?_eq_getElem hlt
      have hm := List.getElem_mem hlt
      generalize l[k]'hlt = x at hx hm
      obtain ⟨gb, o, cap2, pa, pcap, e0, hg, d0, d1, d2, -⟩ := HA.out.at hx
      injection e0 with e1 e2 e3
      subst e1
      have c0 := (hbw.cell (p := ⟨gb, o + k * 3, none⟩) hg).trans d0
      have c1 := (hbw.cell (p := ⟨gb, o + k * 3 + 1, none⟩) hg).trans d1
      have c2 := (hbw.cell (p := ⟨gb, o + k * 3 + 2, none⟩) hg).trans d2
      have hk0 : (0 : Int) ≤ (k : Int) := Int.natCast_nonneg _
      have hk1 : (k : Int) < (l.length : Int) := by omega
      have HX := Lib.hid hx
      have hcall := HP.out wr x (.slice pa x.parts.length pcap) hbw
      have HM := Lib.hid hm
      unfold exVal at hcall
      clear hx hm d0 d1 d2 e2 e3
      cases hq : p x with
      | true =>
        rw [hq] at hcall
        have HQ := Lib.hid hq
        have HCL := Lib.hid hcall
        clear hq hcall
        go_wp2_with (go_at_fn g; refine HCL.out.mono ?_; rintro e w' ⟨rfl, hb'⟩)
        go_ret
        exact ⟨(k : Int), rfl, ⟨fun _ => List.any_eq_true.2 ⟨x, HM.out, HQ.out⟩, fun _ => hk0⟩, hb'⟩
      | false =>
        rw [hq] at hcall
        have HQ := Lib.hid hq
        have HCL := Lib.hid hcall
        clear hq hcall
        go_wp2_with (go_at_fn g; refine HCL.out.mono ?_; rintro e w' ⟨rfl, hb'⟩)
        go_roundw
        case rel => exact ⟨k + 1, by omega, by go_num, hb', take_anyE _ HX.out HN.out HQ.out⟩
        case measure => simp [intOf]; omega
    · go_wp2_with fail
      go_ret
      refine ⟨-1, rfl, ?_, hbw⟩
      have hall : l.any p = false := by
        have := HN.out
        rwa [List.take_of_length_le (by omega)] at this
      rw [hall]
      constructor
      · intro h; omega
      · intro h; cases h
set_option maxHeartbeats 4000000 in
set_option maxRecDepth 1000000 in
theorem contains_ex (g : Nat) (lb : Array Value) (eg : ∀ args w, (callFunc g args).run Try.prog w = .ok (.enter g args) w) (p : U.Ex → Bool) (v : Value) (l : List U.Ex) (w : World) (hA : RdExs w (· < w.heap.size) v l) (hp : TellsE g lb p w) :
    Calls Try.prog 33 #[v, .func (.func g) #[] lb] w fun e w' => e = .returned (.bool (l.any p)) ∧ Below w.heap.size w w' := by
  have H := Lib.hid (index_ex g lb eg p v l w hA hp)
  clear hA hp eg
  obtain ⟨R, hR⟩ : ∃ R, l.any p = R := ⟨_, rfl⟩
  rw [hR]
  have HR := Lib.hid hR
  clear hR
  go_enter Try.func33, Try.ntmps33
  go_wp2_with (refine H.out.mono ?_; rintro e w' ⟨i, rfl, hi, hb'⟩; have HI := Lib.hid hi; clear hi)
  go_ret
  refine ⟨?_, hb'⟩
  have h1 := HI.out
  rw [HR.out] at h1
  have h2 : decide (0 ≤ i) = R := by
    cases R with
    | true => exact decide_eq_true (h1.2 rfl)
    | false => exact decide_eq_false (fun h => by cases h1.1 h)
  rw [← h2]
  rfl
set_option maxHeartbeats 4000000 in
set_option maxRecDepth 1000000 in
theorem same_kind (b : Nat) (kd : Int) (x : U.Ex) (pv : Value) (w W : World) (hb : b < w.heap.size) (hc : w.cell? ⟨b, 0, none⟩ = some (.int .i64 kd)) (hB : Below w.heap.size w W) :
    Calls Try.prog 32 #[exVal x pv, .pointer (some ⟨b, 0, none⟩)] W fun e w' => e = .returned (.bool (x.kind == kd)) ∧ Below W.heap.size W w' := by
  have c0 := (hB.cell (p := ⟨b, 0, none⟩) hb).trans hc
  have hBW : b < W.heap.size := Nat.lt_of_lt_of_le hb hB.size
  have hne : b ≠ W.heap.size := by omega
  clear hb hc hB
  unfold exVal
  go_enter Try.func32, Try.ntmps32
  go_wp2_with fail
  go_ret
  exact ⟨rfl, (Below.refl _ W).alloc (Nat.le_refl _) _⟩
set_option maxHeartbeats 4000000 in
set_option maxRecDepth 1000000 in
theorem is_letter (n : Int) (W : World) : Calls Try.prog 25 #[.int .i64 n] W fun e w' => e = .returned (.bool (decide (0 ≤ n ∧ n < 8))) ∧ W = w' := by
  go_enter Try.func25, Try.ntmps25
  by_cases h0 : 0 ≤ n
  · by_cases h1 : n < 8
    · go_wp2_with fail
      go_ret
      exact ⟨by simp [h0, h1], rfl⟩
    · go_wp2_with fail
      go_ret
      exact ⟨by simp [h1], rfl⟩
  · go_wp2_with fail
    go_ret
    exact ⟨by simp; omega, rfl⟩

set_option maxHeartbeats 4000000 in
set_option maxRecDepth 1000000 in
theorem has_form (x : U.Ex) (pa : Option Addr) (pcap : Nat) (w : World) (hP : RdExs w (· < w.heap.size) (.slice pa x.parts.length pcap) x.parts) :
    Calls Try.prog 24 #[exVal x (.slice pa x.parts.length pcap)] w fun e w' => e = .returned (.bool x.form) ∧ Below w.heap.size w w' := by
  obtain ⟨kd, tp, pl⟩ := x
  have hP2 : RdExs w (· < w.heap.size) (.slice pa pl.length pcap) pl := hP
  have hbN := (Below.refl w.heap.size w).alloc (Nat.le_refl _) (.cells #[.int .i64 kd, .int .i64 tp, .slice pa pl.length pcap] 24 (0, 0))
  have eg := enters_of Try.func32 (by kernel_rfl) rfl
  have hcon := contains_ex 32 #[.pointer (some ⟨w.heap.size, 0, none⟩)] eg (fun e => e.kind == kd) (.slice pa pl.length pcap) pl _ (hP2.below hbN hbN.size)
    (fun W y pv hB => (same_kind w.heap.size kd y pv _ W (by simp) (by rw [Lib.cell_of_heap (heap_alloc_new w _)]; rfl) hB).mono fun e w' h => ⟨h.1, hB.trans (h.2.mono hB.size)⟩)
  obtain ⟨R, hR⟩ : ∃ R, (U.Ex.mk kd tp pl).form = R := ⟨_, rfl⟩
  rw [hR]
  rw [form_mk] at hR
  show Calls Try.prog 24 #[.agg #[.int .i64 kd, .int .i64 tp, .slice pa pl.length pcap]] w _
  clear hP hP2 eg
  generalize hA2 : pl.any (fun p => p.kind == 2) = A2 at hR
  generalize hA3 : pl.any (fun p => p.kind == 3) = A3 at hR
  by_cases k1 : kd = 1
  · subst k1
    rw [if_pos rfl] at hR
    have h2 : (((pl.length : Nat) : Int) == 0) = R := by rw [← hR, Bool.eq_iff_iff]; simp
    have HR := Lib.hid h2
    have HBN := Lib.hid hbN
    clear h2 hR hcon hbN hA2 hA3
    go_enter Try.func24, Try.ntmps24
    go_wp2_with fail
    go_ret
    refine ⟨?_, HBN.out⟩
    rw [← HR.out]
    rfl
  rw [if_neg k1] at hR
  by_cases k2 : kd = 2
  · subst k2
    rw [if_pos rfl] at hR
    rw [hA2] at hcon
    have HCN := Lib.hid hcon
    have HBN := Lib.hid hbN
    clear hcon hbN k1 hA2 hA3
    by_cases t0 : tp = 0
    · subst t0
      cases hl : (((pl.length : Nat) : Int) != 1) with
      | false =>
        have h2 : false = R := by
          rw [← hR]
          have : pl.length = 1 := by simp at hl; omega
          rw [this]; rfl
        subst h2
        clear hR HCN
        go_enter Try.func24, Try.ntmps24
        go_wp2_with fail
        go_ret
        exact ⟨rfl, HBN.out⟩
      | true =>
        have h2 : (!A2) = R := by
          rw [← hR]
          have : pl.length ≠ 1 := by simp at hl; omega
          simp [this]
        subst h2
        clear hR
        go_enter Try.func24, Try.ntmps24
        go_wp2_with (go_at_call 33; refine HCN.out.mono ?_; rintro e w' ⟨rfl, hb'⟩)
        go_ret
        exact ⟨rfl, HBN.out.trans (hb'.mono HBN.out.size)⟩
    · have h2 : false = R := by rw [← hR]; simp [t0]
      subst h2
      have t1 : (tp == 0) = false := beq_eq_false_iff_ne.2 t0
      clear hR HCN t0
      go_enter Try.func24, Try.ntmps24
      go_wp2_with fail
      go_ret
      exact ⟨rfl, HBN.out⟩
  rw [if_neg k2] at hR
  by_cases k3 : kd = 3
  · subst k3
    rw [if_pos rfl] at hR
    rw [hA3] at hcon
    have HCN := Lib.hid hcon
    have HBN := Lib.hid hbN
    clear hcon hbN k1 k2 hA2 hA3
    by_cases t0 : tp = 0
    · subst t0
      by_cases hl : 2 ≤ pl.length
      · have h2 : (!A3) = R := by
          rw [← hR]
          simp [hl]
        have hl2 : (2 : Int) ≤ (pl.length : Int) := by omega
        subst h2
        clear hR hl
        go_enter Try.func24, Try.ntmps24
        go_wp2_with (go_at_call 33; refine HCN.out.mono ?_; rintro e w' ⟨rfl, hb'⟩)
        go_ret
        exact ⟨rfl, HBN.out.trans (hb'.mono HBN.out.size)⟩
      · have h2 : false = R := by
          rw [← hR]
          simp [hl]
        have hl2 : ¬ (2 : Int) ≤ (pl.length : Int) := by omega
        subst h2
        clear hR HCN hl
        go_enter Try.func24, Try.ntmps24
        go_wp2_with fail
        go_ret
        exact ⟨rfl, HBN.out⟩
    · have h2 : false = R := by rw [← hR]; simp [t0]
      subst h2
      have t1 : (tp == 0) = false := beq_eq_false_iff_ne.2 t0
      clear hR HCN t0
      go_enter Try.func24, Try.ntmps24
      go_wp2_with fail
      go_ret
      exact ⟨rfl, HBN.out⟩
  rw [if_neg k3] at hR
  have HBN := Lib.hid hbN
  clear hcon hbN hA2 hA3
  by_cases t0 : tp = 0
  · subst t0
    have h2 : (((pl.length : Nat) : Int) == 1) = R := by
      rw [← hR, Bool.eq_iff_iff]
      simp
      try omega
    have HR := Lib.hid h2
    clear h2 hR
    go_enter Try.func24, Try.ntmps24
    go_wp2_with fail
    go_ret
    refine ⟨?_, HBN.out⟩
    rw [← HR.out]
    rfl
  · have h2 : false = R := by rw [← hR]; simp [t0]
    subst h2
    have t1 : (tp == 0) = false := beq_eq_false_iff_ne.2 t0
    clear hR t0
    go_enter Try.func24, Try.ntmps24
    go_wp2_with fail
    go_ret
    exact ⟨rfl, HBN.out⟩

end Go.Proofs.Ytfloeijklogcfaa

/- Several texts in one: EText, Picked, Pieces, Markup. -/
import Derived.Outline
import Derived.Test.YtfockedeikdbjaaGreatDoorProg
import Derived.WalkKit
import Derived.Below
import Derived.Deep.DeepCutAuto
import Derived.Deep.RegionHeld3
import Derived.Handy
import Derived.StillTactics
import Derived.StillTailTactics
import Derived.Deep.RegionWith
import Derived.Test.YtfockedeikdbjaaGreatDoorP22
import Derived.Test.YtfockedeikdbjaaGreatDoorWrite
import Derived.Test.YtfockedeikdbjaaGreatDoorP05
import Derived.Test.YtfockedeikdbjaaGreatDoorP14
namespace Go.Proofs.YtfockedeikdbjaaGreatDoor
open Go.RowKit

set_option maxHeartbeats 1000000 in
set_option maxRecDepth 1000000 in
theorem bld_len (B b : Nat) (l : List UInt8) (w : World) (h : BldAt B b l w) : Calls Tryz.prog 15 #[.pointer (some ⟨b, 0, none⟩)] w fun e w' => e = .returned (.int .i64 (l.length : Int)) ∧ w = w' := by
  obtain ⟨ao, cap, hbk, _⟩ := Bld_slice h
  have u1 : w.cell? ⟨b, 1, none⟩ = some (.slice ao l.length cap) := by rw [Lib.cell_of_heap hbk]; rfl
  clear hbk h
  go_enter Tryz.func15, Tryz.ntmps15
  go_wp2_with fail
  go_ret
  exact ⟨rfl, rfl⟩

set_option maxHeartbeats 8000000 in
set_option maxRecDepth 1000000 in
theorem etext_walk (v : Value) (l : List U.Tk) (w : World) (hL : RdKC w w.heap.size v l) (hz : l.length ≤ most) (hs : ∀ t ∈ l, Fits most t) :
    Calls Tryz.prog 7 #[v] w fun e w' => e = .returned (.tuple #[.string ⟨(U.textOf l).1.toArray⟩, .int .i64 ((U.textOf l).2 : Nat)]) ∧ Below w.heap.size w w' := by
  have hc := check_walk v l w hL hz hs
  obtain ⟨ao, cap, rfl, hcap⟩ := hL.len
  have hzz : l.length ≤ 9223372036854775807 := hz
  by_cases h0 : U.fault l = 0
  · rw [h0, show ((0 : Nat) : Int) = 0 from rfl] at hc
    have hft : ∀ t ∈ l, _ := U.faults_tok l false (by unfold U.fault at h0; split at h0; cases h0; exact h0)
    have hR : U.textOf l = if 600 < (U.emit (l.map U.Tk.tok)).length then ([], 1) else (U.emit (l.map U.Tk.tok), 0) := by unfold U.textOf; rw [if_pos h0]
    obtain ⟨R, hRR⟩ : ∃ R, U.textOf l = R := ⟨_, rfl⟩
    rw [hRR] at hR
    rw [hRR]
    have HR := Lib.hid hR
    have HC := Lib.hid hc
    have HL := Lib.hid hL
    have HS := Lib.hid hs
    have HF := Lib.hid hft
    clear hc hL hs hft hR hRR h0
    go_enter Tryz.func7, Tryz.ntmps7
    go_wp2_with (go_at_call 8; refine HC.out.mono ?_; rintro e w2 ⟨rfl, hb2⟩)
    have hs2 := hb2.size
    go_loopw [15] (fun i wr => ∃ k : Nat, k ≤ l.length ∧ i = .int .i64 k ∧ Bld w2.heap.size w2.heap.size (U.emit ((l.take k).map U.Tk.tok)) wr ∧ Below w.heap.size w wr ∧ w2.heap.size < wr.heap.size ∧ (U.emit ((l.take k).map U.Tk.tok)).length ≤ 600) (fun i _ => l.length - (intOf i).toNat)
    case atStart => exact ⟨0, Nat.zero_le _, rfl, (Lib.IsBuilderF.of (Lib.fresh_isBuilder 47 5 w2)), hb2.alloc hs2 _, by simp, by simp [U.emit]⟩
    case round =>
      obtain ⟨k, hk, rfl, hbd, hbw, hsz, hle⟩ := hrel
      have HBD := Lib.hid hbd
      have HLE := Lib.hid hle
      clear hbd hle
      have hbs := hbw.size
      by_cases hlt : k < l.length
      · have hx := List.getElem?_eq_getElem hlt
        have hm := List.getElem_mem hlt
        generalize l[k]'hlt = x at hx hm
        obtain ⟨g, o, aoA, capA, rfl, hg, d0, d1, d2, d3, d4, hA, hcA⟩ := HL.out.at hx
        have c0 := (hbw.cell (p := ⟨g, o + k * 5, none⟩) hg).trans d0
        have c1 := (hbw.cell (p := ⟨g, o + k * 5 + 1, none⟩) hg).trans d1
        have c2 := (hbw.cell (p := ⟨g, o + k * 5 + 2, none⟩) hg).trans d2
        have c3 := (hbw.cell (p := ⟨g, o + k * 5 + 3, none⟩) hg).trans d3
        have c4 := (hbw.cell (p := ⟨g, o + k * 5 + 4, none⟩) hg).trans d4
        have hk0 : (0 : Int) ≤ (k : Int) := Int.natCast_nonneg _
        have hk1 : (k : Int) < (l.length : Int) := by omega
        have hbN := hbw.alloc hbs (.cells #[.int .i64 x.kind, .string ⟨x.name.toArray⟩, .slice aoA x.attrs.length capA, .bool x.self, .string ⟨x.text.toArray⟩] 33 (0, 0))
        have hxk := HF.out x hm
        have hok : x.kind = 3 ∨ (x.kind = 2 ∧ x.name.length ≤ 12) ∨ (x.kind = 1 ∧ x.name.length ≤ 12 ∧ x.attrs.length ≤ 4 ∧ ∀ a ∈ x.attrs, a.1.length ≤ 12) := by
          rcases hxk with h | ⟨h, h1, _⟩ | ⟨h, h1, h2⟩
          · exact .inl h
          · exact .inr (.inl ⟨h, U.isName_le h1⟩)
          · exact .inr (.inr ⟨h, U.isName_le h1, h2.2.1, fun a ha => U.isName_le (h2.1 a ha)⟩)
        have hkk : x.kind = 1 ∨ x.kind = 2 ∨ x.kind = 3 := by
          rcases hxk with h | ⟨h, _⟩ | ⟨h, _⟩
          · exact .inr (.inr h)
          · exact .inr (.inl h)
          · exact .inl h
        have hwt := write_token w2.heap.size w2.heap.size (U.emit ((l.take k).map U.Tk.tok)) x aoA capA (wr.alloc (.cells #[.int .i64 x.kind, .string ⟨x.name.toArray⟩, .slice aoA x.attrs.length capA, .bool x.self, .string ⟨x.text.toArray⟩] 33 (0, 0)))
          (bld_below HBD.out ((Below.refl _ wr).alloc (Nat.le_refl _) _)) (by simp; omega) ((hA.keep fun p hp => hbN.cell hp).more hs2) (HS.out x hm) hok HLE.out
        unfold tkVal at hwt
        have hcut := U.tokC_cut hkk
        have het := U.emit_take hx
        have hel := U.emit_le l (k + 1)
        have hsz2 : w2.heap.size ≤ (wr.alloc (.cells #[.int .i64 x.kind, .string ⟨x.name.toArray⟩, .slice aoA x.attrs.length capA, .bool x.self, .string ⟨x.text.toArray⟩] 33 (0, 0))).heap.size := by simp; omega
        obtain ⟨X, hX⟩ : ∃ X, U.emit ((l.take k).map U.Tk.tok) ++ U.tokC x = X := ⟨_, rfl⟩
        rw [hX] at hwt
        have HWT := Lib.hid hwt
        have HX := Lib.hid (And.intro hX (And.intro hcut (And.intro het hel)))
        clear hwt hX hcut het hel hx hm hok hkk hxk d0 d1 d2 d3 d4 hA
        by_cases h6 : 600 < X.length
        · have h6z : (600 : Int) < (X.length : Int) := by omega
          go_wp2_with (first
            | (go_at_call 14; refine HWT.out.mono ?_; rintro e w6 ⟨rfl, k6, b6, o6⟩)
            | (go_at_call 15; refine (bld_len _ _ _ _ k6).mono ?_; rintro e w7 ⟨rfl, rfl⟩))
          go_ret2
          refine ⟨?_, hbN.trans (b6.mono hs2)⟩
          obtain ⟨hX, hcut, het, hel⟩ := HX.out
          have h7 : 600 < (U.emit (l.map U.Tk.tok)).length := by
            have h8 := hcut.1
            have h9 := congrArg List.length hX
            rw [List.length_append] at h9
            rw [het, List.length_append] at hel
            omega
          have h10 := HR.out
          rw [if_pos h7] at h10
          rw [h10]
          rfl
        · have h6z : ¬ (600 : Int) < (X.length : Int) := by omega
          go_wp2_with (first
            | (go_at_call 14; refine HWT.out.mono ?_; rintro e w6 ⟨rfl, k6, b6, o6⟩)
            | (go_at_call 15; refine (bld_len _ _ _ _ k6).mono ?_; rintro e w7 ⟨rfl, rfl⟩))
          have hXe : X = U.emit ((l.take (k + 1)).map U.Tk.tok) := by
            obtain ⟨hX, hcut, het, hel⟩ := HX.out
            have h9 := congrArg List.length hX
            rw [List.length_append] at h9
            rw [het, ← hX, hcut.2 (by omega)]
          rw [hXe] at k6 h6
          have hb8 := hbN.trans (b6.mono hs2)
          have hsz3 := b6.size
          have h6l : (U.emit ((l.take (k + 1)).map U.Tk.tok)).length ≤ 600 := by omega
          clear hXe h6 h6z b6 o6
          have K6 := Lib.hid k6
          have H6 := Lib.hid h6l
          clear k6 h6l
          go_roundw
          case rel => exact ⟨k + 1, by omega, by go_num, .inr K6.out, hb8, Nat.lt_of_lt_of_le (by simp; omega) hsz3, H6.out⟩
          case measure => simp [intOf]; omega
      · have hall : l.take k = l := List.take_of_length_le (by omega)
        rw [hall] at HBD HLE
        clear hall
        go_wp2_with (go_at_call 16; refine (Tryz.Builder_String_any_k w2.heap.size w2.heap.size (U.emit (l.map U.Tk.tok)) _ HBD.out (by omega)).mono ?_; rintro e w7 ⟨rfl, _, b7, _⟩)
        go_ret2
        refine ⟨?_, hbw.trans (b7.mono hs2)⟩
        have h10 := HR.out
        rw [if_neg (by have := HLE.out; omega)] at h10
        rw [h10]
        rfl
  · have hR : U.textOf l = ([], U.fault l) := by unfold U.textOf; rw [if_neg h0]
    rw [hR]
    have hne : (((U.fault l : Nat) : Int) != 0) = true := bne_iff_ne.2 (by omega)
    generalize U.fault l = R at hc hne
    have HC := Lib.hid hc
    clear hc hL hs h0 hR
    show Calls _ _ _ _ fun e w' => e = .returned (.tuple #[.string ⟨#[]⟩, .int .i64 (R : Int)]) ∧ _
    go_enter Tryz.func7, Tryz.ntmps7
    go_wp2_with (go_at_call 8; refine HC.out.mono ?_; rintro e w2 ⟨rfl, hb2⟩)
    go_ret2
    exact ⟨rfl, hb2⟩

end Go.Proofs.YtfockedeikdbjaaGreatDoor

namespace Go.Proofs.YtfockedeikdbjaaGreatDoor
open Go.RowKit

theorem picked_facts (a n : Int) (hn : 0 < n) : (a.tmod n < 0 → a.tmod n + n = a % n) ∧ (¬ a.tmod n < 0 → a.tmod n = a % n) ∧ -n < a.tmod n ∧ a.tmod n < n := by
  have h1 := Int.emod_nonneg a (b := n) (by omega)
  have h2 := Int.emod_lt_of_pos a hn
  have h3 := Int.tmod_lt_of_pos a hn
  have h4 : -n < a.tmod n := by
    have := Int.lt_tmod_of_pos a hn
    exact this
  have h5 := Int.mul_tdiv_add_tmod a n
  have h6 := Int.mul_ediv_add_emod a n
  have key : ∀ x y p q : Int, n * x + p = a → n * y + q = a → -n < p - q → p - q < 2 * n → p - q ≠ 0 → p - q ≠ n → False := by
    intro x y p q e1 e2 l1 l2 n1 n2
    have e : p - q = n * (y - x) := by rw [Int.mul_sub]; omega
    rcases Int.lt_trichotomy (y - x) 0 with h | h | h
    · have := Int.mul_le_mul_of_nonneg_left (show y - x ≤ -1 by omega) (Int.le_of_lt hn)
      omega
    · rw [h] at e; omega
    · rcases Int.lt_or_le (y - x) 2 with h' | h'
      · have : y - x = 1 := by omega
        rw [this] at e; omega
      · have := Int.mul_le_mul_of_nonneg_left h' (Int.le_of_lt hn)
        omega
  refine ⟨fun h => ?_, fun h => ?_, h4, h3⟩
  · have k := key (a / n) (a.tdiv n) (a % n) (a.tmod n) h6 h5 (by omega) (by omega)
    by_cases e : a % n - a.tmod n = 0
    · omega
    · by_cases e' : a % n - a.tmod n = n
      · omega
      · exact (k e e').elim
  · have k := key (a / n) (a.tdiv n) (a % n) (a.tmod n) h6 h5 (by omega) (by omega)
    by_cases e : a % n - a.tmod n = 0
    · omega
    · by_cases e' : a % n - a.tmod n = n
      · omega
      · exact (k e e').elim

set_option maxHeartbeats 1000000 in
set_option maxRecDepth 100000 in
theorem picked_walk (a n : Int) (w : World) (hn : 0 < n) (hn2 : n ≤ 2147483647) :
    Calls Tryz.prog 13 #[.int .i64 a, .int .i64 n] w fun e w' => e = .returned (.int .i64 (a % n)) ∧ w = w' := by
  obtain ⟨f1, f2, f3, f4⟩ := picked_facts a n hn
  by_cases h0 : 0 ≤ a
  · have e1 := Int.emod_nonneg a (b := n) (by omega)
    have e2 := Int.emod_lt_of_pos a hn
    clear f1 f2 f3 f4
    go_enter Tryz.func13, Tryz.ntmps13
    go_wp2_with fail
    go_ret
    exact ⟨rfl, rfl⟩
  · by_cases h : a.tmod n < 0
    · have e := Lib.hid (f1 h)
      clear f1 f2
      go_enter Tryz.func13, Tryz.ntmps13
      go_wp2_with fail
      go_ret
      rw [← e.out]
      exact ⟨rfl, rfl⟩
    · have e := Lib.hid (f2 h)
      clear f1 f2
      go_enter Tryz.func13, Tryz.ntmps13
      go_wp2_with fail
      go_ret
      rw [← e.out]
      exact ⟨rfl, rfl⟩

end Go.Proofs.YtfockedeikdbjaaGreatDoor

namespace Go.Proofs.YtfockedeikdbjaaGreatDoor
open Go.RowKit

def pm (j : Nat) : ByteArray := match j with
  | 0 => ⟨#[97]⟩
  | 1 => ⟨#[98, 32]⟩
  | 2 => ⟨#[60, 112, 62]⟩
  | 3 => ⟨#[60, 47, 112, 62]⟩
  | 4 => ⟨#[60, 98, 62]⟩
  | 5 => ⟨#[60, 47, 98, 62]⟩
  | 6 => ⟨#[60, 98, 114, 47, 62]⟩
  | 7 => ⟨#[60, 33, 45, 45, 120, 45, 45, 62]⟩
  | 8 => ⟨#[60, 105, 32, 99, 108, 97, 115, 115, 61, 120, 62]⟩
  | 9 => ⟨#[60, 47, 105, 62]⟩
  | 10 => ⟨#[38, 97, 109, 112, 59]⟩
  | 11 => ⟨#[60]⟩
  | 12 => ⟨#[60, 117, 108, 62]⟩
  | 13 => ⟨#[60, 108, 105, 62]⟩
  | 14 => ⟨#[60, 47, 117, 108, 62]⟩
  | 15 => ⟨#[38]⟩
  | 16 => ⟨#[62]⟩
  | 17 => ⟨#[60, 115, 99, 114, 105, 112, 116, 62]⟩
  | 18 => ⟨#[60, 47, 115, 99, 114, 105, 112, 116, 62]⟩
  | 19 => ⟨#[10]⟩
  | 20 => ⟨#[60, 105, 109, 103, 32, 115, 114, 99, 61, 39, 120, 46, 112, 110, 103, 39, 62]⟩
  | 21 => ⟨#[60, 97, 32, 104, 114, 101, 102, 61, 34, 104, 116, 116, 112, 58, 47, 47, 120, 34, 62]⟩
  | 22 => ⟨#[60, 47, 97, 62]⟩
  | 23 => ⟨#[60, 63, 120, 62]⟩
  | _ => ⟨#[60, 47, 62]⟩
theorem pm_size (j : Nat) : (pm j).size ≤ 19 := by
  unfold pm
  split <;> decide
theorem pm_cell (j : Nat) (hj : j < 25) (W : World) (T : TypeId) (s : Nat × Nat) :
    (W.alloc (.cells #[.string ⟨#[97]⟩, .string ⟨#[98, 32]⟩, .string ⟨#[60, 112, 62]⟩, .string ⟨#[60, 47, 112, 62]⟩, .string ⟨#[60, 98, 62]⟩, .string ⟨#[60, 47, 98, 62]⟩, .string ⟨#[60, 98, 114, 47, 62]⟩, .string ⟨#[60, 33, 45, 45, 120, 45, 45, 62]⟩, .string ⟨#[60, 105, 32, 99, 108, 97, 115, 115, 61, 120, 62]⟩, .string ⟨#[60, 47, 105, 62]⟩, .string ⟨#[38, 97, 109, 112, 59]⟩, .string ⟨#[60]⟩, .string ⟨#[60, 117, 108, 62]⟩, .string ⟨#[60, 108, 105, 62]⟩, .string ⟨#[60, 47, 117, 108, 62]⟩, .string ⟨#[38]⟩, .string ⟨#[62]⟩, .string ⟨#[60, 115, 99, 114, 105, 112, 116, 62]⟩, .string ⟨#[60, 47, 115, 99, 114, 105, 112, 116, 62]⟩, .string ⟨#[10]⟩, .string ⟨#[60, 105, 109, 103, 32, 115, 114, 99, 61, 39, 120, 46, 112, 110, 103, 39, 62]⟩, .string ⟨#[60, 97, 32, 104, 114, 101, 102, 61, 34, 104, 116, 116, 112, 58, 47, 47, 120, 34, 62]⟩, .string ⟨#[60, 47, 97, 62]⟩, .string ⟨#[60, 63, 120, 62]⟩, .string ⟨#[60, 47, 62]⟩] T s)).cell? ⟨W.heap.size, j, none⟩ = some (.string (pm j)) := by
  match j, hj with
  | 0, _ => rw [Lib.cell_of_heap (heap_alloc_new W _)]; rfl
  | 1, _ => rw [Lib.cell_of_heap (heap_alloc_new W _)]; rfl
  | 2, _ => rw [Lib.cell_of_heap (heap_alloc_new W _)]; rfl
  | 3, _ => rw [Lib.cell_of_heap (heap_alloc_new W _)]; rfl
  | 4, _ => rw [Lib.cell_of_heap (heap_alloc_new W _)]; rfl
  | 5, _ => rw [Lib.cell_of_heap (heap_alloc_new W _)]; rfl
  | 6, _ => rw [Lib.cell_of_heap (heap_alloc_new W _)]; rfl
  | 7, _ => rw [Lib.cell_of_heap (heap_alloc_new W _)]; rfl
  | 8, _ => rw [Lib.cell_of_heap (heap_alloc_new W _)]; rfl
  | 9, _ => rw [Lib.cell_of_heap (heap_alloc_new W _)]; rfl
  | 10, _ => rw [Lib.cell_of_heap (heap_alloc_new W _)]; rfl
  | 11, _ => rw [Lib.cell_of_heap (heap_alloc_new W _)]; rfl
  | 12, _ => rw [Lib.cell_of_heap (heap_alloc_new W _)]; rfl
  | 13, _ => rw [Lib.cell_of_heap (heap_alloc_new W _)]; rfl
  | 14, _ => rw [Lib.cell_of_heap (heap_alloc_new W _)]; rfl
  | 15, _ => rw [Lib.cell_of_heap (heap_alloc_new W _)]; rfl
  | 16, _ => rw [Lib.cell_of_heap (heap_alloc_new W _)]; rfl
  | 17, _ => rw [Lib.cell_of_heap (heap_alloc_new W _)]; rfl
  | 18, _ => rw [Lib.cell_of_heap (heap_alloc_new W _)]; rfl
  | 19, _ => rw [Lib.cell_of_heap (heap_alloc_new W _)]; rfl
  | 20, _ => rw [Lib.cell_of_heap (heap_alloc_new W _)]; rfl
  | 21, _ => rw [Lib.cell_of_heap (heap_alloc_new W _)]; rfl
  | 22, _ => rw [Lib.cell_of_heap (heap_alloc_new W _)]; rfl
  | 23, _ => rw [Lib.cell_of_heap (heap_alloc_new W _)]; rfl
  | 24, _ => rw [Lib.cell_of_heap (heap_alloc_new W _)]; rfl
  | j + 25, h => exact absurd h (by omega)
theorem pm_get (j : Nat) (h : j < ([.string ⟨#[97]⟩, .string ⟨#[98, 32]⟩, .string ⟨#[60, 112, 62]⟩, .string ⟨#[60, 47, 112, 62]⟩, .string ⟨#[60, 98, 62]⟩, .string ⟨#[60, 47, 98, 62]⟩, .string ⟨#[60, 98, 114, 47, 62]⟩, .string ⟨#[60, 33, 45, 45, 120, 45, 45, 62]⟩, .string ⟨#[60, 105, 32, 99, 108, 97, 115, 115, 61, 120, 62]⟩, .string ⟨#[60, 47, 105, 62]⟩, .string ⟨#[38, 97, 109, 112, 59]⟩, .string ⟨#[60]⟩, .string ⟨#[60, 117, 108, 62]⟩, .string ⟨#[60, 108, 105, 62]⟩, .string ⟨#[60, 47, 117, 108, 62]⟩, .string ⟨#[38]⟩, .string ⟨#[62]⟩, .string ⟨#[60, 115, 99, 114, 105, 112, 116, 62]⟩, .string ⟨#[60, 47, 115, 99, 114, 105, 112, 116, 62]⟩, .string ⟨#[10]⟩, .string ⟨#[60, 105, 109, 103, 32, 115, 114, 99, 61, 39, 120, 46, 112, 110, 103, 39, 62]⟩, .string ⟨#[60, 97, 32, 104, 114, 101, 102, 61, 34, 104, 116, 116, 112, 58, 47, 47, 120, 34, 62]⟩, .string ⟨#[60, 47, 97, 62]⟩, .string ⟨#[60, 63, 120, 62]⟩, .string ⟨#[60, 47, 62]⟩] : List Value).length) : ([.string ⟨#[97]⟩, .string ⟨#[98, 32]⟩, .string ⟨#[60, 112, 62]⟩, .string ⟨#[60, 47, 112, 62]⟩, .string ⟨#[60, 98, 62]⟩, .string ⟨#[60, 47, 98, 62]⟩, .string ⟨#[60, 98, 114, 47, 62]⟩, .string ⟨#[60, 33, 45, 45, 120, 45, 45, 62]⟩, .string ⟨#[60, 105, 32, 99, 108, 97, 115, 115, 61, 120, 62]⟩, .string ⟨#[60, 47, 105, 62]⟩, .string ⟨#[38, 97, 109, 112, 59]⟩, .string ⟨#[60]⟩, .string ⟨#[60, 117, 108, 62]⟩, .string ⟨#[60, 108, 105, 62]⟩, .string ⟨#[60, 47, 117, 108, 62]⟩, .string ⟨#[38]⟩, .string ⟨#[62]⟩, .string ⟨#[60, 115, 99, 114, 105, 112, 116, 62]⟩, .string ⟨#[60, 47, 115, 99, 114, 105, 112, 116, 62]⟩, .string ⟨#[10]⟩, .string ⟨#[60, 105, 109, 103, 32, 115, 114, 99, 61, 39, 120, 46, 112, 110, 103, 39, 62]⟩, .string ⟨#[60, 97, 32, 104, 114, 101, 102, 61, 34, 104, 116, 116, 112, 58, 47, 47, 120, 34, 62]⟩, .string ⟨#[60, 47, 97, 62]⟩, .string ⟨#[60, 63, 120, 62]⟩, .string ⟨#[60, 47, 62]⟩] : List Value)[j]'h = .string (pm j) := by
  match j, h with
  | 0, _ => rfl
  | 1, _ => rfl
  | 2, _ => rfl
  | 3, _ => rfl
  | 4, _ => rfl
  | 5, _ => rfl
  | 6, _ => rfl
  | 7, _ => rfl
  | 8, _ => rfl
  | 9, _ => rfl
  | 10, _ => rfl
  | 11, _ => rfl
  | 12, _ => rfl
  | 13, _ => rfl
  | 14, _ => rfl
  | 15, _ => rfl
  | 16, _ => rfl
  | 17, _ => rfl
  | 18, _ => rfl
  | 19, _ => rfl
  | 20, _ => rfl
  | 21, _ => rfl
  | 22, _ => rfl
  | 23, _ => rfl
  | 24, _ => rfl
  | j + 25, h => exact absurd h (by simp)

def pp (j : Nat) : ByteArray := match j with
  | 0 => ⟨#[120]⟩
  | 1 => ⟨#[60, 112, 62]⟩
  | 2 => ⟨#[60, 47, 112, 62]⟩
  | 3 => ⟨#[60, 105, 32, 97, 61, 98, 62]⟩
  | 4 => ⟨#[60, 33, 45, 45, 120, 45, 45, 62]⟩
  | _ => ⟨#[121, 32]⟩
theorem pp_size (j : Nat) : (pp j).size ≤ 8 := by
  unfold pp
  split <;> decide
theorem pp_cell (j : Nat) (hj : j < 6) (W : World) (T : TypeId) (s : Nat × Nat) :
    (W.alloc (.cells #[.string ⟨#[120]⟩, .string ⟨#[60, 112, 62]⟩, .string ⟨#[60, 47, 112, 62]⟩, .string ⟨#[60, 105, 32, 97, 61, 98, 62]⟩, .string ⟨#[60, 33, 45, 45, 120, 45, 45, 62]⟩, .string ⟨#[121, 32]⟩] T s)).cell? ⟨W.heap.size, j, none⟩ = some (.string (pp j)) := by
  match j, hj with
  | 0, _ => rw [Lib.cell_of_heap (heap_alloc_new W _)]; rfl
  | 1, _ => rw [Lib.cell_of_heap (heap_alloc_new W _)]; rfl
  | 2, _ => rw [Lib.cell_of_heap (heap_alloc_new W _)]; rfl
  | 3, _ => rw [Lib.cell_of_heap (heap_alloc_new W _)]; rfl
  | 4, _ => rw [Lib.cell_of_heap (heap_alloc_new W _)]; rfl
  | 5, _ => rw [Lib.cell_of_heap (heap_alloc_new W _)]; rfl
  | j + 6, h => exact absurd h (by omega)
theorem pp_get (j : Nat) (h : j < ([.string ⟨#[120]⟩, .string ⟨#[60, 112, 62]⟩, .string ⟨#[60, 47, 112, 62]⟩, .string ⟨#[60, 105, 32, 97, 61, 98, 62]⟩, .string ⟨#[60, 33, 45, 45, 120, 45, 45, 62]⟩, .string ⟨#[121, 32]⟩] : List Value).length) : ([.string ⟨#[120]⟩, .string ⟨#[60, 112, 62]⟩, .string ⟨#[60, 47, 112, 62]⟩, .string ⟨#[60, 105, 32, 97, 61, 98, 62]⟩, .string ⟨#[60, 33, 45, 45, 120, 45, 45, 62]⟩, .string ⟨#[121, 32]⟩] : List Value)[j]'h = .string (pp j) := by
  match j, h with
  | 0, _ => rfl
  | 1, _ => rfl
  | 2, _ => rfl
  | 3, _ => rfl
  | 4, _ => rfl
  | 5, _ => rfl
  | j + 6, h => exact absurd h (by simp)

def pg (j : Nat) : ByteArray := match j with
  | 0 => ⟨#[]⟩
  | 1 => ⟨#[32]⟩
  | 2 => ⟨#[10, 32]⟩
  | _ => ⟨#[9]⟩
theorem pg_size (j : Nat) : (pg j).size ≤ 2 := by
  unfold pg
  split <;> decide
theorem pg_cell (j : Nat) (hj : j < 4) (W : World) (T : TypeId) (s : Nat × Nat) :
    (W.alloc (.cells #[.string ⟨#[]⟩, .string ⟨#[32]⟩, .string ⟨#[10, 32]⟩, .string ⟨#[9]⟩] T s)).cell? ⟨W.heap.size, j, none⟩ = some (.string (pg j)) := by
  match j, hj with
  | 0, _ => rw [Lib.cell_of_heap (heap_alloc_new W _)]; rfl
  | 1, _ => rw [Lib.cell_of_heap (heap_alloc_new W _)]; rfl
  | 2, _ => rw [Lib.cell_of_heap (heap_alloc_new W _)]; rfl
  | 3, _ => rw [Lib.cell_of_heap (heap_alloc_new W _)]; rfl
  | j + 4, h => exact absurd h (by omega)
theorem pg_get (j : Nat) (h : j < ([.string ⟨#[]⟩, .string ⟨#[32]⟩, .string ⟨#[10, 32]⟩, .string ⟨#[9]⟩] : List Value).length) : ([.string ⟨#[]⟩, .string ⟨#[32]⟩, .string ⟨#[10, 32]⟩, .string ⟨#[9]⟩] : List Value)[j]'h = .string (pg j) := by
  match j, h with
  | 0, _ => rfl
  | 1, _ => rfl
  | 2, _ => rfl
  | 3, _ => rfl
  | j + 4, h => exact absurd h (by simp)

end Go.Proofs.YtfockedeikdbjaaGreatDoor

namespace Go.Proofs.YtfockedeikdbjaaGreatDoor
open Go.RowKit

set_option maxHeartbeats 4000000 in
set_option maxRecDepth 1000000 in
theorem markup_walk (ao : Option Addr) (cap : Nat) (zs : List Int) (n : Nat) (w : World) (hr : Rd w w.heap.size ao zs) (hn : n ≤ 25) :
    Calls Tryz.prog 11 #[.slice ao zs.length cap, .int .i64 n] w fun e w' => ∃ T : ByteArray, e = .returned (.string T) ∧ T.size ≤ 20 * n ∧ Below w.heap.size w w' := by
  have HR := Lib.hid hr
  clear hr
  go_enter Tryz.func11, Tryz.ntmps11
  go_wp2_with fail
  go_loopw [5, 6] (fun t i wr => ∃ (k : Nat) (T : ByteArray), k ≤ zs.length ∧ k ≤ n ∧ i = .int .i64 k ∧ t = .string T ∧ Below w.heap.size w wr ∧ T.size ≤ 20 * k) (fun _ i _ => zs.length - (intOf i).toNat)
  case atStart => exact ⟨0, ⟨#[]⟩, Nat.zero_le _, Nat.zero_le _, rfl, rfl, Below.refl _ _, Nat.le_refl _⟩
  case round =>
    obtain ⟨k, T, hk, hkn, rfl, rfl, hbw, hT⟩ := hrel
    have hbs := hbw.size
    by_cases hlt : k < zs.length
    · by_cases hlt2 : k < n
      · obtain ⟨ad, rfl, hb, hc⟩ := (HR.out.below hbw) k zs[k] (List.getElem?_eq_getElem hlt)
        generalize zs[k] = z at *
        have hc2 : ∀ o, (wr.alloc o).cell? (ad.add k) = some (.int .i64 z) := fun o => by
          rw [World.cell?_alloc_lt wr o (ad.add k) (by rw [add_block]; omega)]
          exact hc
        have hk0 : (0 : Int) ≤ (k : Int) := Int.natCast_nonneg _
        have hk1 : (k : Int) < (zs.length : Int) := by omega
        have hj0 := Int.emod_nonneg z (b := 25) (by omega)
        have hj1 := Int.emod_lt_of_pos z (b := 25) (by omega)
        obtain ⟨j, hj, ej⟩ : ∃ j : Nat, j < 25 ∧ z % 25 = (j : Int) := ⟨(z % 25).toNat, by omega, by omega⟩
        clear hj0 hj1
        have EJ := Lib.hid ej
        clear ej
        have hlc := pm_cell j hj
        have hlg := pm_get j
        have hsz := pm_size j
        have hj0 : (0 : Int) ≤ (j : Int) := Int.natCast_nonneg _
        have hj1 : (j : Int) < 25 := by omega
        go_wp2_with ((go_at_call_of 13 (Value.int IntKind.i64 z); refine (picked_walk _ _ _ (by omega) (by omega)).mono ?_; rintro e w' ⟨rfl, rfl⟩; rw [EJ.out]))
        go_roundw
        case rel => exact ⟨k + 1, _, by omega, by omega, by go_num, rfl, by go_grown, by rw [ByteArray.size_append]; omega⟩
        case measure => simp [intOf]; omega
      · go_wp2_with fail
        go_ret
        exact ⟨T, rfl, by omega, hbw⟩
    · go_wp2_with fail
      go_ret
      exact ⟨T, rfl, by omega, hbw⟩

end Go.Proofs.YtfockedeikdbjaaGreatDoor

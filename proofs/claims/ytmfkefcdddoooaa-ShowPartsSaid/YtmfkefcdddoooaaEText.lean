/- emit.Text. -/
import Derived.Test.YtmfkefcdddoooaaCheckAt
import Derived.Test.YtmfkefcdddoooaaWrite
namespace Go.Proofs.Ytmfkefcdddoooaa
open Go.RowKit

set_option maxHeartbeats 1000000 in
set_option maxRecDepth 1000000 in
theorem bld_len (B b : Nat) (l : List UInt8) (w : World) (h : BldAt B b l w) : Calls Try.prog 23 #[.pointer (some ⟨b, 0, none⟩)] w fun e w' => e = .returned (.int .i64 (l.length : Int)) ∧ w = w' := by
  obtain ⟨ao, cap, hbk, _⟩ := Bld_slice h
  have u1 : w.cell? ⟨b, 1, none⟩ = some (.slice ao l.length cap) := by rw [Lib.cell_of_heap hbk]; rfl
  clear hbk h
  go_enter Try.func23, Try.ntmps23
  go_wp2_with fail
  go_ret
  exact ⟨rfl, rfl⟩

set_option maxHeartbeats 8000000 in
set_option maxRecDepth 1000000 in
theorem etext_walk (v : Value) (l : List U.Tk) (w : World) (hL : RdKC w w.heap.size v l) (hz : l.length ≤ most) (hs : ∀ t ∈ l, Fits most t) :
    Calls Try.prog 11 #[v] w fun e w' => e = .returned (.tuple #[.string ⟨(U.textOf l).1.toArray⟩, .int .i64 ((U.textOf l).2 : Nat)]) ∧ Below w.heap.size w w' := by
  have hc := check_walk v l w hL hz hs
  obtain ⟨ao, cap, rfl, hcap⟩ := hL.len
  have hzz : l.length ≤ 9223372036854775807 := hz
  by_cases h0 : U.fault l = 0
  · rw [h0, show ((0 : Nat) : Int) = 0 from rfl] at hc
    have hft : ∀ t ∈ l, _ := U.faults_tok l false (by unfold U.fault at h0; split at h0; cases h0; exact h0)
    have hR : U.textOf l = if 600 < (U.emit (l.map U.Tk.tok)).length then ([], 1) else (U.emit (l.map U.Tk.tok), 0) := by unfold U.textOf; rw [if_pos h0]
    obtain ⟨R, hRR⟩ : ∃ R, U.textOf l = R := ⟨_, rfl⟩
    rw [hRR] at hR
    rw [hRR]
    have HR := Lib.hid hR
    have HC := Lib.hid hc
    have HL := Lib.hid hL
    have HS := Lib.hid hs
    have HF := Lib.hid hft
    clear hc hL hs hft hR hRR h0
    go_enter Try.func11, Try.ntmps11
    go_wp2_with (go_at_call 21; refine HC.out.mono ?_; rintro e w2 ⟨rfl, hb2⟩)
    have hs2 := hb2.size
    go_loopw [15] (fun i wr => ∃ k : Nat, k ≤ l.length ∧ i = .int .i64 k ∧ Bld w2.heap.size w2.heap.size (U.emit ((l.take k).map U.Tk.tok)) wr ∧ Below w.heap.size w wr ∧ w2.heap.size < wr.heap.size ∧ (U.emit ((l.take k).map U.Tk.tok)).length ≤ 600) (fun i _ => l.length - (intOf i).toNat)
    case atStart => exact ⟨0, Nat.zero_le _, rfl, (Lib.IsBuilderF.of (Lib.fresh_isBuilder 53 5 w2)), hb2.alloc hs2 _, by simp, by simp [U.emit]⟩
    case round =>
      obtain ⟨k, hk, rfl, hbd, hbw, hsz, hle⟩ := hrel
      have HBD := Lib.hid hbd
      have HLE := Lib.hid hle
      clear hbd hle
      have hbs := hbw.size
      by_cases hlt : k < l.length
      · have hx := List.getElem?_eq_getElem hlt
        have hm := List.getElem_mem hlt
        generalize l[k]'hlt = x at hx hm
        obtain ⟨g, o, aoA, capA, rfl, hg, d0, d1, d2, d3, d4, hA, hcA⟩ := HL.out.at hx
        have c0 := (hbw.cell (p := ⟨g, o + k * 5, none⟩) hg).trans d0
        have c1 := (hbw.cell (p := ⟨g, o + k * 5 + 1, none⟩) hg).trans d1
        have c2 := (hbw.cell (p := ⟨g, o + k * 5 + 2, none⟩) hg).trans d2
        have c3 := (hbw.cell (p := ⟨g, o + k * 5 + 3, none⟩) hg).trans d3
        have c4 := (hbw.cell (p := ⟨g, o + k * 5 + 4, none⟩) hg).trans d4
        have hk0 : (0 : Int) ≤ (k : Int) := Int.natCast_nonneg _
        have hk1 : (k : Int) < (l.length : Int) := by omega
        have hbN := hbw.alloc hbs (.cells #[.int .i64 x.kind, .string ⟨x.name.toArray⟩, .slice aoA x.attrs.length capA, .bool x.self, .string ⟨x.text.toArray⟩] 31 (0, 0))
        have hxk := HF.out x hm
        have hok : x.kind = 3 ∨ (x.kind = 2 ∧ x.name.length ≤ 12) ∨ (x.kind = 1 ∧ x.name.length ≤ 12 ∧ x.attrs.length ≤ 4 ∧ ∀ a ∈ x.attrs, a.1.length ≤ 12) := by
          rcases hxk with h | ⟨h, h1, _⟩ | ⟨h, h1, h2⟩
          · exact .inl h
          · exact .inr (.inl ⟨h, U.isName_le h1⟩)
          · exact .inr (.inr ⟨h, U.isName_le h1, h2.2.1, fun a ha => U.isName_le (h2.1 a ha)⟩)
        have hkk : x.kind = 1 ∨ x.kind = 2 ∨ x.kind = 3 := by
          rcases hxk with h | ⟨h, _⟩ | ⟨h, _⟩
          · exact .inr (.inr h)
          · exact .inr (.inl h)
          · exact .inl h
        have hwt := write_token w2.heap.size w2.heap.size (U.emit ((l.take k).map U.Tk.tok)) x aoA capA (wr.alloc (.cells #[.int .i64 x.kind, .string ⟨x.name.toArray⟩, .slice aoA x.attrs.length capA, .bool x.self, .string ⟨x.text.toArray⟩] 31 (0, 0)))
          (bld_below HBD.out ((Below.refl _ wr).alloc (Nat.le_refl _) _)) (by simp; omega) ((hA.keep fun p hp => hbN.cell hp).more hs2) (HS.out x hm) hok HLE.out
        unfold tkVal at hwt
        have hcut := U.tokC_cut hkk
        have het := U.emit_take hx
        have hel := U.emit_le l (k + 1)
        have hsz2 : w2.heap.size ≤ (wr.alloc (.cells #[.int .i64 x.kind, .string ⟨x.name.toArray⟩, .slice aoA x.attrs.length capA, .bool x.self, .string ⟨x.text.toArray⟩] 31 (0, 0))).heap.size := by simp; omega
        obtain ⟨X, hX⟩ : ∃ X, U.emit ((l.take k).map U.Tk.tok) ++ U.tokC x = X := ⟨_, rfl⟩
        rw [hX] at hwt
        have HWT := Lib.hid hwt
        have HX := Lib.hid (And.intro hX (And.intro hcut (And.intro het hel)))
        clear hwt hX hcut het hel hx hm hok hkk hxk d0 d1 d2 d3 d4 hA
        by_cases h6 : 600 < X.length
        · have h6z : (600 : Int) < (X.length : Int) := by omega
          go_wp2_with (first
            | (go_at_call 22; refine HWT.out.mono ?_; rintro e w6 ⟨rfl, k6, b6, o6⟩)
            | (go_at_call 23; refine (bld_len _ _ _ _ k6).mono ?_; rintro e w7 ⟨rfl, rfl⟩))
          go_ret2
          refine ⟨?_, hbN.trans (b6.mono hs2)⟩
          obtain ⟨hX, hcut, het, hel⟩ := HX.out
          have h7 : 600 < (U.emit (l.map U.Tk.tok)).length := by
            have h8 := hcut.1
            have h9 := congrArg List.length hX
            rw [List.length_append] at h9
            rw [het, List.length_append] at hel
            omega
          have h10 := HR.out
          rw [if_pos h7] at h10
          rw [h10]
          rfl
        · have h6z : ¬ (600 : Int) < (X.length : Int) := by omega
          go_wp2_with (first
            | (go_at_call 22; refine HWT.out.mono ?_; rintro e w6 ⟨rfl, k6, b6, o6⟩)
            | (go_at_call 23; refine (bld_len _ _ _ _ k6).mono ?_; rintro e w7 ⟨rfl, rfl⟩))
          have hXe : X = U.emit ((l.take (k + 1)).map U.Tk.tok) := by
            obtain ⟨hX, hcut, het, hel⟩ := HX.out
            have h9 := congrArg List.length hX
            rw [List.length_append] at h9
            rw [het, ← hX, hcut.2 (by omega)]
          rw [hXe] at k6 h6
          have hb8 := hbN.trans (b6.mono hs2)
          have hsz3 := b6.size
          have h6l : (U.emit ((l.take (k + 1)).map U.Tk.tok)).length ≤ 600 := by omega
          clear hXe h6 h6z b6 o6
          have K6 := Lib.hid k6
          have H6 := Lib.hid h6l
          clear k6 h6l
          go_roundw
          case rel => exact ⟨k + 1, by omega, by go_num, .inr K6.out, hb8, Nat.lt_of_lt_of_le (by simp; omega) hsz3, H6.out⟩
          case measure => simp [intOf]; omega
      · have hall : l.take k = l := List.take_of_length_le (by omega)
        rw [hall] at HBD HLE
        clear hall
        go_wp2_with (go_at_call 24; refine (Try.Builder_String_any_k w2.heap.size w2.heap.size (U.emit (l.map U.Tk.tok)) _ HBD.out (by omega)).mono ?_; rintro e w7 ⟨rfl, _, b7, _⟩)
        go_ret2
        refine ⟨?_, hbw.trans (b7.mono hs2)⟩
        have h10 := HR.out
        rw [if_neg (by have := HLE.out; omega)] at h10
        rw [h10]
        rfl
  · have hR : U.textOf l = ([], U.fault l) := by unfold U.textOf; rw [if_neg h0]
    rw [hR]
    have hne : (((U.fault l : Nat) : Int) != 0) = true := bne_iff_ne.2 (by omega)
    generalize U.fault l = R at hc hne
    have HC := Lib.hid hc
    clear hc hL hs h0 hR
    show Calls _ _ _ _ fun e w' => e = .returned (.tuple #[.string ⟨#[]⟩, .int .i64 (R : Int)]) ∧ _
    go_enter Try.func11, Try.ntmps11
    go_wp2_with (go_at_call 21; refine HC.out.mono ?_; rintro e w2 ⟨rfl, hb2⟩)
    go_ret2
    exact ⟨rfl, hb2⟩

end Go.Proofs.Ytmfkefcdddoooaa

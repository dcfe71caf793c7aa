/- emit.hasSameNames, emit.checkNames. -/
import Derived.Test.YtmfkefcdddoooaaIsName
import Derived.Test.YtmfkefcdddoooaaFindAtt
import Derived.Test.YtmfkefcdddoooaaRdKC
import Derived.Test.YtmfkefcdddoooaaFaultAt
import Derived.Handy
namespace Go.Proofs.Ytmfkefcdddoooaa
open Go.RowKit

set_option maxHeartbeats 4000000 in
set_option maxRecDepth 1000000 in
theorem is_unnamed (x : U.Att) (W : World) : Calls Try.prog 69 #[.agg #[.string ⟨x.1.toArray⟩, .string ⟨x.2.toArray⟩]] W fun e w' => e = .returned (.bool (!U.isName x.1)) ∧ Below W.heap.size W w' := by
  have hn := fun w2 => emit_name ⟨x.1.toArray⟩ w2
  rw [list_of_mk] at hn
  have HN := Lib.hid hn
  clear hn
  go_enter Try.func69, Try.ntmps69
  go_wp2_with (go_at_call 70; refine (HN.out _).mono ?_; rintro e w' ⟨rfl, hb'⟩)
  go_ret
  exact ⟨rfl, ((Below.refl _ W).alloc (Nat.le_refl _) _).trans (hb'.mono (by simp))⟩

set_option maxHeartbeats 4000000 in
set_option maxRecDepth 1000000 in
theorem has_name (b : Nat) (nm : List UInt8) (x : U.Att) (w W : World) (hb : b < w.heap.size) (hc : w.cell? ⟨b, 0, none⟩ = some (.string ⟨nm.toArray⟩)) (hB : Below w.heap.size w W) :
    Calls Try.prog 85 #[.agg #[.string ⟨x.1.toArray⟩, .string ⟨x.2.toArray⟩], .pointer (some ⟨b, 0, none⟩)] W fun e w' => e = .returned (.bool (x.1 == nm)) ∧ Below W.heap.size W w' := by
  have c0 := (hB.cell (p := ⟨b, 0, none⟩) hb).trans hc
  have hBW : b < W.heap.size := Nat.lt_of_lt_of_le hb hB.size
  have hne : b ≠ W.heap.size := by omega
  clear hb hc hB
  go_enter Try.func85, Try.ntmps85
  go_wp2_with fail
  go_ret
  exact ⟨rfl, (Below.refl _ W).alloc (Nat.le_refl _) _⟩

set_option maxHeartbeats 4000000 in
set_option maxRecDepth 1000000 in
theorem same_names (ao : Option Addr) (cap : Nat) (al : List U.Att) (w : World) (hA : RdA w w.heap.size (.slice ao al.length cap) al) (hcap : al.length ≤ cap) (hz : al.length ≤ most) :
    Calls Try.prog 72 #[.slice ao al.length cap] w fun e w' => e = .returned (.bool (U.dup al)) ∧ Below w.heap.size w w' := by
  have HA := Lib.hid hA
  obtain ⟨R, hR⟩ : ∃ R, U.dup al = R := ⟨_, rfl⟩
  rw [hR]
  have HR := Lib.hid hR
  clear hR hA
  have hz2 := hz
  unfold most at hz2
  go_enter Try.func72, Try.ntmps72
  go_wp2_with fail
  go_loopw [8] (fun i wr => ∃ k : Nat, k ≤ al.length ∧ i = .int .i64 k ∧ Below w.heap.size w wr ∧ Hid (U.dupF (al.take k) (al.drop k) = R)) (fun i _ => al.length - (intOf i).toNat)
  case atStart => exact ⟨0, Nat.zero_le _, rfl, Below.refl _ _, HR.out⟩
  case round =>
    obtain ⟨k, hk, rfl, hbw, HD⟩ := hrel
    by_cases hlt : k < al.length
    · have hx := List.getElem?_eq_getElem hlt
      generalize al[k]'hlt = x at hx
      obtain ⟨g, o, rfl, hg, d0, d1⟩ := HA.out.at hx
      have c0 := (hbw.cell (p := ⟨g, o + k * 2, none⟩) hg).trans d0
      have c1 := (hbw.cell (p := ⟨g, o + k * 2 + 1, none⟩) hg).trans d1
      have hk0 : (0 : Int) ≤ (k : Int) := Int.natCast_nonneg _
      have hk1 : (k : Int) < (al.length : Int) := by omega
      have hk2 : (k : Int) ≤ (cap : Int) := by omega
      have hbs := hbw.size
      have hbN := hbw.alloc hbs (.cells #[.string ⟨x.1.toArray⟩, .string ⟨x.2.toArray⟩] 48 (0, 0))
      have eg := enters_of Try.func85 (by kernel_rfl) rfl
      have hRT : RdA (wr.alloc (.cells #[.string ⟨x.1.toArray⟩, .string ⟨x.2.toArray⟩] 48 (0, 0))) (wr.alloc (.cells #[.string ⟨x.1.toArray⟩, .string ⟨x.2.toArray⟩] 48 (0, 0))).heap.size (.slice (some ⟨g, o, none⟩) k cap) (al.take k) := by
        refine RdA.more ?_ hbN.size
        refine ⟨_, cap, by rw [List.length_take]; congr; omega, fun i y hy => ?_⟩
        have hi : i < k := by have := (List.getElem?_eq_some_iff.1 hy).1; rw [List.length_take] at this; omega
        rw [List.getElem?_take_of_lt hi] at hy
        obtain ⟨g2, o2, e2, hg2, y0, y1⟩ := HA.out.at hy
        exact ⟨g2, o2, e2, hg2, (hbN.cell (p := ⟨g2, o2 + i * 2, none⟩) hg2).trans y0, (hbN.cell (p := ⟨g2, o2 + i * 2 + 1, none⟩) hg2).trans y1⟩
      have hcon := contains_att 85 #[.pointer (some ⟨wr.heap.size, 0, none⟩)] eg (fun e => e.1 == x.1) (.slice (some ⟨g, o, none⟩) k cap) (al.take k) _ hRT (by rw [List.length_take]; omega)
        (fun W y _ hB => (has_name wr.heap.size x.1 y _ W (by simp) (by rw [Lib.cell_of_heap (heap_alloc_new wr _)]; rfl) hB).mono fun e w' h => ⟨h.1, hB.trans (h.2.mono hB.size)⟩)
      have HX := Lib.hid hx
      have hst := dup_step hx
      clear hx hRT eg d0 d1
      cases hq : (al.take k).any (fun e => e.1 == x.1) with
      | true =>
        rw [hq] at hcon hst
        have HST := Lib.hid hst
        have HCN := Lib.hid hcon
        clear hq hcon hst
        go_wp2_with (go_at_call 71; refine HCN.out.mono ?_; rintro e w' ⟨rfl, hb'⟩)
        go_ret
        refine ⟨?_, hbN.trans (hb'.mono hbN.size)⟩
        have h1 := HST.out.symm.trans HD.out
        rw [← h1]
        rfl
      | false =>
        rw [hq] at hcon hst
        have HST := Lib.hid hst
        have HCN := Lib.hid hcon
        clear hq hcon hst
        go_wp2_with (go_at_call 71; refine HCN.out.mono ?_; rintro e w' ⟨rfl, hb'⟩)
        go_roundw
        case rel => exact ⟨k + 1, by omega, by go_num, hbN.trans (hb'.mono hbN.size), HST.out.symm.trans HD.out⟩
        case measure => simp [intOf]; omega
    · go_wp2_with fail
      go_ret
      refine ⟨?_, hbw⟩
      have h1 := HD.out
      obtain rfl : k = al.length := by omega
      rw [dup_end] at h1
      rw [← h1]
      rfl

/-- a token as a value -/
def tkVal (t : U.Tk) (ao : Option Addr) (cap : Nat) : Value := .agg #[.int .i64 t.kind, .string ⟨t.name.toArray⟩, .slice ao t.attrs.length cap, .bool t.self, .string ⟨t.text.toArray⟩]

set_option maxHeartbeats 4000000 in
set_option maxRecDepth 1000000 in
theorem check_names (t : U.Tk) (ao : Option Addr) (cap : Nat) (w : World) (hA : RdA w w.heap.size (.slice ao t.attrs.length cap) t.attrs) (hcap : t.attrs.length ≤ cap) (hf : Fits most t) :
    Calls Try.prog 57 #[tkVal t ao cap] w fun e w' => e = .returned (.int .i64 (U.namesFault t : Nat)) ∧ Below w.heap.size w w' := by
  have f3 : t.attrs.length ≤ most := hf
  obtain ⟨R, hR⟩ : ∃ R, U.namesFault t = R := ⟨_, rfl⟩
  rw [hR]
  have HR := Lib.hid hR
  have hb4 := (Below.refl w.heap.size w).alloc (Nat.le_refl _) (.cells #[.int .i64 t.kind, .string ⟨t.name.toArray⟩, .slice ao t.attrs.length cap, .bool t.self, .string ⟨t.text.toArray⟩] 31 (0, 0))
  have hq4 := heap_alloc_new w (.cells #[.int .i64 t.kind, .string ⟨t.name.toArray⟩, .slice ao t.attrs.length cap, .bool t.self, .string ⟨t.text.toArray⟩] 31 (0, 0))
  have hn := fun w2 => emit_name ⟨t.name.toArray⟩ w2
  rw [list_of_mk] at hn
  have hcon : ∀ W, Below (w.alloc (.cells #[.int .i64 t.kind, .string ⟨t.name.toArray⟩, .slice ao t.attrs.length cap, .bool t.self, .string ⟨t.text.toArray⟩] 31 (0, 0))).heap.size
      (w.alloc (.cells #[.int .i64 t.kind, .string ⟨t.name.toArray⟩, .slice ao t.attrs.length cap, .bool t.self, .string ⟨t.text.toArray⟩] 31 (0, 0))) W →
      Calls Try.prog 71 #[.slice ao t.attrs.length cap, .func (.func 69) #[] #[]] W fun e w' => e = .returned (.bool (t.attrs.any fun a => !U.isName a.1)) ∧ Below W.heap.size W w' := fun W hB =>
    contains_att 69 #[] (enters_of Try.func69 (by kernel_rfl) rfl) (fun a => !U.isName a.1) _ t.attrs W
      ((hA.keep fun p hp => (hB.cell (p := p) (Nat.lt_of_lt_of_le hp hb4.size)).trans (hb4.cell hp)).more (Nat.le_trans hb4.size hB.size)) f3
      (fun W2 x _ hB2 => (is_unnamed x W2).mono fun e w' h => ⟨h.1, hB2.trans (h.2.mono hB2.size)⟩)
  have hsn : ∀ W, Below (w.alloc (.cells #[.int .i64 t.kind, .string ⟨t.name.toArray⟩, .slice ao t.attrs.length cap, .bool t.self, .string ⟨t.text.toArray⟩] 31 (0, 0))).heap.size
      (w.alloc (.cells #[.int .i64 t.kind, .string ⟨t.name.toArray⟩, .slice ao t.attrs.length cap, .bool t.self, .string ⟨t.text.toArray⟩] 31 (0, 0))) W →
      Calls Try.prog 72 #[.slice ao t.attrs.length cap] W fun e w' => e = .returned (.bool (U.dup t.attrs)) ∧ Below W.heap.size W w' := fun W hB =>
    same_names ao cap t.attrs W ((hA.keep fun p hp => (hB.cell (p := p) (Nat.lt_of_lt_of_le hp hb4.size)).trans (hb4.cell hp)).more (Nat.le_trans hb4.size hB.size)) hcap f3
  have eg := enters_of Try.func69 (by kernel_rfl) rfl
  have HN := Lib.hid hn
  have HC := Lib.hid hcon
  have HS := Lib.hid hsn
  have HQ := Lib.hid hq4
  have f3' := f3
  unfold most at f3'
  unfold tkVal
  clear hn hcon hsn hq4 hA hR eg
  cases h1 : U.isName t.name with
  | false =>
    rw [h1] at HN
    have h5 : R = 5 := by rw [← HR.out]; unfold U.namesFault; rw [h1]; rfl
    subst h5
    clear h1
    go_enter Try.func57, Try.ntmps57
    go_wp2_with (go_at_call 70; refine (HN.out _).mono ?_; rintro e w2 ⟨rfl, hb2⟩)
    go_ret
    exact ⟨rfl, hb4.trans (hb2.mono hb4.size)⟩
  | true =>
    rw [h1] at HN
    have h5 : U.attrsFault t.attrs = R := by rw [← HR.out]; unfold U.namesFault; rw [if_pos h1]
    clear h1 HR
    unfold U.attrsFault at h5
    cases h2 : t.attrs.any (fun a => !U.isName a.1) with
    | true =>
      rw [h2] at HC h5
      have h6 : (5 : Nat) = R := h5
      subst h6
      clear h2 h5
      go_enter Try.func57, Try.ntmps57
      go_wp2_with (first
        | (go_at_call 70; refine (HN.out _).mono ?_; rintro e w2 ⟨rfl, hb2⟩; have u2 : w2.cell? ⟨w.heap.size, 2, none⟩ = some (.slice ao t.attrs.length cap) := (hb2.cell (p := ⟨w.heap.size, 2, none⟩) (by simp)).trans (by rw [Lib.cell_of_heap HQ.out]; rfl))
        | (go_at_call 71; refine (HC.out _ hb2).mono ?_; rintro e w3 ⟨rfl, hb3⟩))
      go_ret
      exact ⟨rfl, hb4.trans ((hb2.trans (hb3.mono hb2.size)).mono hb4.size)⟩
    | false =>
      rw [h2] at HC h5
      clear h2
      have h6 : (if 4 < t.attrs.length then 1 else if U.dup t.attrs = true then 8 else 0) = R := h5
      have H6 := Lib.hid h6
      clear h5 h6
      by_cases h4 : 4 < t.attrs.length
      · have h7 := H6.out
        rw [if_pos h4] at h7
        subst h7
        have h4z : (4 : Int) < (t.attrs.length : Int) := by omega
        go_enter Try.func57, Try.ntmps57
        go_wp2_with (first
          | (go_at_call 70; refine (HN.out _).mono ?_; rintro e w2 ⟨rfl, hb2⟩; have u2 : w2.cell? ⟨w.heap.size, 2, none⟩ = some (.slice ao t.attrs.length cap) := (hb2.cell (p := ⟨w.heap.size, 2, none⟩) (by simp)).trans (by rw [Lib.cell_of_heap HQ.out]; rfl))
          | (go_at_call 71; refine (HC.out _ hb2).mono ?_; rintro e w3 ⟨rfl, hb3⟩; have hb23 := hb2.trans (hb3.mono hb2.size); have u3 : w3.cell? ⟨w.heap.size, 2, none⟩ = some (.slice ao t.attrs.length cap) := (hb23.cell (p := ⟨w.heap.size, 2, none⟩) (by simp)).trans (by rw [Lib.cell_of_heap HQ.out]; rfl)))
        go_ret
        exact ⟨rfl, hb4.trans (hb23.mono hb4.size)⟩
      · have h7 := H6.out
        rw [if_neg h4] at h7
        have h4z : ¬ (4 : Int) < (t.attrs.length : Int) := by omega
        clear H6 h4
        cases h8 : U.dup t.attrs with
        | true =>
          rw [h8] at HS h7
          have h9 : (8 : Nat) = R := h7
          subst h9
          clear h8 h7
          go_enter Try.func57, Try.ntmps57
          go_wp2_with (first
            | (go_at_call 70; refine (HN.out _).mono ?_; rintro e w2 ⟨rfl, hb2⟩; have u2 : w2.cell? ⟨w.heap.size, 2, none⟩ = some (.slice ao t.attrs.length cap) := (hb2.cell (p := ⟨w.heap.size, 2, none⟩) (by simp)).trans (by rw [Lib.cell_of_heap HQ.out]; rfl))
            | (go_at_call 71; refine (HC.out _ hb2).mono ?_; rintro e w3 ⟨rfl, hb3⟩; have hb23 := hb2.trans (hb3.mono hb2.size); have u3 : w3.cell? ⟨w.heap.size, 2, none⟩ = some (.slice ao t.attrs.length cap) := (hb23.cell (p := ⟨w.heap.size, 2, none⟩) (by simp)).trans (by rw [Lib.cell_of_heap HQ.out]; rfl))
            | (go_at_call 72; refine (HS.out _ hb23).mono ?_; rintro e w5 ⟨rfl, hb5⟩))
          go_ret
          exact ⟨rfl, hb4.trans ((hb23.trans (hb5.mono hb23.size)).mono hb4.size)⟩
        | false =>
          rw [h8] at HS h7
          have h9 : (0 : Nat) = R := h7
          subst h9
          clear h8 h7
          go_enter Try.func57, Try.ntmps57
          go_wp2_with (first
            | (go_at_call 70; refine (HN.out _).mono ?_; rintro e w2 ⟨rfl, hb2⟩; have u2 : w2.cell? ⟨w.heap.size, 2, none⟩ = some (.slice ao t.attrs.length cap) := (hb2.cell (p := ⟨w.heap.size, 2, none⟩) (by simp)).trans (by rw [Lib.cell_of_heap HQ.out]; rfl))
            | (go_at_call 71; refine (HC.out _ hb2).mono ?_; rintro e w3 ⟨rfl, hb3⟩; have hb23 := hb2.trans (hb3.mono hb2.size); have u3 : w3.cell? ⟨w.heap.size, 2, none⟩ = some (.slice ao t.attrs.length cap) := (hb23.cell (p := ⟨w.heap.size, 2, none⟩) (by simp)).trans (by rw [Lib.cell_of_heap HQ.out]; rfl))
            | (go_at_call 72; refine (HS.out _ hb23).mono ?_; rintro e w5 ⟨rfl, hb5⟩))
          go_ret
          exact ⟨rfl, hb4.trans ((hb23.trans (hb5.mono hb23.size)).mono hb4.size)⟩

end Go.Proofs.Ytmfkefcdddoooaa

/- Several texts in one: RefAtts, FindAtt, CheckNames. -/
import Derived.Handy
import Derived.Test.YtfockedeikdbjaaGreatDoorP16
import Derived.Test.YtfockedeikdbjaaGreatDoorP15
import Derived.Test.YtfockedeikdbjaaGreatDoorIsName
import Derived.Test.YtfockedeikdbjaaGreatDoorP03
namespace Go.Proofs.YtfockedeikdbjaaGreatDoor
open Go.RowKit

theorem take_any {l : List U.Att} {k : Nat} {x : U.Att} (p : U.Att → Bool) (hx : l[k]? = some x) (h : (l.take k).any p = false) (hp : p x = false) : (l.take (k + 1)).any p = false := by
  obtain ⟨hk, e⟩ := List.getElem?_eq_some_iff.1 hx
  rw [List.take_succ_eq_append_getElem hk, e, List.any_append, h]
  simp [hp]
/-- no two of the first k have one name -/
theorem dup_step {l : List U.Att} {k : Nat} {x : U.Att} (hx : l[k]? = some x) : U.dupF (l.take k) (l.drop k) = ((l.take k).any (fun e => e.1 == x.1) || U.dupF (l.take (k + 1)) (l.drop (k + 1))) := by
  obtain ⟨hk, e⟩ := List.getElem?_eq_some_iff.1 hx
  rw [List.drop_eq_getElem_cons hk, e, U.dupF, List.take_succ_eq_append_getElem hk, e]
theorem dup_end (l : List U.Att) : U.dupF (l.take l.length) (l.drop l.length) = false := by rw [List.drop_length]; rfl
/-- where a cell lies that is read of an attribute -/
theorem RdA.at {w : World} {B : Nat} {ao : Option Addr} {n cap : Nat} {al : List U.Att} (h : RdA w B (.slice ao n cap) al) {i : Nat} {x : U.Att} (hx : al[i]? = some x) :
    ∃ g o, ao = some ⟨g, o, none⟩ ∧ g < B ∧ w.cell? ⟨g, o + i * 2, none⟩ = some (.string ⟨x.1.toArray⟩) ∧ w.cell? ⟨g, o + i * 2 + 1, none⟩ = some (.string ⟨x.2.toArray⟩) := by
  obtain ⟨ao2, cap2, e, hc⟩ := h
  injection e with e1 _ _
  subst e1
  exact hc i x hx


end Go.Proofs.YtfockedeikdbjaaGreatDoor

namespace Go.Proofs.YtfockedeikdbjaaGreatDoor
open Go.RowKit

/-- a function that tells something of an attribute, in whatever world behind this one -/
def Tells (g : Nat) (lb : Array Value) (p : U.Att → Bool) (al : List U.Att) (w : World) : Prop :=
  ∀ (W : World) (x : U.Att), x ∈ al → Below w.heap.size w W → Calls Tryz.prog g (#[.agg #[.string ⟨x.1.toArray⟩, .string ⟨x.2.toArray⟩]] ++ lb) W fun e w' => e = .returned (.bool (p x)) ∧ Below w.heap.size w w'

set_option maxHeartbeats 4000000 in
set_option maxRecDepth 1000000 in
theorem index_att (g : Nat) (lb : Array Value) (eg : ∀ args w, (callFunc g args).run Tryz.prog w = .ok (.enter g args) w) (p : U.Att → Bool) (v : Value) (al : List U.Att) (w : World) (hA : RdA w w.heap.size v al) (hz : al.length ≤ most) (hp : Tells g lb p al w) :
    Calls Tryz.prog 63 #[v, .func (.func g) #[] lb] w fun e w' => ∃ i : Int, e = .returned (.int .i64 i) ∧ (0 ≤ i ↔ al.any p = true) ∧ Below w.heap.size w w' := by
  obtain ⟨ao, cap, rfl, hc⟩ := hA
  have HC := Lib.hid hc
  have HP := Lib.hid hp
  clear hc hp
  unfold most at hz
  go_enter Tryz.func63, Tryz.ntmps63
  go_wp2_with fail
  go_loopw [8] (fun i wr => ∃ k : Nat, k ≤ al.length ∧ i = .int .i64 k ∧ Below w.heap.size w wr ∧ Hid ((al.take k).any p = false)) (fun i _ => al.length - (intOf i).toNat)
  case atStart => exact ⟨0, Nat.zero_le _, rfl, Below.refl _ _, rfl⟩
  case round =>
    obtain ⟨k, hk, rfl, hbw, HN⟩ := hrel
    by_cases hlt : k < al.length
    · have hx := List.getElem?_eq_getElem hlt
      have hm := List.getElem_mem hlt
      generalize al[k]'hlt = x at hx hm
      obtain ⟨gb, o, rfl, hg, d0, d1⟩ := HC.out k x hx
      have c0 := (hbw.cell (p := ⟨gb, o + k * 2, none⟩) hg).trans d0
      have c1 := (hbw.cell (p := ⟨gb, o + k * 2 + 1, none⟩) hg).trans d1
      have hk0 : (0 : Int) ≤ (k : Int) := Int.natCast_nonneg _
      have hk1 : (k : Int) < (al.length : Int) := by omega
      have HX := Lib.hid hx
      have hcall := HP.out wr x hm hbw
      have HM := Lib.hid hm
      clear hx hm d0 d1
      cases hq : p x with
      | true =>
        rw [hq] at hcall
        have HQ := Lib.hid hq
        have HCL := Lib.hid hcall
        clear hq hcall
        go_wp2_with (go_at_fn g; refine HCL.out.mono ?_; rintro e w' ⟨rfl, hb'⟩)
        go_ret
        exact ⟨(k : Int), rfl, ⟨fun _ => List.any_eq_true.2 ⟨x, HM.out, HQ.out⟩, fun _ => hk0⟩, hb'⟩
      | false =>
        rw [hq] at hcall
        have HQ := Lib.hid hq
        have HCL := Lib.hid hcall
        clear hq hcall
        go_wp2_with (go_at_fn g; refine HCL.out.mono ?_; rintro e w' ⟨rfl, hb'⟩)
        go_roundw
        case rel => exact ⟨k + 1, by omega, by go_num, hb', take_any _ HX.out HN.out HQ.out⟩
        case measure => simp [intOf]; omega
    · go_wp2_with fail
      go_ret
      refine ⟨-1, rfl, ?_, hbw⟩
      have hall : al.any p = false := by
        have := HN.out
        rwa [List.take_of_length_le (by omega)] at this
      rw [hall]
      constructor
      · intro h; omega
      · intro h; cases h
set_option maxHeartbeats 4000000 in
set_option maxRecDepth 1000000 in
theorem contains_att (g : Nat) (lb : Array Value) (eg : ∀ args w, (callFunc g args).run Tryz.prog w = .ok (.enter g args) w) (p : U.Att → Bool) (v : Value) (al : List U.Att) (w : World) (hA : RdA w w.heap.size v al) (hz : al.length ≤ most) (hp : Tells g lb p al w) :
    Calls Tryz.prog 41 #[v, .func (.func g) #[] lb] w fun e w' => e = .returned (.bool (al.any p)) ∧ Below w.heap.size w w' := by
  have H := Lib.hid (index_att g lb eg p v al w hA hz hp)
  clear hA hp eg
  obtain ⟨R, hR⟩ : ∃ R, al.any p = R := ⟨_, rfl⟩
  rw [hR]
  have HR := Lib.hid hR
  clear hR
  go_enter Tryz.func41, Tryz.ntmps41
  go_wp2_with (refine H.out.mono ?_; rintro e w' ⟨i, rfl, hi, hb'⟩; have HI := Lib.hid hi; clear hi)
  go_ret
  refine ⟨?_, hb'⟩
  have h1 := HI.out
  rw [HR.out] at h1
  have h2 : decide (0 ≤ i) = R := by
    cases R with
    | true => exact decide_eq_true (h1.2 rfl)
    | false => exact decide_eq_false (fun h => by cases h1.1 h)
  rw [← h2]
  rfl

end Go.Proofs.YtfockedeikdbjaaGreatDoor

namespace Go.Proofs.YtfockedeikdbjaaGreatDoor
open Go.RowKit

set_option maxHeartbeats 4000000 in
set_option maxRecDepth 1000000 in
theorem is_unnamed (x : U.Att) (W : World) : Calls Tryz.prog 39 #[.agg #[.string ⟨x.1.toArray⟩, .string ⟨x.2.toArray⟩]] W fun e w' => e = .returned (.bool (!U.isName x.1)) ∧ Below W.heap.size W w' := by
  have hn := fun w2 => emit_name ⟨x.1.toArray⟩ w2
  rw [list_of_mk] at hn
  have HN := Lib.hid hn
  clear hn
  go_enter Tryz.func39, Tryz.ntmps39
  go_wp2_with (go_at_call 40; refine (HN.out _).mono ?_; rintro e w' ⟨rfl, hb'⟩)
  go_ret
  exact ⟨rfl, ((Below.refl _ W).alloc (Nat.le_refl _) _).trans (hb'.mono (by simp))⟩

set_option maxHeartbeats 4000000 in
set_option maxRecDepth 1000000 in
theorem has_name (b : Nat) (nm : List UInt8) (x : U.Att) (w W : World) (hb : b < w.heap.size) (hc : w.cell? ⟨b, 0, none⟩ = some (.string ⟨nm.toArray⟩)) (hB : Below w.heap.size w W) :
    Calls Tryz.prog 64 #[.agg #[.string ⟨x.1.toArray⟩, .string ⟨x.2.toArray⟩], .pointer (some ⟨b, 0, none⟩)] W fun e w' => e = .returned (.bool (x.1 == nm)) ∧ Below W.heap.size W w' := by
  have c0 := (hB.cell (p := ⟨b, 0, none⟩) hb).trans hc
  have hBW : b < W.heap.size := Nat.lt_of_lt_of_le hb hB.size
  have hne : b ≠ W.heap.size := by omega
  clear hb hc hB
  go_enter Tryz.func64, Tryz.ntmps64
  go_wp2_with fail
  go_ret
  exact ⟨rfl, (Below.refl _ W).alloc (Nat.le_refl _) _⟩

set_option maxHeartbeats 4000000 in
set_option maxRecDepth 1000000 in
theorem same_names (ao : Option Addr) (cap : Nat) (al : List U.Att) (w : World) (hA : RdA w w.heap.size (.slice ao al.length cap) al) (hcap : al.length ≤ cap) (hz : al.length ≤ most) :
    Calls Tryz.prog 42 #[.slice ao al.length cap] w fun e w' => e = .returned (.bool (U.dup al)) ∧ Below w.heap.size w w' := by
  have HA := Lib.hid hA
  obtain ⟨R, hR⟩ : ∃ R, U.dup al = R := ⟨_, rfl⟩
  rw [hR]
  have HR := Lib.hid hR
  clear hR hA
  have hz2 := hz
  unfold most at hz2
  go_enter Tryz.func42, Tryz.ntmps42
  go_wp2_with fail
  go_loopw [8] (fun i wr => ∃ k : Nat, k ≤ al.length ∧ i = .int .i64 k ∧ Below w.heap.size w wr ∧ Hid (U.dupF (al.take k) (al.drop k) = R)) (fun i _ => al.length - (intOf i).toNat)
  case atStart => exact ⟨0, Nat.zero_le _, rfl, Below.refl _ _, HR.out⟩
  case round =>
    obtain ⟨k, hk, rfl, hbw, HD⟩ := hrel
    by_cases hlt : k < al.length
    · have hx := List.getElem?_eq_getElem hlt
      generalize al[k]'hlt = x at hx
      obtain ⟨g, o, rfl, hg, d0, d1⟩ := HA.out.at hx
      have c0 := (hbw.cell (p := ⟨g, o + k * 2, none⟩) hg).trans d0
      have c1 := (hbw.cell (p := ⟨g, o + k * 2 + 1, none⟩) hg).trans d1
      have hk0 : (0 : Int) ≤ (k : Int) := Int.natCast_nonneg _
      have hk1 : (k : Int) < (al.length : Int) := by omega
      have hk2 : (k : Int) ≤ (cap : Int) := by omega
      have hbs := hbw.size
      have hbN := hbw.alloc hbs (.cells #[.string ⟨x.1.toArray⟩, .string ⟨x.2.toArray⟩] 37 (0, 0))
      have eg := enters_of Tryz.func64 (by kernel_rfl) rfl
      have hRT : RdA (wr.alloc (.cells #[.string ⟨x.1.toArray⟩, .string ⟨x.2.toArray⟩] 37 (0, 0))) (wr.alloc (.cells #[.string ⟨x.1.toArray⟩, .string ⟨x.2.toArray⟩] 37 (0, 0))).heap.size (.slice (some ⟨g, o, none⟩) k cap) (al.take k) := by
        refine RdA.more ?_ hbN.size
        refine ⟨_, cap, by rw [List.length_take]; congr; omega, fun i y hy => ?_⟩
        have hi : i < k := by have := (List.getElem?_eq_some_iff.1 hy).1; rw [List.length_take] at this; omega
        rw [List.getElem?_take_of_lt hi] at hy
        obtain ⟨g2, o2, e2, hg2, y0, y1⟩ := HA.out.at hy
        exact ⟨g2, o2, e2, hg2, (hbN.cell (p := ⟨g2, o2 + i * 2, none⟩) hg2).trans y0, (hbN.cell (p := ⟨g2, o2 + i * 2 + 1, none⟩) hg2).trans y1⟩
      have hcon := contains_att 64 #[.pointer (some ⟨wr.heap.size, 0, none⟩)] eg (fun e => e.1 == x.1) (.slice (some ⟨g, o, none⟩) k cap) (al.take k) _ hRT (by rw [List.length_take]; omega)
        (fun W y _ hB => (has_name wr.heap.size x.1 y _ W (by simp) (by rw [Lib.cell_of_heap (heap_alloc_new wr _)]; rfl) hB).mono fun e w' h => ⟨h.1, hB.trans (h.2.mono hB.size)⟩)
      have HX := Lib.hid hx
      have hst := dup_step hx
      clear hx hRT eg d0 d1
      cases hq : (al.take k).any (fun e => e.1 == x.1) with
      | true =>
        rw [hq] at hcon hst
        have HST := Lib.hid hst
        have HCN := Lib.hid hcon
        clear hq hcon hst
        go_wp2_with (go_at_call 41; refine HCN.out.mono ?_; rintro e w' ⟨rfl, hb'⟩)
        go_ret
        refine ⟨?_, hbN.trans (hb'.mono hbN.size)⟩
        have h1 := HST.out.symm.trans HD.out
        rw [← h1]
        rfl
      | false =>
        rw [hq] at hcon hst
        have HST := Lib.hid hst
        have HCN := Lib.hid hcon
        clear hq hcon hst
        go_wp2_with (go_at_call 41; refine HCN.out.mono ?_; rintro e w' ⟨rfl, hb'⟩)
        go_roundw
        case rel => exact ⟨k + 1, by omega, by go_num, hbN.trans (hb'.mono hbN.size), HST.out.symm.trans HD.out⟩
        case measure => simp [intOf]; omega
    · go_wp2_with fail
      go_ret
      refine ⟨?_, hbw⟩
      have h1 := HD.out
      obtain rfl : k = al.length := by omega
      rw [dup_end] at h1
      rw [← h1]
      rfl

/-- a token as a value -/
def tkVal (t : U.Tk) (ao : Option Addr) (cap : Nat) : Value := .agg #[.int .i64 t.kind, .string ⟨t.name.toArray⟩, .slice ao t.attrs.length cap, .bool t.self, .string ⟨t.text.toArray⟩]

set_option maxHeartbeats 4000000 in
set_option maxRecDepth 1000000 in
theorem check_names (t : U.Tk) (ao : Option Addr) (cap : Nat) (w : World) (hA : RdA w w.heap.size (.slice ao t.attrs.length cap) t.attrs) (hcap : t.attrs.length ≤ cap) (hf : Fits most t) :
    Calls Tryz.prog 26 #[tkVal t ao cap] w fun e w' => e = .returned (.int .i64 (U.namesFault t : Nat)) ∧ Below w.heap.size w w' := by
  have f3 : t.attrs.length ≤ most := hf
  obtain ⟨R, hR⟩ : ∃ R, U.namesFault t = R := ⟨_, rfl⟩
  rw [hR]
  have HR := Lib.hid hR
  have hb4 := (Below.refl w.heap.size w).alloc (Nat.le_refl _) (.cells #[.int .i64 t.kind, .string ⟨t.name.toArray⟩, .slice ao t.attrs.length cap, .bool t.self, .string ⟨t.text.toArray⟩] 33 (0, 0))
  have hq4 := heap_alloc_new w (.cells #[.int .i64 t.kind, .string ⟨t.name.toArray⟩, .slice ao t.attrs.length cap, .bool t.self, .string ⟨t.text.toArray⟩] 33 (0, 0))
  have hn := fun w2 => emit_name ⟨t.name.toArray⟩ w2
  rw [list_of_mk] at hn
  have hcon : ∀ W, Below (w.alloc (.cells #[.int .i64 t.kind, .string ⟨t.name.toArray⟩, .slice ao t.attrs.length cap, .bool t.self, .string ⟨t.text.toArray⟩] 33 (0, 0))).heap.size
      (w.alloc (.cells #[.int .i64 t.kind, .string ⟨t.name.toArray⟩, .slice ao t.attrs.length cap, .bool t.self, .string ⟨t.text.toArray⟩] 33 (0, 0))) W →
      Calls Tryz.prog 41 #[.slice ao t.attrs.length cap, .func (.func 39) #[] #[]] W fun e w' => e = .returned (.bool (t.attrs.any fun a => !U.isName a.1)) ∧ Below W.heap.size W w' := fun W hB =>
    contains_att 39 #[] (enters_of Tryz.func39 (by kernel_rfl) rfl) (fun a => !U.isName a.1) _ t.attrs W
      ((hA.keep fun p hp => (hB.cell (p := p) (Nat.lt_of_lt_of_le hp hb4.size)).trans (hb4.cell hp)).more (Nat.le_trans hb4.size hB.size)) f3
      (fun W2 x _ hB2 => (is_unnamed x W2).mono fun e w' h => ⟨h.1, hB2.trans (h.2.mono hB2.size)⟩)
  have hsn : ∀ W, Below (w.alloc (.cells #[.int .i64 t.kind, .string ⟨t.name.toArray⟩, .slice ao t.attrs.length cap, .bool t.self, .string ⟨t.text.toArray⟩] 33 (0, 0))).heap.size
      (w.alloc (.cells #[.int .i64 t.kind, .string ⟨t.name.toArray⟩, .slice ao t.attrs.length cap, .bool t.self, .string ⟨t.text.toArray⟩] 33 (0, 0))) W →
      Calls Tryz.prog 42 #[.slice ao t.attrs.length cap] W fun e w' => e = .returned (.bool (U.dup t.attrs)) ∧ Below W.heap.size W w' := fun W hB =>
    same_names ao cap t.attrs W ((hA.keep fun p hp => (hB.cell (p := p) (Nat.lt_of_lt_of_le hp hb4.size)).trans (hb4.cell hp)).more (Nat.le_trans hb4.size hB.size)) hcap f3
  have eg := enters_of Tryz.func39 (by kernel_rfl) rfl
  have HN := Lib.hid hn
  have HC := Lib.hid hcon
  have HS := Lib.hid hsn
  have HQ := Lib.hid hq4
  have f3' := f3
  unfold most at f3'
  unfold tkVal
  clear hn hcon hsn hq4 hA hR eg
  cases h1 : U.isName t.name with
  | false =>
    rw [h1] at HN
    have h5 : R = 5 := by rw [← HR.out]; unfold U.namesFault; rw [h1]; rfl
    subst h5
    clear h1
    go_enter Tryz.func26, Tryz.ntmps26
    go_wp2_with (go_at_call 40; refine (HN.out _).mono ?_; rintro e w2 ⟨rfl, hb2⟩)
    go_ret
    exact ⟨rfl, hb4.trans (hb2.mono hb4.size)⟩
  | true =>
    rw [h1] at HN
    have h5 : U.attrsFault t.attrs = R := by rw [← HR.out]; unfold U.namesFault; rw [if_pos h1]
    clear h1 HR
    unfold U.attrsFault at h5
    cases h2 : t.attrs.any (fun a => !U.isName a.1) with
    | true =>
      rw [h2] at HC h5
      have h6 : (5 : Nat) = R := h5
      subst h6
      clear h2 h5
      go_enter Tryz.func26, Tryz.ntmps26
      go_wp2_with (first
        | (go_at_call 40; refine (HN.out _).mono ?_; rintro e w2 ⟨rfl, hb2⟩; have u2 : w2.cell? ⟨w.heap.size, 2, none⟩ = some (.slice ao t.attrs.length cap) := (hb2.cell (p := ⟨w.heap.size, 2, none⟩) (by simp)).trans (by rw [Lib.cell_of_heap HQ.out]; rfl))
        | (go_at_call 41; refine (HC.out _ hb2).mono ?_; rintro e w3 ⟨rfl, hb3⟩))
      go_ret
      exact ⟨rfl, hb4.trans ((hb2.trans (hb3.mono hb2.size)).mono hb4.size)⟩
    | false =>
      rw [h2] at HC h5
      clear h2
      have h6 : (if 4 < t.attrs.length then 1 else if U.dup t.attrs = true then 8 else 0) = R := h5
      have H6 := Lib.hid h6
      clear h5 h6
      by_cases h4 : 4 < t.attrs.length
      · have h7 := H6.out
        rw [if_pos h4] at h7
        subst h7
        have h4z : (4 : Int) < (t.attrs.length : Int) := by omega
        go_enter Tryz.func26, Tryz.ntmps26
        go_wp2_with (first
          | (go_at_call 40; refine (HN.out _).mono ?_; rintro e w2 ⟨rfl, hb2⟩; have u2 : w2.cell? ⟨w.heap.size, 2, none⟩ = some (.slice ao t.attrs.length cap) := (hb2.cell (p := ⟨w.heap.size, 2, none⟩) (by simp)).trans (by rw [Lib.cell_of_heap HQ.out]; rfl))
          | (go_at_call 41; refine (HC.out _ hb2).mono ?_; rintro e w3 ⟨rfl, hb3⟩; have hb23 := hb2.trans (hb3.mono hb2.size); have u3 : w3.cell? ⟨w.heap.size, 2, none⟩ = some (.slice ao t.attrs.length cap) := (hb23.cell (p := ⟨w.heap.size, 2, none⟩) (by simp)).trans (by rw [Lib.cell_of_heap HQ.out]; rfl)))
        go_ret
        exact ⟨rfl, hb4.trans (hb23.mono hb4.size)⟩
      · have h7 := H6.out
        rw [if_neg h4] at h7
        have h4z : ¬ (4 : Int) < (t.attrs.length : Int) := by omega
        clear H6 h4
        cases h8 : U.dup t.attrs with
        | true =>
          rw [h8] at HS h7
          have h9 : (8 : Nat) = R := h7
          subst h9
          clear h8 h7
          go_enter Tryz.func26, Tryz.ntmps26
          go_wp2_with (first
            | (go_at_call 40; refine (HN.out _).mono ?_; rintro e w2 ⟨rfl, hb2⟩; have u2 : w2.cell? ⟨w.heap.size, 2, none⟩ = some (.slice ao t.attrs.length cap) := (hb2.cell (p := ⟨w.heap.size, 2, none⟩) (by simp)).trans (by rw [Lib.cell_of_heap HQ.out]; rfl))
            | (go_at_call 41; refine (HC.out _ hb2).mono ?_; rintro e w3 ⟨rfl, hb3⟩; have hb23 := hb2.trans (hb3.mono hb2.size); have u3 : w3.cell? ⟨w.heap.size, 2, none⟩ = some (.slice ao t.attrs.length cap) := (hb23.cell (p := ⟨w.heap.size, 2, none⟩) (by simp)).trans (by rw [Lib.cell_of_heap HQ.out]; rfl))
            | (go_at_call 42; refine (HS.out _ hb23).mono ?_; rintro e w5 ⟨rfl, hb5⟩))
          go_ret
          exact ⟨rfl, hb4.trans ((hb23.trans (hb5.mono hb23.size)).mono hb4.size)⟩
        | false =>
          rw [h8] at HS h7
          have h9 : (0 : Nat) = R := h7
          subst h9
          clear h8 h7
          go_enter Tryz.func26, Tryz.ntmps26
          go_wp2_with (first
            | (go_at_call 40; refine (HN.out _).mono ?_; rintro e w2 ⟨rfl, hb2⟩; have u2 : w2.cell? ⟨w.heap.size, 2, none⟩ = some (.slice ao t.attrs.length cap) := (hb2.cell (p := ⟨w.heap.size, 2, none⟩) (by simp)).trans (by rw [Lib.cell_of_heap HQ.out]; rfl))
            | (go_at_call 41; refine (HC.out _ hb2).mono ?_; rintro e w3 ⟨rfl, hb3⟩; have hb23 := hb2.trans (hb3.mono hb2.size); have u3 : w3.cell? ⟨w.heap.size, 2, none⟩ = some (.slice ao t.attrs.length cap) := (hb23.cell (p := ⟨w.heap.size, 2, none⟩) (by simp)).trans (by rw [Lib.cell_of_heap HQ.out]; rfl))
            | (go_at_call 42; refine (HS.out _ hb23).mono ?_; rintro e w5 ⟨rfl, hb5⟩))
          go_ret
          exact ⟨rfl, hb4.trans ((hb23.trans (hb5.mono hb23.size)).mono hb4.size)⟩

end Go.Proofs.YtfockedeikdbjaaGreatDoor

/- Several texts in one: Keep, RdK, RdKC, KeepC. -/
import Derived.Outline
import Derived.Test.YtfockedeikdbjaaGreatDoorP14
import Derived.Test.YtfockedeikdbjaaGreatDoorP02
namespace Go.Proofs.YtfockedeikdbjaaGreatDoor
open Go.RowKit

theorem toks_b : U.toks [60, 98, 62] = [⟨1, [98], [], false, []⟩] := by rfl
theorem Toks.rd {w w' : World} {v : Value} {l : List (U.Tok × Value)} (h : Toks w w' v l) : RdT w' w'.heap.size v (l.map (·.1)) := RdT.of_own h.1 h.2.1 h.2.2.2
/-- Parse of a text that is not too long -/
theorem parse_ok (s : ByteArray) (w : World) (hs : s.size ≤ 600) (hG : Glob w) :
    Calls Tryz.prog 9 #[.string s] w fun e w' => ∃ v, e = .returned (.tuple #[v, .int .i64 0]) ∧ RdT w' w'.heap.size v (U.toks s.data.toList) ∧ Below w.heap.size w w' := by
  refine (parse_walk s w hG).mono ?_
  rintro e w' ⟨v, l, hT, h1, _⟩
  obtain ⟨he, hl⟩ := h1 hs
  exact ⟨v, he, hl ▸ hT.rd, hT.2.2.1⟩

set_option maxHeartbeats 4000000 in
set_option maxRecDepth 1000000 in
theorem parsed_walk (s : ByteArray) (w : World) (hs : s.size ≤ 600) (hG : Glob w) :
    Calls Tryz.prog 12 #[.string s] w fun e w' => ∃ v, e = .returned (.tuple #[v, .bool true]) ∧ RdT w' w'.heap.size v (U.toks s.data.toList) ∧ Below w.heap.size w w' := by
  have hpb := fun w2 hG2 => parse_ok ⟨#[60, 98, 62]⟩ w2 (by decide) hG2
  rw [show (ByteArray.mk #[60, 98, 62]).data.toList = [60, 98, 62] from rfl, toks_b] at hpb
  have HPB := Lib.hid hpb
  clear hpb
  go_enter Tryz.func12, Tryz.ntmps12
  go_wp2_with (first
    | (go_at_call_of 9 (Value.string s); refine (parse_ok s w hs hG).mono ?_; rintro e w2 ⟨v, rfl, hR, hb⟩; obtain ⟨ao, cap, rfl, hcl⟩ := id hR; have HCL := Lib.hid hcl; clear hcl)
    | (go_at_call_of 9 (Value.string ⟨#[60, 98, 62]⟩); refine (HPB.out _ (hG.below hb)).mono ?_; rintro e w3 ⟨v2, rfl, hR2, hb2⟩; obtain ⟨ao2, cap2, rfl, hc2⟩ := hR2; obtain ⟨g, o, av, rfl, hlt, k0, k1, k2, k3, k4, _⟩ := hc2 0 _ rfl; clear hc2))
  go_region
  all_goals go_wp2_with fail
  all_goals go_ret2
  all_goals exact ⟨_, rfl, ((hR.below hb2).more hb2.size).keep (fun p _ => rfl), below_drewN (hb.trans (hb2.mono hb.size)) 1⟩

end Go.Proofs.YtfockedeikdbjaaGreatDoor

namespace Go.Proofs.YtfockedeikdbjaaGreatDoor
open Go.RowKit

/-- a slice that reads as these tokens, below block B -/
def RdK (w : World) (B : Nat) (v : Value) (l : List U.Tk) : Prop := ∃ ao cap, v = .slice ao l.length cap ∧
  ∀ (i : Nat) (t : U.Tk), l[i]? = some t → ∃ g o av, ao = some ⟨g, o, none⟩ ∧ g < B ∧ w.cell? ⟨g, o + i * 5, none⟩ = some (.int .i64 t.kind) ∧ w.cell? ⟨g, o + i * 5 + 1, none⟩ = some (.string ⟨t.name.toArray⟩) ∧
    w.cell? ⟨g, o + i * 5 + 2, none⟩ = some av ∧ w.cell? ⟨g, o + i * 5 + 3, none⟩ = some (.bool t.self) ∧ w.cell? ⟨g, o + i * 5 + 4, none⟩ = some (.string ⟨t.text.toArray⟩) ∧ RdA w B av t.attrs
theorem RdK.keep {w w' : World} {B : Nat} {v : Value} {ts : List U.Tk} (h : RdK w B v ts) (hk : ∀ p : Addr, p.block < B → w'.cell? p = w.cell? p) : RdK w' B v ts := by
  obtain ⟨ao, cap, rfl, hc⟩ := h
  refine ⟨ao, cap, rfl, fun i t ht => ?_⟩
  obtain ⟨g, o, av, e, hb, c0, c1, c2, c3, c4, hA⟩ := hc i t ht
  exact ⟨g, o, av, e, hb, (hk _ hb).trans c0, (hk _ hb).trans c1, (hk _ hb).trans c2, (hk _ hb).trans c3, (hk _ hb).trans c4, hA.keep hk⟩
theorem RdK.below {w w' : World} {B : Nat} {v : Value} {ts : List U.Tk} (h : RdK w B v ts) (hb : Below B w w') : RdK w' B v ts := h.keep fun _ hp => hb.cell hp
theorem RdA.below {w w' : World} {B : Nat} {v : Value} {ts : List U.Att} (h : RdA w B v ts) (hb : Below B w w') : RdA w' B v ts := h.keep fun _ hp => hb.cell hp
theorem RdK.more {w : World} {B B' : Nat} {v : Value} {ts : List U.Tk} (h : RdK w B v ts) (hB : B ≤ B') : RdK w B' v ts := by
  obtain ⟨ao, cap, rfl, hc⟩ := h
  refine ⟨ao, cap, rfl, fun i t ht => ?_⟩
  obtain ⟨g, o, av, e, hb, c0, c1, c2, c3, c4, hA⟩ := hc i t ht
  exact ⟨g, o, av, e, by omega, c0, c1, c2, c3, c4, hA.more hB⟩
theorem RdT.rdK {w : World} {B : Nat} {v : Value} {ts : List U.Tok} (h : RdT w B v ts) : RdK w B v (ts.map U.Tok.tk) := by
  obtain ⟨ao, cap, rfl, hc⟩ := h
  refine ⟨ao, cap, by rw [List.length_map], fun i t ht => ?_⟩
  rw [List.getElem?_map] at ht
  cases hx : ts[i]? with
  | none => rw [hx] at ht; cases ht
  | some x =>
    rw [hx] at ht
    obtain rfl : x.tk = t := by simpa using ht
    obtain ⟨g, o, av, e, hb, c0, c1, c2, c3, c4, hA, _⟩ := hc i x hx
    exact ⟨g, o, av, e, hb, c0, c1, c2, c3, c4, hA⟩
/-- a beginning, an end of it -/
theorem RdK.take {w : World} {B : Nat} {ao : Option Addr} {n cap : Nat} {l : List U.Tk} (h : RdK w B (.slice ao n cap) l) (k cap2 : Nat) (hk : k ≤ l.length) : RdK w B (.slice ao k cap2) (l.take k) := by
  obtain ⟨ao2, cap', e, hc⟩ := h
  injection e with e1 e2 e3
  subst e1
  have hl : (l.take k).length = k := by rw [List.length_take]; omega
  refine ⟨ao, cap2, by rw [hl], fun i t ht => ?_⟩
  have hi : i < k := by have := (List.getElem?_eq_some_iff.1 ht).1; omega
  rw [List.getElem?_take_of_lt hi] at ht
  exact hc i t ht
theorem RdK.drop {w : World} {B g o n cap : Nat} {l : List U.Tk} (h : RdK w B (.slice (some ⟨g, o, none⟩) n cap) l) (k cap2 : Nat) : RdK w B (.slice (some ⟨g, o + k * 5, none⟩) (l.length - k) cap2) (l.drop k) := by
  obtain ⟨ao2, cap', e, hc⟩ := h
  injection e with e1 e2 e3
  subst e1
  have hl : (l.drop k).length = l.length - k := List.length_drop ..
  refine ⟨some ⟨g, o + k * 5, none⟩, cap2, by rw [hl], fun i t ht => ?_⟩
  rw [List.getElem?_drop] at ht
  obtain ⟨g2, o2, av, e2, hb, c0, c1, c2, c3, c4, hA⟩ := hc (k + i) t ht
  injection e2 with e2
  injection e2 with e3 e4
  subst e3
  subst e4
  have e5 : o + (k + i) * 5 = o + k * 5 + i * 5 := by omega
  rw [e5] at c0 c1 c2 c3 c4
  exact ⟨g, o + k * 5, av, rfl, hb, c0, c1, c2, c3, c4, hA⟩

/-- how long a text may be -/
abbrev most : Nat := 9223372036854775807
/-- there are no more attributes -/
def Fits (M : Nat) (t : U.Tk) : Prop := t.attrs.length ≤ M
theorem Fits.more {M M' : Nat} {t : U.Tk} (h : Fits M t) (hM : M ≤ M') : Fits M' t := Nat.le_trans h hM
/-- nothing in the token is longer -/
def Small (M : Nat) (t : U.Tk) : Prop := t.name.length ≤ M ∧ t.text.length ≤ M ∧ t.attrs.length ≤ M ∧ ∀ a ∈ t.attrs, a.1.length ≤ M ∧ a.2.length ≤ M
theorem Small.more {M M' : Nat} {t : U.Tk} (h : Small M t) (hM : M ≤ M') : Small M' t := ⟨Nat.le_trans h.1 hM, Nat.le_trans h.2.1 hM, Nat.le_trans h.2.2.1 hM, fun a ha => ⟨Nat.le_trans (h.2.2.2 a ha).1 hM, Nat.le_trans (h.2.2.2 a ha).2 hM⟩⟩
theorem Small.fits {M : Nat} {t : U.Tk} (h : Small M t) : Fits M t := h.2.2.1

end Go.Proofs.YtfockedeikdbjaaGreatDoor

namespace Go.Proofs.YtfockedeikdbjaaGreatDoor
open Go.RowKit

/-- no slice is longer than it may be -/
def Cap (v : Value) : Prop := ∀ ao n cap, v = .slice ao n cap → n ≤ cap
theorem Cap.le {ao : Option Addr} {n cap : Nat} (h : Cap (.slice ao n cap)) : n ≤ cap := h ao n cap rfl
theorem Cap.mk {ao : Option Addr} {n cap : Nat} (h : n ≤ cap) : Cap (.slice ao n cap) := fun a b c e => by injection e with _ e2 e3; omega
theorem Cap.of_own {w : World} {B : Nat} {e : TypeId} {size n : Nat} {v : Value} {xs : List Value} (h : w.ownsRow B e size v n xs) : Cap v := by
  intro ao n2 cap hv
  rcases h.2 with ⟨h1, h2⟩ | ⟨g, cap2, cur, h1, hb, hg, r⟩
  · rw [h1] at hv
    injection hv with _ e2 e3
    omega
  · rw [h1] at hv
    injection hv with _ e2 e3
    subst e2
    subst e3
    have h3 := h.1
    first
      | omega
      | exact r.1
def RdKC (w : World) (B : Nat) (v : Value) (l : List U.Tk) : Prop :=
  RdK w B v l ∧ Cap v ∧ ∀ ao n cap, v = .slice ao n cap → ∀ (i : Nat) (t : U.Tk), l[i]? = some t → ∀ g o, ao = some ⟨g, o, none⟩ → ∀ av, w.cell? ⟨g, o + i * 5 + 2, none⟩ = some av → Cap av
theorem RdKC.keep {w w' : World} {B : Nat} {v : Value} {l : List U.Tk} (h : RdKC w B v l) (hk : ∀ p : Addr, p.block < B → w'.cell? p = w.cell? p) : RdKC w' B v l := by
  obtain ⟨h1, h2, h3⟩ := h
  refine ⟨h1.keep hk, h2, fun ao n cap e i t ht g o e2 av hc => ?_⟩
  obtain ⟨ao', cap', e', hcells⟩ := h1
  rw [e] at e'
  injection e' with e1 _ _
  subst e1
  obtain ⟨g', o', av', e3, hb, _, _, c2, _⟩ := hcells i t ht
  rw [e2] at e3
  injection e3 with e3
  injection e3 with e4 e5
  subst e4
  subst e5
  rw [hk _ hb] at hc
  exact h3 ao n cap e i t ht g o e2 av hc
theorem RdKC.below {w w' : World} {B : Nat} {v : Value} {ts : List U.Tk} (h : RdKC w B v ts) (hb : Below B w w') : RdKC w' B v ts := h.keep fun _ hp => hb.cell hp
theorem RdKC.more {w : World} {B B' : Nat} {v : Value} {ts : List U.Tk} (h : RdKC w B v ts) (hB : B ≤ B') : RdKC w B' v ts := ⟨h.1.more hB, h.2.1, h.2.2⟩
/-- a token's cells -/
theorem RdKC.at {w : World} {B : Nat} {ao : Option Addr} {n cap : Nat} {l : List U.Tk} (h : RdKC w B (.slice ao n cap) l) {i : Nat} {t : U.Tk} (ht : l[i]? = some t) :
    ∃ g o aoA capA, ao = some ⟨g, o, none⟩ ∧ g < B ∧ w.cell? ⟨g, o + i * 5, none⟩ = some (.int .i64 t.kind) ∧ w.cell? ⟨g, o + i * 5 + 1, none⟩ = some (.string ⟨t.name.toArray⟩) ∧
      w.cell? ⟨g, o + i * 5 + 2, none⟩ = some (.slice aoA t.attrs.length capA) ∧ w.cell? ⟨g, o + i * 5 + 3, none⟩ = some (.bool t.self) ∧ w.cell? ⟨g, o + i * 5 + 4, none⟩ = some (.string ⟨t.text.toArray⟩) ∧
      RdA w B (.slice aoA t.attrs.length capA) t.attrs ∧ t.attrs.length ≤ capA := by
  obtain ⟨h1, h2, h3⟩ := h
  obtain ⟨ao2, cap2, e, hc⟩ := h1
  injection e with e1 _ _
  subst e1
  obtain ⟨g, o, av, e2, hb, c0, c1, c2, c3, c4, hA⟩ := hc i t ht
  have hcap := h3 ao n cap rfl i t ht g o e2 av c2
  obtain ⟨aoA, capA, rfl, hcA⟩ := id hA
  exact ⟨g, o, aoA, capA, e2, hb, c0, c1, c2, c3, c4, hA, hcap.le⟩
theorem RdKC.len {w : World} {B : Nat} {v : Value} {l : List U.Tk} (h : RdKC w B v l) : ∃ ao cap, v = .slice ao l.length cap ∧ l.length ≤ cap := by
  obtain ⟨⟨ao, cap, rfl, _⟩, h2, _⟩ := h
  exact ⟨ao, cap, rfl, h2.le⟩

end Go.Proofs.YtfockedeikdbjaaGreatDoor

namespace Go.Proofs.YtfockedeikdbjaaGreatDoor
open Go.RowKit

theorem Toks.rdKC {w w' : World} {v : Value} {l : List (U.Tok × Value)} (h : Toks w w' v l) : RdKC w' w'.heap.size v ((l.map (·.1)).map U.Tok.tk) := by
  refine ⟨h.rd.rdK, Cap.of_own h.1, fun ao n cap e i t ht g o e2 av hc => ?_⟩
  obtain ⟨x, hx⟩ : ∃ x, l[i]? = some x := by
    rw [List.map_map, List.getElem?_map] at ht
    cases hx : l[i]? with
    | none => rw [hx] at ht; cases ht
    | some x => exact ⟨x, rfl⟩
  obtain ⟨g', cap', ev, _, _, c2, _, _⟩ := row_tok h.1 hx
  rw [e] at ev
  injection ev with e1 _ _
  rw [e2] at e1
  injection e1 with e1
  injection e1 with e3 e4
  subst e3
  subst e4
  rw [Nat.zero_add, c2] at hc
  injection hc with hc
  exact hc ▸ Cap.of_own (h.2.1 x (List.mem_of_getElem? hx))
/-- Parse of a text that is not too long -/
theorem parse_c (s : ByteArray) (w : World) (hs : s.size ≤ 600) (hG : Glob w) :
    Calls Tryz.prog 9 #[.string s] w fun e w' => ∃ v, e = .returned (.tuple #[v, .int .i64 0]) ∧ RdT w' w'.heap.size v (U.toks s.data.toList) ∧ RdKC w' w'.heap.size v ((U.toks s.data.toList).map U.Tok.tk) ∧ Below w.heap.size w w' := by
  refine (parse_walk s w hG).mono ?_
  rintro e w' ⟨v, l, hT, h1, _⟩
  obtain ⟨he, hl⟩ := h1 hs
  exact ⟨v, he, hl ▸ hT.rd, hl ▸ hT.rdKC, hT.2.2.1⟩

set_option maxHeartbeats 4000000 in
set_option maxRecDepth 1000000 in
theorem parsed_c (s : ByteArray) (w : World) (hs : s.size ≤ 600) (hG : Glob w) :
    Calls Tryz.prog 12 #[.string s] w fun e w' => ∃ v, e = .returned (.tuple #[v, .bool true]) ∧ RdT w' w'.heap.size v (U.toks s.data.toList) ∧ RdKC w' w'.heap.size v ((U.toks s.data.toList).map U.Tok.tk) ∧ Below w.heap.size w w' := by
  have hpb := fun w2 hG2 => parse_ok ⟨#[60, 98, 62]⟩ w2 (by decide) hG2
  rw [show (ByteArray.mk #[60, 98, 62]).data.toList = [60, 98, 62] from rfl, toks_b] at hpb
  have HPB := Lib.hid hpb
  clear hpb
  go_enter Tryz.func12, Tryz.ntmps12
  go_wp2_with (first
    | (go_at_call_of 9 (Value.string s); refine (parse_c s w hs hG).mono ?_; rintro e w2 ⟨v, rfl, hR, hRC, hb⟩; have HRC := Lib.hid hRC; clear hRC; obtain ⟨ao, cap, rfl, hcl⟩ := id hR; have HCL := Lib.hid hcl; clear hcl)
    | (go_at_call_of 9 (Value.string ⟨#[60, 98, 62]⟩); refine (HPB.out _ (hG.below hb)).mono ?_; rintro e w3 ⟨v2, rfl, hR2, hb2⟩; obtain ⟨ao2, cap2, rfl, hc2⟩ := hR2; obtain ⟨g, o, av, rfl, hlt, k0, k1, k2, k3, k4, _⟩ := hc2 0 _ rfl; clear hc2))
  go_region
  all_goals go_wp2_with fail
  all_goals go_ret2
  all_goals exact ⟨_, rfl, ((hR.below hb2).more hb2.size).keep (fun p _ => rfl), ((HRC.out.below hb2).more hb2.size).keep (fun p _ => rfl), below_drewN (hb.trans (hb2.mono hb.size)) 1⟩

end Go.Proofs.YtfockedeikdbjaaGreatDoor

/- slices.IndexFunc, slices.ContainsFunc over numbers and over rows of numbers, at whatever function. -/
import Derived.Test.YtonchdhchaiikaaAu
import Derived.WalkSpells
import Derived.Deep.QuietTactic
import Derived.Deep.RegionWith
import Derived.BigQuiet
import Derived.Deep.Quiet
import Derived.Handy
import Derived.Outline
import Derived.Shelf.Abstract
import Derived.Laws.EntriesVeiled
namespace Go.Proofs.Ytonchdhchaiikaa
open Go.RowKit

theorem take_anyL {α : Type} {l : List α} {k : Nat} {x : α} (p : α → Bool) (hx : l[k]? = some x) (h : (l.take k).any p = false) (hp : p x = false) : (l.take (k + 1)).any p = false := by
  obtain ⟨hk, e⟩ := List.getElem?_eq_some_iff.1 hx
  rw [List.take_succ_eq_append_getElem hk, e, List.any_append, h]
  simp [hp]
/-- the first place where p holds -/
def Fst {α : Type} (p : α → Bool) (l : List α) (i : Int) : Prop := (i = -1 ∧ l.any p = false) ∨ ∃ (k : Nat) (x : α), i = k ∧ l[k]? = some x ∧ p x = true ∧ (l.take k).any p = false
theorem Fst.iff {α : Type} {p : α → Bool} {l : List α} {i : Int} (h : Fst p l i) : 0 ≤ i ↔ l.any p = true := by
  rcases h with ⟨rfl, h⟩ | ⟨k, x, rfl, hx, hp, _⟩
  · rw [h]
    constructor
    · intro h; omega
    · intro h; cases h
  · exact ⟨fun _ => List.any_eq_true.2 ⟨x, List.mem_of_getElem? hx, hp⟩, fun _ => Int.natCast_nonneg _⟩
/-- a function that tells something of a number, in whatever world behind this one -/
def TellsI (g : Nat) (lb : Array Value) (p : Int → Bool) (w : World) : Prop :=
  ∀ (W : World) (x : Int), Below w.heap.size w W → Calls Try.prog g (#[.int .i64 x] ++ lb) W fun e w' => e = .returned (.bool (p x)) ∧ Below w.heap.size w w'
/-- .. of a row -/
def TellsR (g : Nat) (lb : Array Value) (p : List Int → Bool) (w : World) : Prop :=
  ∀ (W : World) (x : List Int) (v : Value), Below w.heap.size w W → RdI W (· < w.heap.size) v x → Calls Try.prog g (#[v] ++ lb) W fun e w' => e = .returned (.bool (p x)) ∧ Below w.heap.size w w'

set_option maxHeartbeats 4000000 in
set_option maxRecDepth 1000000 in
theorem index_I (g : Nat) (lb : Array Value) (eg : ∀ args w, (callFunc g args).run Try.prog w = .ok (.enter g args) w) (p : Int → Bool) (v : Value) (l : List Int) (w : World) (hA : RdI w (· < w.heap.size) v l) (hp : TellsI g lb p w) :
    Calls Try.prog 44 #[v, .func (.func g) #[] lb] w fun e w' => ∃ i : Int, e = .returned (.int .i64 i) ∧ Fst p l i ∧ Below w.heap.size w w' := by
  obtain ⟨ao, cap, rfl, hcl, hcm⟩ := RdL.form hA
  have HA := Lib.hid hA
  have HP := Lib.hid hp
  unfold maxLen at hcm
  have hz : l.length ≤ 9223372036854775807 := by omega
  clear hA hp hcl hcm
  go_enter Try.func44, Try.ntmps44
  go_wp2_with fail
  go_loopw [8] (fun i wr => ∃ k : Nat, k ≤ l.length ∧ i = .int .i64 k ∧ Below w.heap.size w wr ∧ Hid ((l.take k).any p = false)) (fun i _ => l.length - (intOf i).toNat)
  case atStart => exact ⟨0, Nat.zero_le _, rfl, Below.refl _ _, rfl⟩
  case round =>
    obtain ⟨k, hk, rfl, hbw, HN⟩ := hrel
    by_cases hlt : k < l.length
    · have hx := List.getElem?_eq_getElem hlt
      have hm := List.getElem_mem hlt
      generalize l[k]'hlt = x at hx hm
      obtain ⟨gb, o, cap2, pv, e0, hg, d0, rfl⟩ := RdL.at HA.out hx
      injection e0 with e1 e2 e3
      subst e1
      have c0 := (hbw.cell (p := ⟨gb, o + k, none⟩) hg).trans d0
      have hk0 : (0 : Int) ≤ (k : Int) := Int.natCast_nonneg _
      have hk1 : (k : Int) < (l.length : Int) := by omega
      have HX := Lib.hid hx
      have hcall := HP.out wr x hbw
      clear hx hm d0 e2 e3
      cases hq : p x with
      | true =>
        rw [hq] at hcall
        have HQ := Lib.hid hq
        have HCL := Lib.hid hcall
        clear hq hcall
        go_wp2_with (go_at_fn g; refine HCL.out.mono ?_; rintro e w' ⟨rfl, hb'⟩)
        go_ret
        exact ⟨(k : Int), rfl, .inr ⟨k, x, rfl, HX.out, HQ.out, HN.out⟩, hb'⟩
      | false =>
        rw [hq] at hcall
        have HQ := Lib.hid hq
        have HCL := Lib.hid hcall
        clear hq hcall
        go_wp2_with (go_at_fn g; refine HCL.out.mono ?_; rintro e w' ⟨rfl, hb'⟩)
        go_roundw
        case rel => exact ⟨k + 1, by omega, by go_num, hb', take_anyL _ HX.out HN.out HQ.out⟩
        case measure => simp [intOf]; omega
    · go_wp2_with fail
      go_ret
      refine ⟨-1, rfl, .inl ⟨rfl, ?_⟩, hbw⟩
      have := HN.out
      rwa [List.take_of_length_le (by omega)] at this
set_option maxHeartbeats 4000000 in
set_option maxRecDepth 1000000 in
theorem contains_I (g : Nat) (lb : Array Value) (eg : ∀ args w, (callFunc g args).run Try.prog w = .ok (.enter g args) w) (p : Int → Bool) (v : Value) (l : List Int) (w : World) (hA : RdI w (· < w.heap.size) v l) (hp : TellsI g lb p w) :
    Calls Try.prog 25 #[v, .func (.func g) #[] lb] w fun e w' => e = .returned (.bool (l.any p)) ∧ Below w.heap.size w w' := by
  have H := Lib.hid (index_I g lb eg p v l w hA hp)
  clear hA hp eg
  obtain ⟨R, hR⟩ : ∃ R, l.any p = R := ⟨_, rfl⟩
  rw [hR]
  have HR := Lib.hid hR
  clear hR
  go_enter Try.func25, Try.ntmps25
  go_wp2_with (refine H.out.mono ?_; rintro e w' ⟨i, rfl, hi, hb'⟩; have HI := Lib.hid hi; clear hi)
  go_ret
  refine ⟨?_, hb'⟩
  have h1 := HI.out.iff
  rw [HR.out] at h1
  have h2 : decide (0 ≤ i) = R := by
    cases R with
    | true => exact decide_eq_true (h1.2 rfl)
    | false => exact decide_eq_false (fun h => by cases h1.1 h)
  rw [← h2]
  rfl

set_option maxHeartbeats 4000000 in
set_option maxRecDepth 1000000 in
theorem index_R (g : Nat) (lb : Array Value) (eg : ∀ args w, (callFunc g args).run Try.prog w = .ok (.enter g args) w) (p : List Int → Bool) (v : Value) (l : List (List Int)) (w : World) (hA : RdII w (· < w.heap.size) v l) (hp : TellsR g lb p w) :
    Calls Try.prog 45 #[v, .func (.func g) #[] lb] w fun e w' => ∃ i : Int, e = .returned (.int .i64 i) ∧ Fst p l i ∧ Below w.heap.size w w' := by
  obtain ⟨ao, cap, rfl, hcl, hcm⟩ := RdL.form hA
  have HA := Lib.hid hA
  have HP := Lib.hid hp
  unfold maxLen at hcm
  have hz : l.length ≤ 9223372036854775807 := by omega
  clear hA hp hcl hcm
  go_enter Try.func45, Try.ntmps45
  go_wp2_with fail
  go_loopw [8] (fun i wr => ∃ k : Nat, k ≤ l.length ∧ i = .int .i64 k ∧ Below w.heap.size w wr ∧ Hid ((l.take k).any p = false)) (fun i _ => l.length - (intOf i).toNat)
  case atStart => exact ⟨0, Nat.zero_le _, rfl, Below.refl _ _, rfl⟩
  case round =>
    obtain ⟨k, hk, rfl, hbw, HN⟩ := hrel
    by_cases hlt : k < l.length
    · have hx := List.getElem?_eq_getElem hlt
      have hm := List.getElem_mem hlt
      generalize l[k]'hlt = x at hx hm
      obtain ⟨gb, o, cap2, pv, e0, hg, d0, hr⟩ := RdL.at HA.out hx
      injection e0 with e1 e2 e3
      subst e1
      have c0 := (hbw.cell (p := ⟨gb, o + k, none⟩) hg).trans d0
      have hk0 : (0 : Int) ≤ (k : Int) := Int.natCast_nonneg _
      have hk1 : (k : Int) < (l.length : Int) := by omega
      have HX := Lib.hid hx
      have hcall := HP.out wr x pv hbw (hr.keep (fun _ hp => hbw.cell hp) (fun _ h => h))
      clear hx hm d0 e2 e3 hr
      cases hq : p x with
      | true =>
        rw [hq] at hcall
        have HQ := Lib.hid hq
        have HCL := Lib.hid hcall
        clear hq hcall
        go_wp2_with (go_at_fn g; refine HCL.out.mono ?_; rintro e w' ⟨rfl, hb'⟩)
        go_ret
        exact ⟨(k : Int), rfl, .inr ⟨k, x, rfl, HX.out, HQ.out, HN.out⟩, hb'⟩
      | false =>
        rw [hq] at hcall
        have HQ := Lib.hid hq
        have HCL := Lib.hid hcall
        clear hq hcall
        go_wp2_with (go_at_fn g; refine HCL.out.mono ?_; rintro e w' ⟨rfl, hb'⟩)
        go_roundw
        case rel => exact ⟨k + 1, by omega, by go_num, hb', take_anyL _ HX.out HN.out HQ.out⟩
        case measure => simp [intOf]; omega
    · go_wp2_with fail
      go_ret
      refine ⟨-1, rfl, .inl ⟨rfl, ?_⟩, hbw⟩
      have := HN.out
      rwa [List.take_of_length_le (by omega)] at this
set_option maxHeartbeats 4000000 in
set_option maxRecDepth 1000000 in
theorem contains_R (g : Nat) (lb : Array Value) (eg : ∀ args w, (callFunc g args).run Try.prog w = .ok (.enter g args) w) (p : List Int → Bool) (v : Value) (l : List (List Int)) (w : World) (hA : RdII w (· < w.heap.size) v l) (hp : TellsR g lb p w) :
    Calls Try.prog 26 #[v, .func (.func g) #[] lb] w fun e w' => e = .returned (.bool (l.any p)) ∧ Below w.heap.size w w' := by
  have H := Lib.hid (index_R g lb eg p v l w hA hp)
  clear hA hp eg
  obtain ⟨R, hR⟩ : ∃ R, l.any p = R := ⟨_, rfl⟩
  rw [hR]
  have HR := Lib.hid hR
  clear hR
  go_enter Try.func26, Try.ntmps26
  go_wp2_with (refine H.out.mono ?_; rintro e w' ⟨i, rfl, hi, hb'⟩; have HI := Lib.hid hi; clear hi)
  go_ret
  refine ⟨?_, hb'⟩
  have h1 := HI.out.iff
  rw [HR.out] at h1
  have h2 : decide (0 ≤ i) = R := by
    cases R with
    | true => exact decide_eq_true (h1.2 rfl)
    | false => exact decide_eq_false (fun h => by cases h1.1 h)
  rw [← h2]
  rfl

end Go.Proofs.Ytonchdhchaiikaa

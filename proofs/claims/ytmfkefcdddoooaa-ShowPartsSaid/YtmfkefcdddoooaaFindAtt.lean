/- slices.IndexFunc, slices.ContainsFunc over attributes, at whatever function. -/
import Derived.Test.YtmfkefcdddoooaaRefAtts
import Derived.Test.YtmfkefcdddoooaaCalm
namespace Go.Proofs.Ytmfkefcdddoooaa
open Go.RowKit

/-- a function that tells something of an attribute, in whatever world behind this one -/
def Tells (g : Nat) (lb : Array Value) (p : U.Att → Bool) (al : List U.Att) (w : World) : Prop :=
  ∀ (W : World) (x : U.Att), x ∈ al → Below w.heap.size w W → Calls Try.prog g (#[.agg #[.string ⟨x.1.toArray⟩, .string ⟨x.2.toArray⟩]] ++ lb) W fun e w' => e = .returned (.bool (p x)) ∧ Below w.heap.size w w'

set_option maxHeartbeats 4000000 in
set_option maxRecDepth 1000000 in
theorem index_att (g : Nat) (lb : Array Value) (eg : ∀ args w, (callFunc g args).run Try.prog w = .ok (.enter g args) w) (p : U.Att → Bool) (v : Value) (al : List U.Att) (w : World) (hA : RdA w w.heap.size v al) (hz : al.length ≤ most) (hp : Tells g lb p al w) :
    Calls Try.prog 84 #[v, .func (.func g) #[] lb] w fun e w' => ∃ i : Int, e = .returned (.int .i64 i) ∧ (0 ≤ i ↔ al.any p = true) ∧ Below w.heap.size w w' := by
  obtain ⟨ao, cap, rfl, hc⟩ := hA
  have HC := Lib.hid hc
  have HP := Lib.hid hp
  clear hc hp
  unfold most at hz
  go_enter Try.func84, Try.ntmps84
  go_wp2_with fail
  go_loopw [8] (fun i wr => ∃ k : Nat, k ≤ al.length ∧ i = .int .i64 k ∧ Below w.heap.size w wr ∧ Hid ((al.take k).any p = false)) (fun i _ => al.length - (intOf i).toNat)
  case atStart => exact ⟨0, Nat.zero_le _, rfl, Below.refl _ _, rfl⟩
  case round =>
    obtain ⟨k, hk, rfl, hbw, HN⟩ := hrel
    by_cases hlt : k < al.length
    · have hx := List.getElem?_eq_getElem hlt
      have hm := List.getElem_mem hlt
      generalize al[k]'hlt = x at hx hm
      obtain ⟨gb, o, rfl, hg, d0, d1⟩ := HC.out k x hx
      have c0 := (hbw.cell (p := ⟨gb, o + k * 2, none⟩) hg).trans d0
      have c1 := (hbw.cell (p := ⟨gb, o + k * 2 + 1, none⟩) hg).trans d1
      have hk0 : (0 : Int) ≤ (k : Int) := Int.natCast_nonneg _
      have hk1 : (k : Int) < (al.length : Int) := by omega
      have HX := Lib.hid hx
      have hcall := HP.out wr x hm hbw
      have HM := Lib.hid hm
      clear hx hm d0 d1
      cases hq : p x with
      | true =>
        rw [hq] at hcall
        have HQ := Lib.hid hq
        have HCL := Lib.hid hcall
        clear hq hcall
        go_wp2_with (go_at_fn g; refine HCL.out.mono ?_; rintro e w' ⟨rfl, hb'⟩)
        go_ret
        exact ⟨(k : Int), rfl, ⟨fun _ => List.any_eq_true.2 ⟨x, HM.out, HQ.out⟩, fun _ => hk0⟩, hb'⟩
      | false =>
        rw [hq] at hcall
        have HQ := Lib.hid hq
        have HCL := Lib.hid hcall
        clear hq hcall
        go_wp2_with (go_at_fn g; refine HCL.out.mono ?_; rintro e w' ⟨rfl, hb'⟩)
        go_roundw
        case rel => exact ⟨k + 1, by omega, by go_num, hb', take_any _ HX.out HN.out HQ.out⟩
        case measure => simp [intOf]; omega
    · go_wp2_with fail
      go_ret
      refine ⟨-1, rfl, ?_, hbw⟩
      have hall : al.any p = false := by
        have := HN.out
        rwa [List.take_of_length_le (by omega)] at this
      rw [hall]
      constructor
      · intro h; omega
      · intro h; cases h
set_option maxHeartbeats 4000000 in
set_option maxRecDepth 1000000 in
theorem contains_att (g : Nat) (lb : Array Value) (eg : ∀ args w, (callFunc g args).run Try.prog w = .ok (.enter g args) w) (p : U.Att → Bool) (v : Value) (al : List U.Att) (w : World) (hA : RdA w w.heap.size v al) (hz : al.length ≤ most) (hp : Tells g lb p al w) :
    Calls Try.prog 71 #[v, .func (.func g) #[] lb] w fun e w' => e = .returned (.bool (al.any p)) ∧ Below w.heap.size w w' := by
  have H := Lib.hid (index_att g lb eg p v al w hA hz hp)
  clear hA hp eg
  obtain ⟨R, hR⟩ : ∃ R, al.any p = R := ⟨_, rfl⟩
  rw [hR]
  have HR := Lib.hid hR
  clear hR
  go_enter Try.func71, Try.ntmps71
  go_wp2_with (refine H.out.mono ?_; rintro e w' ⟨i, rfl, hi, hb'⟩; have HI := Lib.hid hi; clear hi)
  go_ret
  refine ⟨?_, hb'⟩
  have h1 := HI.out
  rw [HR.out] at h1
  have h2 : decide (0 ≤ i) = R := by
    cases R with
    | true => exact decide_eq_true (h1.2 rfl)
    | false => exact decide_eq_false (fun h => by cases h1.1 h)
  rw [← h2]
  rfl

end Go.Proofs.Ytmfkefcdddoooaa

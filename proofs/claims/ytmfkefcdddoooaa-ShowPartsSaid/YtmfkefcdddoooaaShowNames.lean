/- show.isVoid, show.isText, show.endsWithText; the reference's oneOf, isVoid. -/
import Derived.Test.YtmfkefcdddoooaaShowMath
import Derived.Test.YtmfkefcdddoooaaNode
import Derived.Test.YtmfkefcdddoooaaNames
import Derived.OwnWalk
import Derived.Outline
namespace Go.Proofs.Ytmfkefcdddoooaa
open Go.RowKit

theorem U.SmallNd.out {M : Nat} : ∀ {n : U.Nd}, U.SmallNd M n → n.name.length ≤ M ∧ n.text.length ≤ M ∧ n.attrs.length ≤ M ∧ (∀ x ∈ n.attrs, x.1.length ≤ M ∧ x.2.length ≤ M) ∧ n.parts.length ≤ M ∧ U.SmallNs M n.parts
  | .mk n a t p, h => by rw [U.SmallNd] at h; exact h
theorem RdAS.lt {w : World} {S : Nat → Prop} {v : Value} {al : List U.Att} {B : Nat} (h : RdAS w S v al) (hS : ∀ b, S b → b < B) : RdA w B v al := by
  obtain ⟨ao, cap, rfl, _, _, hc⟩ := h
  refine ⟨ao, cap, rfl, fun i x hx => ?_⟩
  obtain ⟨g, o, e, hg, c0, c1⟩ := hc i x hx
  exact ⟨g, o, e, hS g hg, c0, c1⟩

theorem nd_cells {w : World} {b : Nat} {x0 x1 x2 x3 : Value} {T : TypeId} {f : Nat × Nat} (h : w.heap[b]? = some (.cells #[x0, x1, x2, x3] T f)) : w.cell? ⟨b, 0, none⟩ = some x0 ∧ w.cell? ⟨b, 1, none⟩ = some x1 ∧ w.cell? ⟨b, 2, none⟩ = some x2 ∧ w.cell? ⟨b, 3, none⟩ = some x3 := by
  refine ⟨?_, ?_, ?_, ?_⟩ <;> rw [Lib.cell_of_heap h] <;> rfl
/-- a node as an argument -/
def ndVal (n : U.Nd) (av pv : Value) : Value := .agg #[.string ⟨n.name.toArray⟩, av, .string ⟨n.text.toArray⟩, pv]
def ndObj (n : U.Nd) (av pv : Value) : Obj := .cells #[.string ⟨n.name.toArray⟩, av, .string ⟨n.text.toArray⟩, pv] 45 (0, 0)

set_option maxHeartbeats 4000000 in
set_option maxRecDepth 1000000 in
theorem show_void (n : List UInt8) (w : World) : Calls Try.prog 54 #[.string ⟨n.toArray⟩] w fun e w' => e = .returned (.bool (U.isVoid n)) ∧ w = w' := by
  cases hr : U.isVoid n with
  | false =>
    obtain ⟨r0, r1, r2, r3⟩ := U.isVoid_no hr
    clear hr
    go_enter Try.func54, Try.ntmps54
    go_wp2_with fail
    go_ret
    exact ⟨rfl, rfl⟩
  | true =>
    rcases U.isVoid_yes hr with rfl | rfl | rfl | rfl
    all_goals
      clear hr
      go_enter Try.func54, Try.ntmps54
      go_wp2_with fail
      go_ret
      exact ⟨rfl, rfl⟩

set_option maxHeartbeats 4000000 in
set_option maxRecDepth 1000000 in
theorem is_text (n : U.Nd) (aa pa : Option Addr) (al ac pl pc : Nat) (w : World) : Calls Try.prog 53 #[ndVal n (.slice aa al ac) (.slice pa pl pc)] w fun e w' => e = .returned (.bool n.name.isEmpty) ∧ Below w.heap.size w w' := by
  unfold ndVal
  by_cases h : n.name = []
  · rw [h]
    go_enter Try.func53, Try.ntmps53
    go_wp2_with fail
    go_ret
    exact ⟨rfl, by first | exact Below.refl _ _ | exact (Below.refl _ w).alloc (Nat.le_refl _) _⟩
  · have e : n.name.isEmpty = false := by
      cases hn : n.name with
      | nil => exact absurd hn h
      | cons a r => rfl
    have h2 : (n.name == []) = false := beq_eq_false_iff_ne.2 h
    rw [e]
    clear h e
    go_enter Try.func53, Try.ntmps53
    go_wp2_with fail
    go_ret
    exact ⟨rfl, by first | exact Below.refl _ _ | exact (Below.refl _ w).alloc (Nat.le_refl _) _⟩

set_option maxHeartbeats 4000000 in
set_option maxRecDepth 1000000 in
theorem ends_text (v : Value) (l : List U.Nd) (S : Nat → Prop) (w : World) (hR : RdNs w S v l) :
    Calls Try.prog 68 #[v] w fun e w' => e = .returned (.bool (U.endT l)) ∧ Below w.heap.size w w' := by
  obtain ⟨ao, cap, rfl, hlc, hcm, _⟩ := id hR
  have hm : l.length ≤ 9223372036854775807 := by unfold maxLen at hcm; omega
  by_cases h0 : l = []
  · subst h0
    go_enter Try.func68, Try.ntmps68
    go_wp2_with fail
    go_ret
    exact ⟨rfl, Below.refl _ _⟩
  · have hpos : 0 < l.length := List.length_pos_iff.2 h0
    have hx := List.getElem?_eq_getElem (show l.length - 1 < l.length by omega)
    generalize l[l.length - 1]'(show l.length - 1 < l.length by omega) = n at hx
    have hE : U.endT l = n.name.isEmpty := by
      unfold U.endT
      rw [List.getLast?_eq_getElem?, hx]
    rw [hE]
    obtain ⟨g, o, cap2, e0, hg, hn⟩ := hR.get hx
    injection e0 with e1 e2 e3
    subst e1
    obtain ⟨av, pv, c0, c1, c2, c3, hA, hP⟩ := (rdNd_iff n g _).1 hn
    obtain ⟨aa, acap, rfl⟩ : ∃ aa acap, av = .slice aa n.attrs.length acap := by obtain ⟨a, b, e, _⟩ := hA; exact ⟨a, b, e⟩
    obtain ⟨pa, pcap, rfl⟩ : ∃ pa pcap, pv = .slice pa n.parts.length pcap := by obtain ⟨a, b, e, _⟩ := hP; exact ⟨a, b, e⟩
    have hi1 : (0 : Int) ≤ (l.length : Int) - 1 := by omega
    have hi2 : (l.length : Int) - 1 < (l.length : Int) := by omega
    have hi3 : ((l.length : Int) - 1).toNat = l.length - 1 := by omega
    have hi4 : (0 : Int) < (l.length : Int) := by omega
    have hIT := fun W => is_text n aa pa n.attrs.length acap n.parts.length pcap W
    unfold ndVal at hIT
    have HIT := Lib.hid hIT
    clear hIT hR hn hA hP hx hE e2 e3 hcm
    go_enter Try.func68, Try.ntmps68
    go_wp2_with (go_at_call 53; refine (HIT.out _).mono ?_; rintro e w2 ⟨rfl, hb2⟩)
    go_ret
    exact ⟨rfl, hb2⟩

theorem void_any (n : List UInt8) : U.isVoid n = [[98, 114], [104, 114], [105, 109, 103], [105, 110, 112, 117, 116]].any (fun x => n == x) := by
  simp [U.isVoid, Bool.or_assoc]
theorem raw_any (n : List UInt8) : U.rawName n = [[115, 99, 114, 105, 112, 116], [115, 116, 121, 108, 101], [116, 101, 120, 116, 97, 114, 101, 97], [116, 105, 116, 108, 101]].any (fun x => n == x) := by
  simp [U.rawName, Bool.or_assoc]

set_option maxHeartbeats 4000000 in
set_option maxRecDepth 1000000 in
theorem one_of (s : List UInt8) (xs : List (List UInt8)) (g n cap : Nat) (w : World) (hn : xs.length = n) (hl : n ≤ 100) (hg : g < w.heap.size) (hc : ∀ i x, xs[i]? = some x → w.cell? ⟨g, i, none⟩ = some (.string ⟨x.toArray⟩)) :
    Calls Try.prog 31 #[.string ⟨s.toArray⟩, .slice (some ⟨g, 0, none⟩) n cap] w fun e w' => e = .returned (.bool (xs.any fun x => s == x)) ∧ Below w.heap.size w w' := by
  subst hn
  have HC := Lib.hid hc
  clear hc
  go_enter Try.func31, Try.ntmps31
  go_wp2_with fail
  go_loopw [9] (fun i wr => ∃ k : Nat, k ≤ xs.length ∧ i = .int .i64 k ∧ Below w.heap.size w wr ∧ Hid ((xs.take k).any (fun x => s == x) = false)) (fun i _ => xs.length - (intOf i).toNat)
  case atStart => exact ⟨0, Nat.zero_le _, rfl, Below.refl _ _, rfl⟩
  case round =>
    obtain ⟨k, hk, rfl, hbw, HN⟩ := hrel
    by_cases hlt : k < xs.length
    · have hx := List.getElem?_eq_getElem hlt
      generalize xs[k]'hlt = x at hx
      have c0 := (hbw.cell (p := ⟨g, k, none⟩) hg).trans (HC.out k x hx)
      have hk0 : (0 : Int) ≤ (k : Int) := Int.natCast_nonneg _
      have hk1 : (k : Int) < (xs.length : Int) := by omega
      have HX := Lib.hid hx
      clear hx
      cases hs : (s == x) with
      | true =>
        go_wp2_with fail
        go_ret
        refine ⟨?_, hbw⟩
        have : xs.any (fun x => s == x) = true := List.any_eq_true.2 ⟨x, List.mem_of_getElem? HX.out, hs⟩
        rw [this]
        rfl
      | false =>
        have hN2 : (xs.take (k + 1)).any (fun x => s == x) = false := by
          obtain ⟨hk', e⟩ := List.getElem?_eq_some_iff.1 HX.out
          rw [List.take_succ_eq_append_getElem hk', e, List.any_append, HN.out]
          simp [hs]
        have HN2 := Lib.hid hN2
        clear hN2
        go_wp2_with fail
        go_roundw
        case rel => exact ⟨k + 1, by omega, by go_num, hbw, HN2.out⟩
        case measure => simp [intOf]; omega
    · have hall : xs.take k = xs := List.take_of_length_le (by omega)
      have hN2 := HN.out
      rw [hall] at hN2
      have HN2 := Lib.hid hN2
      clear hN2
      go_wp2_with fail
      go_ret
      exact ⟨by rw [HN2.out]; rfl, hbw⟩

theorem cells_strs {w : World} {b : Nat} {xs : List (List UInt8)} {vs : Array Value} {t : TypeId} {f : Nat × Nat} (h : w.heap[b]? = some (.cells vs t f)) (hv : vs.toList = xs.map fun x => Value.string ⟨x.toArray⟩) : ∀ i x, xs[i]? = some x → w.cell? ⟨b, i, none⟩ = some (.string ⟨x.toArray⟩) := by
  intro i x hx
  rw [Lib.cell_of_heap h]
  have : vs.toList[i]? = some (.string ⟨x.toArray⟩) := by rw [hv, List.getElem?_map, hx]; rfl
  simpa using this

set_option maxHeartbeats 4000000 in
set_option maxRecDepth 1000000 in
theorem ref_void (n : List UInt8) (w : World) : Calls Try.prog 52 #[.string ⟨n.toArray⟩] w fun e w' => e = .returned (.bool (U.isVoid n)) ∧ Below w.heap.size w w' := by
  go_enter Try.func52, Try.ntmps52
  go_wp2_with fail
  refine (one_of n [[98, 114], [104, 114], [105, 109, 103], [105, 110, 112, 117, 116]] _ 4 4 _ rfl (by decide) (by simp) (cells_strs (heap_alloc_new _ _) (by rfl))).mono ?_
  rintro e w2 ⟨rfl, hb2⟩
  go_wp2_with fail
  go_ret
  exact ⟨by simp [U.isVoid, Bool.or_assoc], ((Below.refl _ w).alloc (Nat.le_refl _) _).trans (hb2.mono (by simp))⟩

end Go.Proofs.Ytmfkefcdddoooaa

/- emit.hasForm. -/
import Derived.Test.YtmfkefcdddoooaaCheckNames
namespace Go.Proofs.Ytmfkefcdddoooaa
open Go.RowKit

set_option maxHeartbeats 4000000 in
set_option maxRecDepth 1000000 in
theorem is_raw (n : List UInt8) (w : World) : Calls Try.prog 73 #[.string ⟨n.toArray⟩] w fun e w' => e = .returned (.bool (U.rawName n)) ∧ w = w' := by
  cases hr : U.rawName n with
  | false =>
    obtain ⟨r1, r2, r3, r4⟩ := U.rawName_no hr
    clear hr
    go_enter Try.func73, Try.ntmps73
    go_wp2_with fail
    go_ret
    exact ⟨rfl, rfl⟩
  | true =>
    rcases U.rawName_cases hr with rfl | rfl | rfl | rfl
    all_goals
      clear hr
      go_enter Try.func73, Try.ntmps73
      go_wp2_with fail
      go_ret
      exact ⟨rfl, rfl⟩

set_option maxHeartbeats 4000000 in
set_option maxRecDepth 1000000 in
theorem starts_end (v : Value) (l : List U.Tk) (nm : List UInt8) (w : World) (hL : RdK w w.heap.size v l) :
    Calls Try.prog 74 #[v, .string ⟨nm.toArray⟩] w fun e w' => e = .returned (.bool (U.isEndB nm l)) ∧ w = w' := by
  obtain ⟨ao, cap, rfl, hc⟩ := hL
  cases l with
  | nil =>
    clear hc
    show Calls _ _ #[.slice ao 0 cap, _] _ _
    go_enter Try.func74, Try.ntmps74
    go_wp2_with fail
    go_ret
    exact ⟨rfl, rfl⟩
  | cons t r =>
    obtain ⟨g, o, av, rfl, hg, d0, d1, _⟩ := hc 0 t rfl
    rw [Nat.zero_mul, Nat.add_zero] at d0 d1
    clear hc
    have hl0 : (0 : Int) < ((t :: r).length : Int) := by rw [List.length_cons]; omega
    show Calls _ _ _ _ fun e w' => e = .returned (.bool (t.kind == 2 && t.name == nm)) ∧ w = w'
    generalize (t :: r).length = n at hl0
    go_enter Try.func74, Try.ntmps74
    cases hk : (t.kind == 2) with
    | false =>
      go_wp2_with fail
      go_ret
      exact ⟨rfl, rfl⟩
    | true =>
      go_wp2_with fail
      go_ret
      exact ⟨by simp, rfl⟩

set_option maxHeartbeats 4000000 in
set_option maxRecDepth 1000000 in
theorem ends_chars (v : Value) (l : List U.Tk) (w : World) (hL : RdK w w.heap.size v l) (hz : l.length ≤ most) :
    Calls Try.prog 75 #[v] w fun e w' => e = .returned (.bool (U.endB l)) ∧ w = w' := by
  obtain ⟨ao, cap, rfl, hc⟩ := hL
  unfold most at hz
  rcases Nat.eq_zero_or_pos l.length with h0 | h0
  · have he : U.endB l = false := by rw [List.eq_nil_of_length_eq_zero h0]; rfl
    rw [he]
    have h0z : ¬ (0 : Int) < (l.length : Int) := by omega
    clear hc he h0
    go_enter Try.func75, Try.ntmps75
    go_wp2_with fail
    go_ret
    exact ⟨rfl, rfl⟩
  · have hp := List.getElem?_eq_getElem (show l.length - 1 < l.length by omega)
    generalize l[l.length - 1]'(show l.length - 1 < l.length by omega) = p at hp
    obtain ⟨g, o, av, rfl, hg, d0, _⟩ := hc (l.length - 1) p hp
    have he : U.endB l = (p.kind == 3) := by
      have := U.endB_succ hp
      rwa [show l.length - 1 + 1 = l.length by omega, List.take_length] at this
    rw [he]
    have h0z : (0 : Int) < (l.length : Int) := by omega
    have hi1 : (0 : Int) ≤ (l.length : Int) - 1 := by omega
    have hi2 : (l.length : Int) - 1 < (l.length : Int) := by omega
    have hi3 : ((l.length : Int) - 1).toNat = l.length - 1 := by omega
    clear hc he hp h0
    go_enter Try.func75, Try.ntmps75
    go_wp2_with fail
    go_ret
    exact ⟨rfl, rfl⟩

set_option maxHeartbeats 8000000 in
set_option maxRecDepth 1000000 in
theorem has_form (t : U.Tk) (ao : Option Addr) (cap : Nat) (b a : Value) (lb la : List U.Tk) (w : World) (hb : RdK w w.heap.size b lb) (ha : RdK w w.heap.size a la) (hz : lb.length ≤ most) (hn : t.attrs.length ≤ most) (hk : t.kind = 1 ∨ t.kind = 2 ∨ t.kind = 3 ∨ t.kind = 4) :
    Calls Try.prog 58 #[tkVal t ao cap, b, a] w fun e w' => e = .returned (.bool (U.formOk (U.endB lb) t la)) ∧ Below w.heap.size w w' := by
  have hb4 := fun O => (Below.refl w.heap.size w).alloc (Nat.le_refl _) O
  have hst : ∀ O, Calls Try.prog 74 #[a, .string ⟨t.name.toArray⟩] (w.alloc O) fun e w' => e = .returned (.bool (U.isEndB t.name la)) ∧ w.alloc O = w' := fun O =>
    starts_end a la t.name _ ((ha.below (hb4 O)).more (hb4 O).size)
  have hen : ∀ O, Calls Try.prog 75 #[b] (w.alloc O) fun e w' => e = .returned (.bool (U.endB lb)) ∧ w.alloc O = w' := fun O =>
    ends_chars b lb _ ((hb.below (hb4 O)).more (hb4 O).size) hz
  have hrw := is_raw t.name
  have HST := Lib.hid hst
  have HEN := Lib.hid hen
  have HRW := Lib.hid hrw
  have HB := Lib.hid hb4
  clear hst hen hrw hb ha hb4 hz
  obtain ⟨L, hL⟩ : ∃ L, t.attrs.length = L := ⟨_, rfl⟩
  have hemp : t.attrs.isEmpty = (L == 0) := by
    rw [← hL]
    cases t.attrs <;> rfl
  unfold most at hn
  unfold tkVal
  rw [hL] at hn ⊢
  have HE := Lib.hid hemp
  clear hemp hL
  rcases hk with k | k | k | k
  · have b1 : (t.kind == 1) = true := by rw [k]; rfl
    rw [U.formOk_one k]
    clear k
    have hLL : (L = 0 ∧ ((L : Int) == 0) = true ∧ (L == 0) = true) ∨ (((L : Int) == 0) = false ∧ (L == 0) = false) := by
      rcases Nat.eq_zero_or_pos L with h | h
      · exact .inl ⟨h, by rw [h]; rfl, by rw [h]; rfl⟩
      · exact .inr ⟨beq_eq_false_iff_ne.2 (by omega), beq_eq_false_iff_ne.2 (by omega)⟩
    cases ht : t.text.isEmpty with
    | false =>
      rcases hLL with ⟨_, l1, _⟩ | ⟨l1, _⟩
      all_goals
        go_enter Try.func58, Try.ntmps58
        go_wp2_with fail
        go_ret
        exact ⟨rfl, HB.out _⟩
    | true =>
      cases hr : U.rawName t.name with
      | false =>
        rw [hr] at HRW
        clear hr
        rcases hLL with ⟨_, l1, _⟩ | ⟨l1, _⟩
        all_goals
          go_enter Try.func58, Try.ntmps58
          go_wp2_with (go_at_call 73; refine (HRW.out _).mono ?_; rintro e w2 ⟨rfl, rfl⟩)
          go_ret
          exact ⟨rfl, HB.out _⟩
      | true =>
        rw [hr] at HRW
        clear hr
        rcases hLL with ⟨_, l1, _⟩ | ⟨l1, _⟩
        all_goals
          go_enter Try.func58, Try.ntmps58
          go_wp2_with (first
            | (go_at_call 73; refine (HRW.out _).mono ?_; rintro e w2 ⟨rfl, rfl⟩)
            | (go_at_call 74; refine (HST.out _).mono ?_; rintro e w2 ⟨rfl, rfl⟩))
          go_ret
          exact ⟨by simp, HB.out _⟩
  · have b1 : (t.kind == 1) = false := by rw [k]; rfl
    have b2 : (t.kind == 2) = true := by rw [k]; rfl
    rw [U.formOk_two k, HE.out]
    clear k
    have hLL : (L = 0 ∧ ((L : Int) == 0) = true ∧ (L == 0) = true) ∨ (((L : Int) == 0) = false ∧ (L == 0) = false) := by
      rcases Nat.eq_zero_or_pos L with h | h
      · exact .inl ⟨h, by rw [h]; rfl, by rw [h]; rfl⟩
      · exact .inr ⟨beq_eq_false_iff_ne.2 (by omega), beq_eq_false_iff_ne.2 (by omega)⟩
    cases ht : t.text.isEmpty with
    | false =>
      rcases hLL with ⟨_, l1, _⟩ | ⟨l1, _⟩
      all_goals
        go_enter Try.func58, Try.ntmps58
        go_wp2_with fail
        go_ret
        exact ⟨rfl, HB.out _⟩
    | true =>
      rcases hLL with ⟨_, l1, l2⟩ | ⟨l1, l2⟩
      all_goals
        rw [l2]
        clear l2
        go_enter Try.func58, Try.ntmps58
        go_wp2_with fail
        go_ret
        exact ⟨by simp, HB.out _⟩
  · have b1 : (t.kind == 1) = false := by rw [k]; rfl
    have b2 : (t.kind == 2) = false := by rw [k]; rfl
    have b3 : (t.kind == 3) = true := by rw [k]; rfl
    rw [U.formOk_three k, HE.out]
    clear k
    have hLL : (L = 0 ∧ ((L : Int) == 0) = true ∧ (L == 0) = true) ∨ (((L : Int) == 0) = false ∧ (L == 0) = false) := by
      rcases Nat.eq_zero_or_pos L with h | h
      · exact .inl ⟨h, by rw [h]; rfl, by rw [h]; rfl⟩
      · exact .inr ⟨beq_eq_false_iff_ne.2 (by omega), beq_eq_false_iff_ne.2 (by omega)⟩
    cases ht : t.text.isEmpty with
    | true =>
      rcases hLL with ⟨_, l1, _⟩ | ⟨l1, _⟩
      all_goals
        go_enter Try.func58, Try.ntmps58
        go_wp2_with fail
        go_ret
        exact ⟨rfl, HB.out _⟩
    | false =>
      cases hn : t.name.isEmpty with
      | false =>
        rcases hLL with ⟨_, l1, _⟩ | ⟨l1, _⟩
        all_goals
          go_enter Try.func58, Try.ntmps58
          go_wp2_with fail
          go_ret
          exact ⟨rfl, HB.out _⟩
      | true =>
        cases hsf : t.self with
        | true =>
          rcases hLL with ⟨_, l1, l2⟩ | ⟨l1, l2⟩
          all_goals
            rw [l2]
            clear l2
            go_enter Try.func58, Try.ntmps58
            go_wp2_with fail
            go_ret
            exact ⟨rfl, HB.out _⟩
        | false =>
          rcases hLL with ⟨_, l1, l2⟩ | ⟨l1, l2⟩
          all_goals
            rw [l2]
            clear l2
            go_enter Try.func58, Try.ntmps58
            go_wp2_with (go_at_call 75; refine (HEN.out _).mono ?_; rintro e w2 ⟨rfl, rfl⟩)
            go_ret
            exact ⟨by simp, HB.out _⟩
  · have b1 : (t.kind == 1) = false := by rw [k]; rfl
    have b2 : (t.kind == 2) = false := by rw [k]; rfl
    have b3 : (t.kind == 3) = false := by rw [k]; rfl
    rw [U.formOk_four k]
    clear k
    go_enter Try.func58, Try.ntmps58
    go_wp2_with fail
    all_goals go_ret
    all_goals exact ⟨rfl, HB.out _⟩

end Go.Proofs.Ytmfkefcdddoooaa

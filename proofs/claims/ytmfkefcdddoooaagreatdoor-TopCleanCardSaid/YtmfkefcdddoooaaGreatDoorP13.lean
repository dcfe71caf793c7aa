/- Several texts in one: Calm, IsName, RefAtts, FindAtt. -/
import Derived.WalkSpells
import Derived.Deep.QuietTactic
import Derived.BigQuiet
import Derived.Deep.Quiet
import Derived.Shelf.Abstract
import Derived.Laws.EntriesVeiled
import Derived.Test.YtmfkefcdddoooaaGreatDoorShelf
import Derived.Test.YtmfkefcdddoooaaGreatDoorP07
import Derived.Test.YtmfkefcdddoooaaGreatDoorP12
import Derived.Test.YtmfkefcdddoooaaGreatDoorP10
namespace Go.Proofs.YtmfkefcdddoooaaGreatDoor
open Go.RowKit

/-- a region that draws its order, whose operations are quiet in a class of worlds: a callee may leave any world of the class -/
theorem wp_calm {P : Program} {id : Nat} {Q : Exit → Act → World → Prop} {a : Act} {w : World} {l : List Oper} (X : Type) (F : X → World) (hm : P.follows .mixedOrders = true) (hB : Region.lexB .any l.toArray = true) (hC : ∃ x, w.drew = F x)
    (h : wpQuiet P l.toArray (fun w' => ∃ x, w' = F x) (fun a' => ∀ w', (∃ x, w' = F x) → Q .normal a' w') l a) : (Code.region id l.toArray true).wp P Q a w :=
  wp_region_quiet (C := fun w' => ∃ x, w' = F x) hm hB hC (by simpa using h)
/-- the worlds behind one in which a cell holds something -/
theorem cell_class {wr : World} {p : Addr} {v : Value} (c0 : wr.cell? p = some v) (hp : p.block < wr.heap.size) :
    ∃ (X : Type) (F : X → World), (∀ x, (F x).cell? p = some v) ∧ (∀ x, Below wr.heap.size wr (F x)) ∧ (∃ x, wr.drew = F x) ∧ (∀ x w2, Below (F x).heap.size (F x) w2 → ∃ y, w2 = F y) :=
  ⟨{w' // Below wr.heap.size wr w'}, Subtype.val, fun x => (x.2.cell hp).trans c0, fun x => x.2, ⟨⟨wr.drew, below_drewN (Below.refl _ _) 1⟩, rfl⟩, fun x w2 h => ⟨⟨w2, x.2.trans (h.mono x.2.size)⟩, rfl⟩⟩

end Go.Proofs.YtmfkefcdddoooaaGreatDoor

namespace Go.Proofs.YtmfkefcdddoooaaGreatDoor
open Go.RowKit

set_option maxHeartbeats 2000000 in
set_option maxRecDepth 1000000 in
theorem is_letter (c : Nat) (w : World) : Calls Tryz.prog 112 #[.int .i32 (c : Int)] w fun e w' => e = .returned (.bool (decide (97 ≤ c) && decide (c ≤ 122))) ∧ w = w' := by
  by_cases h1 : 97 ≤ c
  · by_cases h2 : c ≤ 122
    · rw [decide_eq_true h1, decide_eq_true h2]
      have d1 : decide (97 ≤ (c : Int)) = true := decide_eq_true (by omega)
      have d2 : decide ((c : Int) ≤ 122) = true := decide_eq_true (by omega)
      clear h1 h2
      go_enter Tryz.func112, Tryz.ntmps112
      go_wp2_with fail
      go_ret
      exact ⟨rfl, rfl⟩
    · rw [decide_eq_true h1, decide_eq_false h2]
      have d1 : decide (97 ≤ (c : Int)) = true := decide_eq_true (by omega)
      have d2 : decide ((c : Int) ≤ 122) = false := decide_eq_false (by omega)
      clear h1 h2
      go_enter Tryz.func112, Tryz.ntmps112
      go_wp2_with fail
      go_ret
      exact ⟨rfl, rfl⟩
  · rw [decide_eq_false h1]
    have d1 : decide (97 ≤ (c : Int)) = false := decide_eq_false (by omega)
    clear h1
    go_enter Tryz.func112, Tryz.ntmps112
    go_wp2_with fail
    go_ret
    exact ⟨rfl, rfl⟩

set_option maxHeartbeats 2000000 in
set_option maxRecDepth 1000000 in
theorem is_other (b c : Nat) (w W : World) (hb : b < w.heap.size) (hc : w.cell? ⟨b, 0, none⟩ = some (.func (.func 112) #[] #[])) (hB : Below w.heap.size w W) :
    Calls Tryz.prog 113 #[.int .i32 (c : Int), .pointer (some ⟨b, 0, none⟩)] W fun e w' => e = .returned (.bool (otherR c)) ∧ ∃ q, w' = W.drewN q := by
  have c0 := (hB.cell (p := ⟨b, 0, none⟩) hb).trans hc
  have hL := is_letter c W
  have eg : ∀ args w, (callFunc 112 args).run Tryz.prog w = .ok (.enter 112 args) w := enters_of Tryz.func112 (by kernel_rfl) rfl
  clear hb hc hB
  unfold otherR
  cases h1 : (decide (97 ≤ c) && decide (c ≤ 122)) with
  | true =>
    rw [h1] at hL
    have HL := Lib.hid hL
    clear hL h1
    go_enter Tryz.func113, Tryz.ntmps113
    go_wp2_with (go_at_fn 112; refine HL.out.mono ?_; rintro e w' ⟨rfl, rfl⟩)
    go_ret
    exact ⟨rfl, 0, rfl⟩
  | false =>
    rw [h1] at hL
    have HL := Lib.hid hL
    clear hL h1
    by_cases h45 : c = 45
    · have n1 : ((c : Int) != 45) = false := by rw [h45]; rfl
      have HH := Lib.hid h45
      clear h45
      go_enter Tryz.func113, Tryz.ntmps113
      go_wp2_with (go_at_fn 112; refine HL.out.mono ?_; rintro e w' ⟨rfl, rfl⟩)
      go_ret
      exact ⟨by rw [HH.out]; rfl, 0, rfl⟩
    · have n1 : ((c : Int) != 45) = true := bne_iff_ne.2 (by omega)
      have e45 : (c == 45) = false := beq_eq_false_iff_ne.2 h45
      rw [e45]
      clear h45 e45
      by_cases h48 : c < 48
      · have d1 : decide ((c : Int) < 48) = true := decide_eq_true (by omega)
        rw [decide_eq_true h48]
        clear h48
        go_enter Tryz.func113, Tryz.ntmps113
        go_wp2_with (go_at_fn 112; refine HL.out.mono ?_; rintro e w' ⟨rfl, rfl⟩)
        go_ret
        exact ⟨rfl, 0, rfl⟩
      · have d1 : decide ((c : Int) < 48) = false := decide_eq_false (by omega)
        rw [decide_eq_false h48]
        clear h48
        by_cases h57 : 57 < c
        · have d2 : decide (57 < (c : Int)) = true := decide_eq_true (by omega)
          rw [decide_eq_true h57]
          clear h57
          go_enter Tryz.func113, Tryz.ntmps113
          go_wp2_with (go_at_fn 112; refine HL.out.mono ?_; rintro e w' ⟨rfl, rfl⟩)
          go_ret
          exact ⟨rfl, 0, rfl⟩
        · have d2 : decide (57 < (c : Int)) = false := decide_eq_false (by omega)
          rw [decide_eq_false h57]
          clear h57
          go_enter Tryz.func113, Tryz.ntmps113
          go_wp2_with (go_at_fn 112; refine HL.out.mono ?_; rintro e w' ⟨rfl, rfl⟩)
          go_ret
          exact ⟨rfl, 0, rfl⟩

set_option maxHeartbeats 4000000 in
set_option maxRecDepth 1000000 in
theorem emit_name (s : ByteArray) (w : World) :
    Calls Tryz.prog 80 #[.string s] w fun e w' => e = .returned (.bool (U.isName s.data.toList)) ∧ Below w.heap.size w w' := by
  have hl : s.data.toList.length = s.size := by rw [Array.length_toList]; rfl
  have hno : ¬ (1 ≤ s.size ∧ s.size ≤ 12) → U.isName s.data.toList = false := fun hh => by
    cases h : U.isName s.data.toList with
    | false => rfl
    | true => have := (isName_iff _).1 h; omega
  have hiff := isName_iff s.data.toList
  rw [hl] at hiff
  have HI := Lib.hid hiff
  obtain ⟨R, hR⟩ : ∃ R, U.isName s.data.toList = R := ⟨_, rfl⟩
  rw [hR] at hno HI ⊢
  clear hiff
  by_cases h0 : s.size = 0
  · have hr := hno (by omega)
    subst hr
    have he : s.toList.isEmpty = true := by
      rw [Lib.toList_data, List.isEmpty_iff]
      exact List.eq_nil_of_length_eq_zero (by omega)
    have HE := Lib.hid (And.intro hno h0)
    clear hno h0 hR hl
    go_enter Tryz.func80, Tryz.ntmps80
    go_wp2_with fail
    go_ret
    exact ⟨rfl, (Below.refl _ w).alloc (Nat.le_refl _) _⟩
  have he : s.toList.isEmpty = false := by
    rw [Lib.toList_data]
    cases hc : s.data.toList with
    | nil => rw [hc] at hl; exact absurd hl.symm h0
    | cons _ _ => rfl
  by_cases h12 : 12 < s.size
  · have hr := hno (by omega)
    subst hr
    have HE := Lib.hid (And.intro hno h0)
    clear hno h0 hR hl
    go_enter Tryz.func80, Tryz.ntmps80
    go_wp2_with fail
    go_ret
    exact ⟨rfl, (Below.refl _ w).alloc (Nat.le_refl _) _⟩
  have h0s : 0 < s.size := by omega
  have hb := byte_get s h0s
  have HB := Lib.hid hb
  have h256 : (s[0]'h0s).toNat < 256 := (s[0]'h0s).toNat_lt
  have hL : ∀ W, Calls Tryz.prog 112 #[.int .i32 ((s[0]'h0s).toNat : Int)] W fun e w' => e = .returned (.bool (U.small (s[0]'h0s))) ∧ W = w' := fun W => is_letter (s[0]'h0s).toNat W
  have eg1 : ∀ args w, (callFunc 112 args).run Tryz.prog w = .ok (.enter 112 args) w := enters_of Tryz.func112 (by kernel_rfl) rfl
  have hP : PredAt Tryz.prog 113 #[.pointer (some ⟨w.heap.size, 0, none⟩)] encR otherR (w.alloc (.cells #[.func (.func 112) #[] #[]] 129)) :=
    fun W x hB => is_other w.heap.size x _ W (by simp) (by rw [Lib.cell_of_heap (heap_alloc_new w _)]; rfl) hB
  have hC : ∀ W, Below (w.alloc (.cells #[.func (.func 112) #[] #[]] 129)).heap.size (w.alloc (.cells #[.func (.func 112) #[] #[]] 129)) W → Calls Tryz.prog 114 #[.string s, .func (.func 113) #[] #[.pointer (some ⟨w.heap.size, 0, none⟩)]] W
      fun e w' => e = .returned (.bool (!s.data.toList.all U.nameB2)) ∧ Below W.heap.size W w' := fun W hB => by
    have h := Tryz.strings_ContainsFunc 113 #[.pointer (some ⟨w.heap.size, 0, none⟩)] (enters_of Tryz.func113 (by kernel_rfl) rfl) otherR s W (hP.later hB)
    rw [idx_name] at h
    exact h
  clear hP
  cases hs1 : U.small (s[0]'h0s) with
  | false =>
    rw [hs1] at hL
    have hr : R = false := by
      cases R with
      | false => rfl
      | true => have := (HI.out.1 rfl).2.2.1 _ HB.out; rw [hs1] at this; cases this
    subst hr
    have HL := Lib.hid hL
    have HE := Lib.hid (And.intro hno h0)
    clear hno h0 hR hl hb hL hC hs1
    go_enter Tryz.func80, Tryz.ntmps80
    obtain ⟨Y, F, hF1, hF2, hF3, hF4⟩ := cell_class (wr := w.alloc (.cells #[.func (.func 112) #[] #[]] 129)) (p := ⟨w.heap.size, 0, none⟩) (v := .func (.func 112) #[] #[]) (by rw [Lib.cell_of_heap (heap_alloc_new w _)]; rfl) (by simp)
    have hY : Nonempty Y := hF3.elim fun x _ => ⟨x⟩
    have hbF := fun x => ((Below.refl w.heap.size w).alloc (Nat.le_refl _) (.cells #[.func (.func 112) #[] #[]] 129)).trans ((hF2 x).mono (by simp))
    go_wp2_with fail
    refine wp_calm Y F (by kernel_rfl) (by kernel_rfl) hF3 ?_
    repeat (go_big_quiet_step (first
      | (go_at_fn 112; refine (HL.out _).mono ?_; rintro e w' ⟨rfl, rfl⟩; exact ⟨rfl, _, rfl⟩)))
    refine wpQuiet_nil ?_
    rintro _ ⟨x9, rfl⟩
    go_wp2_with fail
    go_ret
    exact ⟨rfl, hbF x9⟩
  | true =>
    rw [hs1] at hL
    have hr : R = s.data.toList.all U.nameB2 := by
      cases R with
      | true => exact (HI.out.1 rfl).2.2.2.symm
      | false =>
        cases ha : s.data.toList.all U.nameB2 with
        | false => rfl
        | true => exact (HI.out.2 ⟨by omega, by omega, fun b hb2 => by have := HB.out.symm.trans hb2; injection this with this; exact this ▸ hs1, ha⟩)
    rw [← hr] at hC
    have HC := Lib.hid hC
    have HL := Lib.hid hL
    have HE := Lib.hid (And.intro hno h0)
    clear hno h0 hR hl hb hL hC hs1 hr
    go_enter Tryz.func80, Tryz.ntmps80
    obtain ⟨Y, F, hF1, hF2, hF3, hF4⟩ := cell_class (wr := w.alloc (.cells #[.func (.func 112) #[] #[]] 129)) (p := ⟨w.heap.size, 0, none⟩) (v := .func (.func 112) #[] #[]) (by rw [Lib.cell_of_heap (heap_alloc_new w _)]; rfl) (by simp)
    have hY : Nonempty Y := hF3.elim fun x _ => ⟨x⟩
    have hbF := fun x => ((Below.refl w.heap.size w).alloc (Nat.le_refl _) (.cells #[.func (.func 112) #[] #[]] 129)).trans ((hF2 x).mono (by simp))
    go_wp2_with fail
    refine wp_calm Y F (by kernel_rfl) (by kernel_rfl) hF3 ?_
    repeat (go_big_quiet_step (first
      | (go_at_fn 112; refine (HL.out _).mono ?_; rintro e w' ⟨rfl, rfl⟩; exact ⟨rfl, _, rfl⟩)
      | (go_at_call 114; refine (HC.out _ (hF2 _)).mono ?_; rintro e w' ⟨rfl, hb'⟩; exact ⟨rfl, hF4 _ _ hb'⟩)))
    refine wpQuiet_nil ?_
    rintro _ ⟨x9, rfl⟩
    go_wp2_with fail
    go_ret
    exact ⟨by simp, hbF x9⟩

end Go.Proofs.YtmfkefcdddoooaaGreatDoor

namespace Go.Proofs.YtmfkefcdddoooaaGreatDoor
open Go.RowKit

theorem take_any {l : List U.Att} {k : Nat} {x : U.Att} (p : U.Att → Bool) (hx : l[k]? = some x) (h : (l.take k).any p = false) (hp : p x = false) : (l.take (k + 1)).any p = false := by
  obtain ⟨hk, e⟩ := List.getElem?_eq_some_iff.1 hx
  rw [List.take_succ_eq_append_getElem hk, e, List.any_append, h]
  simp [hp]
/-- no two of the first k have one name -/
theorem dup_step {l : List U.Att} {k : Nat} {x : U.Att} (hx : l[k]? = some x) : U.dupF (l.take k) (l.drop k) = ((l.take k).any (fun e => e.1 == x.1) || U.dupF (l.take (k + 1)) (l.drop (k + 1))) := by
  obtain ⟨hk, e⟩ := List.getElem?_eq_some_iff.1 hx
  rw [List.drop_eq_getElem_cons hk, e, U.dupF, List.take_succ_eq_append_getElem hk, e]
theorem dup_end (l : List U.Att) : U.dupF (l.take l.length) (l.drop l.length) = false := by rw [List.drop_length]; rfl
/-- where a cell lies that is read of an attribute -/
theorem RdA.at {w : World} {B : Nat} {ao : Option Addr} {n cap : Nat} {al : List U.Att} (h : RdA w B (.slice ao n cap) al) {i : Nat} {x : U.Att} (hx : al[i]? = some x) :
    ∃ g o, ao = some ⟨g, o, none⟩ ∧ g < B ∧ w.cell? ⟨g, o + i * 2, none⟩ = some (.string ⟨x.1.toArray⟩) ∧ w.cell? ⟨g, o + i * 2 + 1, none⟩ = some (.string ⟨x.2.toArray⟩) := by
  obtain ⟨ao2, cap2, e, hc⟩ := h
  injection e with e1 _ _
  subst e1
  exact hc i x hx

set_option maxHeartbeats 4000000 in
set_option maxRecDepth 1000000 in
theorem attrs_fault (v : Value) (al : List U.Att) (w : World) (hA : RdA w w.heap.size v al) (hz : al.length ≤ most) :
    Calls Tryz.prog 129 #[v] w fun e w' => e = .returned (.int .i64 (U.attrsFault al : Nat)) ∧ Below w.heap.size w w' := by
  obtain ⟨ao, cap, rfl, hc⟩ := hA
  obtain ⟨R, hR⟩ : ∃ R, U.attrsFault al = R := ⟨_, rfl⟩
  rw [hR]
  have HR := Lib.hid hR
  have HC := Lib.hid hc
  clear hR hc
  unfold most at hz
  go_enter Tryz.func129, Tryz.ntmps129
  go_wp2_with fail
  go_loopw [9] (fun i wr => ∃ k : Nat, k ≤ al.length ∧ i = .int .i64 k ∧ Below w.heap.size w wr ∧ Hid ((al.take k).any (fun a => !U.isName a.1) = false)) (fun i _ => al.length - (intOf i).toNat)
  case atStart => exact ⟨0, Nat.zero_le _, rfl, Below.refl _ _, rfl⟩
  case round =>
    obtain ⟨k, hk, rfl, hbw, HN⟩ := hrel
    by_cases hlt : k < al.length
    · have hx := List.getElem?_eq_getElem hlt
      have hm := List.getElem_mem hlt
      generalize al[k]'hlt = x at hx hm
      obtain ⟨g, o, rfl, hg, d0, d1⟩ := HC.out k x hx
      have c0 := (hbw.cell (p := ⟨g, o + k * 2, none⟩) hg).trans d0
      have c1 := (hbw.cell (p := ⟨g, o + k * 2 + 1, none⟩) hg).trans d1
      have hk0 : (0 : Int) ≤ (k : Int) := Int.natCast_nonneg _
      have hk1 : (k : Int) < (al.length : Int) := by omega
      have hbs := hbw.size
      have HX := Lib.hid hx
      have HM := Lib.hid hm
      clear hx hm d0 d1
      have hname := fun w2 => name_may ⟨x.1.toArray⟩ w2
      cases hn : U.isName x.1 with
      | true =>
        have HNM := Lib.hid hname
        have HNN := Lib.hid hn
        clear hname hn
        go_wp2_with (refine (HNM.out _).mono ?_; rintro e w' ⟨rfl, rfl⟩; rw [list_of_mk, HNN.out])
        go_roundw
        case rel => exact ⟨k + 1, by omega, by go_num, hbw.alloc hbw.size _, take_any _ HX.out HN.out (by rw [HNN.out]; rfl)⟩
        case measure => simp [intOf]; omega
      | false =>
        have HNM := Lib.hid hname
        have HNN := Lib.hid hn
        clear hname hn
        go_wp2_with (refine (HNM.out _).mono ?_; rintro e w' ⟨rfl, rfl⟩; rw [list_of_mk, HNN.out])
        go_ret
        refine ⟨?_, hbw.alloc hbw.size _⟩
        have h5 : U.attrsFault al = 5 := by
          unfold U.attrsFault
          rw [if_pos (List.any_eq_true.2 ⟨x, HM.out, by rw [HNN.out]; rfl⟩)]
        rw [HR.out] at h5
        rw [h5]
        rfl
    · have hall : al.any (fun a => !U.isName a.1) = false := by
        have := HN.out
        rwa [List.take_of_length_le (by omega)] at this
      have hR2 : (if 4 < al.length then 1 else if U.dup al = true then 8 else 0) = R := by
        rw [← HR.out]
        unfold U.attrsFault
        rw [hall]
        rfl
      have HR2 := Lib.hid hR2
      clear hall hR2
      by_cases h4 : 4 < al.length
      · go_wp2_with fail
        go_ret
        refine ⟨?_, hbw⟩
        have := HR2.out
        rw [if_pos h4] at this
        rw [← this]
        rfl
      · have hR3 := HR2.out
        rw [if_neg h4] at hR3
        have HR3 := Lib.hid hR3
        clear hR3 HR2
        go_wp2_with fail
        go_loopw [23] (fun i wx => ∃ k : Nat, k ≤ al.length ∧ i = .int .i64 k ∧ Below w.heap.size w wx ∧ Hid (U.dupF (al.take k) (al.drop k) = U.dup al)) (fun i _ => al.length - (intOf i).toNat)
        case atStart => exact ⟨0, Nat.zero_le _, rfl, hbw, rfl⟩
        case round =>
          obtain ⟨m, hm, rfl, hbx, HD⟩ := hrel
          by_cases hlm : m < al.length
          · have hx := List.getElem?_eq_getElem hlm
            generalize al[m]'hlm = x at hx
            have HX := Lib.hid hx
            clear hx
            go_wp2_with fail
            go_loopw [6] (fun i wy => ∃ j : Nat, j ≤ m ∧ i = .int .i64 j ∧ Below w.heap.size w wy ∧ Hid ((al.take j).any (fun e => e.1 == x.1) = false)) (fun i _ => m - (intOf i).toNat)
            case atStart => exact ⟨0, Nat.zero_le _, rfl, hbx, rfl⟩
            case round =>
              obtain ⟨j, hj, rfl, hby, HJ⟩ := hrel
              by_cases hlj : j < m
              · have hy := List.getElem?_eq_getElem (Nat.lt_trans hlj hlm)
                generalize al[j]'(Nat.lt_trans hlj hlm) = y at hy
                obtain ⟨ga, oa, rfl, hga, y0, _⟩ := HC.out j y hy
                obtain ⟨gb, ob, eb, hgb, z0, _⟩ := HC.out m x HX.out
                injection eb with eb
                injection eb with eb1 eb2
                subst eb1
                subst eb2
                have y1 := (hby.cell (p := ⟨ga, oa + j * 2, none⟩) hga).trans y0
                have z1 := (hby.cell (p := ⟨ga, oa + m * 2, none⟩) hga).trans z0
                have hi0 : (0 : Int) ≤ (j : Int) := Int.natCast_nonneg _
                have hi1 : (j : Int) < (al.length : Int) := by omega
                have hi2 : (0 : Int) ≤ (m : Int) := Int.natCast_nonneg _
                have hi3 : (m : Int) < (al.length : Int) := by omega
                have HY := Lib.hid hy
                clear hy y0 z0
                by_cases he : x.1 = y.1
                · have hbe : (x.1 == y.1) = true := beq_iff_eq.2 he
                  have HE := Lib.hid he
                  clear he
                  go_wp2_with fail
                  go_quiet (fail)
                  go_wp2_with fail
                  go_ret
                  refine ⟨?_, below_drewN hby _⟩
                  have h1 := dup_step HX.out
                  have h2 : (al.take m).any (fun e => e.1 == x.1) = true := by
                    refine List.any_eq_true.2 ⟨y, List.mem_of_getElem? (i := j) (by rw [List.getElem?_take_of_lt hlj]; exact HY.out), ?_⟩
                    rw [HE.out]
                    exact beq_iff_eq.2 rfl
                  rw [h2, Bool.true_or, HD.out] at h1
                  have h3 := HR3.out
                  rw [if_pos h1] at h3
                  rw [← h3]
                  rfl
                · have hbe : (x.1 == y.1) = false := beq_eq_false_iff_ne.2 he
                  have HE := Lib.hid he
                  clear he
                  go_wp2_with fail
                  go_quiet (fail)
                  go_wp2_with fail
                  go_roundw
                  case rel => exact ⟨j + 1, by omega, by go_num, below_drewN hby _, take_any _ HY.out HJ.out (beq_eq_false_iff_ne.2 (Ne.symm HE.out))⟩
                  case measure => simp [intOf]; omega
              · go_wp2_with fail
                go_roundw
                case rel =>
                  refine ⟨m + 1, by omega, by go_num, hby, ?_⟩
                  have h1 := dup_step HX.out
                  have h2 := HJ.out
                  obtain rfl : j = m := by omega
                  rw [h2, Bool.false_or] at h1
                  exact h1.symm.trans HD.out
                case measure => simp [intOf]; omega
          · go_wp2_with fail
            go_ret
            refine ⟨?_, hbx⟩
            have h1 := HD.out
            obtain rfl : m = al.length := by omega
            rw [dup_end] at h1
            have h2 := HR3.out
            rw [← h1] at h2
            rw [← h2]
            rfl

end Go.Proofs.YtmfkefcdddoooaaGreatDoor

namespace Go.Proofs.YtmfkefcdddoooaaGreatDoor
open Go.RowKit

/-- a function that tells something of an attribute, in whatever world behind this one -/
def Tells (g : Nat) (lb : Array Value) (p : U.Att → Bool) (al : List U.Att) (w : World) : Prop :=
  ∀ (W : World) (x : U.Att), x ∈ al → Below w.heap.size w W → Calls Tryz.prog g (#[.agg #[.string ⟨x.1.toArray⟩, .string ⟨x.2.toArray⟩]] ++ lb) W fun e w' => e = .returned (.bool (p x)) ∧ Below w.heap.size w w'

set_option maxHeartbeats 4000000 in
set_option maxRecDepth 1000000 in
theorem index_att (g : Nat) (lb : Array Value) (eg : ∀ args w, (callFunc g args).run Tryz.prog w = .ok (.enter g args) w) (p : U.Att → Bool) (v : Value) (al : List U.Att) (w : World) (hA : RdA w w.heap.size v al) (hz : al.length ≤ most) (hp : Tells g lb p al w) :
    Calls Tryz.prog 115 #[v, .func (.func g) #[] lb] w fun e w' => ∃ i : Int, e = .returned (.int .i64 i) ∧ (0 ≤ i ↔ al.any p = true) ∧ Below w.heap.size w w' := by
  obtain ⟨ao, cap, rfl, hc⟩ := hA
  have HC := Lib.hid hc
  have HP := Lib.hid hp
  clear hc hp
  unfold most at hz
  go_enter Tryz.func115, Tryz.ntmps115
  go_wp2_with fail
  go_loopw [8] (fun i wr => ∃ k : Nat, k ≤ al.length ∧ i = .int .i64 k ∧ Below w.heap.size w wr ∧ Hid ((al.take k).any p = false)) (fun i _ => al.length - (intOf i).toNat)
  case atStart => exact ⟨0, Nat.zero_le _, rfl, Below.refl _ _, rfl⟩
  case round =>
    obtain ⟨k, hk, rfl, hbw, HN⟩ := hrel
    by_cases hlt : k < al.length
    · have hx := List.getElem?_eq_getElem hlt
      have hm := List.getElem_mem hlt
      generalize al[k]'hlt = x at hx hm
      obtain ⟨gb, o, rfl, hg, d0, d1⟩ := HC.out k x hx
      have c0 := (hbw.cell (p := ⟨gb, o + k * 2, none⟩) hg).trans d0
      have c1 := (hbw.cell (p := ⟨gb, o + k * 2 + 1, none⟩) hg).trans d1
      have hk0 : (0 : Int) ≤ (k : Int) := Int.natCast_nonneg _
      have hk1 : (k : Int) < (al.length : Int) := by omega
      have HX := Lib.hid hx
      have hcall := HP.out wr x hm hbw
      have HM := Lib.hid hm
      clear hx hm d0 d1
      cases hq : p x with
      | true =>
        rw [hq] at hcall
        have HQ := Lib.hid hq
        have HCL := Lib.hid hcall
        clear hq hcall
        go_wp2_with (go_at_fn g; refine HCL.out.mono ?_; rintro e w' ⟨rfl, hb'⟩)
        go_ret
        exact ⟨(k : Int), rfl, ⟨fun _ => List.any_eq_true.2 ⟨x, HM.out, HQ.out⟩, fun _ => hk0⟩, hb'⟩
      | false =>
        rw [hq] at hcall
        have HQ := Lib.hid hq
        have HCL := Lib.hid hcall
        clear hq hcall
        go_wp2_with (go_at_fn g; refine HCL.out.mono ?_; rintro e w' ⟨rfl, hb'⟩)
        go_roundw
        case rel => exact ⟨k + 1, by omega, by go_num, hb', take_any _ HX.out HN.out HQ.out⟩
        case measure => simp [intOf]; omega
    · go_wp2_with fail
      go_ret
      refine ⟨-1, rfl, ?_, hbw⟩
      have hall : al.any p = false := by
        have := HN.out
        rwa [List.take_of_length_le (by omega)] at this
      rw [hall]
      constructor
      · intro h; omega
      · intro h; cases h
set_option maxHeartbeats 4000000 in
set_option maxRecDepth 1000000 in
theorem contains_att (g : Nat) (lb : Array Value) (eg : ∀ args w, (callFunc g args).run Tryz.prog w = .ok (.enter g args) w) (p : U.Att → Bool) (v : Value) (al : List U.Att) (w : World) (hA : RdA w w.heap.size v al) (hz : al.length ≤ most) (hp : Tells g lb p al w) :
    Calls Tryz.prog 81 #[v, .func (.func g) #[] lb] w fun e w' => e = .returned (.bool (al.any p)) ∧ Below w.heap.size w w' := by
  have H := Lib.hid (index_att g lb eg p v al w hA hz hp)
  clear hA hp eg
  obtain ⟨R, hR⟩ : ∃ R, al.any p = R := ⟨_, rfl⟩
  rw [hR]
  have HR := Lib.hid hR
  clear hR
  go_enter Tryz.func81, Tryz.ntmps81
  go_wp2_with (refine H.out.mono ?_; rintro e w' ⟨i, rfl, hi, hb'⟩; have HI := Lib.hid hi; clear hi)
  go_ret
  refine ⟨?_, hb'⟩
  have h1 := HI.out
  rw [HR.out] at h1
  have h2 : decide (0 ≤ i) = R := by
    cases R with
    | true => exact decide_eq_true (h1.2 rfl)
    | false => exact decide_eq_false (fun h => by cases h1.1 h)
  rw [← h2]
  rfl

end Go.Proofs.YtmfkefcdddoooaaGreatDoor

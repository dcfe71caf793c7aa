/- The reference: AttrsFault. -/
import Derived.Test.YtmfkefcdddoooaaRefName
import Derived.Test.YtmfkefcdddoooaaRdK
namespace Go.Proofs.Ytmfkefcdddoooaa
open Go.RowKit

theorem take_any {l : List U.Att} {k : Nat} {x : U.Att} (p : U.Att → Bool) (hx : l[k]? = some x) (h : (l.take k).any p = false) (hp : p x = false) : (l.take (k + 1)).any p = false := by
  obtain ⟨hk, e⟩ := List.getElem?_eq_some_iff.1 hx
  rw [List.take_succ_eq_append_getElem hk, e, List.any_append, h]
  simp [hp]
/-- no two of the first k have one name -/
theorem dup_step {l : List U.Att} {k : Nat} {x : U.Att} (hx : l[k]? = some x) : U.dupF (l.take k) (l.drop k) = ((l.take k).any (fun e => e.1 == x.1) || U.dupF (l.take (k + 1)) (l.drop (k + 1))) := by
  obtain ⟨hk, e⟩ := List.getElem?_eq_some_iff.1 hx
  rw [List.drop_eq_getElem_cons hk, e, U.dupF, List.take_succ_eq_append_getElem hk, e]
theorem dup_end (l : List U.Att) : U.dupF (l.take l.length) (l.drop l.length) = false := by rw [List.drop_length]; rfl
/-- where a cell lies that is read of an attribute -/
theorem RdA.at {w : World} {B : Nat} {ao : Option Addr} {n cap : Nat} {al : List U.Att} (h : RdA w B (.slice ao n cap) al) {i : Nat} {x : U.Att} (hx : al[i]? = some x) :
    ∃ g o, ao = some ⟨g, o, none⟩ ∧ g < B ∧ w.cell? ⟨g, o + i * 2, none⟩ = some (.string ⟨x.1.toArray⟩) ∧ w.cell? ⟨g, o + i * 2 + 1, none⟩ = some (.string ⟨x.2.toArray⟩) := by
  obtain ⟨ao2, cap2, e, hc⟩ := h
  injection e with e1 _ _
  subst e1
  exact hc i x hx

set_option maxHeartbeats 4000000 in
set_option maxRecDepth 1000000 in
theorem attrs_fault (v : Value) (al : List U.Att) (w : World) (hA : RdA w w.heap.size v al) (hz : al.length ≤ most) :
    Calls Try.prog 51 #[v] w fun e w' => e = .returned (.int .i64 (U.attrsFault al : Nat)) ∧ Below w.heap.size w w' := by
  obtain ⟨ao, cap, rfl, hc⟩ := hA
  obtain ⟨R, hR⟩ : ∃ R, U.attrsFault al = R := ⟨_, rfl⟩
  rw [hR]
  have HR := Lib.hid hR
  have HC := Lib.hid hc
  clear hR hc
  unfold most at hz
  go_enter Try.func51, Try.ntmps51
  go_wp2_with fail
  go_loopw [9] (fun i wr => ∃ k : Nat, k ≤ al.length ∧ i = .int .i64 k ∧ Below w.heap.size w wr ∧ Hid ((al.take k).any (fun a => !U.isName a.1) = false)) (fun i _ => al.length - (intOf i).toNat)
  case atStart => exact ⟨0, Nat.zero_le _, rfl, Below.refl _ _, rfl⟩
  case round =>
    obtain ⟨k, hk, rfl, hbw, HN⟩ := hrel
    by_cases hlt : k < al.length
    · have hx := List.getElem?_eq_getElem hlt
      have hm := List.getElem_mem hlt
      generalize al[k]'hlt = x at hx hm
      obtain ⟨g, o, rfl, hg, d0, d1⟩ := HC.out k x hx
      have c0 := (hbw.cell (p := ⟨g, o + k * 2, none⟩) hg).trans d0
      have c1 := (hbw.cell (p := ⟨g, o + k * 2 + 1, none⟩) hg).trans d1
      have hk0 : (0 : Int) ≤ (k : Int) := Int.natCast_nonneg _
      have hk1 : (k : Int) < (al.length : Int) := by omega
      have hbs := hbw.size
      have HX := Lib.hid hx
      have HM := Lib.hid hm
      clear hx hm d0 d1
      have hname := fun w2 => name_may ⟨x.1.toArray⟩ w2
      cases hn : U.isName x.1 with
      | true =>
        have HNM := Lib.hid hname
        have HNN := Lib.hid hn
        clear hname hn
        go_wp2_with (refine (HNM.out _).mono ?_; rintro e w' ⟨rfl, rfl⟩; rw [list_of_mk, HNN.out])
        go_roundw
        case rel => exact ⟨k + 1, by omega, by go_num, hbw.alloc hbw.size _, take_any _ HX.out HN.out (by rw [HNN.out]; rfl)⟩
        case measure => simp [intOf]; omega
      | false =>
        have HNM := Lib.hid hname
        have HNN := Lib.hid hn
        clear hname hn
        go_wp2_with (refine (HNM.out _).mono ?_; rintro e w' ⟨rfl, rfl⟩; rw [list_of_mk, HNN.out])
        go_ret
        refine ⟨?_, hbw.alloc hbw.size _⟩
        have h5 : U.attrsFault al = 5 := by
          unfold U.attrsFault
          rw [if_pos (List.any_eq_true.2 ⟨x, HM.out, by rw [HNN.out]; rfl⟩)]
        rw [HR.out] at h5
        rw [h5]
        rfl
    · have hall : al.any (fun a => !U.isName a.1) = false := by
        have := HN.out
        rwa [List.take_of_length_le (by omega)] at this
      have hR2 : (if 4 < al.length then 1 else if U.dup al = true then 8 else 0) = R := by
        rw [← HR.out]
        unfold U.attrsFault
        rw [hall]
        rfl
      have HR2 := Lib.hid hR2
      clear hall hR2
      by_cases h4 : 4 < al.length
      · go_wp2_with fail
        go_ret
        refine ⟨?_, hbw⟩
        have := HR2.out
        rw [if_pos h4] at this
        rw [← this]
        rfl
      · have hR3 := HR2.out
        rw [if_neg h4] at hR3
        have HR3 := Lib.hid hR3
        clear hR3 HR2
        go_wp2_with fail
        go_loopw [23] (fun i wx => ∃ k : Nat, k ≤ al.length ∧ i = .int .i64 k ∧ Below w.heap.size w wx ∧ Hid (U.dupF (al.take k) (al.drop k) = U.dup al)) (fun i _ => al.length - (intOf i).toNat)
        case atStart => exact ⟨0, Nat.zero_le _, rfl, hbw, rfl⟩
        case round =>
          obtain ⟨m, hm, rfl, hbx, HD⟩ := hrel
          by_cases hlm : m < al.length
          · have hx := List.getElem?_eq_getElem hlm
            generalize al[m]'hlm = x at hx
            have HX := Lib.hid hx
            clear hx
            go_wp2_with fail
            go_loopw [6] (fun i wy => ∃ j : Nat, j ≤ m ∧ i = .int .i64 j ∧ Below w.heap.size w wy ∧ Hid ((al.take j).any (fun e => e.1 == x.1) = false)) (fun i _ => m - (intOf i).toNat)
            case atStart => exact ⟨0, Nat.zero_le _, rfl, hbx, rfl⟩
            case round =>
              obtain ⟨j, hj, rfl, hby, HJ⟩ := hrel
              by_cases hlj : j < m
              · have hy := List.getElem?_eq_getElem (Nat.lt_trans hlj hlm)
                generalize al[j]'(Nat.lt_trans hlj hlm) = y at hy
                obtain ⟨ga, oa, rfl, hga, y0, _⟩ := HC.out j y hy
                obtain ⟨gb, ob, eb, hgb, z0, _⟩ := HC.out m x HX.out
                injection eb with eb
                injection eb with eb1 eb2
                subst eb1
                subst eb2
                have y1 := (hby.cell (p := ⟨ga, oa + j * 2, none⟩) hga).trans y0
                have z1 := (hby.cell (p := ⟨ga, oa + m * 2, none⟩) hga).trans z0
                have hi0 : (0 : Int) ≤ (j : Int) := Int.natCast_nonneg _
                have hi1 : (j : Int) < (al.length : Int) := by omega
                have hi2 : (0 : Int) ≤ (m : Int) := Int.natCast_nonneg _
                have hi3 : (m : Int) < (al.length : Int) := by omega
                have HY := Lib.hid hy
                clear hy y0 z0
                by_cases he : x.1 = y.1
                · have hbe : (x.1 == y.1) = true := beq_iff_eq.2 he
                  have HE := Lib.hid he
                  clear he
                  go_wp2_with fail
                  go_quiet (fail)
                  go_wp2_with fail
                  go_ret
                  refine ⟨?_, below_drewN hby _⟩
                  have h1 := dup_step HX.out
                  have h2 : (al.take m).any (fun e => e.1 == x.1) = true := by
                    refine List.any_eq_true.2 ⟨y, List.mem_of_getElem? (i := j) (by rw [List.getElem?_take_of_lt hlj]; exact HY.out), ?_⟩
                    rw [HE.out]
                    exact beq_iff_eq.2 rfl
                  rw [h2, Bool.true_or, HD.out] at h1
                  have h3 := HR3.out
                  rw [if_pos h1] at h3
                  rw [← h3]
                  rfl
                · have hbe : (x.1 == y.1) = false := beq_eq_false_iff_ne.2 he
                  have HE := Lib.hid he
                  clear he
                  go_wp2_with fail
                  go_quiet (fail)
                  go_wp2_with fail
                  go_roundw
                  case rel => exact ⟨j + 1, by omega, by go_num, below_drewN hby _, take_any _ HY.out HJ.out (beq_eq_false_iff_ne.2 (Ne.symm HE.out))⟩
                  case measure => simp [intOf]; omega
              · go_wp2_with fail
                go_roundw
                case rel =>
                  refine ⟨m + 1, by omega, by go_num, hby, ?_⟩
                  have h1 := dup_step HX.out
                  have h2 := HJ.out
                  obtain rfl : j = m := by omega
                  rw [h2, Bool.false_or] at h1
                  exact h1.symm.trans HD.out
                case measure => simp [intOf]; omega
          · go_wp2_with fail
            go_ret
            refine ⟨?_, hbx⟩
            have h1 := HD.out
            obtain rfl : m = al.length := by omega
            rw [dup_end] at h1
            have h2 := HR3.out
            rw [← h1] at h2
            rw [← h2]
            rfl

end Go.Proofs.Ytmfkefcdddoooaa

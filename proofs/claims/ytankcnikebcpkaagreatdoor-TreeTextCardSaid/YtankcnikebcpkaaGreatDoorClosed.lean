/- closedTree. -/
import Derived.Outline
import Derived.Test.YtankcnikebcpkaaGreatDoorP06
import Derived.Test.YtankcnikebcpkaaGreatDoorP04
namespace Go.Proofs.YtankcnikebcpkaaGreatDoor
open Go.RowKit

theorem closed_at {p li : Bool} {l : List U.Nd} {k : Nat} {n : U.Nd} (h : l[k]? = some n) : U.closedL p li l = (U.closedL p li (l.take k) && U.closedN p li n && U.closedL p li (l.drop (k + 1))) := by
  obtain ⟨hi, e⟩ := List.getElem?_eq_some_iff.1 h
  have h1 : l = l.take k ++ ([n] ++ l.drop (k + 1)) := by rw [← e]; simp
  conv => lhs; rw [h1]
  rw [U.closedL_append, U.closedL_append, U.closedL_one, Bool.and_assoc]
theorem closed_take {p li : Bool} {l : List U.Nd} {k : Nat} {n : U.Nd} (h : l[k]? = some n) : U.closedL p li (l.take (k + 1)) = (U.closedL p li (l.take k) && U.closedN p li n) := by
  obtain ⟨hi, e⟩ := List.getElem?_eq_some_iff.1 h
  rw [List.take_succ_eq_append_getElem hi, e, U.closedL_append, U.closedL_one]

set_option maxHeartbeats 8000000 in
set_option maxRecDepth 1000000 in
theorem closed_walk (c : Nat) : ∀ (l : List U.Nd), U.cntL l ≤ c → ∀ (p li : Bool) (v : Value) (w : World), RdNs w (· < w.heap.size) v l →
    Calls Tryz.prog 19 #[v, .bool p, .bool li] w fun e w' => e = .returned (.bool (U.closedL p li l)) ∧ w = w' := by
  induction c using Nat.strongRecOn with
  | _ c ih =>
  intro l hlc p li v w hR
  have hR0 := hR
  obtain ⟨ao, cap, rfl, hcl, hcm, _⟩ := hR0
  have hlm : l.length ≤ 9223372036854775807 := Nat.le_trans (Nat.le_trans hcl hcm) (by decide)
  have HR := Lib.hid hR
  have IH := Lib.hid ih
  clear ih hR hcl hcm
  go_enter Tryz.func19, Tryz.ntmps19
  go_wp2_with fail
  go_loopw [7] (fun i wr => ∃ k : Nat, k ≤ l.length ∧ i = .int .i64 k ∧ Hid (U.closedL p li (l.take k) = true) ∧ w = wr) (fun i _ => l.length - (intOf i).toNat)
  case atStart => exact ⟨0, Nat.zero_le _, rfl, by rw [List.take_zero]; exact U.closedL_nil _ _, rfl⟩
  case round =>
    obtain ⟨k, hk, rfl, HT, rfl⟩ := hrel
    by_cases hlt : k < l.length
    · have hx := List.getElem?_eq_getElem hlt
      generalize l[k]'hlt = n at hx
      obtain ⟨g, o, cap2, e0, hg, hn⟩ := HR.out.get hx
      injection e0 with e1 e2 e3
      subst e1
      obtain ⟨av, pv, c0, c1, c2, c3, hA, hP⟩ := (rdNd_iff n g _).1 hn
      obtain ⟨pa, pcap, rfl⟩ : ∃ pa pcap, pv = .slice pa n.parts.length pcap := by obtain ⟨a, b, e, _⟩ := hP; exact ⟨a, b, e⟩
      have hge := U.cntL_get hx
      have hne := U.cntN_eq n
      have HC := Lib.hid (fun p li => IH.out (U.cntL n.parts) (by omega) n.parts (Nat.le_refl _) p li _ w hP)
      have HN := Lib.hid (U.closedN_eq p li n)
      have HAT := Lib.hid (closed_at (p := p) (li := li) hx)
      have HTK := Lib.hid (closed_take (p := p) (li := li) hx)
      have hk0 : (0 : Int) ≤ (k : Int) := by omega
      have hk1 : (k : Int) < (l.length : Int) := by omega
      clear c1 c2 hn hA hP hge hne e2 e3 hx
      by_cases h1 : n.name = [112]
      · cases p with
        | true =>
          cases li with
          | true =>
            have HZ := Lib.hid (show U.closedL true true l = false by rw [HAT.out, HN.out, h1]; simp [U.nP, U.nLi])
            rw [h1] at c0
            clear h1
            go_wp2_with fail
            go_ret
            exact ⟨by rw [HZ.out]; rfl, rfl⟩
          | false =>
            have HZ := Lib.hid (show U.closedL true false l = false by rw [HAT.out, HN.out, h1]; simp [U.nP, U.nLi])
            rw [h1] at c0
            clear h1
            go_wp2_with fail
            go_ret
            exact ⟨by rw [HZ.out]; rfl, rfl⟩
        | false =>
          cases li with
          | true =>
            have HZ := Lib.hid (show U.closedN false true n = U.closedL true true n.parts by rw [HN.out]; rw [h1]; simp [U.nP, U.nLi, U.liIn, U.nUl, U.nOl])
            rw [h1] at c0
            clear h1
            have HC2 := Lib.hid (HC.out true true)
            cases hr : U.closedL true true n.parts with
            | true =>
              have HF := Lib.hid (show U.closedL false true (l.take (k + 1)) = true by rw [HTK.out, HT.out, HZ.out, hr]; rfl)
              rw [hr] at HC2
              clear hr
              go_wp2_with fail
              refine HC2.out.mono ?_
              rintro e w1 ⟨rfl, rfl⟩
              go_wp2_with fail
              go_roundw
              case rel => exact ⟨k + 1, by omega, by go_num, HF, trivial⟩
              case measure => simp [intOf]; omega
            | false =>
              have HF := Lib.hid (show U.closedL false true l = false by rw [HAT.out, HZ.out, hr]; simp)
              rw [hr] at HC2
              clear hr
              go_wp2_with fail
              refine HC2.out.mono ?_
              rintro e w1 ⟨rfl, rfl⟩
              go_wp2_with fail
              go_ret
              exact ⟨by rw [HF.out]; rfl, rfl⟩
          | false =>
            have HZ := Lib.hid (show U.closedN false false n = U.closedL true false n.parts by rw [HN.out]; rw [h1]; simp [U.nP, U.nLi, U.liIn, U.nUl, U.nOl])
            rw [h1] at c0
            clear h1
            have HC2 := Lib.hid (HC.out true false)
            cases hr : U.closedL true false n.parts with
            | true =>
              have HF := Lib.hid (show U.closedL false false (l.take (k + 1)) = true by rw [HTK.out, HT.out, HZ.out, hr]; rfl)
              rw [hr] at HC2
              clear hr
              go_wp2_with fail
              refine HC2.out.mono ?_
              rintro e w1 ⟨rfl, rfl⟩
              go_wp2_with fail
              go_roundw
              case rel => exact ⟨k + 1, by omega, by go_num, HF, trivial⟩
              case measure => simp [intOf]; omega
            | false =>
              have HF := Lib.hid (show U.closedL false false l = false by rw [HAT.out, HZ.out, hr]; simp)
              rw [hr] at HC2
              clear hr
              go_wp2_with fail
              refine HC2.out.mono ?_
              rintro e w1 ⟨rfl, rfl⟩
              go_wp2_with fail
              go_ret
              exact ⟨by rw [HF.out]; rfl, rfl⟩
      by_cases h2 : n.name = [108, 105]
      · cases p with
        | true =>
          cases li with
          | true =>
            have HZ := Lib.hid (show U.closedL true true l = false by rw [HAT.out, HN.out, h2]; simp [U.nP, U.nLi])
            rw [h2] at c0
            clear h1 h2
            go_wp2_with fail
            go_ret
            exact ⟨by rw [HZ.out]; rfl, rfl⟩
          | false =>
            have HZ := Lib.hid (show U.closedN true false n = U.closedL true true n.parts by rw [HN.out]; rw [h2]; simp [U.nP, U.nLi, U.liIn, U.nUl, U.nOl])
            rw [h2] at c0
            clear h1 h2
            have HC2 := Lib.hid (HC.out true true)
            cases hr : U.closedL true true n.parts with
            | true =>
              have HF := Lib.hid (show U.closedL true false (l.take (k + 1)) = true by rw [HTK.out, HT.out, HZ.out, hr]; rfl)
              rw [hr] at HC2
              clear hr
              go_wp2_with fail
              refine HC2.out.mono ?_
              rintro e w1 ⟨rfl, rfl⟩
              go_wp2_with fail
              go_roundw
              case rel => exact ⟨k + 1, by omega, by go_num, HF, trivial⟩
              case measure => simp [intOf]; omega
            | false =>
              have HF := Lib.hid (show U.closedL true false l = false by rw [HAT.out, HZ.out, hr]; simp)
              rw [hr] at HC2
              clear hr
              go_wp2_with fail
              refine HC2.out.mono ?_
              rintro e w1 ⟨rfl, rfl⟩
              go_wp2_with fail
              go_ret
              exact ⟨by rw [HF.out]; rfl, rfl⟩
        | false =>
          cases li with
          | true =>
            have HZ := Lib.hid (show U.closedL false true l = false by rw [HAT.out, HN.out, h2]; simp [U.nP, U.nLi])
            rw [h2] at c0
            clear h1 h2
            go_wp2_with fail
            go_ret
            exact ⟨by rw [HZ.out]; rfl, rfl⟩
          | false =>
            have HZ := Lib.hid (show U.closedN false false n = U.closedL false true n.parts by rw [HN.out]; rw [h2]; simp [U.nP, U.nLi, U.liIn, U.nUl, U.nOl])
            rw [h2] at c0
            clear h1 h2
            have HC2 := Lib.hid (HC.out false true)
            cases hr : U.closedL false true n.parts with
            | true =>
              have HF := Lib.hid (show U.closedL false false (l.take (k + 1)) = true by rw [HTK.out, HT.out, HZ.out, hr]; rfl)
              rw [hr] at HC2
              clear hr
              go_wp2_with fail
              refine HC2.out.mono ?_
              rintro e w1 ⟨rfl, rfl⟩
              go_wp2_with fail
              go_roundw
              case rel => exact ⟨k + 1, by omega, by go_num, HF, trivial⟩
              case measure => simp [intOf]; omega
            | false =>
              have HF := Lib.hid (show U.closedL false false l = false by rw [HAT.out, HZ.out, hr]; simp)
              rw [hr] at HC2
              clear hr
              go_wp2_with fail
              refine HC2.out.mono ?_
              rintro e w1 ⟨rfl, rfl⟩
              go_wp2_with fail
              go_ret
              exact ⟨by rw [HF.out]; rfl, rfl⟩
      by_cases h3 : n.name = [117, 108]
      · cases p with
        | true =>
          cases li with
          | true =>
            have HZ := Lib.hid (show U.closedN true true n = U.closedL true false n.parts by rw [HN.out]; rw [h3]; simp [U.nP, U.nLi, U.liIn, U.nUl, U.nOl])
            rw [h3] at c0
            clear h1 h2 h3
            have HC2 := Lib.hid (HC.out true false)
            cases hr : U.closedL true false n.parts with
            | true =>
              have HF := Lib.hid (show U.closedL true true (l.take (k + 1)) = true by rw [HTK.out, HT.out, HZ.out, hr]; rfl)
              rw [hr] at HC2
              clear hr
              go_wp2_with fail
              refine HC2.out.mono ?_
              rintro e w1 ⟨rfl, rfl⟩
              go_wp2_with fail
              go_roundw
              case rel => exact ⟨k + 1, by omega, by go_num, HF, trivial⟩
              case measure => simp [intOf]; omega
            | false =>
              have HF := Lib.hid (show U.closedL true true l = false by rw [HAT.out, HZ.out, hr]; simp)
              rw [hr] at HC2
              clear hr
              go_wp2_with fail
              refine HC2.out.mono ?_
              rintro e w1 ⟨rfl, rfl⟩
              go_wp2_with fail
              go_ret
              exact ⟨by rw [HF.out]; rfl, rfl⟩
          | false =>
            have HZ := Lib.hid (show U.closedN true false n = U.closedL true false n.parts by rw [HN.out]; rw [h3]; simp [U.nP, U.nLi, U.liIn, U.nUl, U.nOl])
            rw [h3] at c0
            clear h1 h2 h3
            have HC2 := Lib.hid (HC.out true false)
            cases hr : U.closedL true false n.parts with
            | true =>
              have HF := Lib.hid (show U.closedL true false (l.take (k + 1)) = true by rw [HTK.out, HT.out, HZ.out, hr]; rfl)
              rw [hr] at HC2
              clear hr
              go_wp2_with fail
              refine HC2.out.mono ?_
              rintro e w1 ⟨rfl, rfl⟩
              go_wp2_with fail
              go_roundw
              case rel => exact ⟨k + 1, by omega, by go_num, HF, trivial⟩
              case measure => simp [intOf]; omega
            | false =>
              have HF := Lib.hid (show U.closedL true false l = false by rw [HAT.out, HZ.out, hr]; simp)
              rw [hr] at HC2
              clear hr
              go_wp2_with fail
              refine HC2.out.mono ?_
              rintro e w1 ⟨rfl, rfl⟩
              go_wp2_with fail
              go_ret
              exact ⟨by rw [HF.out]; rfl, rfl⟩
        | false =>
          cases li with
          | true =>
            have HZ := Lib.hid (show U.closedN false true n = U.closedL false false n.parts by rw [HN.out]; rw [h3]; simp [U.nP, U.nLi, U.liIn, U.nUl, U.nOl])
            rw [h3] at c0
            clear h1 h2 h3
            have HC2 := Lib.hid (HC.out false false)
            cases hr : U.closedL false false n.parts with
            | true =>
              have HF := Lib.hid (show U.closedL false true (l.take (k + 1)) = true by rw [HTK.out, HT.out, HZ.out, hr]; rfl)
              rw [hr] at HC2
              clear hr
              go_wp2_with fail
              refine HC2.out.mono ?_
              rintro e w1 ⟨rfl, rfl⟩
              go_wp2_with fail
              go_roundw
              case rel => exact ⟨k + 1, by omega, by go_num, HF, trivial⟩
              case measure => simp [intOf]; omega
            | false =>
              have HF := Lib.hid (show U.closedL false true l = false by rw [HAT.out, HZ.out, hr]; simp)
              rw [hr] at HC2
              clear hr
              go_wp2_with fail
              refine HC2.out.mono ?_
              rintro e w1 ⟨rfl, rfl⟩
              go_wp2_with fail
              go_ret
              exact ⟨by rw [HF.out]; rfl, rfl⟩
          | false =>
            have HZ := Lib.hid (show U.closedN false false n = U.closedL false false n.parts by rw [HN.out]; rw [h3]; simp [U.nP, U.nLi, U.liIn, U.nUl, U.nOl])
            rw [h3] at c0
            clear h1 h2 h3
            have HC2 := Lib.hid (HC.out false false)
            cases hr : U.closedL false false n.parts with
            | true =>
              have HF := Lib.hid (show U.closedL false false (l.take (k + 1)) = true by rw [HTK.out, HT.out, HZ.out, hr]; rfl)
              rw [hr] at HC2
              clear hr
              go_wp2_with fail
              refine HC2.out.mono ?_
              rintro e w1 ⟨rfl, rfl⟩
              go_wp2_with fail
              go_roundw
              case rel => exact ⟨k + 1, by omega, by go_num, HF, trivial⟩
              case measure => simp [intOf]; omega
            | false =>
              have HF := Lib.hid (show U.closedL false false l = false by rw [HAT.out, HZ.out, hr]; simp)
              rw [hr] at HC2
              clear hr
              go_wp2_with fail
              refine HC2.out.mono ?_
              rintro e w1 ⟨rfl, rfl⟩
              go_wp2_with fail
              go_ret
              exact ⟨by rw [HF.out]; rfl, rfl⟩
      by_cases h4 : n.name = [111, 108]
      · cases p with
        | true =>
          cases li with
          | true =>
            have HZ := Lib.hid (show U.closedN true true n = U.closedL true false n.parts by rw [HN.out]; rw [h4]; simp [U.nP, U.nLi, U.liIn, U.nUl, U.nOl])
            rw [h4] at c0
            clear h1 h2 h3 h4
            have HC2 := Lib.hid (HC.out true false)
            cases hr : U.closedL true false n.parts with
            | true =>
              have HF := Lib.hid (show U.closedL true true (l.take (k + 1)) = true by rw [HTK.out, HT.out, HZ.out, hr]; rfl)
              rw [hr] at HC2
              clear hr
              go_wp2_with fail
              refine HC2.out.mono ?_
              rintro e w1 ⟨rfl, rfl⟩
              go_wp2_with fail
              go_roundw
              case rel => exact ⟨k + 1, by omega, by go_num, HF, trivial⟩
              case measure => simp [intOf]; omega
            | false =>
              have HF := Lib.hid (show U.closedL true true l = false by rw [HAT.out, HZ.out, hr]; simp)
              rw [hr] at HC2
              clear hr
              go_wp2_with fail
              refine HC2.out.mono ?_
              rintro e w1 ⟨rfl, rfl⟩
              go_wp2_with fail
              go_ret
              exact ⟨by rw [HF.out]; rfl, rfl⟩
          | false =>
            have HZ := Lib.hid (show U.closedN true false n = U.closedL true false n.parts by rw [HN.out]; rw [h4]; simp [U.nP, U.nLi, U.liIn, U.nUl, U.nOl])
            rw [h4] at c0
            clear h1 h2 h3 h4
            have HC2 := Lib.hid (HC.out true false)
            cases hr : U.closedL true false n.parts with
            | true =>
              have HF := Lib.hid (show U.closedL true false (l.take (k + 1)) = true by rw [HTK.out, HT.out, HZ.out, hr]; rfl)
              rw [hr] at HC2
              clear hr
              go_wp2_with fail
              refine HC2.out.mono ?_
              rintro e w1 ⟨rfl, rfl⟩
              go_wp2_with fail
              go_roundw
              case rel => exact ⟨k + 1, by omega, by go_num, HF, trivial⟩
              case measure => simp [intOf]; omega
            | false =>
              have HF := Lib.hid (show U.closedL true false l = false by rw [HAT.out, HZ.out, hr]; simp)
              rw [hr] at HC2
              clear hr
              go_wp2_with fail
              refine HC2.out.mono ?_
              rintro e w1 ⟨rfl, rfl⟩
              go_wp2_with fail
              go_ret
              exact ⟨by rw [HF.out]; rfl, rfl⟩
        | false =>
          cases li with
          | true =>
            have HZ := Lib.hid (show U.closedN false true n = U.closedL false false n.parts by rw [HN.out]; rw [h4]; simp [U.nP, U.nLi, U.liIn, U.nUl, U.nOl])
            rw [h4] at c0
            clear h1 h2 h3 h4
            have HC2 := Lib.hid (HC.out false false)
            cases hr : U.closedL false false n.parts with
            | true =>
              have HF := Lib.hid (show U.closedL false true (l.take (k + 1)) = true by rw [HTK.out, HT.out, HZ.out, hr]; rfl)
              rw [hr] at HC2
              clear hr
              go_wp2_with fail
              refine HC2.out.mono ?_
              rintro e w1 ⟨rfl, rfl⟩
              go_wp2_with fail
              go_roundw
              case rel => exact ⟨k + 1, by omega, by go_num, HF, trivial⟩
              case measure => simp [intOf]; omega
            | false =>
              have HF := Lib.hid (show U.closedL false true l = false by rw [HAT.out, HZ.out, hr]; simp)
              rw [hr] at HC2
              clear hr
              go_wp2_with fail
              refine HC2.out.mono ?_
              rintro e w1 ⟨rfl, rfl⟩
              go_wp2_with fail
              go_ret
              exact ⟨by rw [HF.out]; rfl, rfl⟩
          | false =>
            have HZ := Lib.hid (show U.closedN false false n = U.closedL false false n.parts by rw [HN.out]; rw [h4]; simp [U.nP, U.nLi, U.liIn, U.nUl, U.nOl])
            rw [h4] at c0
            clear h1 h2 h3 h4
            have HC2 := Lib.hid (HC.out false false)
            cases hr : U.closedL false false n.parts with
            | true =>
              have HF := Lib.hid (show U.closedL false false (l.take (k + 1)) = true by rw [HTK.out, HT.out, HZ.out, hr]; rfl)
              rw [hr] at HC2
              clear hr
              go_wp2_with fail
              refine HC2.out.mono ?_
              rintro e w1 ⟨rfl, rfl⟩
              go_wp2_with fail
              go_roundw
              case rel => exact ⟨k + 1, by omega, by go_num, HF, trivial⟩
              case measure => simp [intOf]; omega
            | false =>
              have HF := Lib.hid (show U.closedL false false l = false by rw [HAT.out, HZ.out, hr]; simp)
              rw [hr] at HC2
              clear hr
              go_wp2_with fail
              refine HC2.out.mono ?_
              rintro e w1 ⟨rfl, rfl⟩
              go_wp2_with fail
              go_ret
              exact ⟨by rw [HF.out]; rfl, rfl⟩
      have b1 : (n.name == [112]) = false := by simpa using h1
      have b2 : (n.name == [108, 105]) = false := by simpa using h2
      have b3 : (n.name == [117, 108]) = false := by simpa using h3
      have b4 : (n.name == [111, 108]) = false := by simpa using h4
      cases p with
      | true =>
        cases li with
        | true =>
          have HZ := Lib.hid (show U.closedN true true n = U.closedL true true n.parts by rw [HN.out]; rw [show (n.name == U.nP) = false from b1, show (n.name == U.nLi) = false from b2, show U.liIn n.name true = true from by unfold U.liIn; rw [if_neg (fun e => e.elim h3 h4), if_neg (show ¬ n.name = U.nLi from h2)]]; rfl)
          clear h1 h2 h3 h4
          have HC2 := Lib.hid (HC.out true true)
          cases hr : U.closedL true true n.parts with
          | true =>
            have HF := Lib.hid (show U.closedL true true (l.take (k + 1)) = true by rw [HTK.out, HT.out, HZ.out, hr]; rfl)
            rw [hr] at HC2
            clear hr
            go_wp2_with fail
            refine HC2.out.mono ?_
            rintro e w1 ⟨rfl, rfl⟩
            go_wp2_with fail
            go_roundw
            case rel => exact ⟨k + 1, by omega, by go_num, HF, trivial⟩
            case measure => simp [intOf]; omega
          | false =>
            have HF := Lib.hid (show U.closedL true true l = false by rw [HAT.out, HZ.out, hr]; simp)
            rw [hr] at HC2
            clear hr
            go_wp2_with fail
            refine HC2.out.mono ?_
            rintro e w1 ⟨rfl, rfl⟩
            go_wp2_with fail
            go_ret
            exact ⟨by rw [HF.out]; rfl, rfl⟩
        | false =>
          have HZ := Lib.hid (show U.closedN true false n = U.closedL true false n.parts by rw [HN.out]; rw [show (n.name == U.nP) = false from b1, show (n.name == U.nLi) = false from b2, show U.liIn n.name false = false from by unfold U.liIn; rw [if_neg (fun e => e.elim h3 h4), if_neg (show ¬ n.name = U.nLi from h2)]]; rfl)
          clear h1 h2 h3 h4
          have HC2 := Lib.hid (HC.out true false)
          cases hr : U.closedL true false n.parts with
          | true =>
            have HF := Lib.hid (show U.closedL true false (l.take (k + 1)) = true by rw [HTK.out, HT.out, HZ.out, hr]; rfl)
            rw [hr] at HC2
            clear hr
            go_wp2_with fail
            refine HC2.out.mono ?_
            rintro e w1 ⟨rfl, rfl⟩
            go_wp2_with fail
            go_roundw
            case rel => exact ⟨k + 1, by omega, by go_num, HF, trivial⟩
            case measure => simp [intOf]; omega
          | false =>
            have HF := Lib.hid (show U.closedL true false l = false by rw [HAT.out, HZ.out, hr]; simp)
            rw [hr] at HC2
            clear hr
            go_wp2_with fail
            refine HC2.out.mono ?_
            rintro e w1 ⟨rfl, rfl⟩
            go_wp2_with fail
            go_ret
            exact ⟨by rw [HF.out]; rfl, rfl⟩
      | false =>
        cases li with
        | true =>
          have HZ := Lib.hid (show U.closedN false true n = U.closedL false true n.parts by rw [HN.out]; rw [show (n.name == U.nP) = false from b1, show (n.name == U.nLi) = false from b2, show U.liIn n.name true = true from by unfold U.liIn; rw [if_neg (fun e => e.elim h3 h4), if_neg (show ¬ n.name = U.nLi from h2)]]; rfl)
          clear h1 h2 h3 h4
          have HC2 := Lib.hid (HC.out false true)
          cases hr : U.closedL false true n.parts with
          | true =>
            have HF := Lib.hid (show U.closedL false true (l.take (k + 1)) = true by rw [HTK.out, HT.out, HZ.out, hr]; rfl)
            rw [hr] at HC2
            clear hr
            go_wp2_with fail
            refine HC2.out.mono ?_
            rintro e w1 ⟨rfl, rfl⟩
            go_wp2_with fail
            go_roundw
            case rel => exact ⟨k + 1, by omega, by go_num, HF, trivial⟩
            case measure => simp [intOf]; omega
          | false =>
            have HF := Lib.hid (show U.closedL false true l = false by rw [HAT.out, HZ.out, hr]; simp)
            rw [hr] at HC2
            clear hr
            go_wp2_with fail
            refine HC2.out.mono ?_
            rintro e w1 ⟨rfl, rfl⟩
            go_wp2_with fail
            go_ret
            exact ⟨by rw [HF.out]; rfl, rfl⟩
        | false =>
          have HZ := Lib.hid (show U.closedN false false n = U.closedL false false n.parts by rw [HN.out]; rw [show (n.name == U.nP) = false from b1, show (n.name == U.nLi) = false from b2, show U.liIn n.name false = false from by unfold U.liIn; rw [if_neg (fun e => e.elim h3 h4), if_neg (show ¬ n.name = U.nLi from h2)]]; rfl)
          clear h1 h2 h3 h4
          have HC2 := Lib.hid (HC.out false false)
          cases hr : U.closedL false false n.parts with
          | true =>
            have HF := Lib.hid (show U.closedL false false (l.take (k + 1)) = true by rw [HTK.out, HT.out, HZ.out, hr]; rfl)
            rw [hr] at HC2
            clear hr
            go_wp2_with fail
            refine HC2.out.mono ?_
            rintro e w1 ⟨rfl, rfl⟩
            go_wp2_with fail
            go_roundw
            case rel => exact ⟨k + 1, by omega, by go_num, HF, trivial⟩
            case measure => simp [intOf]; omega
          | false =>
            have HF := Lib.hid (show U.closedL false false l = false by rw [HAT.out, HZ.out, hr]; simp)
            rw [hr] at HC2
            clear hr
            go_wp2_with fail
            refine HC2.out.mono ?_
            rintro e w1 ⟨rfl, rfl⟩
            go_wp2_with fail
            go_ret
            exact ⟨by rw [HF.out]; rfl, rfl⟩
    · obtain rfl : k = l.length := by omega
      have HZ := Lib.hid (show U.closedL p li l = true by have := HT.out; rwa [List.take_length] at this)
      have hz : ¬ (l.length : Int) < (l.length : Int) := by omega
      go_wp2_with fail
      go_ret
      exact ⟨by rw [HZ.out]; rfl, rfl⟩

end Go.Proofs.YtankcnikebcpkaaGreatDoor

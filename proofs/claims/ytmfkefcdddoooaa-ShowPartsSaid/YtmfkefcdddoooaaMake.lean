/- Nodes: the walk. -/
import Derived.Test.YtmfkefcdddoooaaMadeMath
import Derived.Test.YtmfkefcdddoooaaLits
import Derived.Test.YtmfkefcdddoooaaNRow
import Derived.Test.YtmfkefcdddoooaaShowNames
import Derived.Test.YtmfkefcdddoooaaPicked
import Derived.Test.YtmfkefcdddoooaaCount5
import Derived.Deep.LoopGhost
import Derived.Deep.RegionLaw
import Derived.Deep.RegionWith
import Derived.Deep.DeepCutAuto
import Derived.Handy
namespace Go.Proofs.Ytmfkefcdddoooaa
open Go.RowKit

theorem at_form {W : World} {a : Addr} {v : Value} (h : W.cell? a = some v) : ∃ g o, a = ⟨g, o, none⟩ := by
  obtain ⟨g, o, sp⟩ := a
  cases sp with
  | none => exact ⟨g, o, rfl⟩
  | some q =>
    exfalso
    unfold World.cell? at h
    simp only [Option.isSome_some, if_true] at h
    split at h <;> cases h
theorem add_nought (a : Addr) : a.add 0 = a := by
  obtain ⟨g, o, sp⟩ := a
  unfold Addr.add
  split <;> simp_all
theorem add_succ (a : Addr) (k : Nat) : (a.add 1).add k = a.add (k + 1) := by
  unfold Addr.add
  split <;> split <;> simp_all <;> omega
theorem Rd.tail {w : World} {B : Nat} {ad : Addr} {z : Int} {r : List Int} (h : Rd w B (some ad) (z :: r)) : Rd w B (some (ad.add 1)) r := fun k y hy => by
  obtain ⟨ad', e, hb, hc⟩ := h (k + 1) y (by simpa using hy)
  injection e with e
  subst e
  exact ⟨_, rfl, by rw [add_block]; exact hb, by rw [add_succ]; exact hc⟩
theorem Rd.nil (w : World) (B : Nat) (ao : Option Addr) : Rd w B ao [] := fun k z h => by cases h

/-- what comes of the maker -/
def MPost (zs : List Int) (deep n B : Nat) (w : World) (e : Ending) (w' : World) : Prop := ∃ nv ro rc rs l, e = .returned (.tuple #[nv, .slice ro rs.length rc]) ∧ rs.length ≤ zs.length ∧ rs.length ≤ rc ∧ rc ≤ maxLen ∧ Rd w' B ro rs ∧
    RdNs w' (Within 0 w.heap.size w'.heap.size) nv l ∧ U.Made deep n l ∧ Below w.heap.size w w'
/-- what the maker answers -/
def Makes (zs : List Int) : Prop := ∀ (deep n B : Nat), 1 ≤ deep → deep ≤ 4 → n ≤ 6 → ∀ (ao : Option Addr) (cap : Nat) (w : World), B ≤ w.heap.size → Rd w B ao zs → zs.length ≤ cap → cap ≤ maxLen →
  Calls Try.prog 20 #[.slice ao zs.length cap, .int .i64 deep, .int .i64 n] w fun e w' => MPost zs deep n B w e w'

set_option maxHeartbeats 8000000 in
set_option maxRecDepth 1000000 in
theorem make_nodes (m : Nat) : ∀ (zs : List Int), zs.length ≤ m → Makes zs := by
  induction m using Nat.strongRecOn with
  | _ m ih =>
  intro zs hm deep n B hd1 hd4 hn6 ao cap w hB hR hcap hcm
  obtain ⟨iT, hiT, hT0, hT1, hT2⟩ := info_parts infoNode2
  have IH := Lib.hid ih
  have HR := Lib.hid hR
  clear ih hR
  go_enter Try.func20, Try.ntmps20
  go_wp2_with fail
  go_loopg [0, 8] zs.length (fun gg sv nv wr => ∃ (cur : List Int) (xs : List NV) (ca : Option Addr) (cc : Nat), sv = .slice ca cur.length cc ∧ cur.length = gg ∧ gg ≤ zs.length ∧ cur.length ≤ cc ∧ cc ≤ maxLen ∧ Hid (Rd wr B ca cur) ∧ Hid (NRow 0 w wr nv xs) ∧ Hid (U.Made deep n (xs.map (·.1))))
  case atStart => exact ⟨zs, [], ao, cap, rfl, rfl, Nat.le_refl _, hcap, hcm, HR.out, NRow.nil (Nat.zero_le _) (Below.refl _ _), U.Made.nil _ _⟩
  case round =>
    obtain ⟨cur, xs, ca, cc, rfl, rfl, hgl, hcc, hccm, HC, HN, HM⟩ := hrel
    obtain ⟨na, ncap, rfl⟩ := own_form HN.out.1
    have hbw := HN.out.2.2.1
    have hxn : xs.length ≤ n := by have := HM.out.len; rw [List.length_map] at this; exact this
    by_cases h0 : cur = []
    · subst h0
      have hz : ¬ (0 : Int) < (([] : List Int).length : Int) := by simp
      go_wp2_with fail
      go_ret2
      exact ⟨_, ca, cc, [], _, rfl, Nat.zero_le _, hcc, hccm, HC.out, HN.out.rd, HM.out, hbw⟩
    · by_cases hfull : xs.length < n
      · obtain ⟨z, r, rfl⟩ : ∃ x r, cur = x :: r := by
          cases cur with
          | nil => exact absurd rfl h0
          | cons x r => exact ⟨x, r, rfl⟩
        obtain ⟨ad, rfl, hab, hac⟩ := HC.out 0 z rfl
        rw [add_nought] at hac
        obtain ⟨ag, ax, rfl⟩ := at_form hac
        rw [List.length_cons] at hcc hgl
        have hpos : (0 : Int) < (r.length : Int) + 1 := by omega
        have hz2 : (xs.length : Int) < (n : Int) := by omega
        -- what is left of the numbers, wherever it lies
        have hTL : ∃ (ra : Addr) (rc : Nat), r.length ≤ rc ∧ rc ≤ maxLen ∧ Rd wr B (some ra) r ∧ (if cc = 1 then ra = ⟨ag, ax, none⟩ ∧ rc = 0 else ra = ⟨ag, ax + 1, none⟩ ∧ rc = cc - 1) := by
          by_cases hc1 : cc = 1
          · refine ⟨⟨ag, ax, none⟩, 0, by omega, Nat.zero_le _, ?_, by rw [if_pos hc1]; exact ⟨rfl, rfl⟩⟩
            have : r = [] := List.eq_nil_of_length_eq_zero (by omega)
            rw [this]
            exact Rd.nil _ _ _
          · exact ⟨⟨ag, ax + 1, none⟩, cc - 1, by omega, by omega, by have h := Rd.tail HC.out; have e : (⟨ag, ax, none⟩ : Addr).add 1 = ⟨ag, ax + 1, none⟩ := (by simp [Addr.add]); rwa [e] at h, by rw [if_neg hc1]; exact ⟨rfl, rfl⟩⟩
        obtain ⟨c, hc6, ec⟩ : ∃ c : Nat, c < 6 ∧ z % 6 = (c : Int) := ⟨(z % 6).toNat, by omega, by omega⟩
        have hpa := fun W => picked_walk z 6 W (by omega) (by omega)
        rw [ec] at hpa
        have HPA := Lib.hid hpa
        clear hpa ec
        obtain ⟨ra, rc, hrc, hrcm, hRr, hif⟩ := hTL
        have HRr := Lib.hid hRr
        clear hRr h0
        by_cases hc1 : cc = 1
        · subst hc1
          rw [if_pos rfl] at hif
          obtain ⟨rfl, rfl⟩ := hif
          obtain rfl : r = [] := List.eq_nil_of_length_eq_zero (by omega)
          go_wp2_with fail
          refine (HPA.out _).mono ?_
          rintro e w' ⟨rfl, rfl⟩
          rcases (show c = 0 ∨ c = 1 ∨ c = 2 ∨ (3 ≤ c ∧ c < 6) by omega) with rfl | rfl | rfl | ⟨h3, h6⟩
          · go_wp2_with fail
            go_ret2
            exact ⟨_, _, _, [], _, rfl, by omega, hrc, hrcm, HRr.out, HN.out.rd, HM.out, hbw⟩
          · obtain ⟨q, hq, eq⟩ : ∃ q : Nat, q < 6 ∧ (wrap64 (z.tdiv 6)) % 6 = (q : Int) := ⟨((wrap64 (z.tdiv 6)) % 6).toNat, by omega, by omega⟩
            have hpq := fun W => picked_walk (wrap64 (z.tdiv 6)) 6 W (by omega) (by omega)
            rw [eq] at hpq
            have HPQ := Lib.hid hpq
            have htc := tn_cell q hq
            have htg := tn_get q
            have hq0 : (0 : Int) ≤ (q : Int) := Int.natCast_nonneg _
            have hq1 : (q : Int) < 6 := by omega
            clear eq hpq
            by_cases hx0 : xs.length = 0
            · have hxz : ¬ (0 : Int) < (xs.length : Int) := by omega
              have HX0 := Lib.hid hx0
              clear hx0
              go_wp2_with fail
              refine (HPQ.out _).mono ?_
              rintro e w' ⟨rfl, rfl⟩
              have HWX := Lib.hid ((HN.out.alloc (.cells #[.string ⟨#[120]⟩, .string ⟨#[97, 60, 98]⟩, .string ⟨#[38, 97, 109, 112, 59]⟩, .string ⟨#[121, 32, 122]⟩, .string ⟨#[32]⟩, .string ⟨#[60, 112, 62]⟩] 9 (0, 0))).alloc (.cells #[.string ⟨#[]⟩, .slice none 0 0, .string ⟨(tnL q).toArray⟩, .slice none 0 0] 45 (0, 0)))
              have hbs := hbw.size
              go_wp2_with (at_builtin; refine wpList_append_lies _ rfl _ _ 33 rfl w.heap.size 45 iT _ 4 80 Try.underlying33 hiT hT0 hT1 hT2 rfl (by decide) _ xs.length _ rfl HWX.out.1 ⟨_, 0, none⟩ 1 1 [.string ⟨#[]⟩, .slice none 0 0, .string ⟨(tnL q).toArray⟩, .slice none 0 0] rfl rfl ?b1x ?b2x (by decide) ?b3x ?b4x ?b5x _ rfl ?_)
              case b1x => exact cells4 (by have h := heap_alloc_new (wr.alloc (.cells #[.string ⟨#[120]⟩, .string ⟨#[97, 60, 98]⟩, .string ⟨#[38, 97, 109, 112, 59]⟩, .string ⟨#[121, 32, 122]⟩, .string ⟨#[32]⟩, .string ⟨#[60, 112, 62]⟩] 9 (0, 0))) (.cells #[.string ⟨#[]⟩, .slice none 0 0, .string ⟨(tnL q).toArray⟩, .slice none 0 0] 45 (0, 0)); simpa using h)
              case b2x => intro u hu; simp at hu; rcases hu with rfl | rfl | rfl | rfl <;> rfl
              case b3x => unfold maxLen; omega
              case b4x => omega
              case b5x => simp; omega
              intro g7 cap7 w7 hown7 hgrow7 hat7 _
              obtain ⟨m1, m2, m3⟩ := U.made_text (l := xs.map (·.1)) hd1 (tn_some q hq) (by rw [List.eq_nil_of_length_eq_zero HX0.out]; rfl)
              have HP7 := Lib.hid (HWX.out.put ((.mk [] [] (tnL q) [], .slice none 0 0, .slice none 0 0) : NV) ⟨RdAS.nil _ _, RdNs.nil _ _⟩ hown7 hgrow7 (hat7.imp id (fun e => by rw [e]; simp)))
              have HM7 := Lib.hid (HM.out.snoc (by rw [List.length_map]; omega) m1 m2 m3)
              have hB7 : Below B wr w7 := (((Below.refl B wr).alloc (by omega) _).alloc (by simp; omega) _).grown hgrow7 (by simp; omega) (fun k hk => by have := (HN.out.1.lt k hk).1; omega)
              have HR7 := Lib.hid (HRr.out.below hB7)
              clear hown7 hgrow7 hat7 hB7 HWX m1 m2 m3
              go_wp2_with fail
              go_roundg 0
              case measure => simp only [List.length_cons]; omega
              case rel => exact ⟨[], _, _, _, rfl, rfl, by omega, hrc, hrcm, HR7.out, HP7.out, by show U.Made _ _ _; rw [List.map_append]; exact HM7.out⟩
            · have hxm := List.getElem?_eq_getElem (show xs.length - 1 < xs.length by omega)
              generalize xs[xs.length - 1]'(show xs.length - 1 < xs.length by omega) = y at hxm
              obtain ⟨gy, cy, ey, y0, _⟩ := row_nd HN.out.1 hxm
              injection ey with ey1 _ ey3
              subst ey1
              subst ey3
              have hE : U.endT (xs.map (·.1)) = y.1.name.isEmpty := by
                unfold U.endT
                rw [List.getLast?_eq_getElem?, List.length_map, List.getElem?_map, hxm]
                rfl
              have hgy := (HN.out.1.lt gy rfl).2
              have hxz : (0 : Int) < (xs.length : Int) := by omega
              have hi1 : (0 : Int) ≤ (xs.length : Int) - 1 := by omega
              have hi2 : (xs.length : Int) - 1 < (xs.length : Int) := by omega
              have hi3 : ((xs.length : Int) - 1).toNat = xs.length - 1 := by omega
              by_cases hyn : y.1.name = []
              · rw [hyn] at y0
                clear hE hxm
                go_wp2_with fail
                go_roundg 0
                case measure => simp only [List.length_cons]; omega
                case rel => exact ⟨[], xs, _, _, rfl, rfl, by omega, hrc, hrcm, HRr.out, HN.out, HM.out⟩
              · have hyn2 : (y.1.name == []) = false := beq_eq_false_iff_ne.2 hyn
                have HEM := Lib.hid (show U.endT (xs.map (·.1)) = false by
                  rw [hE]
                  cases h : y.1.name with
                  | nil => exact absurd h hyn
                  | cons a b => rfl)
                clear hE hxm hyn
                go_wp2_with fail
                refine (HPQ.out _).mono ?_
                rintro e w' ⟨rfl, rfl⟩
                have HWX := Lib.hid ((HN.out.alloc (.cells #[.string ⟨#[120]⟩, .string ⟨#[97, 60, 98]⟩, .string ⟨#[38, 97, 109, 112, 59]⟩, .string ⟨#[121, 32, 122]⟩, .string ⟨#[32]⟩, .string ⟨#[60, 112, 62]⟩] 9 (0, 0))).alloc (.cells #[.string ⟨#[]⟩, .slice none 0 0, .string ⟨(tnL q).toArray⟩, .slice none 0 0] 45 (0, 0)))
                have hbs := hbw.size
                go_wp2_with (at_builtin; refine wpList_append_lies _ rfl _ _ 33 rfl w.heap.size 45 iT _ 4 80 Try.underlying33 hiT hT0 hT1 hT2 rfl (by decide) _ xs.length _ rfl HWX.out.1 ⟨_, 0, none⟩ 1 1 [.string ⟨#[]⟩, .slice none 0 0, .string ⟨(tnL q).toArray⟩, .slice none 0 0] rfl rfl ?d1x ?d2x (by decide) ?d3x ?d4x ?d5x _ rfl ?_)
                case d1x => exact cells4 (by have h := heap_alloc_new (wr.alloc (.cells #[.string ⟨#[120]⟩, .string ⟨#[97, 60, 98]⟩, .string ⟨#[38, 97, 109, 112, 59]⟩, .string ⟨#[121, 32, 122]⟩, .string ⟨#[32]⟩, .string ⟨#[60, 112, 62]⟩] 9 (0, 0))) (.cells #[.string ⟨#[]⟩, .slice none 0 0, .string ⟨(tnL q).toArray⟩, .slice none 0 0] 45 (0, 0)); simpa using h)
                case d2x => intro u hu; simp at hu; rcases hu with rfl | rfl | rfl | rfl <;> rfl
                case d3x => unfold maxLen; omega
                case d4x => omega
                case d5x => simp; omega
                intro g7 cap7 w7 hown7 hgrow7 hat7 _
                obtain ⟨m1, m2, m3⟩ := U.made_text (l := xs.map (·.1)) hd1 (tn_some q hq) (by exact HEM.out)
                have HP7 := Lib.hid (HWX.out.put ((.mk [] [] (tnL q) [], .slice none 0 0, .slice none 0 0) : NV) ⟨RdAS.nil _ _, RdNs.nil _ _⟩ hown7 hgrow7 (hat7.imp id (fun e => by rw [e]; simp)))
                have HM7 := Lib.hid (HM.out.snoc (by rw [List.length_map]; omega) m1 m2 m3)
                have hB7 : Below B wr w7 := (((Below.refl B wr).alloc (by omega) _).alloc (by simp; omega) _).grown hgrow7 (by simp; omega) (fun k hk => by have := (HN.out.1.lt k hk).1; omega)
                have HR7 := Lib.hid (HRr.out.below hB7)
                clear hown7 hgrow7 hat7 hB7 HWX m1 m2 m3
                go_wp2_with fail
                go_roundg 0
                case measure => simp only [List.length_cons]; omega
                case rel => exact ⟨[], _, _, _, rfl, rfl, by omega, hrc, hrcm, HR7.out, HP7.out, by show U.Made _ _ _; rw [List.map_append]; exact HM7.out⟩
          · obtain ⟨q, hq, eq⟩ : ∃ q : Nat, q < 2 ∧ (wrap64 (z.tdiv 6)) % 2 = (q : Int) := ⟨((wrap64 (z.tdiv 6)) % 2).toNat, by omega, by omega⟩
            have hpq := fun W => picked_walk (wrap64 (z.tdiv 6)) 2 W (by omega) (by omega)
            rw [eq] at hpq
            have HPQ := Lib.hid hpq
            have htc := vn_cell q hq
            have htg := vn_get q
            obtain ⟨hn1, hn2, hn3, _⟩ := vn_name q hq
            have hq0 : (0 : Int) ≤ (q : Int) := Int.natCast_nonneg _
            have hq1 : (q : Int) < 2 := by omega
            clear eq hpq
            go_wp2_with fail
            refine (HPQ.out _).mono ?_
            rintro e w' ⟨rfl, rfl⟩
            have HWX := Lib.hid ((HN.out.alloc (.cells #[.string ⟨#[98, 114]⟩, .string ⟨#[105, 109, 103]⟩] 9 (0, 0))).alloc (.cells #[.string ⟨(vnL q).toArray⟩, .slice none 0 0, .string ⟨#[]⟩, .slice none 0 0] 45 (0, 0)))
            have hbs := hbw.size
            go_wp2_with (at_builtin; refine wpList_append_lies _ rfl _ _ 33 rfl w.heap.size 45 iT _ 4 80 Try.underlying33 hiT hT0 hT1 hT2 rfl (by decide) _ xs.length _ rfl HWX.out.1 ⟨_, 0, none⟩ 1 1 [.string ⟨(vnL q).toArray⟩, .slice none 0 0, .string ⟨#[]⟩, .slice none 0 0] rfl rfl ?f1x ?f2x (by decide) ?f3x ?f4x ?f5x _ rfl ?_)
            case f1x => exact cells4 (by have h := heap_alloc_new (wr.alloc (.cells #[.string ⟨#[98, 114]⟩, .string ⟨#[105, 109, 103]⟩] 9 (0, 0))) (.cells #[.string ⟨(vnL q).toArray⟩, .slice none 0 0, .string ⟨#[]⟩, .slice none 0 0] 45 (0, 0)); simpa using h)
            case f2x => intro u hu; simp at hu; rcases hu with rfl | rfl | rfl | rfl <;> rfl
            case f3x => unfold maxLen; omega
            case f4x => omega
            case f5x => simp; omega
            intro g7 cap7 w7 hown7 hgrow7 hat7 _
            obtain ⟨m1, m2, m3⟩ := U.made_elem (l := xs.map (·.1)) (p := []) (al := []) hd1 hn1 ⟨(fun a ha => by cases ha), by simp, List.Pairwise.nil⟩ hn2 hn3 (fun _ => rfl) (by rw [U.cntL_nil]; exact U.room_pos deep) (fun D _ => U.lFault_nil _ _) (by rw [U.plainL]; trivial)
            have HP7 := Lib.hid (HWX.out.put ((.mk (vnL q) [] [] [], .slice none 0 0, .slice none 0 0) : NV) ⟨RdAS.nil _ _, RdNs.nil _ _⟩ hown7 hgrow7 (hat7.imp id (fun e => by rw [e]; simp)))
            have HM7 := Lib.hid (HM.out.snoc (by rw [List.length_map]; omega) m1 m2 m3)
            have hB7 : Below B wr w7 := (((Below.refl B wr).alloc (by omega) _).alloc (by simp; omega) _).grown hgrow7 (by simp; omega) (fun k hk => by have := (HN.out.1.lt k hk).1; omega)
            have HR7 := Lib.hid (HRr.out.below hB7)
            clear hown7 hgrow7 hat7 hB7 HWX m1 m2 m3
            go_wp2_with fail
            go_roundg 0
            case measure => simp only [List.length_cons]; omega
            case rel => exact ⟨[], _, _, _, rfl, rfl, by omega, hrc, hrcm, HR7.out, HP7.out, by show U.Made _ _ _; rw [List.map_append]; exact HM7.out⟩
          · by_cases hd : ¬ 1 < deep
            · have hdz : ¬ (1 : Int) < (deep : Int) := by omega
              have c0 : ((c : Int) == 0) = false := beq_eq_false_iff_ne.2 (by omega)
              have c1 : ((c : Int) == 1) = false := beq_eq_false_iff_ne.2 (by omega)
              have c2 : ((c : Int) == 2) = false := beq_eq_false_iff_ne.2 (by omega)
              have c0' : ¬ c = 0 := by omega
              go_wp2_with fail
              go_roundg 0
              case measure => simp only [List.length_cons]; omega
              case rel => exact ⟨[], xs, _, _, rfl, rfl, by omega, hrc, hrcm, HRr.out, HN.out, HM.out⟩
            · have hdz : (1 : Int) < (deep : Int) := by omega
              have c0 : ((c : Int) == 0) = false := beq_eq_false_iff_ne.2 (by omega)
              have c1 : ((c : Int) == 1) = false := beq_eq_false_iff_ne.2 (by omega)
              have c2 : ((c : Int) == 2) = false := beq_eq_false_iff_ne.2 (by omega)
              have c0' : ¬ c = 0 := by omega
              obtain ⟨q, hq, eq⟩ : ∃ q : Nat, q < 6 ∧ (wrap64 (z.tdiv 6)) % 6 = (q : Int) := ⟨((wrap64 (z.tdiv 6)) % 6).toNat, by omega, by omega⟩
              have hpq := fun W => picked_walk (wrap64 (z.tdiv 6)) 6 W (by omega) (by omega)
              rw [eq] at hpq
              have HPQ := Lib.hid hpq
              have htc := en_cell q hq
              have htg := en_get q
              obtain ⟨hn1, hn2, hn3, hn4⟩ := en_name q hq
              have hq0 : (0 : Int) ≤ (q : Int) := Int.natCast_nonneg _
              have hq1 : (q : Int) < 6 := by omega
              obtain ⟨q2, hq2, eq2⟩ : ∃ q2 : Nat, q2 < 3 ∧ (wrap64 (z.tdiv 36)) % 3 = (q2 : Int) := ⟨((wrap64 (z.tdiv 36)) % 3).toNat, by omega, by omega⟩
              have hpq2 := fun W => picked_walk (wrap64 (z.tdiv 36)) 3 W (by omega) (by omega)
              rw [eq2] at hpq2
              have HPQ2 := Lib.hid hpq2
              clear eq hpq eq2 hpq2
              go_wp2_with fail
              refine (HPQ.out _).mono ?_
              rintro e w' ⟨rfl, rfl⟩
              go_wp2_with fail
              refine (HPQ2.out _).mono ?_
              rintro e w' ⟨rfl, rfl⟩
              clear htc htg
              by_cases hq3 : q2 = 0
              · subst hq3
                obtain ⟨q5, hq5, eq5⟩ : ∃ q5 : Nat, q5 < 5 ∧ (wrap64 (z.tdiv 100)) % 5 = (q5 : Int) := ⟨((wrap64 (z.tdiv 100)) % 5).toNat, by omega, by omega⟩
                have hpq5 := fun W => picked_walk (wrap64 (z.tdiv 100)) 5 W (by omega) (by omega)
                rw [eq5] at hpq5
                have HPQ5 := Lib.hid hpq5
                have htc := hv_cell q5 hq5
                have htg := hv_get q5
                have hq50 : (0 : Int) ≤ (q5 : Int) := Int.natCast_nonneg _
                have hq51 : (q5 : Int) < 5 := by omega
                have hbs := hbw.size
                have HB0 : Hid (Below wr.heap.size wr ((((wr.alloc (.cells #[.string ⟨#[100, 105, 118]⟩, .string ⟨#[98]⟩, .string ⟨#[101, 109]⟩, .string ⟨#[112]⟩, .string ⟨#[97]⟩, .string ⟨#[117, 108]⟩] 9 (0, 0))).alloc (.cells #[.string ⟨(enL q).toArray⟩, .slice (some ⟨wr.heap.size + 1 + 1 + 1, 0, none⟩) 1 1, .string ⟨#[]⟩, .slice none 0 0] 45 (0, 0))).alloc (.cells #[.string ⟨#[]⟩, .string ⟨#[120]⟩, .string ⟨#[97, 34, 98, 38]⟩, .string ⟨#[60]⟩, .string ⟨#[104, 116, 116, 112, 58, 47, 47, 121]⟩] 9 (0, 0))).alloc (.cells #[.string ⟨#[104, 114, 101, 102]⟩, .string ⟨(hvL q5).toArray⟩] 48 (0, 0)))) := ((((Below.refl wr.heap.size wr).alloc (Nat.le_refl _) _).alloc (by simp) _).alloc (by simp; omega) _).alloc (by simp; omega) _
                have HQ0 : Hid (((((wr.alloc (.cells #[.string ⟨#[100, 105, 118]⟩, .string ⟨#[98]⟩, .string ⟨#[101, 109]⟩, .string ⟨#[112]⟩, .string ⟨#[97]⟩, .string ⟨#[117, 108]⟩] 9 (0, 0))).alloc (.cells #[.string ⟨(enL q).toArray⟩, .slice (some ⟨wr.heap.size + 1 + 1 + 1, 0, none⟩) 1 1, .string ⟨#[]⟩, .slice none 0 0] 45 (0, 0))).alloc (.cells #[.string ⟨#[]⟩, .string ⟨#[120]⟩, .string ⟨#[97, 34, 98, 38]⟩, .string ⟨#[60]⟩, .string ⟨#[104, 116, 116, 112, 58, 47, 47, 121]⟩] 9 (0, 0))).alloc (.cells #[.string ⟨#[104, 114, 101, 102]⟩, .string ⟨(hvL q5).toArray⟩] 48 (0, 0))).heap[wr.heap.size + 1]? = some (.cells #[.string ⟨(enL q).toArray⟩, .slice (some ⟨wr.heap.size + 1 + 1 + 1, 0, none⟩) 1 1, .string ⟨#[]⟩, .slice none 0 0] 45 (0, 0))) := by
                  have h := heap_alloc_new (wr.alloc (.cells #[.string ⟨#[100, 105, 118]⟩, .string ⟨#[98]⟩, .string ⟨#[101, 109]⟩, .string ⟨#[112]⟩, .string ⟨#[97]⟩, .string ⟨#[117, 108]⟩] 9 (0, 0))) (.cells #[.string ⟨(enL q).toArray⟩, .slice (some ⟨wr.heap.size + 1 + 1 + 1, 0, none⟩) 1 1, .string ⟨#[]⟩, .slice none 0 0] 45 (0, 0))
                  rw [show (wr.alloc (.cells #[.string ⟨#[100, 105, 118]⟩, .string ⟨#[98]⟩, .string ⟨#[101, 109]⟩, .string ⟨#[112]⟩, .string ⟨#[97]⟩, .string ⟨#[117, 108]⟩] 9 (0, 0))).heap.size = wr.heap.size + 1 by simp] at h
                  show _ = _
                  exact (Lib.alloc_old (((wr.alloc (.cells #[.string ⟨#[100, 105, 118]⟩, .string ⟨#[98]⟩, .string ⟨#[101, 109]⟩, .string ⟨#[112]⟩, .string ⟨#[97]⟩, .string ⟨#[117, 108]⟩] 9 (0, 0))).alloc (.cells #[.string ⟨(enL q).toArray⟩, .slice (some ⟨wr.heap.size + 1 + 1 + 1, 0, none⟩) 1 1, .string ⟨#[]⟩, .slice none 0 0] 45 (0, 0))).alloc (.cells #[.string ⟨#[]⟩, .string ⟨#[120]⟩, .string ⟨#[97, 34, 98, 38]⟩, .string ⟨#[60]⟩, .string ⟨#[104, 116, 116, 112, 58, 47, 47, 121]⟩] 9 (0, 0))) _ _ (by simp)).trans ((Lib.alloc_old ((wr.alloc (.cells #[.string ⟨#[100, 105, 118]⟩, .string ⟨#[98]⟩, .string ⟨#[101, 109]⟩, .string ⟨#[112]⟩, .string ⟨#[97]⟩, .string ⟨#[117, 108]⟩] 9 (0, 0))).alloc (.cells #[.string ⟨(enL q).toArray⟩, .slice (some ⟨wr.heap.size + 1 + 1 + 1, 0, none⟩) 1 1, .string ⟨#[]⟩, .slice none 0 0] 45 (0, 0))) _ _ (by simp)).trans h)
                have HAQ : Hid (((((wr.alloc (.cells #[.string ⟨#[100, 105, 118]⟩, .string ⟨#[98]⟩, .string ⟨#[101, 109]⟩, .string ⟨#[112]⟩, .string ⟨#[97]⟩, .string ⟨#[117, 108]⟩] 9 (0, 0))).alloc (.cells #[.string ⟨(enL q).toArray⟩, .slice (some ⟨wr.heap.size + 1 + 1 + 1, 0, none⟩) 1 1, .string ⟨#[]⟩, .slice none 0 0] 45 (0, 0))).alloc (.cells #[.string ⟨#[]⟩, .string ⟨#[120]⟩, .string ⟨#[97, 34, 98, 38]⟩, .string ⟨#[60]⟩, .string ⟨#[104, 116, 116, 112, 58, 47, 47, 121]⟩] 9 (0, 0))).alloc (.cells #[.string ⟨#[104, 114, 101, 102]⟩, .string ⟨(hvL q5).toArray⟩] 48 (0, 0))).heap[wr.heap.size + 1 + 1 + 1]? = some (.cells #[.string ⟨#[104, 114, 101, 102]⟩, .string ⟨(hvL q5).toArray⟩] 48 (0, 0))) := by
                  have h := heap_alloc_new (((wr.alloc (.cells #[.string ⟨#[100, 105, 118]⟩, .string ⟨#[98]⟩, .string ⟨#[101, 109]⟩, .string ⟨#[112]⟩, .string ⟨#[97]⟩, .string ⟨#[117, 108]⟩] 9 (0, 0))).alloc (.cells #[.string ⟨(enL q).toArray⟩, .slice (some ⟨wr.heap.size + 1 + 1 + 1, 0, none⟩) 1 1, .string ⟨#[]⟩, .slice none 0 0] 45 (0, 0))).alloc (.cells #[.string ⟨#[]⟩, .string ⟨#[120]⟩, .string ⟨#[97, 34, 98, 38]⟩, .string ⟨#[60]⟩, .string ⟨#[104, 116, 116, 112, 58, 47, 47, 121]⟩] 9 (0, 0))) (.cells #[.string ⟨#[104, 114, 101, 102]⟩, .string ⟨(hvL q5).toArray⟩] 48 (0, 0))
                  rw [show (((wr.alloc (.cells #[.string ⟨#[100, 105, 118]⟩, .string ⟨#[98]⟩, .string ⟨#[101, 109]⟩, .string ⟨#[112]⟩, .string ⟨#[97]⟩, .string ⟨#[117, 108]⟩] 9 (0, 0))).alloc (.cells #[.string ⟨(enL q).toArray⟩, .slice (some ⟨wr.heap.size + 1 + 1 + 1, 0, none⟩) 1 1, .string ⟨#[]⟩, .slice none 0 0] 45 (0, 0))).alloc (.cells #[.string ⟨#[]⟩, .string ⟨#[120]⟩, .string ⟨#[97, 34, 98, 38]⟩, .string ⟨#[60]⟩, .string ⟨#[104, 116, 116, 112, 58, 47, 47, 121]⟩] 9 (0, 0))).heap.size = wr.heap.size + 1 + 1 + 1 by simp] at h
                  exact h
                have hsz0 : ((((wr.alloc (.cells #[.string ⟨#[100, 105, 118]⟩, .string ⟨#[98]⟩, .string ⟨#[101, 109]⟩, .string ⟨#[112]⟩, .string ⟨#[97]⟩, .string ⟨#[117, 108]⟩] 9 (0, 0))).alloc (.cells #[.string ⟨(enL q).toArray⟩, .slice (some ⟨wr.heap.size + 1 + 1 + 1, 0, none⟩) 1 1, .string ⟨#[]⟩, .slice none 0 0] 45 (0, 0))).alloc (.cells #[.string ⟨#[]⟩, .string ⟨#[120]⟩, .string ⟨#[97, 34, 98, 38]⟩, .string ⟨#[60]⟩, .string ⟨#[104, 116, 116, 112, 58, 47, 47, 121]⟩] 9 (0, 0))).alloc (.cells #[.string ⟨#[104, 114, 101, 102]⟩, .string ⟨(hvL q5).toArray⟩] 48 (0, 0))).heap.size = wr.heap.size + 4 := by simp
                have hRC := IH.out 0 (by rw [← Nat.succ_le_iff]; have := hgl; omega) [] (Nat.le_refl _) (deep - 1) 4 B (by omega) (by omega) (by omega) (some ⟨ag, ax, none⟩) 0 ((((wr.alloc (.cells #[.string ⟨#[100, 105, 118]⟩, .string ⟨#[98]⟩, .string ⟨#[101, 109]⟩, .string ⟨#[112]⟩, .string ⟨#[97]⟩, .string ⟨#[117, 108]⟩] 9 (0, 0))).alloc (.cells #[.string ⟨(enL q).toArray⟩, .slice (some ⟨wr.heap.size + 1 + 1 + 1, 0, none⟩) 1 1, .string ⟨#[]⟩, .slice none 0 0] 45 (0, 0))).alloc (.cells #[.string ⟨#[]⟩, .string ⟨#[120]⟩, .string ⟨#[97, 34, 98, 38]⟩, .string ⟨#[60]⟩, .string ⟨#[104, 116, 116, 112, 58, 47, 47, 121]⟩] 9 (0, 0))).alloc (.cells #[.string ⟨#[104, 114, 101, 102]⟩, .string ⟨(hvL q5).toArray⟩] 48 (0, 0))) (by rw [hsz0]; omega) (HRr.out.below (HB0.out.mono (by omega))) hrc hrcm
                rw [show ((deep - 1 : Nat) : Int) = (deep : Int) - 1 from by omega] at hRC
                have HRC := Lib.hid hRC
                have HAV : Hid (RdAS ((((wr.alloc (.cells #[.string ⟨#[100, 105, 118]⟩, .string ⟨#[98]⟩, .string ⟨#[101, 109]⟩, .string ⟨#[112]⟩, .string ⟨#[97]⟩, .string ⟨#[117, 108]⟩] 9 (0, 0))).alloc (.cells #[.string ⟨(enL q).toArray⟩, .slice (some ⟨wr.heap.size + 1 + 1 + 1, 0, none⟩) 1 1, .string ⟨#[]⟩, .slice none 0 0] 45 (0, 0))).alloc (.cells #[.string ⟨#[]⟩, .string ⟨#[120]⟩, .string ⟨#[97, 34, 98, 38]⟩, .string ⟨#[60]⟩, .string ⟨#[104, 116, 116, 112, 58, 47, 47, 121]⟩] 9 (0, 0))).alloc (.cells #[.string ⟨#[104, 114, 101, 102]⟩, .string ⟨(hvL q5).toArray⟩] 48 (0, 0))) (fun g => wr.heap.size ≤ g ∧ g < ((((wr.alloc (.cells #[.string ⟨#[100, 105, 118]⟩, .string ⟨#[98]⟩, .string ⟨#[101, 109]⟩, .string ⟨#[112]⟩, .string ⟨#[97]⟩, .string ⟨#[117, 108]⟩] 9 (0, 0))).alloc (.cells #[.string ⟨(enL q).toArray⟩, .slice (some ⟨wr.heap.size + 1 + 1 + 1, 0, none⟩) 1 1, .string ⟨#[]⟩, .slice none 0 0] 45 (0, 0))).alloc (.cells #[.string ⟨#[]⟩, .string ⟨#[120]⟩, .string ⟨#[97, 34, 98, 38]⟩, .string ⟨#[60]⟩, .string ⟨#[104, 116, 116, 112, 58, 47, 47, 121]⟩] 9 (0, 0))).alloc (.cells #[.string ⟨#[104, 114, 101, 102]⟩, .string ⟨(hvL q5).toArray⟩] 48 (0, 0))).heap.size ∧ g ≠ wr.heap.size + 1) (.slice (some ⟨wr.heap.size + 1 + 1 + 1, 0, none⟩) 1 1) [(([104, 114, 101, 102], hvL q5) : U.Att)]) := by
                  refine ⟨_, 1, rfl, Nat.le_refl _, by decide, fun i x hx => ⟨wr.heap.size + 1 + 1 + 1, 0, rfl, ⟨by omega, by rw [hsz0]; omega, by omega⟩, ?_⟩⟩
                  cases i with
                  | zero =>
                    simp at hx
                    subst hx
                    exact ⟨by rw [Lib.cell_of_heap HAQ.out]; rfl, by rw [Lib.cell_of_heap HAQ.out]; rfl⟩
                  | succ i => simp at hx
                clear hRC hsz0 eq5 hpq5 HAQ
                go_wp2_with fail
                refine (HPQ5.out _).mono ?_
                rintro e w' ⟨rfl, rfl⟩
                go_wp2_with fail
                clear htc htg
                refine HRC.out.mono ?_
                rintro e w2 ⟨nv, ro, rc2, rs, l2, rfl, hrs, hrc2, hrcm2, hR2, hN2, hM2, hb2⟩
                obtain ⟨na2, nc2, rfl, -⟩ := id hN2
                have L0 := (Array.getElem?_eq_some_iff.1 HQ0.out).1
                have Q2 := (hb2.block (wr.heap.size + 1) L0).trans HQ0.out
                have u23 := (nd_cells Q2).2.2.2
                have v23 := (nd_frozen Q2).2.2.2
                have HQ3 := part_heap Q2 (.slice na2 l2.length nc2)
                obtain ⟨x30, x31, x32, x33⟩ := nd_cells HQ3
                have hsz3 : (w2.setCell ⟨wr.heap.size + 1, 3, none⟩ (.slice na2 l2.length nc2)).heap.size = w2.heap.size := by simp [World.setCell]
                have hB3 : Below wr.heap.size wr (w2.setCell ⟨wr.heap.size + 1, 3, none⟩ (.slice na2 l2.length nc2)) := (HB0.out.trans (hb2.mono HB0.out.size)).setCell (p := ⟨wr.heap.size + 1, 3, none⟩) (Nat.le_succ _) _
                have hs2 := hb2.size
                have hb0 := HB0.out.size
                have hblk : ∀ k, k ≠ wr.heap.size + 1 → (w2.setCell ⟨wr.heap.size + 1, 3, none⟩ (.slice na2 l2.length nc2)).heap[k]? = w2.heap[k]? := fun k hk => Below.heap_setCell _ _ _ _ hk
                have hDn : Done (w2.setCell ⟨wr.heap.size + 1, 3, none⟩ (.slice na2 l2.length nc2)) (Elsew 0 w.heap.size (w2.setCell ⟨wr.heap.size + 1, 3, none⟩ (.slice na2 l2.length nc2)).heap.size (.slice na xs.length ncap)) ((.mk (enL q) [(([104, 114, 101, 102], hvL q5) : U.Att)] [] l2, .slice (some ⟨wr.heap.size + 1 + 1 + 1, 0, none⟩) 1 1, .slice na2 l2.length nc2) : NV) := by
                  refine ⟨HAV.out.keep (fun p hp => World.cell?_of_block ((hblk _ hp.2.2).trans (hb2.block _ hp.2.1))) (fun b hb => .inr ⟨by omega, by rw [hsz3]; omega, fun e => by have := (HN.out.1.lt b e.symm).2; omega⟩), hN2.keep (fun p hp => World.cell?_of_block (hblk _ ?_)) (fun b hb => HN.out.apart (hi := w2.heap.size) (hb.imp id fun h => ⟨by omega, h.2⟩) (by rw [hsz3]; exact Nat.le_refl _))⟩
                  rcases hp with hp | hp
                  · exact absurd hp (Nat.not_lt_zero _)
                  · omega
                obtain ⟨i1, i2⟩ := U.Made.in (by omega) hM2
                rw [show deep - 1 + 1 = deep by omega] at i1 i2
                obtain ⟨m1, m2, m3⟩ := U.made_elem (l := xs.map (·.1)) (p := l2) (al := [(([104, 114, 101, 102], hvL q5) : U.Att)]) hd1 hn1 ⟨(fun a ha => by simp at ha; subst ha; show U.isName [104, 114, 101, 102] = true; decide), by simp, List.pairwise_singleton _ _⟩ hn2 hn3 (fun h => by rw [hn4] at h; cases h) i1 i2 hM2.names
                have HWX := Lib.hid ((HN.out.later hB3).alloc (.cells #[.string ⟨(enL q).toArray⟩, .slice (some ⟨wr.heap.size + 1 + 1 + 1, 0, none⟩) 1 1, .string ⟨#[]⟩, .slice na2 l2.length nc2] 45 (0, 0)))
                have HDN := Lib.hid hDn
                have HSZ3 := Lib.hid hsz3
                have HB3 := Lib.hid hB3
                have HR2 := Lib.hid hR2
                have hwb := hB3.size
                clear HPQ5 hDn hsz3 hB3 hR2 hN2 hM2 hb2 i1 i2 Q2 HQ3 hblk HRC HQ0 HB0 HAV HPQ HPQ2 HRr HC HR IH L0 hs2 hb0
                go_wp2_with (at_builtin; refine wpList_append_lies _ rfl _ _ 33 rfl w.heap.size 45 iT _ 4 80 Try.underlying33 hiT hT0 hT1 hT2 rfl (by decide) _ xs.length _ rfl HWX.out.1 ⟨_, 0, none⟩ 1 1 [.string ⟨(enL q).toArray⟩, .slice (some ⟨wr.heap.size + 1 + 1 + 1, 0, none⟩) 1 1, .string ⟨#[]⟩, .slice na2 l2.length nc2] rfl rfl ?j1x ?j2x (by decide) ?j3x ?j4x ?j5x _ rfl ?_)
                case j1x =>
                  have hnew := heap_alloc_new (w2.setCell ⟨wr.heap.size + 1, 3, none⟩ (.slice na2 l2.length nc2)) (.cells #[.string ⟨(enL q).toArray⟩, .slice (some ⟨wr.heap.size + 1 + 1 + 1, 0, none⟩) 1 1, .string ⟨#[]⟩, .slice na2 l2.length nc2] 45 (0, 0))
                  rw [HSZ3.out] at hnew
                  exact cells4 hnew
                case j2x => intro u hu; simp at hu; rcases hu with rfl | rfl | rfl | rfl <;> rfl
                case j3x => unfold maxLen; omega
                case j4x => omega
                case j5x =>
                  show _ ≤ ((w2.setCell ⟨wr.heap.size + 1, 3, none⟩ (.slice na2 l2.length nc2)).alloc _).heap.size
                  simp only [World.alloc, Array.size_push]
                  omega
                intro g7 cap7 w7 hown7 hgrow7 hat7 _
                have hAl := (Below.refl (w2.setCell ⟨wr.heap.size + 1, 3, none⟩ (.slice na2 l2.length nc2)).heap.size (w2.setCell ⟨wr.heap.size + 1, 3, none⟩ (.slice na2 l2.length nc2))).alloc (Nat.le_refl _) (.cells #[.string ⟨(enL q).toArray⟩, .slice (some ⟨wr.heap.size + 1 + 1 + 1, 0, none⟩) 1 1, .string ⟨#[]⟩, .slice na2 l2.length nc2] 45 (0, 0))
                have HP7 := Lib.hid (HWX.out.put ((.mk (enL q) [(([104, 114, 101, 102], hvL q5) : U.Att)] [] l2, .slice (some ⟨wr.heap.size + 1 + 1 + 1, 0, none⟩) 1 1, .slice na2 l2.length nc2) : NV) (by
                  refine HDN.out.keep (fun p hp => hAl.cell ?_) (fun b hb => hb.imp id fun h => ⟨h.1, Nat.lt_of_lt_of_le h.2.1 hAl.size, h.2.2⟩)
                  rcases hp with hp | hp
                  · exact absurd hp (Nat.not_lt_zero _)
                  · exact hp.2.1) hown7 hgrow7 (hat7.imp id (fun e => by rw [e]; simp [World.setCell])))
                have HM7 := Lib.hid (HM.out.snoc (by rw [List.length_map]; omega) m1 m2 m3)
                have hB7 : Below B w2 w7 := (((Below.refl B w2).setCell (p := ⟨wr.heap.size + 1, 3, none⟩) (by show B ≤ wr.heap.size + 1; omega) (.slice na2 l2.length nc2)).alloc (by rw [HSZ3.out]; have := HSZ3.out; omega) (.cells #[.string ⟨(enL q).toArray⟩, .slice (some ⟨wr.heap.size + 1 + 1 + 1, 0, none⟩) 1 1, .string ⟨#[]⟩, .slice na2 l2.length nc2] 45 (0, 0))).grown hgrow7 (by have := hAl.size; have := HSZ3.out; omega) (fun k hk => by have := (HN.out.1.lt k hk).1; omega)
                have HR7 := Lib.hid (HR2.out.below hB7)
                clear hown7 hgrow7 hat7 hB7 HWX HDN HB3 HR2 m1 m2 m3 hAl x30 x31 x32 x33 u23 v23 hn1 hn2 hn3 hn4 hwb HSZ3 hac hbw hbs
                go_wp2_with fail
                go_roundg rs.length
                case measure => simp only [List.length_cons]; omega
                case rel => exact ⟨rs, _, ro, rc2, rfl, rfl, by omega, hrc2, hrcm2, HR7.out, HP7.out, by show U.Made _ _ _; rw [List.map_append]; exact HM7.out⟩
              · have hq4 : ((q2 : Int) == 0) = false := beq_eq_false_iff_ne.2 (by omega)
                have hq5 : ¬ q2 = 0 := hq3
                have hbs := hbw.size
                have HB0 : Hid (Below wr.heap.size wr ((wr.alloc (.cells #[.string ⟨#[100, 105, 118]⟩, .string ⟨#[98]⟩, .string ⟨#[101, 109]⟩, .string ⟨#[112]⟩, .string ⟨#[97]⟩, .string ⟨#[117, 108]⟩] 9 (0, 0))).alloc (.cells #[.string ⟨(enL q).toArray⟩, .slice none 0 0, .string ⟨#[]⟩, .slice none 0 0] 45 (0, 0)))) := ((Below.refl wr.heap.size wr).alloc (Nat.le_refl _) _).alloc (by simp) _
                have HQ0 : Hid (((wr.alloc (.cells #[.string ⟨#[100, 105, 118]⟩, .string ⟨#[98]⟩, .string ⟨#[101, 109]⟩, .string ⟨#[112]⟩, .string ⟨#[97]⟩, .string ⟨#[117, 108]⟩] 9 (0, 0))).alloc (.cells #[.string ⟨(enL q).toArray⟩, .slice none 0 0, .string ⟨#[]⟩, .slice none 0 0] 45 (0, 0))).heap[wr.heap.size + 1]? = some (.cells #[.string ⟨(enL q).toArray⟩, .slice none 0 0, .string ⟨#[]⟩, .slice none 0 0] 45 (0, 0))) := by
                  have h := heap_alloc_new (wr.alloc (.cells #[.string ⟨#[100, 105, 118]⟩, .string ⟨#[98]⟩, .string ⟨#[101, 109]⟩, .string ⟨#[112]⟩, .string ⟨#[97]⟩, .string ⟨#[117, 108]⟩] 9 (0, 0))) (.cells #[.string ⟨(enL q).toArray⟩, .slice none 0 0, .string ⟨#[]⟩, .slice none 0 0] 45 (0, 0))
                  show _ = _
                  simpa using h
                have hsz0 : ((wr.alloc (.cells #[.string ⟨#[100, 105, 118]⟩, .string ⟨#[98]⟩, .string ⟨#[101, 109]⟩, .string ⟨#[112]⟩, .string ⟨#[97]⟩, .string ⟨#[117, 108]⟩] 9 (0, 0))).alloc (.cells #[.string ⟨(enL q).toArray⟩, .slice none 0 0, .string ⟨#[]⟩, .slice none 0 0] 45 (0, 0))).heap.size = wr.heap.size + 2 := by simp
                have hRC := IH.out 0 (by rw [← Nat.succ_le_iff]; have := hgl; omega) [] (Nat.le_refl _) (deep - 1) 4 B (by omega) (by omega) (by omega) (some ⟨ag, ax, none⟩) 0 ((wr.alloc (.cells #[.string ⟨#[100, 105, 118]⟩, .string ⟨#[98]⟩, .string ⟨#[101, 109]⟩, .string ⟨#[112]⟩, .string ⟨#[97]⟩, .string ⟨#[117, 108]⟩] 9 (0, 0))).alloc (.cells #[.string ⟨(enL q).toArray⟩, .slice none 0 0, .string ⟨#[]⟩, .slice none 0 0] 45 (0, 0))) (by rw [hsz0]; omega) (HRr.out.below (HB0.out.mono (by omega))) hrc hrcm
                rw [show ((deep - 1 : Nat) : Int) = (deep : Int) - 1 from by omega] at hRC
                have HRC := Lib.hid hRC
                have HAV : Hid (RdAS ((wr.alloc (.cells #[.string ⟨#[100, 105, 118]⟩, .string ⟨#[98]⟩, .string ⟨#[101, 109]⟩, .string ⟨#[112]⟩, .string ⟨#[97]⟩, .string ⟨#[117, 108]⟩] 9 (0, 0))).alloc (.cells #[.string ⟨(enL q).toArray⟩, .slice none 0 0, .string ⟨#[]⟩, .slice none 0 0] 45 (0, 0))) (fun g => wr.heap.size ≤ g ∧ g < ((wr.alloc (.cells #[.string ⟨#[100, 105, 118]⟩, .string ⟨#[98]⟩, .string ⟨#[101, 109]⟩, .string ⟨#[112]⟩, .string ⟨#[97]⟩, .string ⟨#[117, 108]⟩] 9 (0, 0))).alloc (.cells #[.string ⟨(enL q).toArray⟩, .slice none 0 0, .string ⟨#[]⟩, .slice none 0 0] 45 (0, 0))).heap.size ∧ g ≠ wr.heap.size + 1) (.slice none 0 0) []) := RdAS.nil _ _
                clear hRC hsz0
                go_wp2_with fail
                refine HRC.out.mono ?_
                rintro e w2 ⟨nv, ro, rc2, rs, l2, rfl, hrs, hrc2, hrcm2, hR2, hN2, hM2, hb2⟩
                obtain ⟨na2, nc2, rfl, -⟩ := id hN2
                have L0 := (Array.getElem?_eq_some_iff.1 HQ0.out).1
                have Q2 := (hb2.block (wr.heap.size + 1) L0).trans HQ0.out
                have u23 := (nd_cells Q2).2.2.2
                have v23 := (nd_frozen Q2).2.2.2
                have HQ3 := part_heap Q2 (.slice na2 l2.length nc2)
                obtain ⟨x30, x31, x32, x33⟩ := nd_cells HQ3
                have hsz3 : (w2.setCell ⟨wr.heap.size + 1, 3, none⟩ (.slice na2 l2.length nc2)).heap.size = w2.heap.size := by simp [World.setCell]
                have hB3 : Below wr.heap.size wr (w2.setCell ⟨wr.heap.size + 1, 3, none⟩ (.slice na2 l2.length nc2)) := (HB0.out.trans (hb2.mono HB0.out.size)).setCell (p := ⟨wr.heap.size + 1, 3, none⟩) (Nat.le_succ _) _
                have hs2 := hb2.size
                have hb0 := HB0.out.size
                have hblk : ∀ k, k ≠ wr.heap.size + 1 → (w2.setCell ⟨wr.heap.size + 1, 3, none⟩ (.slice na2 l2.length nc2)).heap[k]? = w2.heap[k]? := fun k hk => Below.heap_setCell _ _ _ _ hk
                have hDn : Done (w2.setCell ⟨wr.heap.size + 1, 3, none⟩ (.slice na2 l2.length nc2)) (Elsew 0 w.heap.size (w2.setCell ⟨wr.heap.size + 1, 3, none⟩ (.slice na2 l2.length nc2)).heap.size (.slice na xs.length ncap)) ((.mk (enL q) [] [] l2, .slice none 0 0, .slice na2 l2.length nc2) : NV) := by
                  refine ⟨HAV.out.keep (fun p hp => World.cell?_of_block ((hblk _ hp.2.2).trans (hb2.block _ hp.2.1))) (fun b hb => .inr ⟨by omega, by rw [hsz3]; omega, fun e => by have := (HN.out.1.lt b e.symm).2; omega⟩), hN2.keep (fun p hp => World.cell?_of_block (hblk _ ?_)) (fun b hb => HN.out.apart (hi := w2.heap.size) (hb.imp id fun h => ⟨by omega, h.2⟩) (by rw [hsz3]; exact Nat.le_refl _))⟩
                  rcases hp with hp | hp
                  · exact absurd hp (Nat.not_lt_zero _)
                  · omega
                obtain ⟨i1, i2⟩ := U.Made.in (by omega) hM2
                rw [show deep - 1 + 1 = deep by omega] at i1 i2
                obtain ⟨m1, m2, m3⟩ := U.made_elem (l := xs.map (·.1)) (p := l2) (al := []) hd1 hn1 ⟨(fun a ha => by cases ha), by simp, List.Pairwise.nil⟩ hn2 hn3 (fun h => by rw [hn4] at h; cases h) i1 i2 hM2.names
                have HWX := Lib.hid ((HN.out.later hB3).alloc (.cells #[.string ⟨(enL q).toArray⟩, .slice none 0 0, .string ⟨#[]⟩, .slice na2 l2.length nc2] 45 (0, 0)))
                have HDN := Lib.hid hDn
                have HSZ3 := Lib.hid hsz3
                have HB3 := Lib.hid hB3
                have HR2 := Lib.hid hR2
                have hwb := hB3.size
                clear hDn hsz3 hB3 hR2 hN2 hM2 hb2 i1 i2 Q2 HQ3 hblk HRC HQ0 HB0 HAV HPQ HPQ2 HRr HC HR IH L0 hs2 hb0
                go_wp2_with (at_builtin; refine wpList_append_lies _ rfl _ _ 33 rfl w.heap.size 45 iT _ 4 80 Try.underlying33 hiT hT0 hT1 hT2 rfl (by decide) _ xs.length _ rfl HWX.out.1 ⟨_, 0, none⟩ 1 1 [.string ⟨(enL q).toArray⟩, .slice none 0 0, .string ⟨#[]⟩, .slice na2 l2.length nc2] rfl rfl ?k1x ?k2x (by decide) ?k3x ?k4x ?k5x _ rfl ?_)
                case k1x =>
                  have hnew := heap_alloc_new (w2.setCell ⟨wr.heap.size + 1, 3, none⟩ (.slice na2 l2.length nc2)) (.cells #[.string ⟨(enL q).toArray⟩, .slice none 0 0, .string ⟨#[]⟩, .slice na2 l2.length nc2] 45 (0, 0))
                  rw [HSZ3.out] at hnew
                  exact cells4 hnew
                case k2x => intro u hu; simp at hu; rcases hu with rfl | rfl | rfl | rfl <;> rfl
                case k3x => unfold maxLen; omega
                case k4x => omega
                case k5x =>
                  show _ ≤ ((w2.setCell ⟨wr.heap.size + 1, 3, none⟩ (.slice na2 l2.length nc2)).alloc _).heap.size
                  simp only [World.alloc, Array.size_push]
                  omega
                intro g7 cap7 w7 hown7 hgrow7 hat7 _
                have hAl := (Below.refl (w2.setCell ⟨wr.heap.size + 1, 3, none⟩ (.slice na2 l2.length nc2)).heap.size (w2.setCell ⟨wr.heap.size + 1, 3, none⟩ (.slice na2 l2.length nc2))).alloc (Nat.le_refl _) (.cells #[.string ⟨(enL q).toArray⟩, .slice none 0 0, .string ⟨#[]⟩, .slice na2 l2.length nc2] 45 (0, 0))
                have HP7 := Lib.hid (HWX.out.put ((.mk (enL q) [] [] l2, .slice none 0 0, .slice na2 l2.length nc2) : NV) (by
                  refine HDN.out.keep (fun p hp => hAl.cell ?_) (fun b hb => hb.imp id fun h => ⟨h.1, Nat.lt_of_lt_of_le h.2.1 hAl.size, h.2.2⟩)
                  rcases hp with hp | hp
                  · exact absurd hp (Nat.not_lt_zero _)
                  · exact hp.2.1) hown7 hgrow7 (hat7.imp id (fun e => by rw [e]; simp [World.setCell])))
                have HM7 := Lib.hid (HM.out.snoc (by rw [List.length_map]; omega) m1 m2 m3)
                have hB7 : Below B w2 w7 := (((Below.refl B w2).setCell (p := ⟨wr.heap.size + 1, 3, none⟩) (by show B ≤ wr.heap.size + 1; omega) (.slice na2 l2.length nc2)).alloc (by rw [HSZ3.out]; have := HSZ3.out; omega) (.cells #[.string ⟨(enL q).toArray⟩, .slice none 0 0, .string ⟨#[]⟩, .slice na2 l2.length nc2] 45 (0, 0))).grown hgrow7 (by have := hAl.size; have := HSZ3.out; omega) (fun k hk => by have := (HN.out.1.lt k hk).1; omega)
                have HR7 := Lib.hid (HR2.out.below hB7)
                clear hown7 hgrow7 hat7 hB7 HWX HDN HB3 HR2 m1 m2 m3 hAl x30 x31 x32 x33 u23 v23 hn1 hn2 hn3 hn4 hwb HSZ3 hac hbw hbs
                go_wp2_with fail
                go_roundg rs.length
                case measure => simp only [List.length_cons]; omega
                case rel => exact ⟨rs, _, ro, rc2, rfl, rfl, by omega, hrc2, hrcm2, HR7.out, HP7.out, by show U.Made _ _ _; rw [List.map_append]; exact HM7.out⟩
        · rw [if_neg hc1] at hif
          obtain ⟨rfl, rfl⟩ := hif
          go_wp2_with fail
          refine (HPA.out _).mono ?_
          rintro e w' ⟨rfl, rfl⟩
          rcases (show c = 0 ∨ c = 1 ∨ c = 2 ∨ (3 ≤ c ∧ c < 6) by omega) with rfl | rfl | rfl | ⟨h3, h6⟩
          · go_wp2_with fail
            go_ret2
            exact ⟨_, _, _, r, _, rfl, by omega, hrc, hrcm, HRr.out, HN.out.rd, HM.out, hbw⟩
          · obtain ⟨q, hq, eq⟩ : ∃ q : Nat, q < 6 ∧ (wrap64 (z.tdiv 6)) % 6 = (q : Int) := ⟨((wrap64 (z.tdiv 6)) % 6).toNat, by omega, by omega⟩
            have hpq := fun W => picked_walk (wrap64 (z.tdiv 6)) 6 W (by omega) (by omega)
            rw [eq] at hpq
            have HPQ := Lib.hid hpq
            have htc := tn_cell q hq
            have htg := tn_get q
            have hq0 : (0 : Int) ≤ (q : Int) := Int.natCast_nonneg _
            have hq1 : (q : Int) < 6 := by omega
            clear eq hpq
            by_cases hx0 : xs.length = 0
            · have hxz : ¬ (0 : Int) < (xs.length : Int) := by omega
              have HX0 := Lib.hid hx0
              clear hx0
              go_wp2_with fail
              refine (HPQ.out _).mono ?_
              rintro e w' ⟨rfl, rfl⟩
              have HWX := Lib.hid ((HN.out.alloc (.cells #[.string ⟨#[120]⟩, .string ⟨#[97, 60, 98]⟩, .string ⟨#[38, 97, 109, 112, 59]⟩, .string ⟨#[121, 32, 122]⟩, .string ⟨#[32]⟩, .string ⟨#[60, 112, 62]⟩] 9 (0, 0))).alloc (.cells #[.string ⟨#[]⟩, .slice none 0 0, .string ⟨(tnL q).toArray⟩, .slice none 0 0] 45 (0, 0)))
              have hbs := hbw.size
              go_wp2_with (at_builtin; refine wpList_append_lies _ rfl _ _ 33 rfl w.heap.size 45 iT _ 4 80 Try.underlying33 hiT hT0 hT1 hT2 rfl (by decide) _ xs.length _ rfl HWX.out.1 ⟨_, 0, none⟩ 1 1 [.string ⟨#[]⟩, .slice none 0 0, .string ⟨(tnL q).toArray⟩, .slice none 0 0] rfl rfl ?b1 ?b2 (by decide) ?b3 ?b4 ?b5 _ rfl ?_)
              case b1 => exact cells4 (by have h := heap_alloc_new (wr.alloc (.cells #[.string ⟨#[120]⟩, .string ⟨#[97, 60, 98]⟩, .string ⟨#[38, 97, 109, 112, 59]⟩, .string ⟨#[121, 32, 122]⟩, .string ⟨#[32]⟩, .string ⟨#[60, 112, 62]⟩] 9 (0, 0))) (.cells #[.string ⟨#[]⟩, .slice none 0 0, .string ⟨(tnL q).toArray⟩, .slice none 0 0] 45 (0, 0)); simpa using h)
              case b2 => intro u hu; simp at hu; rcases hu with rfl | rfl | rfl | rfl <;> rfl
              case b3 => unfold maxLen; omega
              case b4 => omega
              case b5 => simp; omega
              intro g7 cap7 w7 hown7 hgrow7 hat7 _
              obtain ⟨m1, m2, m3⟩ := U.made_text (l := xs.map (·.1)) hd1 (tn_some q hq) (by rw [List.eq_nil_of_length_eq_zero HX0.out]; rfl)
              have HP7 := Lib.hid (HWX.out.put ((.mk [] [] (tnL q) [], .slice none 0 0, .slice none 0 0) : NV) ⟨RdAS.nil _ _, RdNs.nil _ _⟩ hown7 hgrow7 (hat7.imp id (fun e => by rw [e]; simp)))
              have HM7 := Lib.hid (HM.out.snoc (by rw [List.length_map]; omega) m1 m2 m3)
              have hB7 : Below B wr w7 := (((Below.refl B wr).alloc (by omega) _).alloc (by simp; omega) _).grown hgrow7 (by simp; omega) (fun k hk => by have := (HN.out.1.lt k hk).1; omega)
              have HR7 := Lib.hid (HRr.out.below hB7)
              clear hown7 hgrow7 hat7 hB7 HWX m1 m2 m3
              go_wp2_with fail
              go_roundg r.length
              case measure => simp only [List.length_cons]; omega
              case rel => exact ⟨r, _, _, _, rfl, rfl, by omega, hrc, hrcm, HR7.out, HP7.out, by show U.Made _ _ _; rw [List.map_append]; exact HM7.out⟩
            · have hxm := List.getElem?_eq_getElem (show xs.length - 1 < xs.length by omega)
              generalize xs[xs.length - 1]'(show xs.length - 1 < xs.length by omega) = y at hxm
              obtain ⟨gy, cy, ey, y0, _⟩ := row_nd HN.out.1 hxm
              injection ey with ey1 _ ey3
              subst ey1
              subst ey3
              have hE : U.endT (xs.map (·.1)) = y.1.name.isEmpty := by
                unfold U.endT
                rw [List.getLast?_eq_getElem?, List.length_map, List.getElem?_map, hxm]
                rfl
              have hgy := (HN.out.1.lt gy rfl).2
              have hxz : (0 : Int) < (xs.length : Int) := by omega
              have hi1 : (0 : Int) ≤ (xs.length : Int) - 1 := by omega
              have hi2 : (xs.length : Int) - 1 < (xs.length : Int) := by omega
              have hi3 : ((xs.length : Int) - 1).toNat = xs.length - 1 := by omega
              by_cases hyn : y.1.name = []
              · rw [hyn] at y0
                clear hE hxm
                go_wp2_with fail
                go_roundg r.length
                case measure => simp only [List.length_cons]; omega
                case rel => exact ⟨r, xs, _, _, rfl, rfl, by omega, hrc, hrcm, HRr.out, HN.out, HM.out⟩
              · have hyn2 : (y.1.name == []) = false := beq_eq_false_iff_ne.2 hyn
                have HEM := Lib.hid (show U.endT (xs.map (·.1)) = false by
                  rw [hE]
                  cases h : y.1.name with
                  | nil => exact absurd h hyn
                  | cons a b => rfl)
                clear hE hxm hyn
                go_wp2_with fail
                refine (HPQ.out _).mono ?_
                rintro e w' ⟨rfl, rfl⟩
                have HWX := Lib.hid ((HN.out.alloc (.cells #[.string ⟨#[120]⟩, .string ⟨#[97, 60, 98]⟩, .string ⟨#[38, 97, 109, 112, 59]⟩, .string ⟨#[121, 32, 122]⟩, .string ⟨#[32]⟩, .string ⟨#[60, 112, 62]⟩] 9 (0, 0))).alloc (.cells #[.string ⟨#[]⟩, .slice none 0 0, .string ⟨(tnL q).toArray⟩, .slice none 0 0] 45 (0, 0)))
                have hbs := hbw.size
                go_wp2_with (at_builtin; refine wpList_append_lies _ rfl _ _ 33 rfl w.heap.size 45 iT _ 4 80 Try.underlying33 hiT hT0 hT1 hT2 rfl (by decide) _ xs.length _ rfl HWX.out.1 ⟨_, 0, none⟩ 1 1 [.string ⟨#[]⟩, .slice none 0 0, .string ⟨(tnL q).toArray⟩, .slice none 0 0] rfl rfl ?d1 ?d2 (by decide) ?d3 ?d4 ?d5 _ rfl ?_)
                case d1 => exact cells4 (by have h := heap_alloc_new (wr.alloc (.cells #[.string ⟨#[120]⟩, .string ⟨#[97, 60, 98]⟩, .string ⟨#[38, 97, 109, 112, 59]⟩, .string ⟨#[121, 32, 122]⟩, .string ⟨#[32]⟩, .string ⟨#[60, 112, 62]⟩] 9 (0, 0))) (.cells #[.string ⟨#[]⟩, .slice none 0 0, .string ⟨(tnL q).toArray⟩, .slice none 0 0] 45 (0, 0)); simpa using h)
                case d2 => intro u hu; simp at hu; rcases hu with rfl | rfl | rfl | rfl <;> rfl
                case d3 => unfold maxLen; omega
                case d4 => omega
                case d5 => simp; omega
                intro g7 cap7 w7 hown7 hgrow7 hat7 _
                obtain ⟨m1, m2, m3⟩ := U.made_text (l := xs.map (·.1)) hd1 (tn_some q hq) (by exact HEM.out)
                have HP7 := Lib.hid (HWX.out.put ((.mk [] [] (tnL q) [], .slice none 0 0, .slice none 0 0) : NV) ⟨RdAS.nil _ _, RdNs.nil _ _⟩ hown7 hgrow7 (hat7.imp id (fun e => by rw [e]; simp)))
                have HM7 := Lib.hid (HM.out.snoc (by rw [List.length_map]; omega) m1 m2 m3)
                have hB7 : Below B wr w7 := (((Below.refl B wr).alloc (by omega) _).alloc (by simp; omega) _).grown hgrow7 (by simp; omega) (fun k hk => by have := (HN.out.1.lt k hk).1; omega)
                have HR7 := Lib.hid (HRr.out.below hB7)
                clear hown7 hgrow7 hat7 hB7 HWX m1 m2 m3
                go_wp2_with fail
                go_roundg r.length
                case measure => simp only [List.length_cons]; omega
                case rel => exact ⟨r, _, _, _, rfl, rfl, by omega, hrc, hrcm, HR7.out, HP7.out, by show U.Made _ _ _; rw [List.map_append]; exact HM7.out⟩
          · obtain ⟨q, hq, eq⟩ : ∃ q : Nat, q < 2 ∧ (wrap64 (z.tdiv 6)) % 2 = (q : Int) := ⟨((wrap64 (z.tdiv 6)) % 2).toNat, by omega, by omega⟩
            have hpq := fun W => picked_walk (wrap64 (z.tdiv 6)) 2 W (by omega) (by omega)
            rw [eq] at hpq
            have HPQ := Lib.hid hpq
            have htc := vn_cell q hq
            have htg := vn_get q
            obtain ⟨hn1, hn2, hn3, _⟩ := vn_name q hq
            have hq0 : (0 : Int) ≤ (q : Int) := Int.natCast_nonneg _
            have hq1 : (q : Int) < 2 := by omega
            clear eq hpq
            go_wp2_with fail
            refine (HPQ.out _).mono ?_
            rintro e w' ⟨rfl, rfl⟩
            have HWX := Lib.hid ((HN.out.alloc (.cells #[.string ⟨#[98, 114]⟩, .string ⟨#[105, 109, 103]⟩] 9 (0, 0))).alloc (.cells #[.string ⟨(vnL q).toArray⟩, .slice none 0 0, .string ⟨#[]⟩, .slice none 0 0] 45 (0, 0)))
            have hbs := hbw.size
            go_wp2_with (at_builtin; refine wpList_append_lies _ rfl _ _ 33 rfl w.heap.size 45 iT _ 4 80 Try.underlying33 hiT hT0 hT1 hT2 rfl (by decide) _ xs.length _ rfl HWX.out.1 ⟨_, 0, none⟩ 1 1 [.string ⟨(vnL q).toArray⟩, .slice none 0 0, .string ⟨#[]⟩, .slice none 0 0] rfl rfl ?f1 ?f2 (by decide) ?f3 ?f4 ?f5 _ rfl ?_)
            case f1 => exact cells4 (by have h := heap_alloc_new (wr.alloc (.cells #[.string ⟨#[98, 114]⟩, .string ⟨#[105, 109, 103]⟩] 9 (0, 0))) (.cells #[.string ⟨(vnL q).toArray⟩, .slice none 0 0, .string ⟨#[]⟩, .slice none 0 0] 45 (0, 0)); simpa using h)
            case f2 => intro u hu; simp at hu; rcases hu with rfl | rfl | rfl | rfl <;> rfl
            case f3 => unfold maxLen; omega
            case f4 => omega
            case f5 => simp; omega
            intro g7 cap7 w7 hown7 hgrow7 hat7 _
            obtain ⟨m1, m2, m3⟩ := U.made_elem (l := xs.map (·.1)) (p := []) (al := []) hd1 hn1 ⟨(fun a ha => by cases ha), by simp, List.Pairwise.nil⟩ hn2 hn3 (fun _ => rfl) (by rw [U.cntL_nil]; exact U.room_pos deep) (fun D _ => U.lFault_nil _ _) (by rw [U.plainL]; trivial)
            have HP7 := Lib.hid (HWX.out.put ((.mk (vnL q) [] [] [], .slice none 0 0, .slice none 0 0) : NV) ⟨RdAS.nil _ _, RdNs.nil _ _⟩ hown7 hgrow7 (hat7.imp id (fun e => by rw [e]; simp)))
            have HM7 := Lib.hid (HM.out.snoc (by rw [List.length_map]; omega) m1 m2 m3)
            have hB7 : Below B wr w7 := (((Below.refl B wr).alloc (by omega) _).alloc (by simp; omega) _).grown hgrow7 (by simp; omega) (fun k hk => by have := (HN.out.1.lt k hk).1; omega)
            have HR7 := Lib.hid (HRr.out.below hB7)
            clear hown7 hgrow7 hat7 hB7 HWX m1 m2 m3
            go_wp2_with fail
            go_roundg r.length
            case measure => simp only [List.length_cons]; omega
            case rel => exact ⟨r, _, _, _, rfl, rfl, by omega, hrc, hrcm, HR7.out, HP7.out, by show U.Made _ _ _; rw [List.map_append]; exact HM7.out⟩
          · by_cases hd : ¬ 1 < deep
            · have hdz : ¬ (1 : Int) < (deep : Int) := by omega
              have c0 : ((c : Int) == 0) = false := beq_eq_false_iff_ne.2 (by omega)
              have c1 : ((c : Int) == 1) = false := beq_eq_false_iff_ne.2 (by omega)
              have c2 : ((c : Int) == 2) = false := beq_eq_false_iff_ne.2 (by omega)
              have c0' : ¬ c = 0 := by omega
              go_wp2_with fail
              go_roundg r.length
              case measure => simp only [List.length_cons]; omega
              case rel => exact ⟨r, xs, _, _, rfl, rfl, by omega, hrc, hrcm, HRr.out, HN.out, HM.out⟩
            · have hdz : (1 : Int) < (deep : Int) := by omega
              have c0 : ((c : Int) == 0) = false := beq_eq_false_iff_ne.2 (by omega)
              have c1 : ((c : Int) == 1) = false := beq_eq_false_iff_ne.2 (by omega)
              have c2 : ((c : Int) == 2) = false := beq_eq_false_iff_ne.2 (by omega)
              have c0' : ¬ c = 0 := by omega
              obtain ⟨q, hq, eq⟩ : ∃ q : Nat, q < 6 ∧ (wrap64 (z.tdiv 6)) % 6 = (q : Int) := ⟨((wrap64 (z.tdiv 6)) % 6).toNat, by omega, by omega⟩
              have hpq := fun W => picked_walk (wrap64 (z.tdiv 6)) 6 W (by omega) (by omega)
              rw [eq] at hpq
              have HPQ := Lib.hid hpq
              have htc := en_cell q hq
              have htg := en_get q
              obtain ⟨hn1, hn2, hn3, hn4⟩ := en_name q hq
              have hq0 : (0 : Int) ≤ (q : Int) := Int.natCast_nonneg _
              have hq1 : (q : Int) < 6 := by omega
              obtain ⟨q2, hq2, eq2⟩ : ∃ q2 : Nat, q2 < 3 ∧ (wrap64 (z.tdiv 36)) % 3 = (q2 : Int) := ⟨((wrap64 (z.tdiv 36)) % 3).toNat, by omega, by omega⟩
              have hpq2 := fun W => picked_walk (wrap64 (z.tdiv 36)) 3 W (by omega) (by omega)
              rw [eq2] at hpq2
              have HPQ2 := Lib.hid hpq2
              clear eq hpq eq2 hpq2
              go_wp2_with fail
              refine (HPQ.out _).mono ?_
              rintro e w' ⟨rfl, rfl⟩
              go_wp2_with fail
              refine (HPQ2.out _).mono ?_
              rintro e w' ⟨rfl, rfl⟩
              clear htc htg
              by_cases hq3 : q2 = 0
              · subst hq3
                obtain ⟨q5, hq5, eq5⟩ : ∃ q5 : Nat, q5 < 5 ∧ (wrap64 (z.tdiv 100)) % 5 = (q5 : Int) := ⟨((wrap64 (z.tdiv 100)) % 5).toNat, by omega, by omega⟩
                have hpq5 := fun W => picked_walk (wrap64 (z.tdiv 100)) 5 W (by omega) (by omega)
                rw [eq5] at hpq5
                have HPQ5 := Lib.hid hpq5
                have htc := hv_cell q5 hq5
                have htg := hv_get q5
                have hq50 : (0 : Int) ≤ (q5 : Int) := Int.natCast_nonneg _
                have hq51 : (q5 : Int) < 5 := by omega
                have hbs := hbw.size
                have HB0 : Hid (Below wr.heap.size wr ((((wr.alloc (.cells #[.string ⟨#[100, 105, 118]⟩, .string ⟨#[98]⟩, .string ⟨#[101, 109]⟩, .string ⟨#[112]⟩, .string ⟨#[97]⟩, .string ⟨#[117, 108]⟩] 9 (0, 0))).alloc (.cells #[.string ⟨(enL q).toArray⟩, .slice (some ⟨wr.heap.size + 1 + 1 + 1, 0, none⟩) 1 1, .string ⟨#[]⟩, .slice none 0 0] 45 (0, 0))).alloc (.cells #[.string ⟨#[]⟩, .string ⟨#[120]⟩, .string ⟨#[97, 34, 98, 38]⟩, .string ⟨#[60]⟩, .string ⟨#[104, 116, 116, 112, 58, 47, 47, 121]⟩] 9 (0, 0))).alloc (.cells #[.string ⟨#[104, 114, 101, 102]⟩, .string ⟨(hvL q5).toArray⟩] 48 (0, 0)))) := ((((Below.refl wr.heap.size wr).alloc (Nat.le_refl _) _).alloc (by simp) _).alloc (by simp; omega) _).alloc (by simp; omega) _
                have HQ0 : Hid (((((wr.alloc (.cells #[.string ⟨#[100, 105, 118]⟩, .string ⟨#[98]⟩, .string ⟨#[101, 109]⟩, .string ⟨#[112]⟩, .string ⟨#[97]⟩, .string ⟨#[117, 108]⟩] 9 (0, 0))).alloc (.cells #[.string ⟨(enL q).toArray⟩, .slice (some ⟨wr.heap.size + 1 + 1 + 1, 0, none⟩) 1 1, .string ⟨#[]⟩, .slice none 0 0] 45 (0, 0))).alloc (.cells #[.string ⟨#[]⟩, .string ⟨#[120]⟩, .string ⟨#[97, 34, 98, 38]⟩, .string ⟨#[60]⟩, .string ⟨#[104, 116, 116, 112, 58, 47, 47, 121]⟩] 9 (0, 0))).alloc (.cells #[.string ⟨#[104, 114, 101, 102]⟩, .string ⟨(hvL q5).toArray⟩] 48 (0, 0))).heap[wr.heap.size + 1]? = some (.cells #[.string ⟨(enL q).toArray⟩, .slice (some ⟨wr.heap.size + 1 + 1 + 1, 0, none⟩) 1 1, .string ⟨#[]⟩, .slice none 0 0] 45 (0, 0))) := by
                  have h := heap_alloc_new (wr.alloc (.cells #[.string ⟨#[100, 105, 118]⟩, .string ⟨#[98]⟩, .string ⟨#[101, 109]⟩, .string ⟨#[112]⟩, .string ⟨#[97]⟩, .string ⟨#[117, 108]⟩] 9 (0, 0))) (.cells #[.string ⟨(enL q).toArray⟩, .slice (some ⟨wr.heap.size + 1 + 1 + 1, 0, none⟩) 1 1, .string ⟨#[]⟩, .slice none 0 0] 45 (0, 0))
                  rw [show (wr.alloc (.cells #[.string ⟨#[100, 105, 118]⟩, .string ⟨#[98]⟩, .string ⟨#[101, 109]⟩, .string ⟨#[112]⟩, .string ⟨#[97]⟩, .string ⟨#[117, 108]⟩] 9 (0, 0))).heap.size = wr.heap.size + 1 by simp] at h
                  show _ = _
                  exact (Lib.alloc_old (((wr.alloc (.cells #[.string ⟨#[100, 105, 118]⟩, .string ⟨#[98]⟩, .string ⟨#[101, 109]⟩, .string ⟨#[112]⟩, .string ⟨#[97]⟩, .string ⟨#[117, 108]⟩] 9 (0, 0))).alloc (.cells #[.string ⟨(enL q).toArray⟩, .slice (some ⟨wr.heap.size + 1 + 1 + 1, 0, none⟩) 1 1, .string ⟨#[]⟩, .slice none 0 0] 45 (0, 0))).alloc (.cells #[.string ⟨#[]⟩, .string ⟨#[120]⟩, .string ⟨#[97, 34, 98, 38]⟩, .string ⟨#[60]⟩, .string ⟨#[104, 116, 116, 112, 58, 47, 47, 121]⟩] 9 (0, 0))) _ _ (by simp)).trans ((Lib.alloc_old ((wr.alloc (.cells #[.string ⟨#[100, 105, 118]⟩, .string ⟨#[98]⟩, .string ⟨#[101, 109]⟩, .string ⟨#[112]⟩, .string ⟨#[97]⟩, .string ⟨#[117, 108]⟩] 9 (0, 0))).alloc (.cells #[.string ⟨(enL q).toArray⟩, .slice (some ⟨wr.heap.size + 1 + 1 + 1, 0, none⟩) 1 1, .string ⟨#[]⟩, .slice none 0 0] 45 (0, 0))) _ _ (by simp)).trans h)
                have HAQ : Hid (((((wr.alloc (.cells #[.string ⟨#[100, 105, 118]⟩, .string ⟨#[98]⟩, .string ⟨#[101, 109]⟩, .string ⟨#[112]⟩, .string ⟨#[97]⟩, .string ⟨#[117, 108]⟩] 9 (0, 0))).alloc (.cells #[.string ⟨(enL q).toArray⟩, .slice (some ⟨wr.heap.size + 1 + 1 + 1, 0, none⟩) 1 1, .string ⟨#[]⟩, .slice none 0 0] 45 (0, 0))).alloc (.cells #[.string ⟨#[]⟩, .string ⟨#[120]⟩, .string ⟨#[97, 34, 98, 38]⟩, .string ⟨#[60]⟩, .string ⟨#[104, 116, 116, 112, 58, 47, 47, 121]⟩] 9 (0, 0))).alloc (.cells #[.string ⟨#[104, 114, 101, 102]⟩, .string ⟨(hvL q5).toArray⟩] 48 (0, 0))).heap[wr.heap.size + 1 + 1 + 1]? = some (.cells #[.string ⟨#[104, 114, 101, 102]⟩, .string ⟨(hvL q5).toArray⟩] 48 (0, 0))) := by
                  have h := heap_alloc_new (((wr.alloc (.cells #[.string ⟨#[100, 105, 118]⟩, .string ⟨#[98]⟩, .string ⟨#[101, 109]⟩, .string ⟨#[112]⟩, .string ⟨#[97]⟩, .string ⟨#[117, 108]⟩] 9 (0, 0))).alloc (.cells #[.string ⟨(enL q).toArray⟩, .slice (some ⟨wr.heap.size + 1 + 1 + 1, 0, none⟩) 1 1, .string ⟨#[]⟩, .slice none 0 0] 45 (0, 0))).alloc (.cells #[.string ⟨#[]⟩, .string ⟨#[120]⟩, .string ⟨#[97, 34, 98, 38]⟩, .string ⟨#[60]⟩, .string ⟨#[104, 116, 116, 112, 58, 47, 47, 121]⟩] 9 (0, 0))) (.cells #[.string ⟨#[104, 114, 101, 102]⟩, .string ⟨(hvL q5).toArray⟩] 48 (0, 0))
                  rw [show (((wr.alloc (.cells #[.string ⟨#[100, 105, 118]⟩, .string ⟨#[98]⟩, .string ⟨#[101, 109]⟩, .string ⟨#[112]⟩, .string ⟨#[97]⟩, .string ⟨#[117, 108]⟩] 9 (0, 0))).alloc (.cells #[.string ⟨(enL q).toArray⟩, .slice (some ⟨wr.heap.size + 1 + 1 + 1, 0, none⟩) 1 1, .string ⟨#[]⟩, .slice none 0 0] 45 (0, 0))).alloc (.cells #[.string ⟨#[]⟩, .string ⟨#[120]⟩, .string ⟨#[97, 34, 98, 38]⟩, .string ⟨#[60]⟩, .string ⟨#[104, 116, 116, 112, 58, 47, 47, 121]⟩] 9 (0, 0))).heap.size = wr.heap.size + 1 + 1 + 1 by simp] at h
                  exact h
                have hsz0 : ((((wr.alloc (.cells #[.string ⟨#[100, 105, 118]⟩, .string ⟨#[98]⟩, .string ⟨#[101, 109]⟩, .string ⟨#[112]⟩, .string ⟨#[97]⟩, .string ⟨#[117, 108]⟩] 9 (0, 0))).alloc (.cells #[.string ⟨(enL q).toArray⟩, .slice (some ⟨wr.heap.size + 1 + 1 + 1, 0, none⟩) 1 1, .string ⟨#[]⟩, .slice none 0 0] 45 (0, 0))).alloc (.cells #[.string ⟨#[]⟩, .string ⟨#[120]⟩, .string ⟨#[97, 34, 98, 38]⟩, .string ⟨#[60]⟩, .string ⟨#[104, 116, 116, 112, 58, 47, 47, 121]⟩] 9 (0, 0))).alloc (.cells #[.string ⟨#[104, 114, 101, 102]⟩, .string ⟨(hvL q5).toArray⟩] 48 (0, 0))).heap.size = wr.heap.size + 4 := by simp
                have hRC := IH.out r.length (by rw [← Nat.succ_le_iff]; have := hgl; omega) r (Nat.le_refl _) (deep - 1) 4 B (by omega) (by omega) (by omega) (some ⟨ag, ax + 1, none⟩) (cc - 1) ((((wr.alloc (.cells #[.string ⟨#[100, 105, 118]⟩, .string ⟨#[98]⟩, .string ⟨#[101, 109]⟩, .string ⟨#[112]⟩, .string ⟨#[97]⟩, .string ⟨#[117, 108]⟩] 9 (0, 0))).alloc (.cells #[.string ⟨(enL q).toArray⟩, .slice (some ⟨wr.heap.size + 1 + 1 + 1, 0, none⟩) 1 1, .string ⟨#[]⟩, .slice none 0 0] 45 (0, 0))).alloc (.cells #[.string ⟨#[]⟩, .string ⟨#[120]⟩, .string ⟨#[97, 34, 98, 38]⟩, .string ⟨#[60]⟩, .string ⟨#[104, 116, 116, 112, 58, 47, 47, 121]⟩] 9 (0, 0))).alloc (.cells #[.string ⟨#[104, 114, 101, 102]⟩, .string ⟨(hvL q5).toArray⟩] 48 (0, 0))) (by rw [hsz0]; omega) (HRr.out.below (HB0.out.mono (by omega))) hrc hrcm
                rw [show ((deep - 1 : Nat) : Int) = (deep : Int) - 1 from by omega] at hRC
                have HRC := Lib.hid hRC
                have HAV : Hid (RdAS ((((wr.alloc (.cells #[.string ⟨#[100, 105, 118]⟩, .string ⟨#[98]⟩, .string ⟨#[101, 109]⟩, .string ⟨#[112]⟩, .string ⟨#[97]⟩, .string ⟨#[117, 108]⟩] 9 (0, 0))).alloc (.cells #[.string ⟨(enL q).toArray⟩, .slice (some ⟨wr.heap.size + 1 + 1 + 1, 0, none⟩) 1 1, .string ⟨#[]⟩, .slice none 0 0] 45 (0, 0))).alloc (.cells #[.string ⟨#[]⟩, .string ⟨#[120]⟩, .string ⟨#[97, 34, 98, 38]⟩, .string ⟨#[60]⟩, .string ⟨#[104, 116, 116, 112, 58, 47, 47, 121]⟩] 9 (0, 0))).alloc (.cells #[.string ⟨#[104, 114, 101, 102]⟩, .string ⟨(hvL q5).toArray⟩] 48 (0, 0))) (fun g => wr.heap.size ≤ g ∧ g < ((((wr.alloc (.cells #[.string ⟨#[100, 105, 118]⟩, .string ⟨#[98]⟩, .string ⟨#[101, 109]⟩, .string ⟨#[112]⟩, .string ⟨#[97]⟩, .string ⟨#[117, 108]⟩] 9 (0, 0))).alloc (.cells #[.string ⟨(enL q).toArray⟩, .slice (some ⟨wr.heap.size + 1 + 1 + 1, 0, none⟩) 1 1, .string ⟨#[]⟩, .slice none 0 0] 45 (0, 0))).alloc (.cells #[.string ⟨#[]⟩, .string ⟨#[120]⟩, .string ⟨#[97, 34, 98, 38]⟩, .string ⟨#[60]⟩, .string ⟨#[104, 116, 116, 112, 58, 47, 47, 121]⟩] 9 (0, 0))).alloc (.cells #[.string ⟨#[104, 114, 101, 102]⟩, .string ⟨(hvL q5).toArray⟩] 48 (0, 0))).heap.size ∧ g ≠ wr.heap.size + 1) (.slice (some ⟨wr.heap.size + 1 + 1 + 1, 0, none⟩) 1 1) [(([104, 114, 101, 102], hvL q5) : U.Att)]) := by
                  refine ⟨_, 1, rfl, Nat.le_refl _, by decide, fun i x hx => ⟨wr.heap.size + 1 + 1 + 1, 0, rfl, ⟨by omega, by rw [hsz0]; omega, by omega⟩, ?_⟩⟩
                  cases i with
                  | zero =>
                    simp at hx
                    subst hx
                    exact ⟨by rw [Lib.cell_of_heap HAQ.out]; rfl, by rw [Lib.cell_of_heap HAQ.out]; rfl⟩
                  | succ i => simp at hx
                clear hRC hsz0 eq5 hpq5 HAQ
                go_wp2_with fail
                refine (HPQ5.out _).mono ?_
                rintro e w' ⟨rfl, rfl⟩
                go_wp2_with fail
                clear htc htg
                refine HRC.out.mono ?_
                rintro e w2 ⟨nv, ro, rc2, rs, l2, rfl, hrs, hrc2, hrcm2, hR2, hN2, hM2, hb2⟩
                obtain ⟨na2, nc2, rfl, -⟩ := id hN2
                have L0 := (Array.getElem?_eq_some_iff.1 HQ0.out).1
                have Q2 := (hb2.block (wr.heap.size + 1) L0).trans HQ0.out
                have u23 := (nd_cells Q2).2.2.2
                have v23 := (nd_frozen Q2).2.2.2
                have HQ3 := part_heap Q2 (.slice na2 l2.length nc2)
                obtain ⟨x30, x31, x32, x33⟩ := nd_cells HQ3
                have hsz3 : (w2.setCell ⟨wr.heap.size + 1, 3, none⟩ (.slice na2 l2.length nc2)).heap.size = w2.heap.size := by simp [World.setCell]
                have hB3 : Below wr.heap.size wr (w2.setCell ⟨wr.heap.size + 1, 3, none⟩ (.slice na2 l2.length nc2)) := (HB0.out.trans (hb2.mono HB0.out.size)).setCell (p := ⟨wr.heap.size + 1, 3, none⟩) (Nat.le_succ _) _
                have hs2 := hb2.size
                have hb0 := HB0.out.size
                have hblk : ∀ k, k ≠ wr.heap.size + 1 → (w2.setCell ⟨wr.heap.size + 1, 3, none⟩ (.slice na2 l2.length nc2)).heap[k]? = w2.heap[k]? := fun k hk => Below.heap_setCell _ _ _ _ hk
                have hDn : Done (w2.setCell ⟨wr.heap.size + 1, 3, none⟩ (.slice na2 l2.length nc2)) (Elsew 0 w.heap.size (w2.setCell ⟨wr.heap.size + 1, 3, none⟩ (.slice na2 l2.length nc2)).heap.size (.slice na xs.length ncap)) ((.mk (enL q) [(([104, 114, 101, 102], hvL q5) : U.Att)] [] l2, .slice (some ⟨wr.heap.size + 1 + 1 + 1, 0, none⟩) 1 1, .slice na2 l2.length nc2) : NV) := by
                  refine ⟨HAV.out.keep (fun p hp => World.cell?_of_block ((hblk _ hp.2.2).trans (hb2.block _ hp.2.1))) (fun b hb => .inr ⟨by omega, by rw [hsz3]; omega, fun e => by have := (HN.out.1.lt b e.symm).2; omega⟩), hN2.keep (fun p hp => World.cell?_of_block (hblk _ ?_)) (fun b hb => HN.out.apart (hi := w2.heap.size) (hb.imp id fun h => ⟨by omega, h.2⟩) (by rw [hsz3]; exact Nat.le_refl _))⟩
                  rcases hp with hp | hp
                  · exact absurd hp (Nat.not_lt_zero _)
                  · omega
                obtain ⟨i1, i2⟩ := U.Made.in (by omega) hM2
                rw [show deep - 1 + 1 = deep by omega] at i1 i2
                obtain ⟨m1, m2, m3⟩ := U.made_elem (l := xs.map (·.1)) (p := l2) (al := [(([104, 114, 101, 102], hvL q5) : U.Att)]) hd1 hn1 ⟨(fun a ha => by simp at ha; subst ha; show U.isName [104, 114, 101, 102] = true; decide), by simp, List.pairwise_singleton _ _⟩ hn2 hn3 (fun h => by rw [hn4] at h; cases h) i1 i2 hM2.names
                have HWX := Lib.hid ((HN.out.later hB3).alloc (.cells #[.string ⟨(enL q).toArray⟩, .slice (some ⟨wr.heap.size + 1 + 1 + 1, 0, none⟩) 1 1, .string ⟨#[]⟩, .slice na2 l2.length nc2] 45 (0, 0)))
                have HDN := Lib.hid hDn
                have HSZ3 := Lib.hid hsz3
                have HB3 := Lib.hid hB3
                have HR2 := Lib.hid hR2
                have hwb := hB3.size
                clear HPQ5 hDn hsz3 hB3 hR2 hN2 hM2 hb2 i1 i2 Q2 HQ3 hblk HRC HQ0 HB0 HAV HPQ HPQ2 HRr HC HR IH L0 hs2 hb0
                go_wp2_with (at_builtin; refine wpList_append_lies _ rfl _ _ 33 rfl w.heap.size 45 iT _ 4 80 Try.underlying33 hiT hT0 hT1 hT2 rfl (by decide) _ xs.length _ rfl HWX.out.1 ⟨_, 0, none⟩ 1 1 [.string ⟨(enL q).toArray⟩, .slice (some ⟨wr.heap.size + 1 + 1 + 1, 0, none⟩) 1 1, .string ⟨#[]⟩, .slice na2 l2.length nc2] rfl rfl ?j1 ?j2 (by decide) ?j3 ?j4 ?j5 _ rfl ?_)
                case j1 =>
                  have hnew := heap_alloc_new (w2.setCell ⟨wr.heap.size + 1, 3, none⟩ (.slice na2 l2.length nc2)) (.cells #[.string ⟨(enL q).toArray⟩, .slice (some ⟨wr.heap.size + 1 + 1 + 1, 0, none⟩) 1 1, .string ⟨#[]⟩, .slice na2 l2.length nc2] 45 (0, 0))
                  rw [HSZ3.out] at hnew
                  exact cells4 hnew
                case j2 => intro u hu; simp at hu; rcases hu with rfl | rfl | rfl | rfl <;> rfl
                case j3 => unfold maxLen; omega
                case j4 => omega
                case j5 =>
                  show _ ≤ ((w2.setCell ⟨wr.heap.size + 1, 3, none⟩ (.slice na2 l2.length nc2)).alloc _).heap.size
                  simp only [World.alloc, Array.size_push]
                  omega
                intro g7 cap7 w7 hown7 hgrow7 hat7 _
                have hAl := (Below.refl (w2.setCell ⟨wr.heap.size + 1, 3, none⟩ (.slice na2 l2.length nc2)).heap.size (w2.setCell ⟨wr.heap.size + 1, 3, none⟩ (.slice na2 l2.length nc2))).alloc (Nat.le_refl _) (.cells #[.string ⟨(enL q).toArray⟩, .slice (some ⟨wr.heap.size + 1 + 1 + 1, 0, none⟩) 1 1, .string ⟨#[]⟩, .slice na2 l2.length nc2] 45 (0, 0))
                have HP7 := Lib.hid (HWX.out.put ((.mk (enL q) [(([104, 114, 101, 102], hvL q5) : U.Att)] [] l2, .slice (some ⟨wr.heap.size + 1 + 1 + 1, 0, none⟩) 1 1, .slice na2 l2.length nc2) : NV) (by
                  refine HDN.out.keep (fun p hp => hAl.cell ?_) (fun b hb => hb.imp id fun h => ⟨h.1, Nat.lt_of_lt_of_le h.2.1 hAl.size, h.2.2⟩)
                  rcases hp with hp | hp
                  · exact absurd hp (Nat.not_lt_zero _)
                  · exact hp.2.1) hown7 hgrow7 (hat7.imp id (fun e => by rw [e]; simp [World.setCell])))
                have HM7 := Lib.hid (HM.out.snoc (by rw [List.length_map]; omega) m1 m2 m3)
                have hB7 : Below B w2 w7 := (((Below.refl B w2).setCell (p := ⟨wr.heap.size + 1, 3, none⟩) (by show B ≤ wr.heap.size + 1; omega) (.slice na2 l2.length nc2)).alloc (by rw [HSZ3.out]; have := HSZ3.out; omega) (.cells #[.string ⟨(enL q).toArray⟩, .slice (some ⟨wr.heap.size + 1 + 1 + 1, 0, none⟩) 1 1, .string ⟨#[]⟩, .slice na2 l2.length nc2] 45 (0, 0))).grown hgrow7 (by have := hAl.size; have := HSZ3.out; omega) (fun k hk => by have := (HN.out.1.lt k hk).1; omega)
                have HR7 := Lib.hid (HR2.out.below hB7)
                clear hown7 hgrow7 hat7 hB7 HWX HDN HB3 HR2 m1 m2 m3 hAl x30 x31 x32 x33 u23 v23 hn1 hn2 hn3 hn4 hwb HSZ3 hac hbw hbs
                go_wp2_with fail
                go_roundg rs.length
                case measure => simp only [List.length_cons]; omega
                case rel => exact ⟨rs, _, ro, rc2, rfl, rfl, by omega, hrc2, hrcm2, HR7.out, HP7.out, by show U.Made _ _ _; rw [List.map_append]; exact HM7.out⟩
              · have hq4 : ((q2 : Int) == 0) = false := beq_eq_false_iff_ne.2 (by omega)
                have hq5 : ¬ q2 = 0 := hq3
                have hbs := hbw.size
                have HB0 : Hid (Below wr.heap.size wr ((wr.alloc (.cells #[.string ⟨#[100, 105, 118]⟩, .string ⟨#[98]⟩, .string ⟨#[101, 109]⟩, .string ⟨#[112]⟩, .string ⟨#[97]⟩, .string ⟨#[117, 108]⟩] 9 (0, 0))).alloc (.cells #[.string ⟨(enL q).toArray⟩, .slice none 0 0, .string ⟨#[]⟩, .slice none 0 0] 45 (0, 0)))) := ((Below.refl wr.heap.size wr).alloc (Nat.le_refl _) _).alloc (by simp) _
                have HQ0 : Hid (((wr.alloc (.cells #[.string ⟨#[100, 105, 118]⟩, .string ⟨#[98]⟩, .string ⟨#[101, 109]⟩, .string ⟨#[112]⟩, .string ⟨#[97]⟩, .string ⟨#[117, 108]⟩] 9 (0, 0))).alloc (.cells #[.string ⟨(enL q).toArray⟩, .slice none 0 0, .string ⟨#[]⟩, .slice none 0 0] 45 (0, 0))).heap[wr.heap.size + 1]? = some (.cells #[.string ⟨(enL q).toArray⟩, .slice none 0 0, .string ⟨#[]⟩, .slice none 0 0] 45 (0, 0))) := by
                  have h := heap_alloc_new (wr.alloc (.cells #[.string ⟨#[100, 105, 118]⟩, .string ⟨#[98]⟩, .string ⟨#[101, 109]⟩, .string ⟨#[112]⟩, .string ⟨#[97]⟩, .string ⟨#[117, 108]⟩] 9 (0, 0))) (.cells #[.string ⟨(enL q).toArray⟩, .slice none 0 0, .string ⟨#[]⟩, .slice none 0 0] 45 (0, 0))
                  show _ = _
                  simpa using h
                have hsz0 : ((wr.alloc (.cells #[.string ⟨#[100, 105, 118]⟩, .string ⟨#[98]⟩, .string ⟨#[101, 109]⟩, .string ⟨#[112]⟩, .string ⟨#[97]⟩, .string ⟨#[117, 108]⟩] 9 (0, 0))).alloc (.cells #[.string ⟨(enL q).toArray⟩, .slice none 0 0, .string ⟨#[]⟩, .slice none 0 0] 45 (0, 0))).heap.size = wr.heap.size + 2 := by simp
                have hRC := IH.out r.length (by rw [← Nat.succ_le_iff]; have := hgl; omega) r (Nat.le_refl _) (deep - 1) 4 B (by omega) (by omega) (by omega) (some ⟨ag, ax + 1, none⟩) (cc - 1) ((wr.alloc (.cells #[.string ⟨#[100, 105, 118]⟩, .string ⟨#[98]⟩, .string ⟨#[101, 109]⟩, .string ⟨#[112]⟩, .string ⟨#[97]⟩, .string ⟨#[117, 108]⟩] 9 (0, 0))).alloc (.cells #[.string ⟨(enL q).toArray⟩, .slice none 0 0, .string ⟨#[]⟩, .slice none 0 0] 45 (0, 0))) (by rw [hsz0]; omega) (HRr.out.below (HB0.out.mono (by omega))) hrc hrcm
                rw [show ((deep - 1 : Nat) : Int) = (deep : Int) - 1 from by omega] at hRC
                have HRC := Lib.hid hRC
                have HAV : Hid (RdAS ((wr.alloc (.cells #[.string ⟨#[100, 105, 118]⟩, .string ⟨#[98]⟩, .string ⟨#[101, 109]⟩, .string ⟨#[112]⟩, .string ⟨#[97]⟩, .string ⟨#[117, 108]⟩] 9 (0, 0))).alloc (.cells #[.string ⟨(enL q).toArray⟩, .slice none 0 0, .string ⟨#[]⟩, .slice none 0 0] 45 (0, 0))) (fun g => wr.heap.size ≤ g ∧ g < ((wr.alloc (.cells #[.string ⟨#[100, 105, 118]⟩, .string ⟨#[98]⟩, .string ⟨#[101, 109]⟩, .string ⟨#[112]⟩, .string ⟨#[97]⟩, .string ⟨#[117, 108]⟩] 9 (0, 0))).alloc (.cells #[.string ⟨(enL q).toArray⟩, .slice none 0 0, .string ⟨#[]⟩, .slice none 0 0] 45 (0, 0))).heap.size ∧ g ≠ wr.heap.size + 1) (.slice none 0 0) []) := RdAS.nil _ _
                clear hRC hsz0
                go_wp2_with fail
                refine HRC.out.mono ?_
                rintro e w2 ⟨nv, ro, rc2, rs, l2, rfl, hrs, hrc2, hrcm2, hR2, hN2, hM2, hb2⟩
                obtain ⟨na2, nc2, rfl, -⟩ := id hN2
                have L0 := (Array.getElem?_eq_some_iff.1 HQ0.out).1
                have Q2 := (hb2.block (wr.heap.size + 1) L0).trans HQ0.out
                have u23 := (nd_cells Q2).2.2.2
                have v23 := (nd_frozen Q2).2.2.2
                have HQ3 := part_heap Q2 (.slice na2 l2.length nc2)
                obtain ⟨x30, x31, x32, x33⟩ := nd_cells HQ3
                have hsz3 : (w2.setCell ⟨wr.heap.size + 1, 3, none⟩ (.slice na2 l2.length nc2)).heap.size = w2.heap.size := by simp [World.setCell]
                have hB3 : Below wr.heap.size wr (w2.setCell ⟨wr.heap.size + 1, 3, none⟩ (.slice na2 l2.length nc2)) := (HB0.out.trans (hb2.mono HB0.out.size)).setCell (p := ⟨wr.heap.size + 1, 3, none⟩) (Nat.le_succ _) _
                have hs2 := hb2.size
                have hb0 := HB0.out.size
                have hblk : ∀ k, k ≠ wr.heap.size + 1 → (w2.setCell ⟨wr.heap.size + 1, 3, none⟩ (.slice na2 l2.length nc2)).heap[k]? = w2.heap[k]? := fun k hk => Below.heap_setCell _ _ _ _ hk
                have hDn : Done (w2.setCell ⟨wr.heap.size + 1, 3, none⟩ (.slice na2 l2.length nc2)) (Elsew 0 w.heap.size (w2.setCell ⟨wr.heap.size + 1, 3, none⟩ (.slice na2 l2.length nc2)).heap.size (.slice na xs.length ncap)) ((.mk (enL q) [] [] l2, .slice none 0 0, .slice na2 l2.length nc2) : NV) := by
                  refine ⟨HAV.out.keep (fun p hp => World.cell?_of_block ((hblk _ hp.2.2).trans (hb2.block _ hp.2.1))) (fun b hb => .inr ⟨by omega, by rw [hsz3]; omega, fun e => by have := (HN.out.1.lt b e.symm).2; omega⟩), hN2.keep (fun p hp => World.cell?_of_block (hblk _ ?_)) (fun b hb => HN.out.apart (hi := w2.heap.size) (hb.imp id fun h => ⟨by omega, h.2⟩) (by rw [hsz3]; exact Nat.le_refl _))⟩
                  rcases hp with hp | hp
                  · exact absurd hp (Nat.not_lt_zero _)
                  · omega
                obtain ⟨i1, i2⟩ := U.Made.in (by omega) hM2
                rw [show deep - 1 + 1 = deep by omega] at i1 i2
                obtain ⟨m1, m2, m3⟩ := U.made_elem (l := xs.map (·.1)) (p := l2) (al := []) hd1 hn1 ⟨(fun a ha => by cases ha), by simp, List.Pairwise.nil⟩ hn2 hn3 (fun h => by rw [hn4] at h; cases h) i1 i2 hM2.names
                have HWX := Lib.hid ((HN.out.later hB3).alloc (.cells #[.string ⟨(enL q).toArray⟩, .slice none 0 0, .string ⟨#[]⟩, .slice na2 l2.length nc2] 45 (0, 0)))
                have HDN := Lib.hid hDn
                have HSZ3 := Lib.hid hsz3
                have HB3 := Lib.hid hB3
                have HR2 := Lib.hid hR2
                have hwb := hB3.size
                clear hDn hsz3 hB3 hR2 hN2 hM2 hb2 i1 i2 Q2 HQ3 hblk HRC HQ0 HB0 HAV HPQ HPQ2 HRr HC HR IH L0 hs2 hb0
                go_wp2_with (at_builtin; refine wpList_append_lies _ rfl _ _ 33 rfl w.heap.size 45 iT _ 4 80 Try.underlying33 hiT hT0 hT1 hT2 rfl (by decide) _ xs.length _ rfl HWX.out.1 ⟨_, 0, none⟩ 1 1 [.string ⟨(enL q).toArray⟩, .slice none 0 0, .string ⟨#[]⟩, .slice na2 l2.length nc2] rfl rfl ?k1 ?k2 (by decide) ?k3 ?k4 ?k5 _ rfl ?_)
                case k1 =>
                  have hnew := heap_alloc_new (w2.setCell ⟨wr.heap.size + 1, 3, none⟩ (.slice na2 l2.length nc2)) (.cells #[.string ⟨(enL q).toArray⟩, .slice none 0 0, .string ⟨#[]⟩, .slice na2 l2.length nc2] 45 (0, 0))
                  rw [HSZ3.out] at hnew
                  exact cells4 hnew
                case k2 => intro u hu; simp at hu; rcases hu with rfl | rfl | rfl | rfl <;> rfl
                case k3 => unfold maxLen; omega
                case k4 => omega
                case k5 =>
                  show _ ≤ ((w2.setCell ⟨wr.heap.size + 1, 3, none⟩ (.slice na2 l2.length nc2)).alloc _).heap.size
                  simp only [World.alloc, Array.size_push]
                  omega
                intro g7 cap7 w7 hown7 hgrow7 hat7 _
                have hAl := (Below.refl (w2.setCell ⟨wr.heap.size + 1, 3, none⟩ (.slice na2 l2.length nc2)).heap.size (w2.setCell ⟨wr.heap.size + 1, 3, none⟩ (.slice na2 l2.length nc2))).alloc (Nat.le_refl _) (.cells #[.string ⟨(enL q).toArray⟩, .slice none 0 0, .string ⟨#[]⟩, .slice na2 l2.length nc2] 45 (0, 0))
                have HP7 := Lib.hid (HWX.out.put ((.mk (enL q) [] [] l2, .slice none 0 0, .slice na2 l2.length nc2) : NV) (by
                  refine HDN.out.keep (fun p hp => hAl.cell ?_) (fun b hb => hb.imp id fun h => ⟨h.1, Nat.lt_of_lt_of_le h.2.1 hAl.size, h.2.2⟩)
                  rcases hp with hp | hp
                  · exact absurd hp (Nat.not_lt_zero _)
                  · exact hp.2.1) hown7 hgrow7 (hat7.imp id (fun e => by rw [e]; simp [World.setCell])))
                have HM7 := Lib.hid (HM.out.snoc (by rw [List.length_map]; omega) m1 m2 m3)
                have hB7 : Below B w2 w7 := (((Below.refl B w2).setCell (p := ⟨wr.heap.size + 1, 3, none⟩) (by show B ≤ wr.heap.size + 1; omega) (.slice na2 l2.length nc2)).alloc (by rw [HSZ3.out]; have := HSZ3.out; omega) (.cells #[.string ⟨(enL q).toArray⟩, .slice none 0 0, .string ⟨#[]⟩, .slice na2 l2.length nc2] 45 (0, 0))).grown hgrow7 (by have := hAl.size; have := HSZ3.out; omega) (fun k hk => by have := (HN.out.1.lt k hk).1; omega)
                have HR7 := Lib.hid (HR2.out.below hB7)
                clear hown7 hgrow7 hat7 hB7 HWX HDN HB3 HR2 m1 m2 m3 hAl x30 x31 x32 x33 u23 v23 hn1 hn2 hn3 hn4 hwb HSZ3 hac hbw hbs
                go_wp2_with fail
                go_roundg rs.length
                case measure => simp only [List.length_cons]; omega
                case rel => exact ⟨rs, _, ro, rc2, rfl, rfl, by omega, hrc2, hrcm2, HR7.out, HP7.out, by show U.Made _ _ _; rw [List.map_append]; exact HM7.out⟩
      · have hz2 : ¬ (xs.length : Int) < (n : Int) := by omega
        have hpos : (0 : Int) < (cur.length : Int) := by
          have := List.length_pos_iff.2 h0
          omega
        go_wp2_with fail
        go_ret2
        exact ⟨_, ca, cc, cur, _, rfl, hgl, hcc, hccm, HC.out, HN.out.rd, HM.out, hbw⟩

end Go.Proofs.Ytmfkefcdddoooaa

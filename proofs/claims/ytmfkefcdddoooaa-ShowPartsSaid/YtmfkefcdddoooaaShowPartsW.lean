/- ShowParts: the walk. -/
import Derived.Test.YtmfkefcdddoooaaShowPartsM
import Derived.Test.YtmfkefcdddoooaaMake
namespace Go.Proofs.Ytmfkefcdddoooaa
open Go.RowKit

/-- one node in a row by itself -/
theorem one_nd {w : World} {b : Nat} {n : U.Nd} {av pv : Value} {T : TypeId} (h : w.heap[b]? = some (.cells #[.string ⟨n.name.toArray⟩, av, .string ⟨n.text.toArray⟩, pv] T (0, 0))) (hA : RdAS w (· < w.heap.size) av n.attrs) (hP : RdNs w (· < w.heap.size) pv n.parts) : RdNs w (· < w.heap.size) (.slice (some ⟨b, 0, none⟩) 1 1) [n] := by
  obtain ⟨c0, c1, c2, c3⟩ := nd_cells h
  refine ⟨_, 1, rfl, Nat.le_refl _, by decide, .inr ⟨b, 0, rfl, (Array.getElem?_eq_some_iff.1 h).1, ?_⟩⟩
  rw [RdRow, RdRow]
  exact ⟨(rdNd_iff n b 0).2 ⟨av, pv, c0, c1, c2, c3, hA, hP⟩, trivial⟩
theorem RdNs.takeS {w : World} {S : Nat → Prop} {ta : Option Addr} {tc : Nat} {l : List U.Nd} (h : RdNs w S (.slice ta l.length tc) l) (k : Nat) (hk : k ≤ l.length) : RdNs w S (.slice ta k tc) (l.take k) := by
  have hl2 : (l.take k).length = k := by rw [List.length_take]; omega
  obtain ⟨_, _, e, h1, h2, h3⟩ := h
  injection e with e1 e2 e3
  refine ⟨_, tc, by rw [hl2], by omega, by rw [e3]; exact h2, ?_⟩
  rcases h3 with h3 | ⟨g2, o2, e4, hg2, hr⟩
  · left; rw [h3, List.take_nil]
  · right
    rw [← e1] at e4
    refine ⟨g2, o2, e4, hg2, rdRow_of fun i y hy => ?_⟩
    have hi : i < k := by have := (List.getElem?_eq_some_iff.1 hy).1; omega
    rw [List.getElem?_take_of_lt hi] at hy
    exact rdRow_get hr hy
theorem RdNs.dropS {w : World} {S : Nat → Prop} {g o tc : Nat} {l : List U.Nd} (h : RdNs w S (.slice (some ⟨g, o, none⟩) l.length tc) l) (k : Nat) (hk : k ≤ l.length) (hg : l ≠ []) : RdNs w S (.slice (some ⟨g, o + k * 4, none⟩) (l.length - k) (tc - k)) (l.drop k) := by
  obtain ⟨_, _, e, h1, h2, h3⟩ := h
  injection e with e1 e2 e3
  have hl2 : (l.drop k).length = l.length - k := List.length_drop ..
  refine ⟨_, tc - k, by rw [hl2], by omega, by omega, ?_⟩
  rcases h3 with h3 | ⟨g2, o2, e4, hg2, hr⟩
  · exact absurd h3 hg
  · right
    rw [← e1] at e4
    injection e4 with e4
    injection e4 with e5 e6
    subst e5
    subst e6
    refine ⟨g, o + k * 4, rfl, hg2, rdRow_of fun i y hy => ?_⟩
    rw [List.getElem?_drop] at hy
    have := rdRow_get hr hy
    rwa [show o + (k + i) * 4 = o + k * 4 + i * 4 by omega] at this

set_option maxHeartbeats 8000000 in
set_option maxRecDepth 1000000 in
theorem showparts_walk (ao : Option Addr) (cap : Nat) (zs : List Int) (cut : Int) (w : World) (hcap : zs.length ≤ cap) (hcm : cap ≤ maxLen) (hR : Rd w w.heap.size ao zs) :
    Calls Try.prog 8 #[.slice ao zs.length cap, .int .i64 cut] w fun e w' => e = .returned (.bool true) ∧ Below w.heap.size w w' := by
  have HMK := Lib.hid (make_nodes _ zs (Nat.le_refl _) 3 6 w.heap.size (by decide) (by decide) (by decide) ao cap w (Nat.le_refl _) hR hcap hcm)
  clear hR
  go_enter Try.func8, Try.ntmps8
  go_wp2_with fail
  refine HMK.out.mono ?_
  rintro e w1 ⟨nv, ro, rc, rs, t, rfl, _, _, _, _, hN, hM, hb1⟩
  have hT : RdNs w1 (· < w1.heap.size) nv t := hN.keep (fun _ _ => rfl) (fun b hb => hb.elim (fun h => absurd h (Nat.not_lt_zero _)) fun h => h.2)
  obtain ⟨ta, tc, rfl, htc, htm, -⟩ := id hT
  have hl6 := hM.len
  have hcnt := hM.cnt
  have hc126 : U.cntL t ≤ 126 := by
    have h1 : U.room 3 = 21 := rfl
    rw [h1] at hcnt
    have : t.length * 21 ≤ 6 * 21 := Nat.mul_le_mul_right _ hl6
    omega
  have h0 := hM.ok 0 (by decide)
  have h1 := hM.ok 1 (by decide)
  obtain ⟨k, hk, ek⟩ : ∃ k : Nat, k < t.length + 1 ∧ cut % ((t.length : Int) + 1) = (k : Int) := ⟨(cut % ((t.length : Int) + 1)).toNat, by
    have := Int.emod_nonneg cut (b := (t.length : Int) + 1) (by omega)
    have := Int.emod_lt_of_pos cut (b := (t.length : Int) + 1) (by omega)
    omega, by
    have := Int.emod_nonneg cut (b := (t.length : Int) + 1) (by omega)
    omega⟩
  have hpk := fun W => picked_walk cut ((t.length : Int) + 1) W (by omega) (by omega)
  rw [ek] at hpk
  have HPK := Lib.hid hpk
  have HT := Lib.hid hT
  obtain ⟨s0, s1⟩ := U.ok_text h0 (by omega)
  obtain ⟨e0, e1⟩ := U.ok_text (U.em_fault h1) (by rw [U.cntL_cons, U.cntN_eq, U.cntL_nil]; show 1 + U.cntL t + 0 ≤ 150; omega)
  obtain ⟨_, a1⟩ := U.ok_text (U.lFault_take t k false h0) (by have := U.cnt_split t k; omega)
  obtain ⟨_, b1⟩ := U.ok_text (U.lFault_drop t k false h0) (by have := U.cnt_split t k; omega)
  have hsp := U.shown_split t k
  rw [U.shown_em] at e1
  clear HMK hN hM hT hcnt h0 h1 hpk ek e0
  go_wp2_with fail
  refine (HPK.out _).mono ?_
  rintro e w' ⟨rfl, rfl⟩
  clear HPK
  obtain ⟨SS, hSS⟩ : ∃ X, U.showText t = X := ⟨_, rfl⟩
  obtain ⟨AA, hAA⟩ : ∃ X, U.showText (t.take k) = X := ⟨_, rfl⟩
  obtain ⟨BB, hBB⟩ : ∃ X, U.showText (t.drop k) = X := ⟨_, rfl⟩
  obtain ⟨EE, hEE⟩ : ∃ X, U.showText [.mk [101, 109] [] [] t] = X := ⟨_, rfl⟩
  rw [hSS] at s1
  rw [hAA] at a1
  rw [hBB] at b1
  rw [hEE] at e1
  have HF := Lib.hid (And.intro s1 (And.intro a1 (And.intro b1 (And.intro e1 hsp))))
  obtain ⟨S1, S2⟩ := SS
  obtain ⟨A1, A2⟩ := AA
  obtain ⟨B1, B2⟩ := BB
  obtain ⟨E1, E2⟩ := EE
  have HSS := Lib.hid hSS
  have HAA := Lib.hid hAA
  have HBB := Lib.hid hBB
  have HEE := Lib.hid hEE
  have hkt : (k : Int) ≤ (t.length : Int) := by omega
  have hk0 : (0 : Int) ≤ (k : Int) := Int.natCast_nonneg _
  have hktc : (k : Int) ≤ (tc : Int) := by omega
  clear s1 a1 b1 e1 hsp hSS hAA hBB hEE
  cases t with
  | nil =>
    obtain rfl : k = 0 := by simp at hk; omega
    have HS0 := Lib.hid (And.intro HSS.out (And.intro HAA.out HBB.out))
    simp only [List.take_nil, List.drop_nil, List.length_nil] at *
    cases ta with
    | none =>
      obtain ⟨ca, cc, w2, r2, n2, b2⟩ := copy_nodes w1 none tc [] HT.out (by simp)
      have hx := show_text _ [] w2 n2 (by rw [U.cntL_nil]; omega)
      rw [HSS.out] at hx
      have HX := Lib.hid hx
      have t2 := hb1.trans (b2.mono hb1.size)
      have HT2 := Lib.hid (HT.out.below b2 b2.size)
      clear hx n2 b2
      go_wp2_with (at_builtin; refine wpList_append_by rfl _ _ 33 rfl _ _ rfl rfl r2 ?_)
      clear r2
      go_wp2_with fail
      refine HX.out.mono ?_
      rintro e w3 ⟨rfl, b3⟩
      have t3 := t2.trans (b3.mono t2.size)
      have HT3 := Lib.hid (HT2.out.below b3 b3.size)
      clear HX HT2 b3 t2
      obtain ⟨ca4, cc4, w4, r4, n4, b4⟩ := copy_nodes w3 none tc [] HT3.out (by simp)
      have hx := show_text _ ([] : List U.Nd) w4 n4 (by rw [U.cntL_nil]; omega)
      rw [HAA.out] at hx
      have HX := Lib.hid hx
      have t4 := t3.trans (b4.mono t3.size)
      have HT4 := Lib.hid (HT3.out.below b4 b4.size)
      clear hx n4 b4 t3 HT3
      go_wp2_with (at_builtin; refine wpList_append_by rfl _ _ 33 rfl _ _ rfl rfl r4 ?_)
      clear r4
      go_wp2_with fail
      refine HX.out.mono ?_
      rintro e w5 ⟨rfl, b5⟩
      have t5 := t4.trans (b5.mono t4.size)
      have HT5 := Lib.hid (HT4.out.below b5 b5.size)
      clear HX HT4 b5 t4
      obtain ⟨ca6, cc6, w6, r6, n6, b6⟩ := copy_nodes w5 none tc [] HT5.out (by simp)
      have hx := show_text _ ([] : List U.Nd) w6 n6 (by rw [U.cntL_nil]; omega)
      rw [HBB.out] at hx
      have HX := Lib.hid hx
      have t6 := t5.trans (b6.mono t5.size)
      have HT6 := Lib.hid (HT5.out.below b6 b6.size)
      clear hx n6 b6 t5 HT5
      go_wp2_with (at_builtin; refine wpList_append_by rfl _ _ 33 rfl _ _ rfl rfl r6 ?_)
      clear r6
      go_wp2_with fail
      refine HX.out.mono ?_
      rintro e w7 ⟨rfl, b7⟩
      have t7 := t6.trans (b7.mono t6.size)
      have HT7 := Lib.hid (HT6.out.below b7 b7.size)
      clear HX HT6 b7 t6
      obtain ⟨ca8, cc8, w8, r8, n8, b8⟩ := copy_nodes w7 none tc [] HT7.out (by simp)
      have t8 := t7.trans (b8.mono t7.size)
      go_wp2_with (at_builtin; refine wpList_append_by rfl _ _ 33 rfl _ _ rfl rfl r8 ?_)
      clear r8
      go_wp2_with fail
      have hE9 : RdNs (w8.alloc (.cells #[.string ⟨#[101, 109]⟩, .slice none 0 0, .string ⟨#[]⟩, .slice ca8 0 cc8] 45 (0, 0))) (· < (w8.alloc (.cells #[.string ⟨#[101, 109]⟩, .slice none 0 0, .string ⟨#[]⟩, .slice ca8 0 cc8] 45 (0, 0))).heap.size) (.slice (some ⟨w8.heap.size, 0, none⟩) 1 1) [.mk [101, 109] [] [] []] :=
        one_nd (n := (.mk [101, 109] [] [] [])) (heap_alloc_new w8 _) (RdAS.nil _ _) (n8.below ((Below.refl _ w8).alloc (Nat.le_refl _) _) (by simp))
      have hx := show_text _ _ _ hE9 (by rw [U.cntL_cons, U.cntN_eq, U.cntL_nil]; show 1 + U.cntL [] + 0 ≤ _; rw [U.cntL_nil]; omega)
      rw [HEE.out] at hx
      have HX := Lib.hid hx
      have t9 := t8.alloc t8.size (.cells #[.string ⟨#[101, 109]⟩, .slice none 0 0, .string ⟨#[]⟩, .slice ca8 0 cc8] 45 (0, 0))
      have hbA := (Below.refl w8.heap.size w8).alloc (Nat.le_refl _) (.cells #[.string ⟨#[101, 109]⟩, .slice none 0 0, .string ⟨#[]⟩, .slice ca8 0 cc8] 45 (0, 0))
      have HT8 := Lib.hid ((HT7.out.below b8 b8.size).below hbA hbA.size)
      clear hx hE9 n8 b8 t7 HT7 t8 hbA
      refine HX.out.mono ?_
      rintro e w10 ⟨rfl, b10⟩
      have t10 := t9.trans (b10.mono t9.size)
      have HT10 := Lib.hid (HT8.out.below b10 b10.size)
      clear HX HT8 b10 t9
      go_wp2_with fail
      have hE11 : RdNs (w10.alloc (.cells #[.string ⟨#[98, 114]⟩, .slice none 0 0, .string ⟨#[]⟩, .slice none 0 0] 45 (0, 0))) (· < (w10.alloc (.cells #[.string ⟨#[98, 114]⟩, .slice none 0 0, .string ⟨#[]⟩, .slice none 0 0] 45 (0, 0))).heap.size) (.slice (some ⟨w10.heap.size, 0, none⟩) 1 1) [.mk [98, 114] [] [] []] :=
        one_nd (n := .mk [98, 114] [] [] []) (heap_alloc_new w10 _) (RdAS.nil _ _) (RdNs.nil _ _)
      have hx := show_text _ _ _ hE11 (by rw [U.cntL_cons, U.cntN_eq, U.cntL_nil]; show 1 + U.cntL [] + 0 ≤ _; rw [U.cntL_nil]; decide)
      rw [U.br_text] at hx
      have HX := Lib.hid hx
      have t11 := t10.alloc t10.size (.cells #[.string ⟨#[98, 114]⟩, .slice none 0 0, .string ⟨#[]⟩, .slice none 0 0] 45 (0, 0))
      have hbB := (Below.refl w10.heap.size w10).alloc (Nat.le_refl _) (.cells #[.string ⟨#[98, 114]⟩, .slice none 0 0, .string ⟨#[]⟩, .slice none 0 0] 45 (0, 0))
      have HT11 := Lib.hid (HT10.out.below hbB hbB.size)
      clear hx hE11 t10 HT10 hbB
      refine HX.out.mono ?_
      rintro e w12 ⟨rfl, b12⟩
      have t12 := t11.trans (b12.mono t11.size)
      have hck := show_check _ [] w12 (HT11.out.below b12 b12.size) (by rw [U.cntL_nil]; omega)
      rw [s0] at hck
      have HCK := Lib.hid hck
      clear HX HT11 b12 t11 hck
      obtain ⟨f1, f2, f3, f4, f5⟩ := HF.out
      clear HF HSS HAA HBB HEE HT
      by_cases hS6 : 600 < (U.shown []).length
      · rw [if_pos hS6] at f1
        injection f1 with g1 g2
        subst g1
        subst g2
        clear f2 f3 f4 f5 hS6
        go_wp2_with fail
        refine HCK.out.mono ?_
        rintro e w13 ⟨rfl, b13⟩
        clear HCK
        go_wp2_with fail
        go_ret
        exact ⟨by simp, t12.trans (b13.mono t12.size)⟩
      · rw [if_neg hS6] at f1
        injection f1 with g1 g2
        subst g1
        subst g2
        by_cases hE6 : 600 < ([60, 101, 109, 62] ++ U.shown [] ++ [60, 47, 101, 109, 62]).length
        · rw [if_pos hE6] at f4
          injection f4 with g1 g2
          subst g1
          subst g2
          clear f2 f3 f5 hS6 hE6
          go_wp2_with fail
          refine HCK.out.mono ?_
          rintro e w13 ⟨rfl, b13⟩
          clear HCK
          go_wp2_with fail
          go_ret
          exact ⟨by simp, t12.trans (b13.mono t12.size)⟩
        · rw [if_neg hE6] at f4
          have hl := congrArg List.length f5
          rw [List.length_append] at hl
          rw [if_neg (by omega)] at f2 f3
          injection f2 with g1 g2
          injection f3 with g3 g4
          injection f4 with g5 g6
          subst g1
          subst g2
          subst g3
          subst g4
          subst g5
          subst g6
          have hsn : U.shown [] = [] := by unfold U.shown; rw [U.lToks_nil]; rfl
          rw [hsn] at *
          clear HCK hS6 hE6 hl f5
          have hz1 : (ByteArray.mk #[] ++ ByteArray.mk #[]).toList = [] := by rw [Lib.toList_data]; simp
          have hz2 : (ByteArray.mk #[60, 101, 109, 62] ++ ByteArray.mk #[] ++ ByteArray.mk #[60, 47, 101, 109, 62]).toList = [60, 101, 109, 62, 60, 47, 101, 109, 62] := by rw [Lib.toList_data]; simp
          go_wp2_with fail
          go_ret
          exact ⟨by simp, t12⟩

    | some ad =>
      obtain ⟨ca, cc, w2, r2, n2, b2⟩ := copy_nodes w1 (some ad) tc [] HT.out (by simp)
      have hx := show_text _ [] w2 n2 (by rw [U.cntL_nil]; omega)
      rw [HSS.out] at hx
      have HX := Lib.hid hx
      have t2 := hb1.trans (b2.mono hb1.size)
      have HT2 := Lib.hid (HT.out.below b2 b2.size)
      clear hx n2 b2
      go_wp2_with (at_builtin; refine wpList_append_by rfl _ _ 33 rfl _ _ rfl rfl r2 ?_)
      clear r2
      go_wp2_with fail
      refine HX.out.mono ?_
      rintro e w3 ⟨rfl, b3⟩
      have t3 := t2.trans (b3.mono t2.size)
      have HT3 := Lib.hid (HT2.out.below b3 b3.size)
      clear HX HT2 b3 t2
      obtain ⟨ca4, cc4, w4, r4, n4, b4⟩ := copy_nodes w3 (some ad) tc [] HT3.out (by simp)
      have hx := show_text _ ([] : List U.Nd) w4 n4 (by rw [U.cntL_nil]; omega)
      rw [HAA.out] at hx
      have HX := Lib.hid hx
      have t4 := t3.trans (b4.mono t3.size)
      have HT4 := Lib.hid (HT3.out.below b4 b4.size)
      clear hx n4 b4 t3 HT3
      go_wp2_with (at_builtin; refine wpList_append_by rfl _ _ 33 rfl _ _ rfl rfl r4 ?_)
      clear r4
      go_wp2_with fail
      refine HX.out.mono ?_
      rintro e w5 ⟨rfl, b5⟩
      have t5 := t4.trans (b5.mono t4.size)
      have HT5 := Lib.hid (HT4.out.below b5 b5.size)
      clear HX HT4 b5 t4
      obtain ⟨ca6, cc6, w6, r6, n6, b6⟩ := copy_nodes w5 (some ad) tc [] HT5.out (by simp)
      have hx := show_text _ ([] : List U.Nd) w6 n6 (by rw [U.cntL_nil]; omega)
      rw [HBB.out] at hx
      have HX := Lib.hid hx
      have t6 := t5.trans (b6.mono t5.size)
      have HT6 := Lib.hid (HT5.out.below b6 b6.size)
      clear hx n6 b6 t5 HT5
      go_wp2_with (at_builtin; refine wpList_append_by rfl _ _ 33 rfl _ _ rfl rfl r6 ?_)
      clear r6
      go_wp2_with fail
      refine HX.out.mono ?_
      rintro e w7 ⟨rfl, b7⟩
      have t7 := t6.trans (b7.mono t6.size)
      have HT7 := Lib.hid (HT6.out.below b7 b7.size)
      clear HX HT6 b7 t6
      obtain ⟨ca8, cc8, w8, r8, n8, b8⟩ := copy_nodes w7 (some ad) tc [] HT7.out (by simp)
      have t8 := t7.trans (b8.mono t7.size)
      go_wp2_with (at_builtin; refine wpList_append_by rfl _ _ 33 rfl _ _ rfl rfl r8 ?_)
      clear r8
      go_wp2_with fail
      have hE9 : RdNs (w8.alloc (.cells #[.string ⟨#[101, 109]⟩, .slice none 0 0, .string ⟨#[]⟩, .slice ca8 0 cc8] 45 (0, 0))) (· < (w8.alloc (.cells #[.string ⟨#[101, 109]⟩, .slice none 0 0, .string ⟨#[]⟩, .slice ca8 0 cc8] 45 (0, 0))).heap.size) (.slice (some ⟨w8.heap.size, 0, none⟩) 1 1) [.mk [101, 109] [] [] []] :=
        one_nd (n := (.mk [101, 109] [] [] [])) (heap_alloc_new w8 _) (RdAS.nil _ _) (n8.below ((Below.refl _ w8).alloc (Nat.le_refl _) _) (by simp))
      have hx := show_text _ _ _ hE9 (by rw [U.cntL_cons, U.cntN_eq, U.cntL_nil]; show 1 + U.cntL [] + 0 ≤ _; rw [U.cntL_nil]; omega)
      rw [HEE.out] at hx
      have HX := Lib.hid hx
      have t9 := t8.alloc t8.size (.cells #[.string ⟨#[101, 109]⟩, .slice none 0 0, .string ⟨#[]⟩, .slice ca8 0 cc8] 45 (0, 0))
      have hbA := (Below.refl w8.heap.size w8).alloc (Nat.le_refl _) (.cells #[.string ⟨#[101, 109]⟩, .slice none 0 0, .string ⟨#[]⟩, .slice ca8 0 cc8] 45 (0, 0))
      have HT8 := Lib.hid ((HT7.out.below b8 b8.size).below hbA hbA.size)
      clear hx hE9 n8 b8 t7 HT7 t8 hbA
      refine HX.out.mono ?_
      rintro e w10 ⟨rfl, b10⟩
      have t10 := t9.trans (b10.mono t9.size)
      have HT10 := Lib.hid (HT8.out.below b10 b10.size)
      clear HX HT8 b10 t9
      go_wp2_with fail
      have hE11 : RdNs (w10.alloc (.cells #[.string ⟨#[98, 114]⟩, .slice none 0 0, .string ⟨#[]⟩, .slice none 0 0] 45 (0, 0))) (· < (w10.alloc (.cells #[.string ⟨#[98, 114]⟩, .slice none 0 0, .string ⟨#[]⟩, .slice none 0 0] 45 (0, 0))).heap.size) (.slice (some ⟨w10.heap.size, 0, none⟩) 1 1) [.mk [98, 114] [] [] []] :=
        one_nd (n := .mk [98, 114] [] [] []) (heap_alloc_new w10 _) (RdAS.nil _ _) (RdNs.nil _ _)
      have hx := show_text _ _ _ hE11 (by rw [U.cntL_cons, U.cntN_eq, U.cntL_nil]; show 1 + U.cntL [] + 0 ≤ _; rw [U.cntL_nil]; decide)
      rw [U.br_text] at hx
      have HX := Lib.hid hx
      have t11 := t10.alloc t10.size (.cells #[.string ⟨#[98, 114]⟩, .slice none 0 0, .string ⟨#[]⟩, .slice none 0 0] 45 (0, 0))
      have hbB := (Below.refl w10.heap.size w10).alloc (Nat.le_refl _) (.cells #[.string ⟨#[98, 114]⟩, .slice none 0 0, .string ⟨#[]⟩, .slice none 0 0] 45 (0, 0))
      have HT11 := Lib.hid (HT10.out.below hbB hbB.size)
      clear hx hE11 t10 HT10 hbB
      refine HX.out.mono ?_
      rintro e w12 ⟨rfl, b12⟩
      have t12 := t11.trans (b12.mono t11.size)
      have hck := show_check _ [] w12 (HT11.out.below b12 b12.size) (by rw [U.cntL_nil]; omega)
      rw [s0] at hck
      have HCK := Lib.hid hck
      clear HX HT11 b12 t11 hck
      obtain ⟨f1, f2, f3, f4, f5⟩ := HF.out
      clear HF HSS HAA HBB HEE HT
      by_cases hS6 : 600 < (U.shown []).length
      · rw [if_pos hS6] at f1
        injection f1 with g1 g2
        subst g1
        subst g2
        clear f2 f3 f4 f5 hS6
        go_wp2_with fail
        refine HCK.out.mono ?_
        rintro e w13 ⟨rfl, b13⟩
        clear HCK
        go_wp2_with fail
        go_ret
        exact ⟨by simp, t12.trans (b13.mono t12.size)⟩
      · rw [if_neg hS6] at f1
        injection f1 with g1 g2
        subst g1
        subst g2
        by_cases hE6 : 600 < ([60, 101, 109, 62] ++ U.shown [] ++ [60, 47, 101, 109, 62]).length
        · rw [if_pos hE6] at f4
          injection f4 with g1 g2
          subst g1
          subst g2
          clear f2 f3 f5 hS6 hE6
          go_wp2_with fail
          refine HCK.out.mono ?_
          rintro e w13 ⟨rfl, b13⟩
          clear HCK
          go_wp2_with fail
          go_ret
          exact ⟨by simp, t12.trans (b13.mono t12.size)⟩
        · rw [if_neg hE6] at f4
          have hl := congrArg List.length f5
          rw [List.length_append] at hl
          rw [if_neg (by omega)] at f2 f3
          injection f2 with g1 g2
          injection f3 with g3 g4
          injection f4 with g5 g6
          subst g1
          subst g2
          subst g3
          subst g4
          subst g5
          subst g6
          have hsn : U.shown [] = [] := by unfold U.shown; rw [U.lToks_nil]; rfl
          rw [hsn] at *
          clear HCK hS6 hE6 hl f5
          have hz1 : (ByteArray.mk #[] ++ ByteArray.mk #[]).toList = [] := by rw [Lib.toList_data]; simp
          have hz2 : (ByteArray.mk #[60, 101, 109, 62] ++ ByteArray.mk #[] ++ ByteArray.mk #[60, 47, 101, 109, 62]).toList = [60, 101, 109, 62, 60, 47, 101, 109, 62] := by rw [Lib.toList_data]; simp
          go_wp2_with fail
          go_ret
          exact ⟨by simp, t12⟩

  | cons x0 r0 =>
    obtain ⟨g, o, cap2, e0, hg, _⟩ := HT.out.get (i := 0) (n := x0) rfl
    injection e0 with e1 _ e3
    subst e1
    subst e3
    generalize ht0 : x0 :: r0 = t at *
    have hne : t ≠ [] := by rw [← ht0]; simp
    clear ht0
    by_cases hkc : k = tc
    · have hdn : t.drop k = [] := List.drop_eq_nil_of_le (by omega)
      have HKC := Lib.hid hkc
      have HDN := Lib.hid hdn
      clear hkc hdn
      obtain ⟨ca, cc, w2, r2, n2, b2⟩ := copy_nodes w1 (some ⟨g, o, none⟩) tc t HT.out (by omega)
      have hx := show_text _ t w2 n2 (by omega)
      rw [HSS.out] at hx
      have HX := Lib.hid hx
      have t2 := hb1.trans (b2.mono hb1.size)
      have HT2 := Lib.hid (HT.out.below b2 b2.size)
      clear hx n2 b2
      go_wp2_with (at_builtin; refine wpList_append_by rfl _ _ 33 rfl _ _ rfl rfl r2 ?_)
      clear r2
      go_wp2_with fail
      refine HX.out.mono ?_
      rintro e w3 ⟨rfl, b3⟩
      have t3 := t2.trans (b3.mono t2.size)
      have HT3 := Lib.hid (HT2.out.below b3 b3.size)
      clear HX HT2 b3 t2
      have hk4 : (t.take k).length = k := by rw [List.length_take]; omega
      obtain ⟨ca4, cc4, w4, r4, n4, b4⟩ := copy_nodes w3 (some ⟨g, o, none⟩) tc (t.take k) (by rw [hk4]; exact HT3.out.takeS k (by omega)) (by omega)
      rw [hk4] at r4 n4
      have hx := show_text _ (t.take k) w4 n4 (by have := U.cnt_split t k; omega)
      rw [HAA.out] at hx
      have HX := Lib.hid hx
      have t4 := t3.trans (b4.mono t3.size)
      have HT4 := Lib.hid (HT3.out.below b4 b4.size)
      clear hx n4 b4 t3 HT3 hk4
      go_wp2_with (at_builtin; refine wpList_append_by rfl _ _ 33 rfl _ _ rfl rfl r4 ?_)
      clear r4
      go_wp2_with fail
      refine HX.out.mono ?_
      rintro e w5 ⟨rfl, b5⟩
      have t5 := t4.trans (b5.mono t4.size)
      have HT5 := Lib.hid (HT4.out.below b5 b5.size)
      clear HX HT4 b5 t4
      have hdn := HDN.out
      have hkc := HKC.out
      subst hkc
      have hk5 : (t.drop k).length = 0 := by rw [hdn]; rfl
      obtain ⟨ca6, cc6, w6, r6, n6, b6⟩ := copy_nodes w5 (some ⟨g, o, none⟩) 0 (t.drop k) (by rw [hk5, hdn]; exact ⟨_, 0, rfl, Nat.le_refl _, Nat.zero_le _, .inl rfl⟩) (by omega)
      rw [hk5] at r6 n6
      have hx := show_text _ (t.drop k) w6 n6 (by have := U.cnt_split t k; omega)
      rw [HBB.out] at hx
      have HX := Lib.hid hx
      have t6 := t5.trans (b6.mono t5.size)
      have HT6 := Lib.hid (HT5.out.below b6 b6.size)
      clear hx n6 b6 t5 HT5 hk5
      go_wp2_with (at_builtin; refine wpList_append_by rfl _ _ 33 rfl _ _ rfl rfl r6 ?_)
      clear r6
      go_wp2_with fail
      refine HX.out.mono ?_
      rintro e w7 ⟨rfl, b7⟩
      have t7 := t6.trans (b7.mono t6.size)
      have HT7 := Lib.hid (HT6.out.below b7 b7.size)
      clear HX HT6 b7 t6
      obtain ⟨ca8, cc8, w8, r8, n8, b8⟩ := copy_nodes w7 (some ⟨g, o, none⟩) _ t HT7.out (by omega)
      have t8 := t7.trans (b8.mono t7.size)
      go_wp2_with (at_builtin; refine wpList_append_by rfl _ _ 33 rfl _ _ rfl rfl r8 ?_)
      clear r8
      go_wp2_with fail
      have hE9 : RdNs (w8.alloc (.cells #[.string ⟨#[101, 109]⟩, .slice none 0 0, .string ⟨#[]⟩, .slice ca8 t.length cc8] 45 (0, 0))) (· < (w8.alloc (.cells #[.string ⟨#[101, 109]⟩, .slice none 0 0, .string ⟨#[]⟩, .slice ca8 t.length cc8] 45 (0, 0))).heap.size) (.slice (some ⟨w8.heap.size, 0, none⟩) 1 1) [.mk [101, 109] [] [] t] :=
        one_nd (n := .mk [101, 109] [] [] t) (heap_alloc_new w8 _) (RdAS.nil _ _) (n8.below ((Below.refl _ w8).alloc (Nat.le_refl _) _) (by simp))
      have hx := show_text _ _ _ hE9 (by rw [U.cntL_cons, U.cntN_eq, U.cntL_nil]; show 1 + U.cntL t + 0 ≤ _; omega)
      rw [HEE.out] at hx
      have HX := Lib.hid hx
      have t9 := t8.alloc t8.size (.cells #[.string ⟨#[101, 109]⟩, .slice none 0 0, .string ⟨#[]⟩, .slice ca8 t.length cc8] 45 (0, 0))
      have hbA := (Below.refl w8.heap.size w8).alloc (Nat.le_refl _) (.cells #[.string ⟨#[101, 109]⟩, .slice none 0 0, .string ⟨#[]⟩, .slice ca8 t.length cc8] 45 (0, 0))
      have HT8 := Lib.hid ((HT7.out.below b8 b8.size).below hbA hbA.size)
      clear hx hE9 n8 b8 t7 HT7 t8 hbA
      refine HX.out.mono ?_
      rintro e w10 ⟨rfl, b10⟩
      have t10 := t9.trans (b10.mono t9.size)
      have HT10 := Lib.hid (HT8.out.below b10 b10.size)
      clear HX HT8 b10 t9
      go_wp2_with fail
      have hE11 : RdNs (w10.alloc (.cells #[.string ⟨#[98, 114]⟩, .slice none 0 0, .string ⟨#[]⟩, .slice none 0 0] 45 (0, 0))) (· < (w10.alloc (.cells #[.string ⟨#[98, 114]⟩, .slice none 0 0, .string ⟨#[]⟩, .slice none 0 0] 45 (0, 0))).heap.size) (.slice (some ⟨w10.heap.size, 0, none⟩) 1 1) [.mk [98, 114] [] [] []] :=
        one_nd (n := .mk [98, 114] [] [] []) (heap_alloc_new w10 _) (RdAS.nil _ _) (RdNs.nil _ _)
      have hx := show_text _ _ _ hE11 (by rw [U.cntL_cons, U.cntN_eq, U.cntL_nil]; show 1 + U.cntL [] + 0 ≤ _; rw [U.cntL_nil]; decide)
      rw [U.br_text] at hx
      have HX := Lib.hid hx
      have t11 := t10.alloc t10.size (.cells #[.string ⟨#[98, 114]⟩, .slice none 0 0, .string ⟨#[]⟩, .slice none 0 0] 45 (0, 0))
      have hbB := (Below.refl w10.heap.size w10).alloc (Nat.le_refl _) (.cells #[.string ⟨#[98, 114]⟩, .slice none 0 0, .string ⟨#[]⟩, .slice none 0 0] 45 (0, 0))
      have HT11 := Lib.hid (HT10.out.below hbB hbB.size)
      clear hx hE11 t10 HT10 hbB
      refine HX.out.mono ?_
      rintro e w12 ⟨rfl, b12⟩
      have t12 := t11.trans (b12.mono t11.size)
      have hck := show_check _ t w12 (HT11.out.below b12 b12.size) (by omega)
      rw [s0] at hck
      have HCK := Lib.hid hck
      clear HX HT11 b12 t11 hck
      obtain ⟨f1, f2, f3, f4, f5⟩ := HF.out
      clear HF HSS HAA HBB HEE hdn HDN HKC hktc hkt hk0 hk hne hg HT
      by_cases hS6 : 600 < (U.shown t).length
      · rw [if_pos hS6] at f1
        injection f1 with g1 g2
        subst g1
        subst g2
        clear f2 f3 f4 f5 hS6
        go_wp2_with fail
        refine HCK.out.mono ?_
        rintro e w13 ⟨rfl, b13⟩
        clear HCK
        go_wp2_with fail
        go_ret
        exact ⟨by simp, t12.trans (b13.mono t12.size)⟩
      · rw [if_neg hS6] at f1
        injection f1 with g1 g2
        subst g1
        subst g2
        by_cases hE6 : 600 < ([60, 101, 109, 62] ++ U.shown t ++ [60, 47, 101, 109, 62]).length
        · rw [if_pos hE6] at f4
          injection f4 with g1 g2
          subst g1
          subst g2
          clear f2 f3 f5 hS6 hE6
          go_wp2_with fail
          refine HCK.out.mono ?_
          rintro e w13 ⟨rfl, b13⟩
          clear HCK
          go_wp2_with fail
          go_ret
          exact ⟨by simp, t12.trans (b13.mono t12.size)⟩
        · rw [if_neg hE6] at f4
          have hl := congrArg List.length f5
          rw [List.length_append] at hl
          rw [if_neg (by omega)] at f2 f3
          injection f2 with g1 g2
          injection f3 with g3 g4
          injection f4 with g5 g6
          subst g1
          subst g2
          subst g3
          subst g4
          subst g5
          subst g6
          have q3 : ¬ 9223372036854775807 < (U.shown (t.take k)).length + (U.shown (t.drop k)).length := by omega
          have q4 : ¬ 9223372036854775807 < 4 + ((U.shown (t.take k)).length + (U.shown (t.drop k)).length) := by omega
          have q5 : ¬ 9223372036854775807 < 4 + ((U.shown (t.take k)).length + (U.shown (t.drop k)).length) + 5 := by omega
          have q6 : ¬ 9223372036854775807 < (U.shown (t.take k)).length + (U.shown (t.drop k)).length + 4 := by omega
          clear HCK hS6 hE6 hl
          generalize U.shown (t.take k) = P at *
          generalize U.shown (t.drop k) = Q at *
          generalize U.shown t = X at *
          subst f5
          have hL : (ByteArray.mk P.toArray ++ ByteArray.mk Q.toArray).toList = P ++ Q := by rw [Lib.toList_data]; simp
          go_wp2_with fail
          go_ret
          refine ⟨?_, t12⟩
          show Ending.returned (Value.bool _) = _
          rw [Lib.toList_data]
          simp
    · have hkc2 : ¬ (k : Int) = (tc : Int) := by omega
      obtain ⟨ca, cc, w2, r2, n2, b2⟩ := copy_nodes w1 (some ⟨g, o, none⟩) tc t HT.out (by omega)
      have hx := show_text _ t w2 n2 (by omega)
      rw [HSS.out] at hx
      have HX := Lib.hid hx
      have t2 := hb1.trans (b2.mono hb1.size)
      have HT2 := Lib.hid (HT.out.below b2 b2.size)
      clear hx n2 b2
      go_wp2_with (at_builtin; refine wpList_append_by rfl _ _ 33 rfl _ _ rfl rfl r2 ?_)
      clear r2
      go_wp2_with fail
      refine HX.out.mono ?_
      rintro e w3 ⟨rfl, b3⟩
      have t3 := t2.trans (b3.mono t2.size)
      have HT3 := Lib.hid (HT2.out.below b3 b3.size)
      clear HX HT2 b3 t2
      have hk4 : (t.take k).length = k := by rw [List.length_take]; omega
      obtain ⟨ca4, cc4, w4, r4, n4, b4⟩ := copy_nodes w3 (some ⟨g, o, none⟩) tc (t.take k) (by rw [hk4]; exact HT3.out.takeS k (by omega)) (by omega)
      rw [hk4] at r4 n4
      have hx := show_text _ (t.take k) w4 n4 (by have := U.cnt_split t k; omega)
      rw [HAA.out] at hx
      have HX := Lib.hid hx
      have t4 := t3.trans (b4.mono t3.size)
      have HT4 := Lib.hid (HT3.out.below b4 b4.size)
      clear hx n4 b4 t3 HT3 hk4
      go_wp2_with (at_builtin; refine wpList_append_by rfl _ _ 33 rfl _ _ rfl rfl r4 ?_)
      clear r4
      go_wp2_with fail
      refine HX.out.mono ?_
      rintro e w5 ⟨rfl, b5⟩
      have t5 := t4.trans (b5.mono t4.size)
      have HT5 := Lib.hid (HT4.out.below b5 b5.size)
      clear HX HT4 b5 t4
      have hk5 : (t.drop k).length = t.length - k := List.length_drop ..
      obtain ⟨ca6, cc6, w6, r6, n6, b6⟩ := copy_nodes w5 (some ⟨g, o + k * 4, none⟩) (tc - k) (t.drop k) (by rw [hk5]; exact HT5.out.dropS k (by omega) hne) (by omega)
      rw [hk5] at r6 n6
      have hx := show_text _ (t.drop k) w6 n6 (by have := U.cnt_split t k; omega)
      rw [HBB.out] at hx
      have HX := Lib.hid hx
      have t6 := t5.trans (b6.mono t5.size)
      have HT6 := Lib.hid (HT5.out.below b6 b6.size)
      clear hx n6 b6 t5 HT5 hk5
      go_wp2_with (at_builtin; refine wpList_append_by rfl _ _ 33 rfl _ _ rfl rfl r6 ?_)
      clear r6
      go_wp2_with fail
      refine HX.out.mono ?_
      rintro e w7 ⟨rfl, b7⟩
      have t7 := t6.trans (b7.mono t6.size)
      have HT7 := Lib.hid (HT6.out.below b7 b7.size)
      clear HX HT6 b7 t6
      obtain ⟨ca8, cc8, w8, r8, n8, b8⟩ := copy_nodes w7 (some ⟨g, o, none⟩) _ t HT7.out (by omega)
      have t8 := t7.trans (b8.mono t7.size)
      go_wp2_with (at_builtin; refine wpList_append_by rfl _ _ 33 rfl _ _ rfl rfl r8 ?_)
      clear r8
      go_wp2_with fail
      have hE9 : RdNs (w8.alloc (.cells #[.string ⟨#[101, 109]⟩, .slice none 0 0, .string ⟨#[]⟩, .slice ca8 t.length cc8] 45 (0, 0))) (· < (w8.alloc (.cells #[.string ⟨#[101, 109]⟩, .slice none 0 0, .string ⟨#[]⟩, .slice ca8 t.length cc8] 45 (0, 0))).heap.size) (.slice (some ⟨w8.heap.size, 0, none⟩) 1 1) [.mk [101, 109] [] [] t] :=
        one_nd (n := .mk [101, 109] [] [] t) (heap_alloc_new w8 _) (RdAS.nil _ _) (n8.below ((Below.refl _ w8).alloc (Nat.le_refl _) _) (by simp))
      have hx := show_text _ _ _ hE9 (by rw [U.cntL_cons, U.cntN_eq, U.cntL_nil]; show 1 + U.cntL t + 0 ≤ _; omega)
      rw [HEE.out] at hx
      have HX := Lib.hid hx
      have t9 := t8.alloc t8.size (.cells #[.string ⟨#[101, 109]⟩, .slice none 0 0, .string ⟨#[]⟩, .slice ca8 t.length cc8] 45 (0, 0))
      have hbA := (Below.refl w8.heap.size w8).alloc (Nat.le_refl _) (.cells #[.string ⟨#[101, 109]⟩, .slice none 0 0, .string ⟨#[]⟩, .slice ca8 t.length cc8] 45 (0, 0))
      have HT8 := Lib.hid ((HT7.out.below b8 b8.size).below hbA hbA.size)
      clear hx hE9 n8 b8 t7 HT7 t8 hbA
      refine HX.out.mono ?_
      rintro e w10 ⟨rfl, b10⟩
      have t10 := t9.trans (b10.mono t9.size)
      have HT10 := Lib.hid (HT8.out.below b10 b10.size)
      clear HX HT8 b10 t9
      go_wp2_with fail
      have hE11 : RdNs (w10.alloc (.cells #[.string ⟨#[98, 114]⟩, .slice none 0 0, .string ⟨#[]⟩, .slice none 0 0] 45 (0, 0))) (· < (w10.alloc (.cells #[.string ⟨#[98, 114]⟩, .slice none 0 0, .string ⟨#[]⟩, .slice none 0 0] 45 (0, 0))).heap.size) (.slice (some ⟨w10.heap.size, 0, none⟩) 1 1) [.mk [98, 114] [] [] []] :=
        one_nd (n := .mk [98, 114] [] [] []) (heap_alloc_new w10 _) (RdAS.nil _ _) (RdNs.nil _ _)
      have hx := show_text _ _ _ hE11 (by rw [U.cntL_cons, U.cntN_eq, U.cntL_nil]; show 1 + U.cntL [] + 0 ≤ _; rw [U.cntL_nil]; decide)
      rw [U.br_text] at hx
      have HX := Lib.hid hx
      have t11 := t10.alloc t10.size (.cells #[.string ⟨#[98, 114]⟩, .slice none 0 0, .string ⟨#[]⟩, .slice none 0 0] 45 (0, 0))
      have hbB := (Below.refl w10.heap.size w10).alloc (Nat.le_refl _) (.cells #[.string ⟨#[98, 114]⟩, .slice none 0 0, .string ⟨#[]⟩, .slice none 0 0] 45 (0, 0))
      have HT11 := Lib.hid (HT10.out.below hbB hbB.size)
      clear hx hE11 t10 HT10 hbB
      refine HX.out.mono ?_
      rintro e w12 ⟨rfl, b12⟩
      have t12 := t11.trans (b12.mono t11.size)
      have hck := show_check _ t w12 (HT11.out.below b12 b12.size) (by omega)
      rw [s0] at hck
      have HCK := Lib.hid hck
      clear HX HT11 b12 t11 hck
      obtain ⟨f1, f2, f3, f4, f5⟩ := HF.out
      clear HF HSS HAA HBB HEE hkc hkc2 hktc hkt hk0 hk hne hg HT
      by_cases hS6 : 600 < (U.shown t).length
      · rw [if_pos hS6] at f1
        injection f1 with g1 g2
        subst g1
        subst g2
        clear f2 f3 f4 f5 hS6
        go_wp2_with fail
        refine HCK.out.mono ?_
        rintro e w13 ⟨rfl, b13⟩
        clear HCK
        go_wp2_with fail
        go_ret
        exact ⟨by simp, t12.trans (b13.mono t12.size)⟩
      · rw [if_neg hS6] at f1
        injection f1 with g1 g2
        subst g1
        subst g2
        by_cases hE6 : 600 < ([60, 101, 109, 62] ++ U.shown t ++ [60, 47, 101, 109, 62]).length
        · rw [if_pos hE6] at f4
          injection f4 with g1 g2
          subst g1
          subst g2
          clear f2 f3 f5 hS6 hE6
          go_wp2_with fail
          refine HCK.out.mono ?_
          rintro e w13 ⟨rfl, b13⟩
          clear HCK
          go_wp2_with fail
          go_ret
          exact ⟨by simp, t12.trans (b13.mono t12.size)⟩
        · rw [if_neg hE6] at f4
          have hl := congrArg List.length f5
          rw [List.length_append] at hl
          rw [if_neg (by omega)] at f2 f3
          injection f2 with g1 g2
          injection f3 with g3 g4
          injection f4 with g5 g6
          subst g1
          subst g2
          subst g3
          subst g4
          subst g5
          subst g6
          have q3 : ¬ 9223372036854775807 < (U.shown (t.take k)).length + (U.shown (t.drop k)).length := by omega
          have q4 : ¬ 9223372036854775807 < 4 + ((U.shown (t.take k)).length + (U.shown (t.drop k)).length) := by omega
          have q5 : ¬ 9223372036854775807 < 4 + ((U.shown (t.take k)).length + (U.shown (t.drop k)).length) + 5 := by omega
          have q6 : ¬ 9223372036854775807 < (U.shown (t.take k)).length + (U.shown (t.drop k)).length + 4 := by omega
          clear HCK hS6 hE6 hl
          generalize U.shown (t.take k) = P at *
          generalize U.shown (t.drop k) = Q at *
          generalize U.shown t = X at *
          subst f5
          have hL : (ByteArray.mk P.toArray ++ ByteArray.mk Q.toArray).toList = P ++ Q := by rw [Lib.toList_data]; simp
          go_wp2_with fail
          go_ret
          refine ⟨?_, t12⟩
          show Ending.returned (Value.bool _) = _
          rw [Lib.toList_data]
          simp

end Go.Proofs.Ytmfkefcdddoooaa

/- Several texts in one: ShowToks, Escape, Write, EText. -/
import Derived.Deep.RegionLaw
import Derived.Deep.RegionWith
import Derived.Test.YtmfkefcdddoooaaGreatDoorShelf
import Derived.Lib.Strings
import Derived.Outline
import Derived.Test.YtmfkefcdddoooaaGreatDoorP11
import Derived.Test.YtmfkefcdddoooaaGreatDoorP17
import Derived.Test.YtmfkefcdddoooaaGreatDoorP08
import Derived.Test.YtmfkefcdddoooaaGreatDoorP00
import Derived.Test.YtmfkefcdddoooaaGreatDoorP06
import Derived.Test.YtmfkefcdddoooaaGreatDoorP14
import Derived.Test.YtmfkefcdddoooaaGreatDoorP03
namespace Go.Proofs.YtmfkefcdddoooaaGreatDoor
open Go.RowKit

/-- a row of tokens that has grown from v with xs, in w, to v' with xs and ys, in w'; the attributes of ys lie below N -/
structure TR (N : Nat) (w : World) (v : Value) (xs : List (U.Tok × Value)) (w' : World) (v' : Value) (ys : List (U.Tok × Value)) : Prop where
  own : w'.ownsRow N 33 5 v' (xs ++ ys).length (tokCells (xs ++ ys))
  atts : ∀ y ∈ ys, RdAS w (· < N) y.2 y.1.attrs
  grown : w.grownBy w' v.ownBlock
  lies : ∀ j, v'.ownBlock = some j → w.heap.size ≤ j ∨ v.ownBlock = some j
  base : N ≤ w.heap.size
  orig : ∀ j, v.ownBlock = some j → N ≤ j
theorem TR.below {N : Nat} {w w' : World} {v v' : Value} {xs ys : List (U.Tok × Value)} (h : TR N w v xs w' v' ys) : Below N w w' := (Below.refl N w).grown h.grown h.base h.orig
theorem TR.start {N : Nat} {w : World} {v : Value} {xs : List (U.Tok × Value)} (h : w.ownsRow N 33 5 v xs.length (tokCells xs)) (hN : N ≤ w.heap.size) : TR N w v xs w v [] :=
  ⟨by rw [List.append_nil]; exact h, (fun y hy => by cases hy), World.grownBy.refl _ _, fun j hj => .inr hj, hN, fun j hj => (h.lt j hj).1⟩
theorem TR.later {N : Nat} {w w' w2 : World} {v v' : Value} {xs ys : List (U.Tok × Value)} (h : TR N w v xs w' v' ys) (hb : Below w'.heap.size w' w2) : TR N w v xs w2 v' ys :=
  ⟨own_keep h.own hb, h.atts, h.grown.andThen (row' := none) ⟨hb.os, hb.tape, hb.output, hb.size, fun i hi _ => hb.block i hi⟩ (fun j hj => by cases hj), h.lies, h.base, h.orig⟩
theorem TR.trans {N : Nat} {w w' w2 : World} {v v' v2 : Value} {xs ys zs : List (U.Tok × Value)} (h : TR N w v xs w' v' ys) (k : TR N w' v' (xs ++ ys) w2 v2 zs) : TR N w v xs w2 v2 (ys ++ zs) := by
  have hs := h.grown.size
  refine ⟨by rw [← List.append_assoc]; exact k.own, fun y hy => ?_, h.grown.andThen k.grown (fun j hj => h.lies j hj), fun j hj => ?_, h.base, h.orig⟩
  · rcases List.mem_append.1 hy with hy | hy
    · exact h.atts y hy
    · exact (k.atts y hy).keep (fun p hp => (h.below.cell hp).symm) (fun _ hb => hb)
  · rcases k.lies j hj with h1 | h1
    · exact .inl (by omega)
    · exact h.lies j h1
theorem TR.put {N : Nat} {w w1 w2 : World} {v v1 : Value} {g cap n : Nat} {xs ys : List (U.Tok × Value)} (h : TR N w v xs w1 v1 ys) (x : U.Tok) (av : Value) (hA : RdAS w (· < N) av x.attrs)
    (ho : w2.ownsRow N 33 5 (.slice (some ⟨g, 0, none⟩) n cap) ((xs ++ ys).length + 1) (tokCells (xs ++ ys) ++ [.int .i64 (x.kind : Nat), .string ⟨x.name.toArray⟩, av, .bool x.self, .string ⟨x.text.toArray⟩])) (hg : w1.grownBy w2 v1.ownBlock) (hat : v1.ownBlock = some g ∨ w1.heap.size ≤ g) :
    TR N w v xs w2 (.slice (some ⟨g, 0, none⟩) n cap) (ys ++ [(x, av)]) := by
  have hs := h.grown.size
  refine ⟨?_, fun y hy => ?_, h.grown.andThen hg (fun j hj => h.lies j hj), fun j hj => ?_, h.base, h.orig⟩
  · rw [← List.append_assoc, List.length_append, tokCells_append]
    exact ho
  · rcases List.mem_append.1 hy with hy | hy
    · exact h.atts y hy
    · obtain rfl := List.mem_singleton.1 hy
      exact hA
  · have e2 : g = j := by simpa [Value.ownBlock] using hj
    subst e2
    rcases hat with e | e
    · exact h.lies g e
    · exact .inl (by omega)

set_option maxHeartbeats 8000000 in
set_option maxRecDepth 1000000 in
theorem append_tokens (c : Nat) : ∀ (l : List U.Nd), U.cntL l ≤ c → U.cntL l ≤ 1048576 → ∀ (N : Nat) (v : Value) (xs : List (U.Tok × Value)) (nv : Value) (w : World), w.ownsRow N 33 5 v xs.length (tokCells xs) → N ≤ w.heap.size → RdNs w (· < N) nv l → xs.length + 2 * U.cntL l ≤ 4194304 →
    Calls Tryz.prog 39 #[v, nv] w fun e w' => ∃ v' ys, e = .returned v' ∧ TR N w v xs w' v' ys ∧ ys.map (·.1) = U.lToks l := by
  induction c using Nat.strongRecOn with
  | _ c ih =>
  intro l hlc hlM N v xs nv w hown hN hR hsz
  obtain ⟨iT, hiT, hT0, hT1, hT2⟩ := info_parts infoTok
  obtain ⟨vo, vcap, rfl⟩ := own_form hown
  have hR0 := hR
  obtain ⟨ao, cap, rfl, hcl, hcm, -⟩ := hR0
  have HR := Lib.hid hR
  have IH := Lib.hid ih
  have hll := U.len_cnt l
  have HT := Lib.hid (TR.start hown hN)
  clear ih hR hcl hcm hown
  go_enter Tryz.func39, Tryz.ntmps39
  go_wp2_with fail
  go_loopw [0, 9] (fun tv i wr => ∃ (k : Nat) (ys : List (U.Tok × Value)), k ≤ l.length ∧ i = .int .i64 k ∧ Hid (TR N w (.slice vo xs.length vcap) xs wr tv ys) ∧ Hid (ys.map (·.1) = U.lToks (l.take k))) (fun _ i _ => l.length - (intOf i).toNat)
  case atStart => exact ⟨0, [], Nat.zero_le _, rfl, HT.out, by show _ = _; rw [List.take_zero, U.lToks_nil]; rfl⟩
  case round =>
    obtain ⟨k, ys, hk, rfl, HTR, HYS⟩ := hrel
    obtain ⟨ta, tcap, rfl⟩ := own_form HTR.out.own
    have hbw := HTR.out.below
    by_cases hlt : k < l.length
    · have hx := List.getElem?_eq_getElem hlt
      generalize l[k]'hlt = n at hx
      obtain ⟨g, o, cap2, e0, hg, hn⟩ := HR.out.get hx
      injection e0 with e1 e2 e3
      subst e1
      obtain ⟨av, pv, c0, c1, c2, c3, hA, hP⟩ := (rdNd_iff n g _).1 hn
      obtain ⟨aa, acap, rfl, hac, ham, -⟩ := id hA
      obtain ⟨pa, pcap, rfl, hpc, hpm, -⟩ := id hP
      have d0 := (hbw.cell (p := ⟨g, o + k * 4, none⟩) hg).trans c0
      have d1 := (hbw.cell (p := ⟨g, o + k * 4 + 1, none⟩) hg).trans c1
      have d2 := (hbw.cell (p := ⟨g, o + k * 4 + 2, none⟩) hg).trans c2
      have d3 := (hbw.cell (p := ⟨g, o + k * 4 + 3, none⟩) hg).trans c3
      have hge := U.cntL_get hx
      have hne := U.cntN_eq n
      have hct := U.cntL_take hx
      have htl := U.lToks_len (l.take k)
      have hyl : ys.length = (U.lToks (l.take k)).length := by rw [← HYS.out, List.length_map]
      have htk := U.lToks_take hx
      rw [U.ndToks_eq] at htk
      have hk0 : (0 : Int) ≤ (k : Int) := Int.natCast_nonneg _
      have hk1 : (k : Int) < (l.length : Int) := by omega
      have hIT := fun W => is_text n aa pa n.attrs.length acap n.parts.length pcap W
      unfold ndVal at hIT
      have HIT := Lib.hid hIT
      have HQ := Lib.hid (heap_alloc_new wr (ndObj n (.slice aa n.attrs.length acap) (.slice pa n.parts.length pcap)))
      unfold ndObj at HQ
      have HA := Lib.hid hA
      have HP := Lib.hid hP
      have hz1 : (xs ++ ys).length ≤ 4194304 := by rw [List.length_append]; omega
      clear c0 c1 c2 c3 hn e2 e3 hac ham hpc hpm hIT hA hP
      by_cases hnm : n.name = []
      · have hne1 : n.name.isEmpty = true := List.isEmpty_iff.2 hnm
        rw [hne1] at HIT
        rw [if_pos hnm] at htk
        have HTK := Lib.hid htk
        clear hge hct htl hyl htk hx hne1 hnm
        go_wp2_with fail
        refine (HIT.out _).mono ?_
        rintro e w3 ⟨rfl, hb3⟩
        have Q3 := Lib.hid ((hb3.block wr.heap.size (by simp)).trans HQ.out)
        have u32 := (nd_cells Q3.out).2.2.1
        have HT3 := Lib.hid ((HTR.out.later ((Below.refl _ wr).alloc (Nat.le_refl _) _)).later hb3)
        clear hb3 HIT HQ d0 d1 d2 d3 HTR
        have HTX := Lib.hid (fun O => by have h := (HT3.out.later ((Below.refl _ w3).alloc (Nat.le_refl _) O)).own; rw [List.length_append] at h; exact h)
        go_wp2_with (at_builtin; refine wpList_append_lies _ rfl _ _ 23 rfl N 33 iT _ 5 72 Tryz.underlying23 hiT hT0 hT1 hT2 rfl (by decide) _ (xs.length + ys.length) _ rfl (HTX.out (.cells #[.int .i64 3, .string ⟨#[]⟩, .slice none 0 0, .bool false, .string ⟨n.text.toArray⟩] 33 (0, 0))) ⟨_, 0, none⟩ 1 1 [.int .i64 3, .string ⟨#[]⟩, .slice none 0 0, .bool false, .string ⟨n.text.toArray⟩] rfl rfl ?a1 ?a2 (by decide) ?a3 ?a4 ?a5 _ rfl ?_)
        case a1 => exact cells5 (heap_alloc_new w3 (.cells #[.int .i64 3, .string ⟨#[]⟩, .slice none 0 0, .bool false, .string ⟨n.text.toArray⟩] 33 (0, 0)))
        case a2 => intro u hu; simp at hu; rcases hu with rfl | rfl | rfl | rfl | rfl <;> rfl
        case a3 => rw [List.length_append] at hz1; unfold maxLen; omega
        case a4 => rw [List.length_append] at hz1; omega
        case a5 => have := HT3.out.below.size; simp; omega
        intro g7 cap7 w7 hown7 hgrow7 hat7 _
        have HP7 := Lib.hid ((HT3.out.later ((Below.refl _ w3).alloc (Nat.le_refl _) (.cells #[.int .i64 3, .string ⟨#[]⟩, .slice none 0 0, .bool false, .string ⟨n.text.toArray⟩] 33 (0, 0)))).put ⟨3, [], [], false, n.text⟩ (.slice none 0 0) (RdAS.nil _ _) (by rw [List.length_append]; exact hown7) (by rw [List.length_append]; exact hgrow7) (by rw [List.length_append]; exact hat7.imp id (fun e => by simp; omega)))
        clear hown7 hgrow7 hat7 HT3 HTX
        go_wp2_with fail
        go_roundw
        case rel => exact ⟨k + 1, _, by omega, by go_num, HP7.out, by show _ = _; rw [List.map_append, HYS.out, HTK.out]; rfl⟩
        case measure => simp [intOf]; omega
      · have hne1 : n.name.isEmpty = false := by
          cases h : n.name with
          | nil => exact absurd h hnm
          | cons a r => rfl
        rw [hne1] at HIT
        rw [if_neg hnm] at htk
        have HTK := Lib.hid htk
        have hpl := U.lToks_len n.parts
        have hz2 : xs.length + (ys.length + 1) + 2 * U.cntL n.parts ≤ 4194304 := by omega
        have hcp : U.cntL n.parts < c := by omega
        have hcM : U.cntL n.parts ≤ 1048576 := by omega
        clear hge hct htl hyl htk hx hne1 hnm hne
        go_wp2_with fail
        refine (HIT.out _).mono ?_
        rintro e w3 ⟨rfl, hb3⟩
        have Q3 := Lib.hid ((hb3.block wr.heap.size (by simp)).trans HQ.out)
        have u30 := (nd_cells Q3.out).1
        have u31 := (nd_cells Q3.out).2.1
        have HT3 := Lib.hid ((HTR.out.later ((Below.refl _ wr).alloc (Nat.le_refl _) _)).later hb3)
        have L3 := Lib.hid (Array.getElem?_eq_some_iff.1 Q3.out).1
        have HNE := Lib.hid (show ∀ k', (Value.slice ta (xs.length + ys.length) tcap).ownBlock = some k' → k' < wr.heap.size from fun k' hk' => by
          have h := HTR.out.own
          rw [List.length_append] at h
          exact (h.lt k' hk').2)
        clear hb3 HIT HQ d0 d1 d2 d3 HTR
        have HTX := Lib.hid (fun O => by have h := (HT3.out.later ((Below.refl _ w3).alloc (Nat.le_refl _) O)).own; rw [List.length_append] at h; exact h)
        go_wp2_with (at_builtin; refine wpList_append_lies _ rfl _ _ 23 rfl N 33 iT _ 5 72 Tryz.underlying23 hiT hT0 hT1 hT2 rfl (by decide) _ (xs.length + ys.length) _ rfl (HTX.out (.cells #[.int .i64 1, .string ⟨n.name.toArray⟩, .slice aa n.attrs.length acap, .bool false, .string ⟨#[]⟩] 33 (0, 0))) ⟨_, 0, none⟩ 1 1 [.int .i64 1, .string ⟨n.name.toArray⟩, .slice aa n.attrs.length acap, .bool false, .string ⟨#[]⟩] rfl rfl ?b1 ?b2 (by decide) ?b3 ?b4 ?b5 _ rfl ?_)
        case b1 => exact cells5 (heap_alloc_new w3 (.cells #[.int .i64 1, .string ⟨n.name.toArray⟩, .slice aa n.attrs.length acap, .bool false, .string ⟨#[]⟩] 33 (0, 0)))
        case b2 => intro u hu; simp at hu; rcases hu with rfl | rfl | rfl | rfl | rfl <;> rfl
        case b3 => rw [List.length_append] at hz1; unfold maxLen; omega
        case b4 => rw [List.length_append] at hz1; omega
        case b5 => have := HT3.out.below.size; simp; omega
        intro g7 cap7 w7 hown7 hgrow7 hat7 _
        have HP7 := Lib.hid ((HT3.out.later ((Below.refl _ w3).alloc (Nat.le_refl _) (.cells #[.int .i64 1, .string ⟨n.name.toArray⟩, .slice aa n.attrs.length acap, .bool false, .string ⟨#[]⟩] 33 (0, 0)))).put ⟨1, n.name, n.attrs, false, []⟩ (.slice aa n.attrs.length acap) (HA.out) (by rw [List.length_append]; exact hown7) (by rw [List.length_append]; exact hgrow7) (by rw [List.length_append]; exact hat7.imp id (fun e => by simp; omega)))
        have Q7 := Lib.hid ((hgrow7.block wr.heap.size (by have := L3.out; simp; omega) (fun e => by have := HNE.out _ e.symm; omega)).trans ((Lib.alloc_old w3 _ _ L3.out).trans Q3.out))
        have u70 := (nd_cells Q7.out).1
        have u73 := (nd_cells Q7.out).2.2.2
        have hg7 : g7 ≠ wr.heap.size := fun e => by
          subst e
          rcases hat7 with h | h
          · have := HNE.out _ h; omega
          · have := L3.out; omega
        have L7 := Lib.hid (Array.getElem?_eq_some_iff.1 Q7.out).1
        have HV := Lib.hid (fun W => show_void n.name W)
        clear hown7 hgrow7 hat7 HT3 HTX u30 u31 Q3 L3 HNE
        cases hvo : U.isVoid n.name with
        | true =>
          rw [hvo] at HV
          have HTK2 : Hid (U.lToks (l.take (k + 1)) = U.lToks (l.take k) ++ [⟨1, n.name, n.attrs, false, []⟩]) := by
            show _ = _
            rw [HTK.out, if_pos hvo]
          clear HTK hvo
          go_wp2_with (go_at_call 69; refine (HV.out _).mono ?_; rintro e w8 ⟨rfl, rfl⟩)
          clear HV u70 u73 Q7 L7
          go_roundw
          case rel => exact ⟨k + 1, _, by omega, by go_num, HP7.out, by show _ = _; rw [List.map_append, HYS.out, HTK2.out]; rfl⟩
          case measure => simp [intOf]; omega
        | false =>
          rw [hvo] at HV
          have HTK2 : Hid (U.lToks (l.take (k + 1)) = U.lToks (l.take k) ++ (⟨1, n.name, n.attrs, false, []⟩ :: (U.lToks n.parts ++ [⟨2, n.name, [], false, []⟩]))) := by
            show _ = _
            rw [HTK.out, if_neg (by rw [hvo]; decide)]
          clear HTK hvo
          have hRC := IH.out (U.cntL n.parts) hcp n.parts (Nat.le_refl _) hcM N (.slice (some ⟨g7, 0, none⟩) (xs.length + ys.length + 1) cap7) (xs ++ (ys ++ [(⟨1, n.name, n.attrs, false, []⟩, .slice aa n.attrs.length acap)])) (.slice pa n.parts.length pcap) w7 HP7.out.own (Nat.le_trans HP7.out.base HP7.out.grown.size) (HP.out.keep (fun p hp => HP7.out.below.cell hp) (fun b hb => hb)) (by simp only [List.length_append, List.length_singleton]; omega)
          have HRC := Lib.hid hRC
          clear hRC
          go_wp2_with (go_at_call 69; refine (HV.out _).mono ?_; rintro e w8 ⟨rfl, rfl⟩)
          refine HRC.out.mono ?_
          rintro e w9 ⟨v9, zs, rfl, h9, hz9⟩
          obtain ⟨vo9, vcap9, rfl⟩ := own_form h9.own
          have Q9 := Lib.hid ((h9.grown.block wr.heap.size L7.out (fun e => hg7 (by simpa [Value.ownBlock] using e.symm))).trans Q7.out)
          have u90 := (nd_cells Q9.out).1
          have HT9 := Lib.hid (HP7.out.trans h9)
          have hzl : zs.length ≤ 2 * U.cntL n.parts := by
            have h := congrArg List.length hz9
            rw [List.length_map] at h
            omega
          have HZ9 := Lib.hid hz9
          clear h9 hz9 HRC HV u70 u73 Q7 L7 HP7 hg7
          have e9 : (xs ++ (ys ++ [((⟨1, n.name, n.attrs, false, []⟩ : U.Tok), Value.slice aa n.attrs.length acap)]) ++ zs).length = xs.length + (ys.length + 1) + zs.length := by simp [List.length_append]; omega
          have e9' : (xs ++ (ys ++ [((⟨1, n.name, n.attrs, false, []⟩ : U.Tok), Value.slice aa n.attrs.length acap)] ++ zs)).length = xs.length + (ys.length + 1) + zs.length := by simp [List.length_append]; omega
          rw [e9] at HT9 ⊢
          have HTX := Lib.hid (fun O => by have h := (HT9.out.later ((Below.refl _ w9).alloc (Nat.le_refl _) O)).own; rw [e9'] at h; exact h)
          have hz10 : xs.length + (ys.length + 1) + zs.length + 1 ≤ 4194305 := by omega
          clear e9 Q9
          go_wp2_with (at_builtin; refine wpList_append_lies _ rfl _ _ 23 rfl N 33 iT _ 5 72 Tryz.underlying23 hiT hT0 hT1 hT2 rfl (by decide) _ (xs.length + (ys.length + 1) + zs.length) _ rfl (HTX.out (.cells #[.int .i64 2, .string ⟨n.name.toArray⟩, .slice none 0 0, .bool false, .string ⟨#[]⟩] 33 (0, 0))) ⟨_, 0, none⟩ 1 1 [.int .i64 2, .string ⟨n.name.toArray⟩, .slice none 0 0, .bool false, .string ⟨#[]⟩] rfl rfl ?d1 ?d2 (by decide) ?d3 ?d4 ?d5 _ rfl ?_)
          case d1 => exact cells5 (heap_alloc_new w9 (.cells #[.int .i64 2, .string ⟨n.name.toArray⟩, .slice none 0 0, .bool false, .string ⟨#[]⟩] 33 (0, 0)))
          case d2 => intro u hu; simp at hu; rcases hu with rfl | rfl | rfl | rfl | rfl <;> rfl
          case d3 => unfold maxLen; omega
          case d4 => omega
          case d5 => have := HT9.out.below.size; simp; omega
          intro g10 cap10 w10 hown10 hgrow10 hat10 _
          have HP10 := Lib.hid ((HT9.out.later ((Below.refl _ w9).alloc (Nat.le_refl _) (.cells #[.int .i64 2, .string ⟨n.name.toArray⟩, .slice none 0 0, .bool false, .string ⟨#[]⟩] 33 (0, 0)))).put ⟨2, n.name, [], false, []⟩ (.slice none 0 0) (RdAS.nil _ _) (by rw [e9', show ys ++ [((⟨1, n.name, n.attrs, false, []⟩ : U.Tok), Value.slice aa n.attrs.length acap)] ++ zs = ys ++ ((⟨1, n.name, n.attrs, false, []⟩, .slice aa n.attrs.length acap) :: zs) from by simp]; exact hown10) hgrow10 (hat10.imp id (fun e => by simp; omega)))
          clear hown10 hgrow10 hat10 HT9 HTX u90
          go_wp2_with fail
          go_roundw
          case rel => exact ⟨k + 1, _, by omega, by go_num, HP10.out, by show _ = _; rw [HTK2.out, ← HYS.out, ← HZ9.out]; simp⟩
          case measure => simp [intOf]; omega
    · have hall : l.take k = l := List.take_of_length_le (by omega)
      rw [hall] at HYS
      have hz : ¬ (k : Int) < (l.length : Int) := by omega
      go_wp2_with fail
      go_ret
      exact ⟨_, rfl, ys, by have h := HTR.out; rw [List.length_append] at h; exact h, HYS.out⟩

end Go.Proofs.YtmfkefcdddoooaaGreatDoor

namespace Go.Proofs.YtmfkefcdddoooaaGreatDoor
open Go.RowKit

theorem esc_step {q : Bool} {acc E : List UInt8} {l : List UInt8} {k : Nat} {b : UInt8} {R : List UInt8} (h : Hid (acc ++ U.esc q (l.drop k) = R)) (hb : l[k]? = some b) (hE : U.esc1 q b = E) :
    Hid ((acc ++ E) ++ U.esc q (l.drop (k + 1)) = R) := by
  show _ = _
  rw [← h.out, drop_byte hb, U.esc_cons, hE, List.append_assoc]

set_option maxHeartbeats 4000000 in
set_option maxRecDepth 100000 in
theorem escape_walk (s : ByteArray) (q : Bool) (w : World) (hs : s.size ≤ 1099511627776) :
    Calls Tryz.prog 24 #[.string s, .bool q] w fun e w' => e = .returned (.string ⟨(U.esc q s.data.toList).toArray⟩) ∧ Below w.heap.size w w' := by
  have hl := toList_length s
  go_enter Tryz.func24, Tryz.ntmps24
  go_wp2
  go_loopw [10] (fun i wr => ∃ (k : Nat) (acc : List UInt8), k ≤ s.size ∧ i = .int .i64 k ∧ Bld w.heap.size w.heap.size acc wr ∧ Below w.heap.size w wr ∧ Hid (acc ++ U.esc q (s.data.toList.drop k) = U.esc q s.data.toList) ∧ acc.length ≤ 6 * k) (fun i _ => s.size - (intOf i).toNat)
  case atStart => exact ⟨0, [], Nat.zero_le _, rfl, (Lib.IsBuilderF.of (Lib.fresh_isBuilder 58 5 w)), (Below.refl _ w).alloc (Nat.le_refl _) _, rfl, by simp⟩
  case round =>
    obtain ⟨k, acc, hk, rfl, hI, hbw, hacc, hal⟩ := hrel
    have hbs := hbw.size
    by_cases hlt : k < s.size
    · have Hget := Lib.hid (byte_get s hlt)
      have hb := (s[k]'hlt).toNat_lt
      by_cases h1 : ((s[k]'hlt).toNat : Int) = 38
      · have t1 := beq_yes h1
        have e1 : s[k]'hlt = 38 := (byte_eq (k := 38) (by decide)).1 (by omega)
        have E1 := Lib.hid (show U.esc1 q (s[k]'hlt) = _ by rw [e1, U.esc1_amp])
        clear h1 e1
        go_wp2_with fail
        refine (write_string w.heap.size w.heap.size acc (ByteArray.mk #[38, 97, 109, 112, 59]) _ hI (by show _ + 5 ≤ _; omega) (by omega)).mono ?_
        rintro e w2 ⟨rfl, h1, b1, k1⟩
        go_wp2_with fail
        go_roundw
        case rel => exact ⟨k + 1, _, by omega, by go_num, .inr h1, hbw.trans b1, esc_step hacc Hget.out E1.out, by rw [List.length_append]; simp; omega⟩
        case measure => simp [intOf]; omega
      have t1 := beq_no h1
      by_cases h2 : ((s[k]'hlt).toNat : Int) = 60
      · have t2 := beq_yes h2
        have e1 : s[k]'hlt = 60 := (byte_eq (k := 60) (by decide)).1 (by omega)
        have E1 := Lib.hid (show U.esc1 q (s[k]'hlt) = _ by rw [e1, U.esc1_lt])
        clear h1 h2 e1
        go_wp2_with fail
        refine (write_string w.heap.size w.heap.size acc (ByteArray.mk #[38, 108, 116, 59]) _ hI (by show _ + 4 ≤ _; omega) (by omega)).mono ?_
        rintro e w2 ⟨rfl, h1, b1, k1⟩
        go_wp2_with fail
        go_roundw
        case rel => exact ⟨k + 1, _, by omega, by go_num, .inr h1, hbw.trans b1, esc_step hacc Hget.out E1.out, by rw [List.length_append]; simp; omega⟩
        case measure => simp [intOf]; omega
      have t2 := beq_no h2
      by_cases h3 : ((s[k]'hlt).toNat : Int) = 62
      · have t3 := beq_yes h3
        have e1 : s[k]'hlt = 62 := (byte_eq (k := 62) (by decide)).1 (by omega)
        have E1 := Lib.hid (show U.esc1 q (s[k]'hlt) = _ by rw [e1, U.esc1_gt])
        clear h1 h2 h3 e1
        go_wp2_with fail
        refine (write_string w.heap.size w.heap.size acc (ByteArray.mk #[38, 103, 116, 59]) _ hI (by show _ + 4 ≤ _; omega) (by omega)).mono ?_
        rintro e w2 ⟨rfl, h1, b1, k1⟩
        go_wp2_with fail
        go_roundw
        case rel => exact ⟨k + 1, _, by omega, by go_num, .inr h1, hbw.trans b1, esc_step hacc Hget.out E1.out, by rw [List.length_append]; simp; omega⟩
        case measure => simp [intOf]; omega
      have t3 := beq_no h3
      have n1 : s[k]'hlt ≠ 38 := fun e => h1 (by rw [e]; rfl)
      have n2 : s[k]'hlt ≠ 60 := fun e => h2 (by rw [e]; rfl)
      have n3 : s[k]'hlt ≠ 62 := fun e => h3 (by rw [e]; rfl)
      have hof : UInt8.ofNat (s[k]'hlt).toNat = s[k]'hlt := U.ofNat_eq rfl
      by_cases h4 : ((s[k]'hlt).toNat : Int) = 34
      · have t4 := beq_yes h4
        have e1 : s[k]'hlt = 34 := (byte_eq (k := 34) (by decide)).1 (by omega)
        cases q
        · have E1 := Lib.hid (show U.esc1 false (s[k]'hlt) = [UInt8.ofNat (s[k]'hlt).toNat] by rw [hof, e1, U.esc1_quot'])
          clear h1 h2 h3 h4 e1 n1 n2 n3 hof
          go_wp2_with fail
          refine (write_byte w.heap.size w.heap.size acc (s[k]'hlt).toNat hb _ hI (by omega) (by omega)).mono ?_
          rintro e w2 ⟨rfl, h1, b1, k1⟩
          go_wp2_with fail
          go_roundw
          case rel => exact ⟨k + 1, _, by omega, by go_num, .inr h1, hbw.trans b1, esc_step hacc Hget.out E1.out, by rw [List.length_append]; simp; omega⟩
          case measure => simp [intOf]; omega
        · have E1 := Lib.hid (show U.esc1 true (s[k]'hlt) = _ by rw [e1, U.esc1_quot])
          clear h1 h2 h3 h4 e1 n1 n2 n3 hof
          go_wp2_with fail
          refine (write_string w.heap.size w.heap.size acc (ByteArray.mk #[38, 113, 117, 111, 116, 59]) _ hI (by show _ + 6 ≤ _; omega) (by omega)).mono ?_
          rintro e w2 ⟨rfl, h1, b1, k1⟩
          go_wp2_with fail
          go_roundw
          case rel => exact ⟨k + 1, _, by omega, by go_num, .inr h1, hbw.trans b1, esc_step hacc Hget.out E1.out, by rw [List.length_append]; simp; omega⟩
          case measure => simp [intOf]; omega
      · have t4 := beq_no h4
        have n4 : s[k]'hlt ≠ 34 := fun e => h4 (by rw [e]; rfl)
        have E1 := Lib.hid (show U.esc1 q (s[k]'hlt) = [UInt8.ofNat (s[k]'hlt).toNat] by rw [hof, U.esc1_other n1 n2 n3 n4])
        clear h1 h2 h3 h4 n1 n2 n3 n4 hof
        go_wp2_with fail
        refine (write_byte w.heap.size w.heap.size acc (s[k]'hlt).toNat hb _ hI (by omega) (by omega)).mono ?_
        rintro e w2 ⟨rfl, h1, b1, k1⟩
        go_wp2_with fail
        go_roundw
        case rel => exact ⟨k + 1, _, by omega, by go_num, .inr h1, hbw.trans b1, esc_step hacc Hget.out E1.out, by rw [List.length_append]; simp; omega⟩
        case measure => simp [intOf]; omega
    · go_wp2_with fail
      refine (Tryz.Builder_String_any_k w.heap.size w.heap.size acc _ hI (by omega)).mono ?_
      rintro e W1 ⟨rfl, _, b1, _⟩
      go_wp2_with fail
      go_ret
      have e0 : s.data.toList.drop k = [] := List.drop_of_length_le (by omega)
      have hfin := hacc.out
      rw [e0, U.esc_nil, List.append_nil] at hfin
      subst hfin
      exact ⟨rfl, hbw.trans b1⟩

end Go.Proofs.YtmfkefcdddoooaaGreatDoor

namespace Go.Proofs.YtmfkefcdddoooaaGreatDoor
open Go.RowKit

theorem bld_lt {B b : Nat} {l : List UInt8} {w : World} (h : Bld B b l w) : b < w.heap.size := by
  rcases h with h | h <;> exact h.lt
theorem bld_base {B b : Nat} {l : List UInt8} {w : World} (h : Bld B b l w) : B ≤ b := by
  rcases h with h | h <;> exact h.1
theorem bld_below {B b : Nat} {l : List UInt8} {w w' : World} (h : Bld B b l w) (hb : Below w.heap.size w w') : Bld B b l w' := by
  rcases h with h | h
  · have hlt := h.lt
    obtain ⟨hB, v, hbk, hown, hne⟩ := h
    exact .inl ⟨hB, v, (hb.block b hlt).trans hbk, hown.kept (row := none) ⟨hb.os, hb.tape, hb.output, hb.size, fun i hi _ => hb.block i hi⟩ (by
      rcases v.ownBlock with _ | b
      · exact .inl rfl
      · right; simp), hne⟩
  · exact .inr (bldAt_below h hb)
theorem OthersKeptRefl (b : Nat) (w : World) : Kept b w w := Lib.OthersKept.refl _ _ w
theorem kept_below {b : Nat} {w w' : World} (h : Below w.heap.size w w') : Kept b w w' := fun k _ hk _ _ => (h.block k (Array.getElem?_eq_some_iff.1 hk).1).trans hk
theorem kept_cell {b q : Nat} {w w' : World} {cs : Array Value} {e : TypeId} {fz : Nat × Nat} (h : Kept b w w') (hq : w.heap[q]? = some (.cells cs e fz)) (hb : q ≠ b) (he : e ≠ 5) : w'.heap[q]? = some (.cells cs e fz) :=
  h q _ hq (fun x => hb (Option.some.inj x)) (fun c f x => he (by injection x))

set_option maxHeartbeats 4000000 in
set_option maxRecDepth 1000000 in
theorem escape_cut (s : ByteArray) (q : Bool) (w : World) :
    Calls Tryz.prog 50 #[.string s, .bool q] w fun e w' => e = .returned (.string ⟨(U.esc q (s.data.toList.take 601)).toArray⟩) ∧ Below w.heap.size w w' := by
  have hl : s.data.toList.length = s.size := by rw [Array.length_toList]; rfl
  have hz : (s.extract 0 (min (s.size : Int) 601).toNat).size ≤ 601 := by rw [ByteArray.size_extract]; omega
  have he := escape_walk (s.extract 0 (min (s.size : Int) 601).toNat) q w (by omega)
  have hx : (s.extract 0 (min (s.size : Int) 601).toNat).data.toList = s.data.toList.take 601 := by
    rw [Lib.extract_data, List.drop_zero, Nat.sub_zero]
    by_cases h : s.size ≤ 601
    · rw [List.take_of_length_le (by omega), List.take_of_length_le (by omega)]
    · rw [show (min (s.size : Int) 601).toNat = 601 by omega]
  rw [hx] at he
  have HE := Lib.hid he
  have hm1 : (0 : Int) ≤ min (s.size : Int) 601 := by omega
  have hm2 : min (s.size : Int) 601 ≤ (s.size : Int) := by omega
  clear he hl hx hz
  go_enter Tryz.func50, Tryz.ntmps50
  go_wp2_with (go_at_call 24; refine HE.out.mono ?_; rintro e w' ⟨rfl, hb'⟩)
  go_ret
  exact ⟨rfl, hb'⟩

set_option maxHeartbeats 8000000 in
set_option maxRecDepth 1000000 in
theorem write_start (B b : Nat) (acc : List UInt8) (t : U.Tk) (ao : Option Addr) (cap : Nat) (w : World) (h : Bld B b acc w) (hB : B ≤ w.heap.size) (hA : RdA w B (.slice ao t.attrs.length cap) t.attrs) (hf : Fits most t)
    (hn : t.name.length ≤ 12) (ha4 : t.attrs.length ≤ 4) (han : ∀ a ∈ t.attrs, a.1.length ≤ 12) (hacc : acc.length ≤ 600) :
    Calls Tryz.prog 49 #[.pointer (some ⟨b, 0, none⟩), tkVal t ao cap] w fun e w' => e = .returned (.tuple #[]) ∧ BldAt B b (acc ++ U.startC t.name t.attrs t.self) w' ∧ Below B w w' ∧ Kept b w w' := by
  have HA := Lib.hid hA
  have HN := Lib.hid han
  have HH := Lib.hid h
  have HF := Lib.hid hf
  clear hA han h hf
  unfold tkVal
  have hns : (ByteArray.mk t.name.toArray).size = t.name.length := size_of_mk _
  have hq := heap_alloc_new w (.cells #[.int .i64 t.kind, .string ⟨t.name.toArray⟩, .slice ao t.attrs.length cap, .bool t.self, .string ⟨t.text.toArray⟩] 33 (0, 0))
  have HQ := Lib.hid hq
  clear hq
  go_enter Tryz.func49, Tryz.ntmps49
  have hb4 := (Below.refl w.heap.size w).alloc (Nat.le_refl _) (.cells #[.int .i64 t.kind, .string ⟨t.name.toArray⟩, .slice ao t.attrs.length cap, .bool t.self, .string ⟨t.text.toArray⟩] 33 (0, 0))
  have hbb : b < w.heap.size := by
    have h := HH.out
    exact bld_lt h
  have hneb : w.heap.size ≠ b := by omega
  have HB4 := Lib.hid hb4
  have hBB : B ≤ b := bld_base HH.out
  have hw1 : ∀ W acc', Bld B b acc' W → B ≤ W.heap.size → acc'.length ≤ 20000 → ∀ s : ByteArray, s.size ≤ 20000 → Calls Tryz.prog 48 #[.pointer (some ⟨b, 0, none⟩), .string s] W fun e w' => e = .returned (.tuple #[.int .i64 s.size, .nilIface]) ∧ BldAt B b (acc' ++ s.data.toList) w' ∧ Below B W w' ∧ Kept b W w' :=
    fun W acc' h hB hl s hs => write_string B b acc' s W h (by omega) hB
  have HW := Lib.hid hw1
  clear hb4 hw1
  have hs0 : (ByteArray.mk #[60]).size = 1 := rfl
  go_wp2_with (go_at_call 48; refine (HW.out _ acc (bld_below HH.out ((Below.refl _ w).alloc (Nat.le_refl _) _)) (by simp; omega) (by omega) _ (by rw [ByteArray.size_append, hns, hs0]; omega)).mono ?_; rintro e w2 ⟨rfl, k2, b2, o2⟩; have q2 := kept_cell o2 HQ.out hneb (by decide); have u2 : w2.cell? ⟨w.heap.size, 2, none⟩ = some (.slice ao t.attrs.length cap) := (by rw [Lib.cell_of_heap q2]; rfl))
  have hbw2 : Below B w w2 := ((Below.refl B w).alloc hB _).trans b2
  have hk2 : BldAt B b (acc ++ 60 :: t.name ++ (t.attrs.take 0).flatMap U.attC) w2 := by
    have : (ByteArray.mk #[60] ++ ByteArray.mk t.name.toArray).data.toList = 60 :: t.name := by simp
    rw [this] at k2
    simpa using k2
  clear k2 u2 q2
  go_loopw [14] (fun i wr => ∃ k : Nat, k ≤ t.attrs.length ∧ i = .int .i64 k ∧ BldAt B b (acc ++ 60 :: t.name ++ (t.attrs.take k).flatMap U.attC) wr ∧ Below B w wr ∧
    Kept b (w.alloc (.cells #[.int .i64 t.kind, .string ⟨t.name.toArray⟩, .slice ao t.attrs.length cap, .bool t.self, .string ⟨t.text.toArray⟩] 33 (0, 0))) wr ∧ (acc ++ 60 :: t.name ++ (t.attrs.take k).flatMap U.attC).length ≤ 613 + 3622 * k) (fun i _ => t.attrs.length - (intOf i).toNat)
  case atStart => exact ⟨0, Nat.zero_le _, rfl, hk2, hbw2, o2, by simp; omega⟩
  case round =>
    obtain ⟨k, hk, rfl, hbk, hbw, hkp, hlen⟩ := hrel
    have HBK := Lib.hid hbk
    have HKP := Lib.hid hkp
    have HLEN := Lib.hid hlen
    clear hbk hkp hk2 o2 hlen
    have hbs := hbw.size
    by_cases hlt : k < t.attrs.length
    · have hx := List.getElem?_eq_getElem hlt
      have hm := List.getElem_mem hlt
      generalize t.attrs[k]'hlt = x at hx hm
      obtain ⟨g, o, rfl, hg, d0, d1⟩ := HA.out.at hx
      have c0 := (hbw.cell (p := ⟨g, o + k * 2, none⟩) hg).trans d0
      have c1 := (hbw.cell (p := ⟨g, o + k * 2 + 1, none⟩) hg).trans d1
      have hk0 : (0 : Int) ≤ (k : Int) := Int.natCast_nonneg _
      have hk1 : (k : Int) < (t.attrs.length : Int) := by omega
      have hx1 : (ByteArray.mk x.1.toArray).size = x.1.length := size_of_mk _
      have hx12 := HN.out x hm
      have hesc := fun W => escape_cut ⟨x.2.toArray⟩ true W
      rw [list_of_mk] at hesc
      have hel := (U.esc_length true (x.2.take 601)).2
      have htl : (x.2.take 601).length ≤ 601 := by rw [List.length_take]; omega
      obtain ⟨E, hE⟩ : ∃ E, U.esc true (x.2.take 601) = E := ⟨_, rfl⟩
      have hatt : U.attC x = 32 :: (x.1 ++ 61 :: 34 :: (E ++ [34])) := by unfold U.attC; rw [hE]
      rw [hE] at hesc hel
      have hEs : (ByteArray.mk E.toArray).size = E.length := size_of_mk _
      have hEl : E.length ≤ 3606 := by omega
      have hnx : (t.attrs.take (k + 1)).flatMap U.attC = (t.attrs.take k).flatMap U.attC ++ U.attC x := by
        obtain ⟨hk', e⟩ := List.getElem?_eq_some_iff.1 hx
        rw [List.take_succ_eq_append_getElem hk', e, List.flatMap_append]
        simp
      have HE := Lib.hid hesc
      have HT := Lib.hid hatt
      have HNX := Lib.hid hnx
      have hqa := heap_alloc_new wr (.cells #[.string ⟨x.1.toArray⟩, .string ⟨x.2.toArray⟩] 54 (0, 0))
      have HQA := Lib.hid hqa
      have s1 : (ByteArray.mk #[32]).size = 1 := rfl
      have s2 : (ByteArray.mk #[61, 34]).size = 2 := rfl
      have s3 : (ByteArray.mk #[34]).size = 1 := rfl
      have n1 : ¬ 9223372036854775807 < 1 + x.1.length := by omega
      have n2 : ¬ 9223372036854775807 < 1 + x.1.length + 2 := by omega
      have n3 : ¬ 9223372036854775807 < 1 + x.1.length + 2 + E.length := by omega
      have n4 : ¬ 9223372036854775807 < 1 + x.1.length + 2 + E.length + 1 := by omega
      clear hx hm d0 d1 hesc hel htl hE hatt hnx hqa
      go_wp2_with fail
      go_region_with (first
        | (go_at_call 50; refine (HE.out _).mono ?_; rintro e w5 ⟨rfl, hb5⟩; have v0 : w5.cell? ⟨wr.heap.size, 0, none⟩ = some (.string ⟨x.1.toArray⟩) := (hb5.cell (p := ⟨wr.heap.size, 0, none⟩) (by simp)).trans (by show (wr.alloc _).cell? _ = _; rw [Lib.cell_of_heap HQA.out]; rfl))
        | (go_at_call 48; refine (HW.out _ _ (.inr (bldAt_below (bldAt_below HBK.out ((Below.refl _ wr).alloc (Nat.le_refl _) _).drew) (hb5.mono (by simp)))) (by have := hb5.size; simp at this; omega) (by have := HLEN.out; omega) _ (by simp only [ByteArray.size_append, hx1, hEs, s1, s2, s3]; omega)).mono ?_; rintro e w6 ⟨rfl, k6, b6, o6⟩))
      all_goals
        have hk6 : BldAt B b (acc ++ 60 :: t.name ++ (t.attrs.take (k + 1)).flatMap U.attC) w6 := by
          have e : (ByteArray.mk #[32] ++ ByteArray.mk x.1.toArray ++ ByteArray.mk #[61, 34] ++ ByteArray.mk E.toArray ++ ByteArray.mk #[34]).data.toList = U.attC x := by rw [HT.out]; simp
          rw [e] at k6
          rw [HNX.out, ← List.append_assoc]
          exact k6
        have hb7 : Below B w w6 := ((((hbw.alloc (Nat.le_trans hB hbs) _).drew).trans (hb5.mono (Nat.le_trans hB (by simp; omega)))).trans b6)
        have hk7 := (((HKP.out.alloc _).drew).trans (kept_below hb5)).trans o6
        have hl7 : (acc ++ 60 :: t.name ++ (t.attrs.take (k + 1)).flatMap U.attC).length ≤ 613 + 3622 * (k + 1) := by
          have h1 := HLEN.out
          have h2 : (U.attC x).length = x.1.length + E.length + 4 := by rw [HT.out]; simp; omega
          rw [HNX.out, ← List.append_assoc, List.length_append, h2]
          omega
        clear k6 hb5 b6 o6
        go_wp2_with fail
        go_roundw
        case rel => exact ⟨k + 1, by omega, by go_num, hk6, hb7, hk7, hl7⟩
        case measure => simp [intOf]; omega
    · have hall : t.attrs.take k = t.attrs := List.take_of_length_le (by omega)
      rw [hall] at HBK HLEN
      have hl : (acc ++ 60 :: t.name ++ t.attrs.flatMap U.attC).length ≤ 15101 := by have := HLEN.out; omega
      have hq9 := kept_cell HKP.out HQ.out hneb (by decide)
      have u3 : wr.cell? ⟨w.heap.size, 3, none⟩ = some (.bool t.self) := by rw [Lib.cell_of_heap hq9]; rfl
      have HL := Lib.hid hl
      clear hq9 hall hl
      have z1 : (ByteArray.mk #[47]).size = 1 := rfl
      have z2 : (ByteArray.mk #[62]).size = 1 := rfl
      have hkp9 : Kept b w wr := fun k o hk hb ho => HKP.out k o (((OthersKeptRefl b w).alloc _) k o hk hb ho) hb ho
      cases hsf : t.self with
      | true =>
        go_wp2_with (go_at_call_of 48 (Value.string (ByteArray.mk #[47])); refine (HW.out _ _ (.inr HBK.out) (by omega) (by have := HL.out; omega) _ (by rw [z1]; omega)).mono ?_; rintro e w6 ⟨rfl, k6, b6, o6⟩)
        have hb6s := b6.size
        refine (HW.out _ _ (.inr k6) (by omega) (by have := HL.out; rw [List.length_append, show (ByteArray.mk #[47]).data.toList.length = 1 from rfl]; omega) ⟨#[62]⟩ (by rw [z2]; omega)).mono ?_
        rintro e w7 ⟨rfl, k7, b7, o7⟩
        go_wp2_with fail
        go_end0
        refine ⟨rfl, ?_, (hbw.trans b6).trans b7, (hkp9.trans o6).trans o7⟩
        have e1 : acc ++ U.startC t.name t.attrs true = acc ++ 60 :: t.name ++ t.attrs.flatMap U.attC ++ (ByteArray.mk #[47]).data.toList ++ (ByteArray.mk #[62]).data.toList := by
          simp [U.startC, U.tailE]
        rw [hsf, e1]
        exact k7
      | false =>
        go_wp2_with (go_at_call 48; refine (HW.out _ _ (.inr HBK.out) (by omega) (by have := HL.out; omega) _ (by rw [z2]; omega)).mono ?_; rintro e w6 ⟨rfl, k6, b6, o6⟩)
        go_end0
        refine ⟨rfl, ?_, hbw.trans b6, hkp9.trans o6⟩
        have e1 : acc ++ U.startC t.name t.attrs false = acc ++ 60 :: t.name ++ t.attrs.flatMap U.attC ++ (ByteArray.mk #[62]).data.toList := by
          simp [U.startC, U.tailE]
        rw [hsf, e1]
        exact k6

set_option maxHeartbeats 8000000 in
set_option maxRecDepth 1000000 in
theorem write_token (B b : Nat) (acc : List UInt8) (t : U.Tk) (ao : Option Addr) (cap : Nat) (w : World) (h : Bld B b acc w) (hB : B ≤ w.heap.size) (hA : RdA w B (.slice ao t.attrs.length cap) t.attrs) (hf : Fits most t)
    (hok : t.kind = 3 ∨ (t.kind = 2 ∧ t.name.length ≤ 12) ∨ (t.kind = 1 ∧ t.name.length ≤ 12 ∧ t.attrs.length ≤ 4 ∧ ∀ a ∈ t.attrs, a.1.length ≤ 12)) (hacc : acc.length ≤ 600) :
    Calls Tryz.prog 26 #[.pointer (some ⟨b, 0, none⟩), tkVal t ao cap] w fun e w' => e = .returned (.tuple #[]) ∧ BldAt B b (acc ++ U.tokC t) w' ∧ Below B w w' ∧ Kept b w w' := by
  have hns : (ByteArray.mk t.name.toArray).size = t.name.length := size_of_mk _
  have hb4 := (Below.refl w.heap.size w).alloc (Nat.le_refl _) (.cells #[.int .i64 t.kind, .string ⟨t.name.toArray⟩, .slice ao t.attrs.length cap, .bool t.self, .string ⟨t.text.toArray⟩] 33 (0, 0))
  have hB4 := (Below.refl B w).alloc hB (.cells #[.int .i64 t.kind, .string ⟨t.name.toArray⟩, .slice ao t.attrs.length cap, .bool t.self, .string ⟨t.text.toArray⟩] 33 (0, 0))
  have hk4 := (OthersKeptRefl b w).alloc (.cells #[.int .i64 t.kind, .string ⟨t.name.toArray⟩, .slice ao t.attrs.length cap, .bool t.self, .string ⟨t.text.toArray⟩] 33 (0, 0))
  have hbl := bld_below h hb4
  have HB4 := Lib.hid hB4
  have HK4 := Lib.hid hk4
  have HBL := Lib.hid hbl
  have HH := Lib.hid h
  rcases hok with k | ⟨k, hn⟩ | ⟨k, hn, ha4, han⟩
  · have b1 : (t.kind == 1) = false := by rw [k]; rfl
    have b2 : (t.kind == 2) = false := by rw [k]; rfl
    have b3 : (t.kind == 3) = true := by rw [k]; rfl
    have hC : U.tokC t = U.esc false (t.text.take 601) := by unfold U.tokC; rw [if_pos k]
    rw [hC]
    have hesc := fun W => escape_cut ⟨t.text.toArray⟩ false W
    rw [list_of_mk] at hesc
    have hel := (U.esc_length false (t.text.take 601)).2
    have htl : (t.text.take 601).length ≤ 601 := by rw [List.length_take]; omega
    generalize U.esc false (t.text.take 601) = E at hesc hel
    have hEs : (ByteArray.mk E.toArray).size = E.length := size_of_mk _
    have hEl : E.length ≤ 3606 := by omega
    have HE := Lib.hid hesc
    have hbs4 := hb4.size
    clear hesc hel htl hf hA hB4 hk4 hbl h k hC hb4
    unfold tkVal
    go_enter Tryz.func26, Tryz.ntmps26
    go_wp2_with (first
      | (go_at_call 50; refine (HE.out _).mono ?_; rintro e w5 ⟨rfl, hb5⟩)
      | (go_at_call 48; refine (write_string B b acc _ w5 (bld_below HBL.out hb5) (by rw [hEs]; omega) (Nat.le_trans (Nat.le_trans hB hbs4) hb5.size)).mono ?_; rintro e w6 ⟨rfl, k6, b6, o6⟩))
    go_end0
    exact ⟨rfl, k6, (HB4.out.trans (hb5.mono (Nat.le_trans hB hbs4))).trans b6, (HK4.out.trans (kept_below hb5)).trans o6⟩
  · have b1 : (t.kind == 1) = false := by rw [k]; rfl
    have b2 : (t.kind == 2) = true := by rw [k]; rfl
    have hC : U.tokC t = U.endE t.name := by unfold U.tokC; rw [if_neg (by omega), if_pos k]
    rw [hC]
    have s1 : (ByteArray.mk #[60, 47]).size = 2 := rfl
    have s2 : (ByteArray.mk #[62]).size = 1 := rfl
    have hbs4 := hb4.size
    clear hf hA hB4 hk4 hbl h k hC hb4
    unfold tkVal
    go_enter Tryz.func26, Tryz.ntmps26
    go_wp2_with (go_at_call 48; refine (write_string B b acc _ _ HBL.out (by simp only [ByteArray.size_append, hns, s1, s2]; omega) (Nat.le_trans hB hbs4)).mono ?_; rintro e w6 ⟨rfl, k6, b6, o6⟩)
    go_end0
    refine ⟨rfl, ?_, HB4.out.trans b6, HK4.out.trans o6⟩
    have e1 : U.endE t.name = (ByteArray.mk #[60, 47] ++ ByteArray.mk t.name.toArray ++ ByteArray.mk #[62]).data.toList := by simp [U.endE]
    rw [e1]
    exact k6
  · have b1 : (t.kind == 1) = true := by rw [k]; rfl
    have hC : U.tokC t = U.startC t.name t.attrs t.self := by unfold U.tokC; rw [if_neg (by omega), if_neg (by omega)]
    rw [hC]
    have hws := write_start B b acc t ao cap _ hbl (Nat.le_trans hB hb4.size) (hA.keep fun p hp => hB4.cell hp) hf hn ha4 han hacc
    unfold tkVal at hws
    have HW := Lib.hid hws
    clear hws hf hA hB4 hk4 hbl h k hC han hb4
    unfold tkVal
    go_enter Tryz.func26, Tryz.ntmps26
    go_wp2_with (go_at_call 49; refine HW.out.mono ?_; rintro e w6 ⟨rfl, k6, b6, o6⟩)
    go_end0
    exact ⟨rfl, k6, HB4.out.trans b6, HK4.out.trans o6⟩

end Go.Proofs.YtmfkefcdddoooaaGreatDoor

namespace Go.Proofs.YtmfkefcdddoooaaGreatDoor
open Go.RowKit

set_option maxHeartbeats 1000000 in
set_option maxRecDepth 1000000 in
theorem bld_len (B b : Nat) (l : List UInt8) (w : World) (h : BldAt B b l w) : Calls Tryz.prog 27 #[.pointer (some ⟨b, 0, none⟩)] w fun e w' => e = .returned (.int .i64 (l.length : Int)) ∧ w = w' := by
  obtain ⟨ao, cap, hbk, _⟩ := Bld_slice h
  have u1 : w.cell? ⟨b, 1, none⟩ = some (.slice ao l.length cap) := by rw [Lib.cell_of_heap hbk]; rfl
  clear hbk h
  go_enter Tryz.func27, Tryz.ntmps27
  go_wp2_with fail
  go_ret
  exact ⟨rfl, rfl⟩

set_option maxHeartbeats 8000000 in
set_option maxRecDepth 1000000 in
theorem etext_walk (v : Value) (l : List U.Tk) (w : World) (hL : RdKC w w.heap.size v l) (hz : l.length ≤ most) (hs : ∀ t ∈ l, Fits most t) :
    Calls Tryz.prog 10 #[v] w fun e w' => e = .returned (.tuple #[.string ⟨(U.textOf l).1.toArray⟩, .int .i64 ((U.textOf l).2 : Nat)]) ∧ Below w.heap.size w w' := by
  have hc := check_walk v l w hL hz hs
  obtain ⟨ao, cap, rfl, hcap⟩ := hL.len
  have hzz : l.length ≤ 9223372036854775807 := hz
  by_cases h0 : U.fault l = 0
  · rw [h0, show ((0 : Nat) : Int) = 0 from rfl] at hc
    have hft : ∀ t ∈ l, _ := U.faults_tok l false (by unfold U.fault at h0; split at h0; cases h0; exact h0)
    have hR : U.textOf l = if 600 < (U.emit (l.map U.Tk.tok)).length then ([], 1) else (U.emit (l.map U.Tk.tok), 0) := by unfold U.textOf; rw [if_pos h0]
    obtain ⟨R, hRR⟩ : ∃ R, U.textOf l = R := ⟨_, rfl⟩
    rw [hRR] at hR
    rw [hRR]
    have HR := Lib.hid hR
    have HC := Lib.hid hc
    have HL := Lib.hid hL
    have HS := Lib.hid hs
    have HF := Lib.hid hft
    clear hc hL hs hft hR hRR h0
    go_enter Tryz.func10, Tryz.ntmps10
    go_wp2_with (go_at_call 11; refine HC.out.mono ?_; rintro e w2 ⟨rfl, hb2⟩)
    have hs2 := hb2.size
    go_loopw [15] (fun i wr => ∃ k : Nat, k ≤ l.length ∧ i = .int .i64 k ∧ Bld w2.heap.size w2.heap.size (U.emit ((l.take k).map U.Tk.tok)) wr ∧ Below w.heap.size w wr ∧ w2.heap.size < wr.heap.size ∧ (U.emit ((l.take k).map U.Tk.tok)).length ≤ 600) (fun i _ => l.length - (intOf i).toNat)
    case atStart => exact ⟨0, Nat.zero_le _, rfl, (Lib.IsBuilderF.of (Lib.fresh_isBuilder 58 5 w2)), hb2.alloc hs2 _, by simp, by simp [U.emit]⟩
    case round =>
      obtain ⟨k, hk, rfl, hbd, hbw, hsz, hle⟩ := hrel
      have HBD := Lib.hid hbd
      have HLE := Lib.hid hle
      clear hbd hle
      have hbs := hbw.size
      by_cases hlt : k < l.length
      · have hx := List.getElem?_eq_getElem hlt
        have hm := List.getElem_mem hlt
        generalize l[k]'hlt = x at hx hm
        obtain ⟨g, o, aoA, capA, rfl, hg, d0, d1, d2, d3, d4, hA, hcA⟩ := HL.out.at hx
        have c0 := (hbw.cell (p := ⟨g, o + k * 5, none⟩) hg).trans d0
        have c1 := (hbw.cell (p := ⟨g, o + k * 5 + 1, none⟩) hg).trans d1
        have c2 := (hbw.cell (p := ⟨g, o + k * 5 + 2, none⟩) hg).trans d2
        have c3 := (hbw.cell (p := ⟨g, o + k * 5 + 3, none⟩) hg).trans d3
        have c4 := (hbw.cell (p := ⟨g, o + k * 5 + 4, none⟩) hg).trans d4
        have hk0 : (0 : Int) ≤ (k : Int) := Int.natCast_nonneg _
        have hk1 : (k : Int) < (l.length : Int) := by omega
        have hbN := hbw.alloc hbs (.cells #[.int .i64 x.kind, .string ⟨x.name.toArray⟩, .slice aoA x.attrs.length capA, .bool x.self, .string ⟨x.text.toArray⟩] 33 (0, 0))
        have hxk := HF.out x hm
        have hok : x.kind = 3 ∨ (x.kind = 2 ∧ x.name.length ≤ 12) ∨ (x.kind = 1 ∧ x.name.length ≤ 12 ∧ x.attrs.length ≤ 4 ∧ ∀ a ∈ x.attrs, a.1.length ≤ 12) := by
          rcases hxk with h | ⟨h, h1, _⟩ | ⟨h, h1, h2⟩
          · exact .inl h
          · exact .inr (.inl ⟨h, U.isName_le h1⟩)
          · exact .inr (.inr ⟨h, U.isName_le h1, h2.2.1, fun a ha => U.isName_le (h2.1 a ha)⟩)
        have hkk : x.kind = 1 ∨ x.kind = 2 ∨ x.kind = 3 := by
          rcases hxk with h | ⟨h, _⟩ | ⟨h, _⟩
          · exact .inr (.inr h)
          · exact .inr (.inl h)
          · exact .inl h
        have hwt := write_token w2.heap.size w2.heap.size (U.emit ((l.take k).map U.Tk.tok)) x aoA capA (wr.alloc (.cells #[.int .i64 x.kind, .string ⟨x.name.toArray⟩, .slice aoA x.attrs.length capA, .bool x.self, .string ⟨x.text.toArray⟩] 33 (0, 0)))
          (bld_below HBD.out ((Below.refl _ wr).alloc (Nat.le_refl _) _)) (by simp; omega) ((hA.keep fun p hp => hbN.cell hp).more hs2) (HS.out x hm) hok HLE.out
        unfold tkVal at hwt
        have hcut := U.tokC_cut hkk
        have het := U.emit_take hx
        have hel := U.emit_le l (k + 1)
        have hsz2 : w2.heap.size ≤ (wr.alloc (.cells #[.int .i64 x.kind, .string ⟨x.name.toArray⟩, .slice aoA x.attrs.length capA, .bool x.self, .string ⟨x.text.toArray⟩] 33 (0, 0))).heap.size := by simp; omega
        obtain ⟨X, hX⟩ : ∃ X, U.emit ((l.take k).map U.Tk.tok) ++ U.tokC x = X := ⟨_, rfl⟩
        rw [hX] at hwt
        have HWT := Lib.hid hwt
        have HX := Lib.hid (And.intro hX (And.intro hcut (And.intro het hel)))
        clear hwt hX hcut het hel hx hm hok hkk hxk d0 d1 d2 d3 d4 hA
        by_cases h6 : 600 < X.length
        · have h6z : (600 : Int) < (X.length : Int) := by omega
          go_wp2_with (first
            | (go_at_call 26; refine HWT.out.mono ?_; rintro e w6 ⟨rfl, k6, b6, o6⟩)
            | (go_at_call 27; refine (bld_len _ _ _ _ k6).mono ?_; rintro e w7 ⟨rfl, rfl⟩))
          go_ret2
          refine ⟨?_, hbN.trans (b6.mono hs2)⟩
          obtain ⟨hX, hcut, het, hel⟩ := HX.out
          have h7 : 600 < (U.emit (l.map U.Tk.tok)).length := by
            have h8 := hcut.1
            have h9 := congrArg List.length hX
            rw [List.length_append] at h9
            rw [het, List.length_append] at hel
            omega
          have h10 := HR.out
          rw [if_pos h7] at h10
          rw [h10]
          rfl
        · have h6z : ¬ (600 : Int) < (X.length : Int) := by omega
          go_wp2_with (first
            | (go_at_call 26; refine HWT.out.mono ?_; rintro e w6 ⟨rfl, k6, b6, o6⟩)
            | (go_at_call 27; refine (bld_len _ _ _ _ k6).mono ?_; rintro e w7 ⟨rfl, rfl⟩))
          have hXe : X = U.emit ((l.take (k + 1)).map U.Tk.tok) := by
            obtain ⟨hX, hcut, het, hel⟩ := HX.out
            have h9 := congrArg List.length hX
            rw [List.length_append] at h9
            rw [het, ← hX, hcut.2 (by omega)]
          rw [hXe] at k6 h6
          have hb8 := hbN.trans (b6.mono hs2)
          have hsz3 := b6.size
          have h6l : (U.emit ((l.take (k + 1)).map U.Tk.tok)).length ≤ 600 := by omega
          clear hXe h6 h6z b6 o6
          have K6 := Lib.hid k6
          have H6 := Lib.hid h6l
          clear k6 h6l
          go_roundw
          case rel => exact ⟨k + 1, by omega, by go_num, .inr K6.out, hb8, Nat.lt_of_lt_of_le (by simp; omega) hsz3, H6.out⟩
          case measure => simp [intOf]; omega
      · have hall : l.take k = l := List.take_of_length_le (by omega)
        rw [hall] at HBD HLE
        clear hall
        go_wp2_with (go_at_call 28; refine (Tryz.Builder_String_any_k w2.heap.size w2.heap.size (U.emit (l.map U.Tk.tok)) _ HBD.out (by omega)).mono ?_; rintro e w7 ⟨rfl, _, b7, _⟩)
        go_ret2
        refine ⟨?_, hbw.trans (b7.mono hs2)⟩
        have h10 := HR.out
        rw [if_neg (by have := HLE.out; omega)] at h10
        rw [h10]
        rfl
  · have hR : U.textOf l = ([], U.fault l) := by unfold U.textOf; rw [if_neg h0]
    rw [hR]
    have hne : (((U.fault l : Nat) : Int) != 0) = true := bne_iff_ne.2 (by omega)
    generalize U.fault l = R at hc hne
    have HC := Lib.hid hc
    clear hc hL hs h0 hR
    show Calls _ _ _ _ fun e w' => e = .returned (.tuple #[.string ⟨#[]⟩, .int .i64 (R : Int)]) ∧ _
    go_enter Tryz.func10, Tryz.ntmps10
    go_wp2_with (go_at_call 11; refine HC.out.mono ?_; rintro e w2 ⟨rfl, hb2⟩)
    go_ret2
    exact ⟨rfl, hb2⟩

end Go.Proofs.YtmfkefcdddoooaaGreatDoor

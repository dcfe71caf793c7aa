/- show.appendTokens. -/
import Derived.Test.YtmfkefcdddoooaaShowNames
import Derived.Test.YtmfkefcdddoooaaToksPut
import Derived.Test.YtmfkefcdddoooaaCount5
import Derived.Deep.RegionLaw
import Derived.Deep.RegionWith
namespace Go.Proofs.Ytmfkefcdddoooaa
open Go.RowKit

/-- a row of tokens that has grown from v with xs, in w, to v' with xs and ys, in w'; the attributes of ys lie below N -/
structure TR (N : Nat) (w : World) (v : Value) (xs : List (U.Tok × Value)) (w' : World) (v' : Value) (ys : List (U.Tok × Value)) : Prop where
  own : w'.ownsRow N 31 5 v' (xs ++ ys).length (tokCells (xs ++ ys))
  atts : ∀ y ∈ ys, RdAS w (· < N) y.2 y.1.attrs
  grown : w.grownBy w' v.ownBlock
  lies : ∀ j, v'.ownBlock = some j → w.heap.size ≤ j ∨ v.ownBlock = some j
  base : N ≤ w.heap.size
  orig : ∀ j, v.ownBlock = some j → N ≤ j
theorem TR.below {N : Nat} {w w' : World} {v v' : Value} {xs ys : List (U.Tok × Value)} (h : TR N w v xs w' v' ys) : Below N w w' := (Below.refl N w).grown h.grown h.base h.orig
theorem TR.start {N : Nat} {w : World} {v : Value} {xs : List (U.Tok × Value)} (h : w.ownsRow N 31 5 v xs.length (tokCells xs)) (hN : N ≤ w.heap.size) : TR N w v xs w v [] :=
  ⟨by rw [List.append_nil]; exact h, (fun y hy => by cases hy), World.grownBy.refl _ _, fun j hj => .inr hj, hN, fun j hj => (h.lt j hj).1⟩
theorem TR.later {N : Nat} {w w' w2 : World} {v v' : Value} {xs ys : List (U.Tok × Value)} (h : TR N w v xs w' v' ys) (hb : Below w'.heap.size w' w2) : TR N w v xs w2 v' ys :=
  ⟨own_keep h.own hb, h.atts, h.grown.andThen (row' := none) ⟨hb.os, hb.tape, hb.output, hb.size, fun i hi _ => hb.block i hi⟩ (fun j hj => by cases hj), h.lies, h.base, h.orig⟩
theorem TR.trans {N : Nat} {w w' w2 : World} {v v' v2 : Value} {xs ys zs : List (U.Tok × Value)} (h : TR N w v xs w' v' ys) (k : TR N w' v' (xs ++ ys) w2 v2 zs) : TR N w v xs w2 v2 (ys ++ zs) := by
  have hs := h.grown.size
  refine ⟨by rw [← List.append_assoc]; exact k.own, fun y hy => ?_, h.grown.andThen k.grown (fun j hj => h.lies j hj), fun j hj => ?_, h.base, h.orig⟩
  · rcases List.mem_append.1 hy with hy | hy
    · exact h.atts y hy
    · exact (k.atts y hy).keep (fun p hp => (h.below.cell hp).symm) (fun _ hb => hb)
  · rcases k.lies j hj with h1 | h1
    · exact .inl (by omega)
    · exact h.lies j h1
theorem TR.put {N : Nat} {w w1 w2 : World} {v v1 : Value} {g cap n : Nat} {xs ys : List (U.Tok × Value)} (h : TR N w v xs w1 v1 ys) (x : U.Tok) (av : Value) (hA : RdAS w (· < N) av x.attrs)
    (ho : w2.ownsRow N 31 5 (.slice (some ⟨g, 0, none⟩) n cap) ((xs ++ ys).length + 1) (tokCells (xs ++ ys) ++ [.int .i64 (x.kind : Nat), .string ⟨x.name.toArray⟩, av, .bool x.self, .string ⟨x.text.toArray⟩])) (hg : w1.grownBy w2 v1.ownBlock) (hat : v1.ownBlock = some g ∨ w1.heap.size ≤ g) :
    TR N w v xs w2 (.slice (some ⟨g, 0, none⟩) n cap) (ys ++ [(x, av)]) := by
  have hs := h.grown.size
  refine ⟨?_, fun y hy => ?_, h.grown.andThen hg (fun j hj => h.lies j hj), fun j hj => ?_, h.base, h.orig⟩
  · rw [← List.append_assoc, List.length_append, tokCells_append]
    exact ho
  · rcases List.mem_append.1 hy with hy | hy
    · exact h.atts y hy
    · obtain rfl := List.mem_singleton.1 hy
      exact hA
  · have e2 : g = j := by simpa [Value.ownBlock] using hj
    subst e2
    rcases hat with e | e
    · exact h.lies g e
    · exact .inl (by omega)

set_option maxHeartbeats 8000000 in
set_option maxRecDepth 1000000 in
theorem append_tokens (c : Nat) : ∀ (l : List U.Nd), U.cntL l ≤ c → U.cntL l ≤ 1048576 → ∀ (N : Nat) (v : Value) (xs : List (U.Tok × Value)) (nv : Value) (w : World), w.ownsRow N 31 5 v xs.length (tokCells xs) → N ≤ w.heap.size → RdNs w (· < N) nv l → xs.length + 2 * U.cntL l ≤ 4194304 →
    Calls Try.prog 38 #[v, nv] w fun e w' => ∃ v' ys, e = .returned v' ∧ TR N w v xs w' v' ys ∧ ys.map (·.1) = U.lToks l := by
  induction c using Nat.strongRecOn with
  | _ c ih =>
  intro l hlc hlM N v xs nv w hown hN hR hsz
  obtain ⟨iT, hiT, hT0, hT1, hT2⟩ := info_parts infoTok
  obtain ⟨vo, vcap, rfl⟩ := own_form hown
  have hR0 := hR
  obtain ⟨ao, cap, rfl, hcl, hcm, -⟩ := hR0
  have HR := Lib.hid hR
  have IH := Lib.hid ih
  have hll := U.len_cnt l
  have HT := Lib.hid (TR.start hown hN)
  clear ih hR hcl hcm hown
  go_enter Try.func38, Try.ntmps38
  go_wp2_with fail
  go_loopw [0, 9] (fun tv i wr => ∃ (k : Nat) (ys : List (U.Tok × Value)), k ≤ l.length ∧ i = .int .i64 k ∧ Hid (TR N w (.slice vo xs.length vcap) xs wr tv ys) ∧ Hid (ys.map (·.1) = U.lToks (l.take k))) (fun _ i _ => l.length - (intOf i).toNat)
  case atStart => exact ⟨0, [], Nat.zero_le _, rfl, HT.out, by show _ = _; rw [List.take_zero, U.lToks_nil]; rfl⟩
  case round =>
    obtain ⟨k, ys, hk, rfl, HTR, HYS⟩ := hrel
    obtain ⟨ta, tcap, rfl⟩ := own_form HTR.out.own
    have hbw := HTR.out.below
    by_cases hlt : k < l.length
    · have hx := List.getElem?_eq_getElem hlt
      generalize l[k]'hlt = n at hx
      obtain ⟨g, o, cap2, e0, hg, hn⟩ := HR.out.get hx
      injection e0 with e1 e2 e3
      subst e1
      obtain ⟨av, pv, c0, c1, c2, c3, hA, hP⟩ := (rdNd_iff n g _).1 hn
      obtain ⟨aa, acap, rfl, hac, ham, -⟩ := id hA
      obtain ⟨pa, pcap, rfl, hpc, hpm, -⟩ := id hP
      have d0 := (hbw.cell (p := ⟨g, o + k * 4, none⟩) hg).trans c0
      have d1 := (hbw.cell (p := ⟨g, o + k * 4 + 1, none⟩) hg).trans c1
      have d2 := (hbw.cell (p := ⟨g, o + k * 4 + 2, none⟩) hg).trans c2
      have d3 := (hbw.cell (p := ⟨g, o + k * 4 + 3, none⟩) hg).trans c3
      have hge := U.cntL_get hx
      have hne := U.cntN_eq n
      have hct := U.cntL_take hx
      have htl := U.lToks_len (l.take k)
      have hyl : ys.length = (U.lToks (l.take k)).length := by rw [← HYS.out, List.length_map]
      have htk := U.lToks_take hx
      rw [U.ndToks_eq] at htk
      have hk0 : (0 : Int) ≤ (k : Int) := Int.natCast_nonneg _
      have hk1 : (k : Int) < (l.length : Int) := by omega
      have hIT := fun W => is_text n aa pa n.attrs.length acap n.parts.length pcap W
      unfold ndVal at hIT
      have HIT := Lib.hid hIT
      have HQ := Lib.hid (heap_alloc_new wr (ndObj n (.slice aa n.attrs.length acap) (.slice pa n.parts.length pcap)))
      unfold ndObj at HQ
      have HA := Lib.hid hA
      have HP := Lib.hid hP
      have hz1 : (xs ++ ys).length ≤ 4194304 := by rw [List.length_append]; omega
      clear c0 c1 c2 c3 hn e2 e3 hac ham hpc hpm hIT hA hP
      by_cases hnm : n.name = []
      · have hne1 : n.name.isEmpty = true := List.isEmpty_iff.2 hnm
        rw [hne1] at HIT
        rw [if_pos hnm] at htk
        have HTK := Lib.hid htk
        clear hge hct htl hyl htk hx hne1 hnm
        go_wp2_with fail
        refine (HIT.out _).mono ?_
        rintro e w3 ⟨rfl, hb3⟩
        have Q3 := Lib.hid ((hb3.block wr.heap.size (by simp)).trans HQ.out)
        have u32 := (nd_cells Q3.out).2.2.1
        have HT3 := Lib.hid ((HTR.out.later ((Below.refl _ wr).alloc (Nat.le_refl _) _)).later hb3)
        clear hb3 HIT HQ d0 d1 d2 d3 HTR
        have HTX := Lib.hid (fun O => by have h := (HT3.out.later ((Below.refl _ w3).alloc (Nat.le_refl _) O)).own; rw [List.length_append] at h; exact h)
        go_wp2_with (at_builtin; refine wpList_append_lies _ rfl _ _ 23 rfl N 31 iT _ 5 72 Try.underlying23 hiT hT0 hT1 hT2 rfl (by decide) _ (xs.length + ys.length) _ rfl (HTX.out (.cells #[.int .i64 3, .string ⟨#[]⟩, .slice none 0 0, .bool false, .string ⟨n.text.toArray⟩] 31 (0, 0))) ⟨_, 0, none⟩ 1 1 [.int .i64 3, .string ⟨#[]⟩, .slice none 0 0, .bool false, .string ⟨n.text.toArray⟩] rfl rfl ?a1 ?a2 (by decide) ?a3 ?a4 ?a5 _ rfl ?_)
        case a1 => exact cells5 (heap_alloc_new w3 (.cells #[.int .i64 3, .string ⟨#[]⟩, .slice none 0 0, .bool false, .string ⟨n.text.toArray⟩] 31 (0, 0)))
        case a2 => intro u hu; simp at hu; rcases hu with rfl | rfl | rfl | rfl | rfl <;> rfl
        case a3 => rw [List.length_append] at hz1; unfold maxLen; omega
        case a4 => rw [List.length_append] at hz1; omega
        case a5 => have := HT3.out.below.size; simp; omega
        intro g7 cap7 w7 hown7 hgrow7 hat7 _
        have HP7 := Lib.hid ((HT3.out.later ((Below.refl _ w3).alloc (Nat.le_refl _) (.cells #[.int .i64 3, .string ⟨#[]⟩, .slice none 0 0, .bool false, .string ⟨n.text.toArray⟩] 31 (0, 0)))).put ⟨3, [], [], false, n.text⟩ (.slice none 0 0) (RdAS.nil _ _) (by rw [List.length_append]; exact hown7) (by rw [List.length_append]; exact hgrow7) (by rw [List.length_append]; exact hat7.imp id (fun e => by simp; omega)))
        clear hown7 hgrow7 hat7 HT3 HTX
        go_wp2_with fail
        go_roundw
        case rel => exact ⟨k + 1, _, by omega, by go_num, HP7.out, by show _ = _; rw [List.map_append, HYS.out, HTK.out]; rfl⟩
        case measure => simp [intOf]; omega
      · have hne1 : n.name.isEmpty = false := by
          cases h : n.name with
          | nil => exact absurd h hnm
          | cons a r => rfl
        rw [hne1] at HIT
        rw [if_neg hnm] at htk
        have HTK := Lib.hid htk
        have hpl := U.lToks_len n.parts
        have hz2 : xs.length + (ys.length + 1) + 2 * U.cntL n.parts ≤ 4194304 := by omega
        have hcp : U.cntL n.parts < c := by omega
        have hcM : U.cntL n.parts ≤ 1048576 := by omega
        clear hge hct htl hyl htk hx hne1 hnm hne
        go_wp2_with fail
        refine (HIT.out _).mono ?_
        rintro e w3 ⟨rfl, hb3⟩
        have Q3 := Lib.hid ((hb3.block wr.heap.size (by simp)).trans HQ.out)
        have u30 := (nd_cells Q3.out).1
        have u31 := (nd_cells Q3.out).2.1
        have HT3 := Lib.hid ((HTR.out.later ((Below.refl _ wr).alloc (Nat.le_refl _) _)).later hb3)
        have L3 := Lib.hid (Array.getElem?_eq_some_iff.1 Q3.out).1
        have HNE := Lib.hid (show ∀ k', (Value.slice ta (xs.length + ys.length) tcap).ownBlock = some k' → k' < wr.heap.size from fun k' hk' => by
          have h := HTR.out.own
          rw [List.length_append] at h
          exact (h.lt k' hk').2)
        clear hb3 HIT HQ d0 d1 d2 d3 HTR
        have HTX := Lib.hid (fun O => by have h := (HT3.out.later ((Below.refl _ w3).alloc (Nat.le_refl _) O)).own; rw [List.length_append] at h; exact h)
        go_wp2_with (at_builtin; refine wpList_append_lies _ rfl _ _ 23 rfl N 31 iT _ 5 72 Try.underlying23 hiT hT0 hT1 hT2 rfl (by decide) _ (xs.length + ys.length) _ rfl (HTX.out (.cells #[.int .i64 1, .string ⟨n.name.toArray⟩, .slice aa n.attrs.length acap, .bool false, .string ⟨#[]⟩] 31 (0, 0))) ⟨_, 0, none⟩ 1 1 [.int .i64 1, .string ⟨n.name.toArray⟩, .slice aa n.attrs.length acap, .bool false, .string ⟨#[]⟩] rfl rfl ?b1 ?b2 (by decide) ?b3 ?b4 ?b5 _ rfl ?_)
        case b1 => exact cells5 (heap_alloc_new w3 (.cells #[.int .i64 1, .string ⟨n.name.toArray⟩, .slice aa n.attrs.length acap, .bool false, .string ⟨#[]⟩] 31 (0, 0)))
        case b2 => intro u hu; simp at hu; rcases hu with rfl | rfl | rfl | rfl | rfl <;> rfl
        case b3 => rw [List.length_append] at hz1; unfold maxLen; omega
        case b4 => rw [List.length_append] at hz1; omega
        case b5 => have := HT3.out.below.size; simp; omega
        intro g7 cap7 w7 hown7 hgrow7 hat7 _
        have HP7 := Lib.hid ((HT3.out.later ((Below.refl _ w3).alloc (Nat.le_refl _) (.cells #[.int .i64 1, .string ⟨n.name.toArray⟩, .slice aa n.attrs.length acap, .bool false, .string ⟨#[]⟩] 31 (0, 0)))).put ⟨1, n.name, n.attrs, false, []⟩ (.slice aa n.attrs.length acap) (HA.out) (by rw [List.length_append]; exact hown7) (by rw [List.length_append]; exact hgrow7) (by rw [List.length_append]; exact hat7.imp id (fun e => by simp; omega)))
        have Q7 := Lib.hid ((hgrow7.block wr.heap.size (by have := L3.out; simp; omega) (fun e => by have := HNE.out _ e.symm; omega)).trans ((Lib.alloc_old w3 _ _ L3.out).trans Q3.out))
        have u70 := (nd_cells Q7.out).1
        have u73 := (nd_cells Q7.out).2.2.2
        have hg7 : g7 ≠ wr.heap.size := fun e => by
          subst e
          rcases hat7 with h | h
          · have := HNE.out _ h; omega
          · have := L3.out; omega
        have L7 := Lib.hid (Array.getElem?_eq_some_iff.1 Q7.out).1
        have HV := Lib.hid (fun W => show_void n.name W)
        clear hown7 hgrow7 hat7 HT3 HTX u30 u31 Q3 L3 HNE
        cases hvo : U.isVoid n.name with
        | true =>
          rw [hvo] at HV
          have HTK2 : Hid (U.lToks (l.take (k + 1)) = U.lToks (l.take k) ++ [⟨1, n.name, n.attrs, false, []⟩]) := by
            show _ = _
            rw [HTK.out, if_pos hvo]
          clear HTK hvo
          go_wp2_with (go_at_call 54; refine (HV.out _).mono ?_; rintro e w8 ⟨rfl, rfl⟩)
          clear HV u70 u73 Q7 L7
          go_roundw
          case rel => exact ⟨k + 1, _, by omega, by go_num, HP7.out, by show _ = _; rw [List.map_append, HYS.out, HTK2.out]; rfl⟩
          case measure => simp [intOf]; omega
        | false =>
          rw [hvo] at HV
          have HTK2 : Hid (U.lToks (l.take (k + 1)) = U.lToks (l.take k) ++ (⟨1, n.name, n.attrs, false, []⟩ :: (U.lToks n.parts ++ [⟨2, n.name, [], false, []⟩]))) := by
            show _ = _
            rw [HTK.out, if_neg (by rw [hvo]; decide)]
          clear HTK hvo
          have hRC := IH.out (U.cntL n.parts) hcp n.parts (Nat.le_refl _) hcM N (.slice (some ⟨g7, 0, none⟩) (xs.length + ys.length + 1) cap7) (xs ++ (ys ++ [(⟨1, n.name, n.attrs, false, []⟩, .slice aa n.attrs.length acap)])) (.slice pa n.parts.length pcap) w7 HP7.out.own (Nat.le_trans HP7.out.base HP7.out.grown.size) (HP.out.keep (fun p hp => HP7.out.below.cell hp) (fun b hb => hb)) (by simp only [List.length_append, List.length_singleton]; omega)
          have HRC := Lib.hid hRC
          clear hRC
          go_wp2_with (go_at_call 54; refine (HV.out _).mono ?_; rintro e w8 ⟨rfl, rfl⟩)
          refine HRC.out.mono ?_
          rintro e w9 ⟨v9, zs, rfl, h9, hz9⟩
          obtain ⟨vo9, vcap9, rfl⟩ := own_form h9.own
          have Q9 := Lib.hid ((h9.grown.block wr.heap.size L7.out (fun e => hg7 (by simpa [Value.ownBlock] using e.symm))).trans Q7.out)
          have u90 := (nd_cells Q9.out).1
          have HT9 := Lib.hid (HP7.out.trans h9)
          have hzl : zs.length ≤ 2 * U.cntL n.parts := by
            have h := congrArg List.length hz9
            rw [List.length_map] at h
            omega
          have HZ9 := Lib.hid hz9
          clear h9 hz9 HRC HV u70 u73 Q7 L7 HP7 hg7
          have e9 : (xs ++ (ys ++ [((⟨1, n.name, n.attrs, false, []⟩ : U.Tok), Value.slice aa n.attrs.length acap)]) ++ zs).length = xs.length + (ys.length + 1) + zs.length := by simp [List.length_append]; omega
          have e9' : (xs ++ (ys ++ [((⟨1, n.name, n.attrs, false, []⟩ : U.Tok), Value.slice aa n.attrs.length acap)] ++ zs)).length = xs.length + (ys.length + 1) + zs.length := by simp [List.length_append]; omega
          rw [e9] at HT9 ⊢
          have HTX := Lib.hid (fun O => by have h := (HT9.out.later ((Below.refl _ w9).alloc (Nat.le_refl _) O)).own; rw [e9'] at h; exact h)
          have hz10 : xs.length + (ys.length + 1) + zs.length + 1 ≤ 4194305 := by omega
          clear e9 Q9
          go_wp2_with (at_builtin; refine wpList_append_lies _ rfl _ _ 23 rfl N 31 iT _ 5 72 Try.underlying23 hiT hT0 hT1 hT2 rfl (by decide) _ (xs.length + (ys.length + 1) + zs.length) _ rfl (HTX.out (.cells #[.int .i64 2, .string ⟨n.name.toArray⟩, .slice none 0 0, .bool false, .string ⟨#[]⟩] 31 (0, 0))) ⟨_, 0, none⟩ 1 1 [.int .i64 2, .string ⟨n.name.toArray⟩, .slice none 0 0, .bool false, .string ⟨#[]⟩] rfl rfl ?d1 ?d2 (by decide) ?d3 ?d4 ?d5 _ rfl ?_)
          case d1 => exact cells5 (heap_alloc_new w9 (.cells #[.int .i64 2, .string ⟨n.name.toArray⟩, .slice none 0 0, .bool false, .string ⟨#[]⟩] 31 (0, 0)))
          case d2 => intro u hu; simp at hu; rcases hu with rfl | rfl | rfl | rfl | rfl <;> rfl
          case d3 => unfold maxLen; omega
          case d4 => omega
          case d5 => have := HT9.out.below.size; simp; omega
          intro g10 cap10 w10 hown10 hgrow10 hat10 _
          have HP10 := Lib.hid ((HT9.out.later ((Below.refl _ w9).alloc (Nat.le_refl _) (.cells #[.int .i64 2, .string ⟨n.name.toArray⟩, .slice none 0 0, .bool false, .string ⟨#[]⟩] 31 (0, 0)))).put ⟨2, n.name, [], false, []⟩ (.slice none 0 0) (RdAS.nil _ _) (by rw [e9', show ys ++ [((⟨1, n.name, n.attrs, false, []⟩ : U.Tok), Value.slice aa n.attrs.length acap)] ++ zs = ys ++ ((⟨1, n.name, n.attrs, false, []⟩, .slice aa n.attrs.length acap) :: zs) from by simp]; exact hown10) hgrow10 (hat10.imp id (fun e => by simp; omega)))
          clear hown10 hgrow10 hat10 HT9 HTX u90
          go_wp2_with fail
          go_roundw
          case rel => exact ⟨k + 1, _, by omega, by go_num, HP10.out, by show _ = _; rw [HTK2.out, ← HYS.out, ← HZ9.out]; simp⟩
          case measure => simp [intOf]; omega
    · have hall : l.take k = l := List.take_of_length_le (by omega)
      rw [hall] at HYS
      have hz : ¬ (k : Int) < (l.length : Int) := by omega
      go_wp2_with fail
      go_ret
      exact ⟨_, rfl, ys, by have h := HTR.out; rw [List.length_append] at h; exact h, HYS.out⟩

end Go.Proofs.Ytmfkefcdddoooaa

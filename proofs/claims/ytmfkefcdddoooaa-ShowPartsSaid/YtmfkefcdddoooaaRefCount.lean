/- How the document counts: level by level. -/
import Derived.Test.YtmfkefcdddoooaaCount5
namespace Go.Proofs.Ytmfkefcdddoooaa
open Go.RowKit

/-- an append by its own run -/
theorem wpList_append_by {P : Program} {ops : Array Oper} {rest : List Oper} {o : Oper} {a : Act} {Q : Exit → Act → World → Prop} {w : World} (hg : o.guard = none) (s x : Operand) (t : TypeId)
    (ho : o.op = .call { callee := .builtin .append, args := #[s, x], argTypes := #[t, t] }) (v u : Value) (hs : a.eval s = v) (hx : a.eval x = u) {v' : Value} {w' : World}
    (hrun : (Builtin.append_ #[t, t] o.type #[v, u]).run P w = .ok v' w') (h : wpList P ops Q rest (a.put o.dst v') w') : wpList P ops Q (o :: rest) a w :=
  wpList_plain hg fun K hK => by
    unfold Oper.wp execOp
    simp only [ho, resolve, invoke, builtin, Sem.run_bind, Sem.run_pure, Result.andThen_ok, List.map_toArray, List.map_cons, List.map_nil, hs, hx, hrun]
    exact hK _ _ h

set_option maxHeartbeats 8000000 in
set_option maxRecDepth 1000000 in
theorem ref_count (l : List U.Nd) (hlM : U.cntL l ≤ 1048576) (v : Value) (w : World) (hR : RdNs w (· < w.heap.size) v l) :
    Calls Try.prog 37 #[v] w fun e w' => e = .returned (.tuple #[.int .i64 (U.cntL l : Nat), .int .i64 (U.depL l : Nat)]) ∧ Below w.heap.size w w' := by
  have hdl := U.dep_cnt _ l (Nat.le_refl _)
  obtain ⟨ao, cap, rfl⟩ : ∃ ao cap, v = .slice ao l.length cap := by obtain ⟨a, b, e, _⟩ := hR; exact ⟨a, b, e⟩
  have H0 := Lib.hid hR
  clear hR
  go_enter Try.func37, Try.ntmps37
  go_wp2_with fail
  go_loopg [0, 4, 5] (U.cntL l) (fun g sl nn dd wr => ∃ (lv : List U.Nd) (ao : Option Addr) (cap cn de : Nat), sl = .slice ao lv.length cap ∧ nn = .int .i64 cn ∧ dd = .int .i64 de ∧ Hid (RdNs wr (· < wr.heap.size) (.slice ao lv.length cap) lv ∧ U.cntL lv = g ∧ cn + g = U.cntL l ∧ de + U.depL lv = U.depL l) ∧ Below w.heap.size w wr)
  case atStart => exact ⟨l, ao, cap, 0, 0, rfl, rfl, rfl, ⟨H0.out, rfl, by omega, by omega⟩, Below.refl _ _⟩
  case round =>
    obtain ⟨lv, ao, cap, cn, de, rfl, rfl, rfl, HR, hbw⟩ := hrel
    obtain ⟨h1, h2, h3, h4⟩ := HR.out
    have hlc := U.len_cnt lv
    by_cases he : lv = []
    · subst he
      have hz : ¬ (0 : Int) < (([] : List U.Nd).length : Int) := by simp
      have HE := Lib.hid (show cn = U.cntL l ∧ de = U.depL l by rw [U.cntL_nil] at h2; rw [U.depL_nil] at h4; omega)
      have HB := Lib.hid hbw
      clear h1 h2 h3 h4 hbw hlc
      go_wp2_with fail
      go_ret2
      obtain ⟨e1, e2⟩ := HE.out
      exact ⟨by rw [← e1, ← e2]; rfl, HB.out⟩
    · have hpos : 0 < lv.length := List.length_pos_iff.2 he
      have hz : (0 : Int) < (lv.length : Int) := by omega
      have hlow := U.cnt_lower lv
      have hdlow := U.dep_lower lv he
      have q1 : cn ≤ 1048576 := by omega
      have q2 : de ≤ 1048576 := by omega
      have q3 : lv.length ≤ 1048576 := by omega
      have HN := Lib.hid (And.intro hlow hdlow)
      have HH := Lib.hid (And.intro h2 (And.intro h3 h4))
      have HR1 := Lib.hid h1
      have HW0 := Lib.hid hbw
      rename World => wo
      clear he h1 h2 h3 h4 hlow hdlow hlc hbw HR
      go_wp2_with fail
      go_loopw [6, 20] (fun nx i wi => ∃ (k : Nat) (xs : List NV), k ≤ lv.length ∧ i = .int .i64 k ∧ Hid (wi.ownsRow wo.heap.size 45 4 nx xs.length (ndCells xs) ∧ xs.map (·.1) = U.lower (lv.take k) ∧ (∀ x ∈ xs, Done wi (· < wo.heap.size) x) ∧ Below wo.heap.size wo wi)) (fun _ i _ => lv.length - (intOf i).toNat)
      case atStart => exact ⟨0, [], Nat.zero_le _, rfl, World.ownsRow_nil _ _ _ _, rfl, (fun x hx => by cases hx), Below.refl _ _⟩
      case round =>
        obtain ⟨k, xs, hk, rfl, HI⟩ := hrel
        obtain ⟨i1, i2, i3, i4⟩ := HI.out
        obtain ⟨no, ncap, rfl⟩ := own_form i1
        have hxl : xs.length = (U.lower (lv.take k)).length := by rw [← i2, List.length_map]
        by_cases hlt : k < lv.length
        · have hx := List.getElem?_eq_getElem hlt
          generalize lv[k]'hlt = n at hx
          obtain ⟨g, o, cap2, e0, hg, hn⟩ := HR1.out.get hx
          injection e0 with e1 e2 e3
          subst e1
          obtain ⟨av, pv, c0, c1, c2, c3, hA, hP⟩ := (rdNd_iff n g _).1 hn
          obtain ⟨aa, acap, rfl⟩ : ∃ aa acap, av = .slice aa n.attrs.length acap := by obtain ⟨a, b, e, _⟩ := hA; exact ⟨a, b, e⟩
          obtain ⟨pa, pcap, rfl⟩ : ∃ pa pcap, pv = .slice pa n.parts.length pcap := by obtain ⟨a, b, e, _⟩ := hP; exact ⟨a, b, e⟩
          have d0 := (i4.cell (p := ⟨g, o + k * 4, none⟩) hg).trans c0
          have d1 := (i4.cell (p := ⟨g, o + k * 4 + 1, none⟩) hg).trans c1
          have d2 := (i4.cell (p := ⟨g, o + k * 4 + 2, none⟩) hg).trans c2
          have d3 := (i4.cell (p := ⟨g, o + k * 4 + 3, none⟩) hg).trans c3
          have hlt2 := U.lower_take hx
          have hcl := U.cntL_take hx
          have hlz : (k : Int) < (lv.length : Int) := by omega
          have hsum : xs.length + n.parts.length ≤ 1048576 := by
            have h9 := U.len_cnt (U.lower (lv.take (k + 1)))
            have h8 := U.cnt_lower (lv.take (k + 1))
            have h7 : U.cntL (lv.take (k + 1)) ≤ U.cntL lv := by
              have := U.cntL_get hx
              rw [hcl]
              omega
            have hlen := congrArg List.length hlt2
            rw [List.length_append] at hlen
            have h6 := HH.out.1
            have h5 := HH.out.2.1
            omega
          have hbO := fun O => i4.alloc i4.size O
          have hAP := Lib.hid (fun O => app_nodes (wr.alloc O) wo.heap.size (.slice no xs.length ncap) xs (i1.alloc O) (hbO O).size pa pcap n.parts (· < wo.heap.size) (hP.keep (fun _ hp => (hbO O).cell hp) (fun _ hb => hb)) hsum)
          have HL := Lib.hid (And.intro hlt2 (And.intro i2 i3))
          have HBO := Lib.hid hbO
          clear c0 c1 c2 c3 hn hA hP hlt2 hcl e2 e3 i1 i2 i3 hxl hbO
          obtain ⟨v2, w2, ys, hrun, hown, hgr, hys, hdn⟩ := hAP.out (.cells #[.string ⟨n.name.toArray⟩, .slice aa n.attrs.length acap, .string ⟨n.text.toArray⟩, .slice pa n.parts.length pcap] 45 (0, 0))
          obtain ⟨vo2, vc2, rfl⟩ := own_form hown
          have hb2 : Below wo.heap.size wo w2 := (HBO.out _).grown hgr ((HBO.out _).size) (fun kk hkk => by
            have := (HI.out.1.lt kk hkk).1
            exact this)
          have HF := Lib.hid (show w2.ownsRow wo.heap.size 45 4 (.slice vo2 (xs ++ ys).length vc2) (xs ++ ys).length (ndCells (xs ++ ys)) ∧ (xs ++ ys).map (·.1) = U.lower (lv.take (k + 1)) ∧ (∀ x ∈ xs ++ ys, Done w2 (· < wo.heap.size) x) ∧ Below wo.heap.size wo w2 from by
            obtain ⟨l1, l2, l3⟩ := HL.out
            refine ⟨hown, by rw [List.map_append, l2, hys, l1], fun x hx => ?_, hb2⟩
            rcases List.mem_append.1 hx with hx | hx
            · exact (l3 x hx).keep (fun p hp => (hb2.cell hp).trans (i4.cell hp).symm) (fun _ hb => hb)
            · exact (hdn x hx).keep (fun p hp => (hb2.cell hp).trans ((HBO.out _).cell hp).symm) (fun _ hb => hb))
          clear hown hgr hys hdn hb2 i4
          go_wp2_with (at_builtin; refine wpList_append_by rfl _ _ 33 rfl _ _ rfl rfl hrun ?_)
          go_wp2_with fail
          go_roundw
          case rel => exact ⟨k + 1, xs ++ ys, by omega, by go_num, by have h := HF.out; rw [List.length_append] at h ⊢; exact h⟩
          case measure => simp [intOf]; omega
        · obtain rfl : k = lv.length := by omega
          rw [List.take_length] at hxl i2
          have hlz : ¬ (lv.length : Int) < (lv.length : Int) := by omega
          have HE := Lib.hid (show RdNs wr (· < wr.heap.size) (.slice no (U.lower lv).length ncap) (U.lower lv) by
            have h1 := RdNs.of_own (S := (· < wr.heap.size)) i1 (fun x hx => (i3 x hx).keep (fun _ _ => rfl) (fun b hb => Nat.lt_of_lt_of_le hb i4.size)) (fun g hg => (i1.lt g hg).2)
            rw [i2] at h1
            rw [hxl] at h1
            exact h1)
          have HB := Lib.hid (HW0.out.trans (i4.mono HW0.out.size))
          rw [hxl]
          clear i1 i2 i3 i4 hxl HI HR1 HW0
          go_wp2_with fail
          go_roundg (U.cntL (U.lower lv))
          case measure =>
            have := HN.out.1
            have := HH.out.1
            omega
          case rel =>
            obtain ⟨g1, g2⟩ := HN.out
            obtain ⟨g3, g4, g5⟩ := HH.out
            exact ⟨U.lower lv, no, ncap, cn + lv.length, de + 1, rfl, by go_num, by go_num, ⟨HE.out, rfl, by omega, by omega⟩, HB.out⟩

end Go.Proofs.Ytmfkefcdddoooaa

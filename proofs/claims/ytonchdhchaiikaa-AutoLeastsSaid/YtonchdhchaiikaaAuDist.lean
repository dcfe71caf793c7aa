/- (auto.machine).distances. -/
import Derived.Test.YtonchdhchaiikaaAuMach
import Derived.Test.YtonchdhchaiikaaAuRows
import Derived.Test.YtonchdhchaiikaaAuDistMath
import Derived.Test.YtonchdhchaiikaaAuRefCount
import Derived.Outline
namespace Go.Proofs.Ytonchdhchaiikaa
open Go.RowKit

def cast (q : List Nat) : List Int := q.map fun k : Nat => (k : Int)
theorem cast_length (q : List Nat) : (cast q).length = q.length := List.length_map ..
theorem cast_app (q : List Nat) (p : Nat) : cast q ++ [(p : Int)] = cast (q ++ [p]) := by simp [cast]
theorem cast_get {q : List Nat} {i x : Nat} (h : q[i]? = some x) : (cast q)[i]? = some (x : Int) := by simp [cast, h]
/-- what distances has in its hands: left, the queue, who leads to whom -/
structure DSt (w W0 wr : World) (g4 : Nat) (lv : Value) (left : List Int) (qv : Value) (q : List Nat) (bs : List (Value × List Int)) : Prop where
  rows : Rows wr w.heap.size ((lv, left) :: (qv, cast q) :: bs)
  oth : Oth W0 wr
  below : Below w.heap.size w wr
  fam : wr.heap[g4]? = some (.cells (bs.map (·.1)).toArray 27 (0, 0))
theorem DSt.qform {w W0 wr : World} {g4 : Nat} {lv : Value} {left : List Int} {qv : Value} {q : List Nat} {bs : List (Value × List Int)} (h : DSt w W0 wr g4 lv left qv q bs) : ∃ ao cap, qv = .slice ao q.length cap := by
  obtain ⟨ao, cap, e⟩ := h.rows.form (i := 1) rfl
  exact ⟨ao, cap, by rw [← cast_length]; exact e⟩

theorem DSt.later {w W0 wr : World} {g4 : Nat} {lv : Value} {left : List Int} {qv : Value} {q : List Nat} {bs : List (Value × List Int)} (h : DSt w W0 wr g4 lv left qv q bs) (O : Obj) : DSt w W0 (wr.alloc O) g4 lv left qv q bs :=
  ⟨h.rows.alloc _, h.oth.alloc _, h.below.alloc h.below.size _, (Below.heap_alloc wr _ _ (heap_lt h.fam)).trans h.fam⟩
/-- what distances hands back -/
def DistPost (ll : List (List Int)) (fl : List Bool) (w : World) (e : Ending) (w' : World) : Prop :=
  ∃ (g : Nat) (D : List Int), e = .returned (.slice (some ⟨g, 0, none⟩) ll.length ll.length) ∧ D.length = ll.length ∧ (∀ s z, D[s]? = some z → w'.cell? ⟨g, s, none⟩ = some (.int .i64 z)) ∧ g < w'.heap.size ∧ w.heap.size ≤ g ∧ (∀ s, U.Dist ll fl s (U.lk D s)) ∧ (∀ s, U.lk D s ≤ (ll.length : Int)) ∧ Below w.heap.size w w'
theorem row8_cells {w : World} {b : Nat} {a0 a1 a2 a3 a4 a5 a6 a7 : Value} {T : TypeId} {f : Nat × Nat} (h : w.heap[b]? = some (.cells #[a0, a1, a2, a3, a4, a5, a6, a7] T f)) :
    w.cell? ⟨b, 0, none⟩ = some a0 ∧ w.cell? ⟨b, 1, none⟩ = some a1 ∧ w.cell? ⟨b, 2, none⟩ = some a2 ∧ w.cell? ⟨b, 3, none⟩ = some a3 ∧ w.cell? ⟨b, 4, none⟩ = some a4 ∧ w.cell? ⟨b, 5, none⟩ = some a5 ∧ w.cell? ⟨b, 6, none⟩ = some a6 ∧ w.cell? ⟨b, 7, none⟩ = some a7 := by
  refine ⟨?_, ?_, ?_, ?_, ?_, ?_, ?_, ?_⟩ <;> rw [Lib.cell_of_heap h] <;> rfl

set_option maxHeartbeats 4000000 in
set_option maxRecDepth 1000000 in
theorem au_dist (ll : List (List Int)) (fl : List Bool) (nv fv : Value) (w : World) (hN : RdR8 w (· < w.heap.size) nv ll) (hF : RdB w (· < w.heap.size) fv fl) (hll : ll.length ≤ 40) (hfl : fl.length = ll.length) (hrg : ∀ l ∈ ll, ∀ s ∈ l, s < (ll.length : Int)) :
    Calls Try.prog 42 #[.agg #[nv, fv]] w (DistPost ll fl w) := by
  have hbN := (Below.refl w.heap.size w).alloc (Nat.le_refl _) (.cells #[nv, fv] 53 (0, 0))
  obtain ⟨ao, cap, hnv, hnc, hnm⟩ := RdR8.form hN
  obtain ⟨fo, fcap, hfv, hfc, hfm⟩ := RdL.form hF
  subst hnv
  subst hfv
  have HN := Lib.hid hN
  have HF := Lib.hid hF
  have HB := Lib.hid hbN
  obtain ⟨N, hNN⟩ : ∃ N, ll.length = N := ⟨_, rfl⟩
  rw [hNN] at hfl
  rw [hNN, hfl] at hbN
  rw [hNN, hfl]
  rw [hNN] at hll hrg
  have HRG := Lib.hid hrg
  clear hrg
  clear hN hF hbN hnc hnm hfc hfm
  go_enter Try.func42, Try.ntmps42
  have hb0 := (Below.refl w.heap.size w).alloc (Nat.le_refl _) (.cells #[.slice ao N cap, .slice fo N fcap] 53 (0, 0))
  have q0 := heap_alloc_new w (.cells #[.slice ao N cap, .slice fo N fcap] 53 (0, 0))
  have z0 : (w.alloc (.cells #[.slice ao N cap, .slice fo N fcap] 53 (0, 0))).heap.size = w.heap.size + 1 := by simp
  go_wp2_with (first
    | (at_make; refine wpList_make_blk _ rfl _ _ rfl N (by omega) rfl rfl ?_; intro w4 hk4 hb4 hz4; have q4 := (hb4.block w.heap.size (by omega)).trans q0; have m4 := (au_cells q4).1; have m5 := (au_cells q4).2)
    | (at_make; refine wpList_make_nils _ rfl _ _ rfl N (by omega) rfl rfl ?_; intro w5 hk5 hb5 hz5; have q5 := (hb5.block w.heap.size (by omega)).trans q4; have m6 := (au_cells q5).1; have m7 := (au_cells q5).2))
  have hgL : w.heap.size + 1 < w4.heap.size := by omega
  have hk55 : Blk w5 (w.heap.size + 1) (List.replicate N 0) := by
    have := (z0 ▸ hk4).below hb5 hgL
    exact this
  have D0 : DSt w w5 w5 w4.heap.size (.slice (some ⟨w.heap.size + 1, 0, none⟩) N N) (List.replicate N 0) (.slice none 0 0) [] (List.replicate N (Value.slice none 0 0, [])) := by
    refine ⟨?_, Oth.refl _, (hb0.trans (hb4.mono (by omega))).trans (hb5.mono (by omega)), ?_⟩
    · refine Rows.put (Rows.putNil (Rows.nils _ _ _)) ?_ ?_
      · have := hk55.own (B := w.heap.size) (by omega) (by simp [maxLen]; omega)
        rw [List.length_replicate] at this
        rw [List.length_replicate]
        exact this
      · intro i r hr b hb
        have hz : r.1 = Value.slice none 0 0 := by
          cases i with
          | zero =>
            have e : (Value.slice none 0 0, ([] : List Int)) = r := by simpa using hr
            rw [← e]
          | succ i =>
            have hr2 : (List.replicate N (Value.slice none 0 0, ([] : List Int)))[i]? = some r := hr
            rw [List.getElem?_replicate] at hr2
            split at hr2
            · have e : (Value.slice none 0 0, ([] : List Int)) = r := by simpa using hr2
              rw [← e]
            · cases hr2
        rw [hz]
        simp [Value.ownBlock]
    · rw [hk5]
      simp
  have Q5 := Lib.hid q5
  have HD0 := Lib.hid D0
  have HNN := Lib.hid hNN
  have HFL := Lib.hid hfl
  have hg4 : w.heap.size ≤ w4.heap.size := by omega
  have HG4 := Lib.hid hg4
  clear hg4
  generalize w4.heap.size = g4 at HD0 HG4
  clear D0 hk55 hgL hk5 hb5 hz5 q5 m6 m7 hk4 hb4 hz4 q4 m4 m5 hb0 q0 z0 w4 HB hNN hfl
  rename World => W0
  go_loopw [24, 5] (fun i s5 wr => ∃ (k : Nat) (left : List Int) (q : List Nat) (bs : List (Value × List Int)) (B : List (List Nat)), k ≤ N ∧ i = .int .i64 k ∧ Hid (DSt w W0 wr g4 (.slice (some ⟨w.heap.size + 1, 0, none⟩) N N) left s5 q bs) ∧
    Hid (left = (fl.take k).map U.zeroOr ++ List.replicate (N - k) 0) ∧ Hid (q ++ U.qOf (fl.drop k) k = U.qOf fl 0) ∧ Hid (q.length ≤ k) ∧ Hid (bs.map (·.2) = B.map cast) ∧ Hid (U.Bef ll N k 0 B)) (fun i _ _ => N - (intOf i).toNat)
  case atStart => exact ⟨0, _, [], _, List.replicate N [], Nat.zero_le _, rfl, HD0.out, by show _ = _; simp, by show _ = _; simp, Nat.le_refl _, by show _ = _; simp [cast], U.Bef.start ll N⟩
  case round =>
    obtain ⟨k, left, q, bs, B, hk, rfl, HD, HLF, HQ, HQK, HBB, HBF⟩ := hrel
    by_cases hlt : k < N
    · have hy := List.getElem?_eq_getElem (show k < ll.length by have := HNN.out; omega)
      generalize ll[k]'(by have := HNN.out; omega) = r at hy
      obtain ⟨g, o, cap2, e0, hg, h8, hcells⟩ := RdR8.row HN.out hy
      rw [HNN.out] at e0
      injection e0 with e1 e2 e3
      subst e1
      subst e3
      obtain ⟨r0, r1, r2, r3, r4, r5, r6, r7, rfl⟩ := list8 h8
      have hyb := List.getElem?_eq_getElem (show k < fl.length by have := HFL.out; omega)
      have hdb := List.drop_eq_getElem_cons (show k < fl.length by have := HFL.out; omega)
      generalize fl[k]'(by have := HFL.out; omega) = b at hyb hdb
      obtain ⟨gf, of, cap3, pv, e0, hgf, d0, rfl⟩ := RdL.at HF.out hyb
      rw [HFL.out] at e0
      injection e0 with e1 e2 e3
      subst e1
      subst e3
      have hbl := HD.out.below
      have cb := (hbl.cell (p := ⟨gf, of + k, none⟩) hgf).trans d0
      have x0 := (hbl.cell (p := ⟨g, o + k * 8 + 0, none⟩) hg).trans (hcells 0 _ rfl)
      have x1 := (hbl.cell (p := ⟨g, o + k * 8 + 1, none⟩) hg).trans (hcells 1 _ rfl)
      have x2 := (hbl.cell (p := ⟨g, o + k * 8 + 2, none⟩) hg).trans (hcells 2 _ rfl)
      have x3 := (hbl.cell (p := ⟨g, o + k * 8 + 3, none⟩) hg).trans (hcells 3 _ rfl)
      have x4 := (hbl.cell (p := ⟨g, o + k * 8 + 4, none⟩) hg).trans (hcells 4 _ rfl)
      have x5 := (hbl.cell (p := ⟨g, o + k * 8 + 5, none⟩) hg).trans (hcells 5 _ rfl)
      have x6 := (hbl.cell (p := ⟨g, o + k * 8 + 6, none⟩) hg).trans (hcells 6 _ rfl)
      have x7 := (hbl.cell (p := ⟨g, o + k * 8 + 7, none⟩) hg).trans (hcells 7 _ rfl)
      rw [Nat.add_zero] at x0
      have hk0 : (0 : Int) ≤ (k : Int) := Int.natCast_nonneg _
      have hk1 : (k : Int) < (N : Int) := by omega
      have qr := HD.out.oth _ _ _ _ (by decide) (by decide) Q5.out
      have m0 := (au_cells qr).1
      have m1 := (au_cells qr).2
      obtain ⟨gl, capl, el, _, fL, _, _, hgl⟩ := HD.out.rows.at (i := 0) (j := k) rfl (show left[k]? = some 0 by
        rw [HLF.out, rep_step hlt, get_mid _ _ _ k (take_map_len _ (by have := HFL.out; omega))])
      injection el with el1 el2 el3
      injection el1 with el1
      injection el1 with el1
      subst el1
      have hwr : w.heap.size < wr.heap.size := by omega
      have m1a := fun O => (cell_alloc_old wr O ⟨w.heap.size, 1, none⟩ hwr).trans m1
      have cba := fun O => (cell_alloc_old wr O ⟨gf, of + k, none⟩ (show gf < wr.heap.size by omega)).trans cb
      have fLa := fun O => (frozen_alloc_old wr O ⟨w.heap.size + 1, k, none⟩ hgl).trans fL
      have D1 : DSt w W0 (wr.alloc (.cells #[.int .i64 r0, .int .i64 r1, .int .i64 r2, .int .i64 r3, .int .i64 r4, .int .i64 r5, .int .i64 r6, .int .i64 r7] 66)) g4 (.slice (some ⟨w.heap.size + 1, 0, none⟩) N N) left u5 q bs :=
        ⟨HD.out.rows.alloc _, HD.out.oth.alloc _, HD.out.below.alloc (by omega) _, (Below.heap_alloc wr _ _ (heap_lt HD.out.fam)).trans HD.out.fam⟩
      have q7 := heap_alloc_new wr (.cells #[.int .i64 r0, .int .i64 r1, .int .i64 r2, .int .i64 r3, .int .i64 r4, .int .i64 r5, .int .i64 r6, .int .i64 r7] 66 (0, 0))
      obtain ⟨L', hL'⟩ : ∃ L', (fl.take (k + 1)).map U.zeroOr ++ List.replicate (N - (k + 1)) 0 = L' := ⟨_, rfl⟩
      have hsn := take_map_snoc U.zeroOr hyb
      clear el2 el3 d0 hcells qr hbl
      try clear e2
      cases b
      case' false =>
        have hst := HD.out.rows.store (i := 0) rfl k (-1)
        have hcs := HD.out.rows.block (i := 0) rfl (g := w.heap.size + 1) rfl
        obtain ⟨csL, hcsL⟩ := hcs
        have hot := HD.out.oth.store hcsL (.inl rfl) k (.int .i64 (-1))
        have hne4 : g4 ≠ w.heap.size + 1 := by
          intro e
          have := HD.out.fam
          rw [e, hcsL] at this
          cases this
        have hfm : (wr.setCell ⟨w.heap.size + 1, k, none⟩ (.int .i64 (-1))).heap[g4]? = _ := (heap_setCell_other wr ⟨w.heap.size + 1, k, none⟩ g4 (.int .i64 (-1)) hne4).trans HD.out.fam
        have D2 : DSt w W0 (wr.setCell ⟨w.heap.size + 1, k, none⟩ (.int .i64 (-1))) g4 (.slice (some ⟨w.heap.size + 1, 0, none⟩) N N) (left.set k (-1)) u5 q bs :=
          ⟨hst, hot, HD.out.below.setCell (by show _ ≤ w.heap.size + 1; omega) _, hfm⟩
        rw [HLF.out, rep_step hlt, set_mid _ _ _ _ k (take_map_len _ (by have := HFL.out; omega)), show (fl.take k).map U.zeroOr ++ (-1) :: List.replicate (N - (k + 1)) 0 = L' by rw [← hL', hsn, List.append_assoc]; rfl] at D2
        have hq := HQ.out
        rw [hdb, U.qOf, if_neg (by decide)] at hq
        have HQ2 := Lib.hid hq
        have HQK2 : Hid (q.length ≤ k + 1) := Nat.le_succ_of_le HQK.out
        have HD2 := Lib.hid (D2.later (.cells #[.int .i64 r0, .int .i64 r1, .int .i64 r2, .int .i64 r3, .int .i64 r4, .int .i64 r5, .int .i64 r6, .int .i64 r7] 66))
        clear hst hot hne4 hfm D2 hq D1 hcsL hdb hyb hsn
        go_wp2_with fail
        generalize ((wr.setCell ⟨w.heap.size + 1, k, none⟩ (.int .i64 (-1))).alloc (.cells #[.int .i64 r0, .int .i64 r1, .int .i64 r2, .int .i64 r3, .int .i64 r4, .int .i64 r5, .int .i64 r6, .int .i64 r7] 66)) = w7 at HD2 ⊢
        generalize u5 = v5 at HD2 ⊢
        obtain ⟨q2, hq2⟩ : ∃ q2, q = q2 := ⟨_, rfl⟩
        rw [hq2] at HQ2 HQK2 HD2
        clear csL hq2
      case' true =>
        have hq := HQ.out
        rw [hdb, U.qOf, if_pos rfl] at hq
        have HQ2 : Hid ((q ++ [k]) ++ U.qOf (fl.drop (k + 1)) (k + 1) = U.qOf fl 0) := by rw [List.append_assoc]; exact hq
        have HQK2 : Hid ((q ++ [k]).length ≤ k + 1) := by
          have := HQK.out
          show _ ≤ _
          rw [List.length_append, List.length_singleton]
          omega
        have hLL : left = L' := by rw [HLF.out, ← hL', hsn, rep_step hlt, List.append_assoc]; rfl
        rw [hLL] at D1
        have hB1 : w.heap.size ≤ (wr.alloc (.cells #[.int .i64 r0, .int .i64 r1, .int .i64 r2, .int .i64 r3, .int .i64 r4, .int .i64 r5, .int .i64 r6, .int .i64 r7] 66)).heap.size := by simp; omega
        have HB1 := Lib.hid hB1
        have HD1 := Lib.hid D1
        have HQ7 := Lib.hid q7
        have HQL : Hid ((cast q).length ≤ 1048576) := by
          have := HQK.out
          show _ ≤ _
          rw [cast_length]
          omega
        clear hq D1 hLL q7 hdb hyb hsn hB1 fLa
        go_wp2_with (at_builtin; refine wpList_append_int (wr.alloc (.cells #[.int .i64 r0, .int .i64 r1, .int .i64 r2, .int .i64 r3, .int .i64 r4, .int .i64 r5, .int .i64 r6, .int .i64 r7] 66)) (k : Int) rfl _ _ rfl w.heap.size _ 1 u5 (cast q) HD1.out.rows rfl HQL.out HB1.out rfl (wr.heap.size + 1) (by simp) rfl ?_; intro g5 cap5 w7 hA5; obtain ⟨y0, y1, y2, y3, y4, y5, y6, y7⟩ := row8_cells (hA5.keep _ _ _ _ (by decide) HQ7.out))
        have HD2 : Hid (DSt w W0 w7 g4 (.slice (some ⟨w.heap.size + 1, 0, none⟩) N N) L' (.slice (some ⟨g5, 0, none⟩) ((cast q).length + 1) cap5) (q ++ [k]) bs) :=
          ⟨by rw [← cast_app]; exact hA5.rows, HD1.out.oth.trans hA5.oth, HD1.out.below.trans hA5.below, hA5.keep _ _ _ _ (by decide) HD1.out.fam⟩
        generalize Value.slice (some ⟨g5, 0, none⟩) ((cast q).length + 1) cap5 = v5 at HD2 ⊢
        obtain ⟨q2, hq2⟩ : ∃ q2, q ++ [k] = q2 := ⟨_, rfl⟩
        rw [hq2] at HQ2 HQK2 HD2
        clear hA5 y0 y1 y2 y3 y4 y5 y6 y7 hq2 HD1 HQL HB1 HQ7
      all_goals
        have HL := Lib.hid hL'
        have HY := Lib.hid hy
        have HRNG : Hid (∀ z : Nat, (z : Int) ∈ [r0, r1, r2, r3, r4, r5, r6, r7] → z < N) := fun z hz => by have := HRG.out _ (List.mem_of_getElem? hy) _ hz; omega
        have HLT := Lib.hid hlt
        clear hL' hy cb x0 x1 x2 x3 x4 x5 x6 x7 m0 m1 fL hgl hwr m1a cba HD HLF HQ HQK hlt hg hgf h8
        try clear fLa
        rename World => wo1
        go_loopw [42] (fun i wq => ∃ (j : Nat) (bs : List (Value × List Int)) (B : List (List Nat)), j ≤ 8 ∧ i = .int .i64 j ∧ Hid (DSt w W0 wq g4 (.slice (some ⟨w.heap.size + 1, 0, none⟩) N N) L' v5 q2 bs) ∧ Hid (bs.map (·.2) = B.map cast) ∧ Hid (U.Bef ll N k j B)) (fun i _ => 8 - (intOf i).toNat)
        case atStart => exact ⟨0, bs, B, by omega, rfl, HD2.out, HBB.out, HBF.out⟩
        case round =>
          obtain ⟨j, bs, B, hj, rfl, HD, HBB, HBF⟩ := hrel
          by_cases hj8 : j < 8
          · have hx := List.getElem?_eq_getElem (show j < ([r0, r1, r2, r3, r4, r5, r6, r7] : List Int).length from hj8)
            generalize ([r0, r1, r2, r3, r4, r5, r6, r7] : List Int)[j]'hj8 = x at hx
            have hj0 : (0 : Int) ≤ (j : Int) := Int.natCast_nonneg _
            have hj1 : (j : Int) < 8 := by omega
            have hix := fun W => index_row r0 r1 r2 r3 r4 r5 r6 r7 hx W
            by_cases hx0 : x < 0
            · have HBF2 := Lib.hid (HBF.out.skip HY.out hx hx0)
              have HJ := Lib.hid hj8
              clear hx hj8 HBF
              go_wp2_with fail
              go_roundw
              case rel => exact ⟨j + 1, bs, B, HJ.out, by go_num, HD.out, HBB.out, HBF2.out⟩
              case measure => have := HJ.out; simp [intOf]; omega
            · obtain ⟨z, rfl⟩ := Int.eq_ofNat_of_zero_le (show 0 ≤ x by omega)
              have hzN : z < N := HRNG.out _ (List.mem_of_getElem? hx)
              have hBl : z < B.length := by rw [HBF.out.len]; exact hzN
              have hbl : bs.length = B.length := by
                have := congrArg List.length HBB.out
                simpa using this
              have hb := List.getElem?_eq_getElem (show z < bs.length by omega)
              have hlb := List.getElem?_eq_getElem hBl
              generalize B[z]'hBl = lb at hlb
              obtain ⟨⟨v, l⟩, hvl⟩ : ∃ r, bs[z]'(by omega) = r := ⟨_, rfl⟩
              rw [hvl] at hb
              have hl : l = cast lb := by
                have h1 := congrArg (fun l => l[z]?) HBB.out
                simp only [List.getElem?_map, hb, hlb, Option.map_some] at h1
                simpa using h1
              subst hl
              have HBF2 := Lib.hid (HBF.out.put HY.out hx hlb)
              have hsh := HBF.out.short lb (List.mem_of_getElem? hlb)
              have HHB : Hid (((Value.slice (some ⟨w.heap.size + 1, 0, none⟩) N N, L') :: (v5, cast q2) :: bs)[z + 2]? = some (v, cast lb)) := hb
              have HLL : Hid ((cast lb).length ≤ 1048576) := by show _ ≤ _; rw [cast_length]; have := HLT.out; omega
              have cz : wr.cell? ⟨g4, z, none⟩ = some v := by
                rw [Lib.cell_of_heap HD.out.fam]
                simp [hb]
              have HJ := Lib.hid hj8
              have hz0 : (0 : Int) ≤ (z : Int) := Int.natCast_nonneg _
              have hz1 : (z : Int) < (N : Int) := by omega
              have HBW := Lib.hid HD.out.below.size
              have HHB2 := Lib.hid hb
              have HLB := Lib.hid hlb
              clear hx hj8 HBF hb hlb hvl hbl hBl hsh hx0
              go_wp2_with (at_builtin; refine wpList_append_int wr (k : Int) rfl _ _ rfl w.heap.size _ (z + 2) v (cast lb) HD.out.rows HHB.out HLL.out HBW.out rfl wr.heap.size rfl rfl ?_; intro g8 cap8 w8 hA8; have fm8 := hA8.keep _ _ _ _ (by decide) HD.out.fam; have f8 := Lib.frozen_of_heap fm8 z; have c8 : w8.cell? ⟨g4, z, none⟩ = some v := by (rw [Lib.cell_of_heap fm8]; simp [HHB2.out]))
              have D3 : DSt w W0 (w8.setCell ⟨g4, z, none⟩ (.slice (some ⟨g8, 0, none⟩) ((cast lb).length + 1) cap8)) g4 (.slice (some ⟨w.heap.size + 1, 0, none⟩) N N) L' v5 q2 (bs.set z (.slice (some ⟨g8, 0, none⟩) ((cast lb).length + 1) cap8, cast lb ++ [(k : Int)])) := by
                refine ⟨?_, (HD.out.oth.trans hA8.oth).store fm8 (.inr rfl) z _, (HD.out.below.trans hA8.below).setCell HG4.out _, ?_⟩
                · exact Rows.other hA8.rows fm8 (by decide) z _
                · rw [heap_setCell_same w8 g4 z _ _ _ fm8]
                  congr 2
                  apply Array.toList_inj.1
                  simp [List.map_set]
              go_roundw
              case rel =>
                refine ⟨j + 1, _, _, HJ.out, by go_num, D3, ?_, HBF2.out⟩
                show _ = _
                rw [List.map_set, List.map_set, HBB.out, cast_app]
              case measure => have := HJ.out; simp [intOf]; omega
          · go_wp2_with fail
            go_roundw
            case rel =>
              obtain rfl : j = 8 := by omega
              exact ⟨k + 1, L', q2, bs, B, HLT.out, by go_num, HD.out, HL.out.symm, HQ2.out, HQK2.out, HBB.out, HBF.out.next HY.out rfl⟩
            case measure => have := HLT.out; simp [intOf]; omega
    · obtain rfl : k = N := by omega
      have hLF := HLF.out
      rw [Nat.sub_self, List.replicate_zero, List.append_nil, List.take_of_length_le (by rw [HFL.out]; exact Nat.le_refl _)] at hLF
      have hQ := HQ.out
      rw [List.drop_eq_nil_of_le (by rw [HFL.out]; exact Nat.le_refl _), show U.qOf [] k = [] from rfl, List.append_nil] at hQ
      subst hLF
      subst hQ
      have hst := U.Bfs.start ll fl
      rw [HFL.out] at hst
      have HS1 := Lib.hid hst.1
      have HS2 := Lib.hid hst.2.1
      have HS3 := Lib.hid hst.2.2
      clear hst HLF HQ HQK hlt
      have hkb : (k : Int) ≤ 40 := by omega
      go_wp2_with fail
      rename World => wo
      go_loopw [10, 5] (fun si s5 wr => ∃ (i : Nat) (left : List Int) (q : List Nat), i ≤ q.length ∧ si = .int .i64 i ∧ Hid (DSt w W0 wr g4 (.slice (some ⟨w.heap.size + 1, 0, none⟩) k k) left s5 q bs) ∧ Hid (U.Bfs ll fl k left q) ∧ Hid (U.Proc ll left q i) ∧ Hid (U.Top left q i)) (fun si _ _ => k - (intOf si).toNat)
      case atStart => exact ⟨0, _, _, Nat.zero_le _, rfl, HD.out, HS1.out, HS2.out, HS3.out⟩
      case round =>
        obtain ⟨i, left, q, hi, rfl, HD, HBS, HPR, HTP⟩ := hrel
        have hqs := HBS.out.short
        have hi0 : (0 : Int) ≤ (i : Int) := Int.natCast_nonneg _
        by_cases hil : i < q.length
        · have hx := List.getElem?_eq_getElem hil
          generalize q[i]'hil = x at hx
          have hxk := HBS.out.small hx
          obtain ⟨gq, qc, rfl, cq, _, _, _, _⟩ := HD.out.rows.at (i := 1) (j := i) rfl (cast_get hx)
          have hBl : x < B.length := by rw [HBF.out.len]; exact hxk
          have hbl : bs.length = B.length := by
            have := congrArg List.length HBB.out
            simpa using this
          have hb := List.getElem?_eq_getElem (show x < bs.length by omega)
          have hlb := List.getElem?_eq_getElem hBl
          generalize B[x]'hBl = lb at hlb
          obtain ⟨⟨v, l⟩, hvl⟩ : ∃ r, bs[x]'(by omega) = r := ⟨_, rfl⟩
          rw [hvl] at hb
          have hl : l = cast lb := by
            have h1 := congrArg (fun l => l[x]?) HBB.out
            simp only [List.getElem?_map, hb, hlb, Option.map_some] at h1
            simpa using h1
          subst hl
          have hr2 : ∀ (r s : Value × List Int), (r :: s :: bs)[x + 2]? = some (v, cast lb) := fun r s => hb
          obtain ⟨va, vc, hv⟩ := HD.out.rows.form (hr2 _ _)
          have hv2 : v = .slice va (cast lb).length vc := hv
          subst hv2
          have hsh := HBF.out.short lb (List.mem_of_getElem? hlb)
          have cv : wr.cell? ⟨g4, x, none⟩ = some (.slice va lb.length vc) := by
            rw [Lib.cell_of_heap HD.out.fam, ← cast_length]
            simp [hb]
          have hx0 : (0 : Int) ≤ (x : Int) := Int.natCast_nonneg _
          have hx1 : (x : Int) < (k : Int) := by omega
          have hi1 : (i : Int) < (((cast q).length : Nat) : Int) := by rw [cast_length]; omega
          have hlbs : (lb.length : Int) ≤ 328 := by omega
          have hib : (i : Int) < 40 := by omega
          have HED : Hid (∀ p, p ∈ lb ↔ U.Edge ll p x) := fun p => HBF.out.all HNN.out hlb p
          have HX := Lib.hid hx
          have HR2 := Lib.hid hr2
          have HIL := Lib.hid hil
          have HQS := Lib.hid hqs
          clear hx hBl hbl hb hlb hvl hv hsh hr2 hil hqs hi
          go_wp2_with fail
          clear cq cv hi1
          rename World => wo2
          go_loopw [73, 5] (fun sj s5 wq => ∃ (j : Nat) (left : List Int) (q : List Nat), j ≤ lb.length ∧ sj = .int .i64 j ∧ Hid (DSt w W0 wq g4 (.slice (some ⟨w.heap.size + 1, 0, none⟩) k k) left s5 q bs) ∧ Hid (U.Bfs ll fl k left q) ∧ Hid (U.Proc ll left q i) ∧ Hid (U.Top left q i) ∧ Hid (q[i]? = some x) ∧ Hid (∀ j' p, j' < j → lb[j']? = some p → 0 ≤ U.lk left p ∧ U.lk left p ≤ U.lk left x + 1)) (fun sj _ _ => lb.length - (intOf sj).toNat)
          case atStart => exact ⟨0, left, q, Nat.zero_le _, rfl, HD.out, HBS.out, HPR.out, HTP.out, HX.out, fun j' p h => absurd h (Nat.not_lt_zero _)⟩
          case round =>
            obtain ⟨j, left, q, hj, rfl, HD, HBS, HPR, HTP, HX, HPJ⟩ := hrel
            by_cases hjl : j < lb.length
            · have hp := List.getElem?_eq_getElem hjl
              generalize lb[j]'hjl = p at hp
              have hed := (HED.out p).1 (List.mem_of_getElem? hp)
              have hpk : p < k := by
                obtain ⟨r, _, h1, _⟩ := hed
                have := (List.getElem?_eq_some_iff.1 h1).1
                rw [HNN.out] at this
                exact this
              obtain ⟨gp, pc, e, cp, _, _, _, _⟩ := HD.out.rows.at (i := x + 2) (j := j) (HR2.out _ _) (cast_get hp)
              injection e with e1 e2 e3
              subst e1
              subst e3
              obtain ⟨gL, Lc, e, cL, fL, _, _, _⟩ := HD.out.rows.at (i := 0) (j := p) rfl (U.lk_of (by rw [HBS.out.len]; exact hpk))
              injection e with e1 e4 e5
              injection e1 with e1
              injection e1 with e1
              subst e1
              have hj0 : (0 : Int) ≤ (j : Int) := Int.natCast_nonneg _
              have hj1 : (j : Int) < (lb.length : Int) := by omega
              have hp0 : (0 : Int) ≤ (p : Int) := Int.natCast_nonneg _
              have hp1 : (p : Int) < (k : Int) := by omega
              have hlo := HBS.out.lo p
              have HED2 := Lib.hid hed
              have HPK := Lib.hid hpk
              have HP := Lib.hid hp
              have HJL := Lib.hid hjl
              clear e2 e4 e5 hed hpk hp hjl
              by_cases hneg : U.lk left p < 0
              · have hxq := HX.out
                obtain ⟨hil, -⟩ := List.getElem?_eq_some_iff.1 hxq
                have hxk := HBS.out.small hxq
                obtain ⟨gq, qc, rfl, cq, _, _, _, _⟩ := HD.out.rows.at (i := 1) (j := i) rfl (cast_get hxq)
                obtain ⟨gL, Lc, e, cX, _, _, _, _⟩ := HD.out.rows.at (i := 0) (j := x) rfl (U.lk_of (by rw [HBS.out.len]; exact hxk))
                injection e with e1 e4 e5
                injection e1 with e1
                injection e1 with e1
                subst e1
                have hd0 := HBS.out.qin x (List.mem_of_getElem? hxq)
                have hd1 := HBS.out.hi x
                have hsq := HBS.out.short
                have hstep := HBS.out.step hxq HTP.out HPR.out HPK.out hneg HED2.out
                have hdb : U.lk left x ≤ 40 := by omega
                have hst := HD.out.rows.store (i := 0) rfl p (U.lk left x + 1)
                obtain ⟨csL, hcsL⟩ := HD.out.rows.block (i := 0) rfl (g := w.heap.size + 1) rfl
                have hot := HD.out.oth.store hcsL (.inl rfl) p (.int .i64 (U.lk left x + 1))
                have hne4 : g4 ≠ w.heap.size + 1 := by
                  intro e
                  have := HD.out.fam
                  rw [e, hcsL] at this
                  cases this
                have hfm := (heap_setCell_other wr ⟨w.heap.size + 1, p, none⟩ g4 (.int .i64 (U.lk left x + 1)) hne4).trans HD.out.fam
                have HD5 : Hid (DSt w W0 (wr.setCell ⟨w.heap.size + 1, p, none⟩ (.int .i64 (U.lk left x + 1))) g4 (.slice (some ⟨w.heap.size + 1, 0, none⟩) k k) (left.set p (U.lk left x + 1)) (.slice (some ⟨gq, 0, none⟩) (cast q).length qc) q bs) :=
                  ⟨hst, hot, HD.out.below.setCell (by show _ ≤ w.heap.size + 1; omega) _, hfm⟩
                have HST := Lib.hid hstep
                have hql : (cast q).length ≤ 1048576 := by rw [cast_length]; omega
                have HQL := Lib.hid hql
                have hi1 : (i : Int) < (((cast q).length : Nat) : Int) := by rw [cast_length]; omega
                have hB5 := HD5.out.below.size
                have HB5 := Lib.hid hB5
                have hx0 : (0 : Int) ≤ (x : Int) := Int.natCast_nonneg _
                have hx1 : (x : Int) < (k : Int) := by omega
                have hwd : wr.heap.size = (wr.setCell ⟨w.heap.size + 1, p, none⟩ (.int .i64 (U.lk left x + 1))).heap.size := by simp
                have HWD := Lib.hid hwd
                have hpj : ∀ j' p', j' < j → lb[j']? = some p' → 0 ≤ U.lk (left.set p (U.lk left x + 1)) p' ∧ U.lk (left.set p (U.lk left x + 1)) p' ≤ U.lk (left.set p (U.lk left x + 1)) x + 1 := by
                  intro j' p' h1 h2
                  have h3 := HPJ.out j' p' h1 h2
                  rw [hstep.2.2.2.1 p' h3.1, hstep.2.2.2.1 x hd0]
                  exact h3
                have hpn : 0 ≤ U.lk (left.set p (U.lk left x + 1)) p ∧ U.lk (left.set p (U.lk left x + 1)) p ≤ U.lk (left.set p (U.lk left x + 1)) x + 1 := by
                  rw [hstep.2.2.2.2, hstep.2.2.2.1 x hd0]
                  omega
                have HPJ2 := Lib.hid hpj
                have HPN := Lib.hid hpn
                have hqx : (q ++ [p])[i]? = some x := by rw [List.getElem?_append_left hil]; exact hxq
                have HQX := Lib.hid hqx
                clear e4 e5 hd1 hsq hstep hst hcsL hot hne4 hfm hql hB5 hwd hpj hpn hqx hxq hil hxk
                generalize U.lk left p = lp at cL hneg hlo
                generalize U.lk left x = lx at *
                go_wp2_with (at_builtin; refine wpList_append_int (wr.setCell ⟨w.heap.size + 1, p, none⟩ (.int .i64 (lx + 1))) (p : Int) rfl _ _ rfl w.heap.size _ 1 _ (cast q) HD5.out.rows rfl HQL.out HB5.out rfl wr.heap.size HWD.out.symm rfl ?_; intro g8 cap8 w8 hA8)
                go_roundw
                case rel =>
                  refine ⟨j + 1, left.set p (lx + 1), q ++ [p], HJL.out, by go_num, ?_, HST.out.1, HST.out.2.1, HST.out.2.2.1, HQX.out, ?_⟩
                  · show DSt _ _ _ _ _ _ _ _ _
                    exact ⟨by rw [← cast_app]; exact hA8.rows, HD5.out.oth.trans hA8.oth, HD5.out.below.trans hA8.below, hA8.keep _ _ _ _ (by decide) HD5.out.fam⟩
                  · show ∀ j' p', _
                    intro j' p' h1 h2
                    by_cases e : j' = j
                    · subst e
                      rw [HP.out] at h2
                      obtain rfl : p = p' := by simpa using h2
                      exact HPN.out
                    · exact HPJ2.out j' p' (by omega) h2
                case measure => have := HJL.out; simp [intOf]; omega
              · have hpos : 0 ≤ U.lk left p := by omega
                have htp := HTP.out x HX.out p
                have HTP2 := Lib.hid htp
                have HPOS := Lib.hid hpos
                clear htp hpos
                obtain ⟨lp, hlp⟩ : ∃ lp, U.lk left p = lp := ⟨_, rfl⟩
                rw [hlp] at cL hneg hlo
                clear hlp
                go_wp2_with fail
                go_roundw
                case rel =>
                  refine ⟨j + 1, left, q, HJL.out, by go_num, HD.out, HBS.out, HPR.out, HTP.out, HX.out, ?_⟩
                  show ∀ j' p', _
                  intro j' p' h1 h2
                  by_cases e : j' = j
                  · subst e
                    rw [HP.out] at h2
                    obtain rfl : p = p' := by simpa using h2
                    exact ⟨HPOS.out, HTP2.out⟩
                  · exact HPJ.out j' p' (by omega) h2
                case measure => have := HJL.out; simp [intOf]; omega
            · go_wp2_with fail
              go_roundw
              case rel =>
                have hil := (List.getElem?_eq_some_iff.1 HX.out).1
                refine ⟨i + 1, left, q, by omega, by go_num, HD.out, HBS.out, HPR.out.next HX.out ?_, HTP.out.next HBS.out HX.out⟩
                intro p hp
                obtain ⟨j', hj'⟩ := List.getElem?_of_mem ((HED.out p).2 hp)
                have := (List.getElem?_eq_some_iff.1 hj').1
                exact HPJ.out j' p (by omega) hj'
              case measure => have := HIL.out; have := HQS.out; simp [intOf]; omega
        · have hi2 : i = q.length := by omega
          obtain ⟨ao, qc, rfl⟩ := HD.out.qform
          have hi3 : ¬ (i : Int) < (q.length : Int) := by omega
          have HI2 := Lib.hid hi2
          clear hi2 hil hqs hi
          go_wp2_with fail
          go_ret
          refine ⟨w.heap.size + 1, left, by rw [HNN.out]; rfl, by rw [HBS.out.len, HNN.out], fun s z hz => ?_, ?_, by omega, fun s => HBS.out.done (by have := HI2.out; omega) HPR.out s, fun s => by have h1 := HBS.out.hi s; have h2 := HBS.out.short; rw [HNN.out]; omega, HD.out.below⟩
          · obtain ⟨g, cp, e, c, _⟩ := HD.out.rows.at (i := 0) (j := s) rfl hz
            injection e with e1
            injection e1 with e1
            injection e1 with e1
            subst e1
            exact c
          · obtain ⟨cs, hcs⟩ := HD.out.rows.block (i := 0) rfl (g := w.heap.size + 1) rfl
            exact heap_lt hcs

end Go.Proofs.Ytonchdhchaiikaa

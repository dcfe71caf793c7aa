/- auto.Least. -/
import Derived.Test.YtonchdhchaiikaaAuRefLeast
import Derived.Test.YtonchdhchaiikaaAuDist
import Derived.Test.YtonchdhchaiikaaAuIdxM
import Derived.Deep.RegionLaw
import Derived.Deep.LoopGhost
namespace Go.Proofs.Ytonchdhchaiikaa
open Go.RowKit

def cells8 (ll : List (List Int)) : List Value := ll.flatMap iv
theorem cells8_app (a b : List (List Int)) : cells8 (a ++ b) = cells8 a ++ cells8 b := by simp [cells8]
theorem cells8_length : ∀ {ll : List (List Int)}, (∀ l ∈ ll, l.length = 8) → (cells8 ll).length = ll.length * 8
  | [], _ => rfl
  | a :: r, h => by
    have e : cells8 (a :: r) = iv a ++ cells8 r := rfl
    rw [e, List.length_append, iv_length, h a (List.mem_cons_self ..), cells8_length (fun l hl => h l (List.mem_cons_of_mem _ hl)), List.length_cons]
    omega
theorem cells8_get : ∀ {ll : List (List Int)}, (∀ l ∈ ll, l.length = 8) → ∀ (i : Nat) (l : List Int) (k : Nat) (z : Int), ll[i]? = some l → l[k]? = some z → (cells8 ll)[i * 8 + k]? = some (.int .i64 z)
  | [], _, i, l, k, z, h, _ => by simp at h
  | a :: r, hr, 0, l, k, z, h, hz => by
    obtain rfl : a = l := by simpa using h
    have e : cells8 (a :: r) = iv a ++ cells8 r := rfl
    have hk := (List.getElem?_eq_some_iff.1 hz).1
    rw [e, Nat.zero_mul, Nat.zero_add, List.getElem?_append_left (by rw [iv_length]; exact hk), iv_get hz]
  | a :: r, hr, i + 1, l, k, z, h, hz => by
    have e : cells8 (a :: r) = iv a ++ cells8 r := rfl
    have h8 := hr a (List.mem_cons_self ..)
    rw [e, List.getElem?_append_right (by rw [iv_length]; omega), iv_length, h8, show (i + 1) * 8 + k - 8 = i * 8 + k by omega]
    exact cells8_get (fun l hl => hr l (List.mem_cons_of_mem _ hl)) i l k z (by simpa using h) hz
theorem RdR8.of_own {w : World} {B : Nat} {v : Value} {ll : List (List Int)} (h8 : ∀ l ∈ ll, l.length = 8) (h : w.ownsRow B 66 8 v ll.length (cells8 ll)) : RdR8 w (· < w.heap.size) v ll := by
  have h0 := h
  rcases h.2 with ⟨rfl, hz⟩ | ⟨g, cap, cur, rfl, hb, hg, h1, h2, _⟩
  · exact ⟨none, 0, by rw [hz], by omega, Nat.zero_le _, h8, .inl (List.eq_nil_of_length_eq_zero hz)⟩
  · refine ⟨_, cap, rfl, h1, h2, h8, .inr ⟨g, 0, rfl, heap_lt hg, fun i l k z hl hz => ?_⟩⟩
    have hi := (List.getElem?_eq_some_iff.1 hl).1
    have hk := (List.getElem?_eq_some_iff.1 hz).1
    rw [h8 l (List.mem_of_getElem? hl)] at hk
    rw [Nat.zero_add, h0.cellAt (i * 8 + k) (by omega), cells8_get h8 i l k z hl hz]
theorem ownBlock_ne8 {w : World} {B : Nat} {e T : TypeId} {v : Value} {n size : Nat} {xs : List Value} {b : Nat} {cs : Array Value} {fr : Nat × Nat} (hown : w.ownsRow B e size v n xs) (hb : w.heap[b]? = some (.cells cs T fr)) (hTe : T ≠ e) : v.ownBlock ≠ some b := by
  rcases hown.2 with ⟨rfl, _⟩ | ⟨g, cap, cur, rfl, _, hg, _⟩
  · simp [Value.ownBlock]
  · intro h
    have : g = b := by simpa [Value.ownBlock] using h
    subst this
    rw [hg] at hb
    injection hb with hb
    injection hb with _ h2 _
    exact hTe h2.symm
theorem Rows.later {w w' : World} {B : Nat} {rs : List (Value × List Int)} (h : Rows w B rs) (hb : Below w.heap.size w w') : Rows w' B rs := by
  refine ⟨fun i r hr => ?_, h.apart⟩
  have hg : w.grownBy w' none := ⟨hb.os, hb.tape, hb.output, hb.size, fun k hk _ => hb.block k hk⟩
  refine (h.own i r hr).kept hg ?_
  cases hv : r.1.ownBlock with
  | none => exact .inl rfl
  | some b => exact .inr (by intro e; cases e)
theorem Rows.cell1 {w : World} {B : Nat} {rs : List (Value × List Int)} (h : Rows w B rs) {i g n cap j : Nat} {l : List Int} {x : Int} (hr : rs[i]? = some (.slice (some ⟨g, 0, none⟩) n cap, l)) (hx : l[j]? = some x) :
    w.cell? ⟨g, j, none⟩ = some (.int .i64 x) ∧ w.frozen? ⟨g, j, none⟩ = false ∧ g < w.heap.size := by
  obtain ⟨g', c, e, h1, h2, _, _, h3⟩ := h.at hr hx
  injection e with e
  injection e with e
  injection e with e
  subst e
  exact ⟨h1, h2, h3⟩
set_option maxRecDepth 100000 in
theorem arrayAt8 (a : Addr) (c : Nat) (W : World) : Sem.run Try.prog (Instr.arrayAt 66 (.slice (some a) 8 c)) W = .ok (.pointer (some a)) W := by
  show _ = _
  kernel_rfl
theorem info66 : (Try.prog.info? 66).map (fun i => (i.zero, i.size, i.bytes)) = some (some (.agg #[.int .i64 0, .int .i64 0, .int .i64 0, .int .i64 0, .int .i64 0, .int .i64 0, .int .i64 0, .int .i64 0]), 8, 64) := by kernel_rfl

set_option maxHeartbeats 4000000 in
set_option maxRecDepth 1000000 in
/-- func(s int) bool { return s >= 0 && left[s] == left[state]-1 } -/
theorem is_nearer (b7 b gD N s d : Nat) (D : List Int) (x : Int) (W : World) (h7 : W.cell? ⟨b7, 0, none⟩ = some (.slice (some ⟨gD, 0, none⟩) N N)) (hb : W.cell? ⟨b, 0, none⟩ = some (.int .i64 s))
    (hD : ∀ i z, D[i]? = some z → W.cell? ⟨gD, i, none⟩ = some (.int .i64 z)) (hl : D.length = N) (hs : s < N) (hx : x < (N : Int)) (hd : U.lk D s = ((d + 1 : Nat) : Int)) (hm : ∀ i, -1 ≤ U.lk D i ∧ U.lk D i ≤ 40) :
    Calls Try.prog 43 #[.int .i64 x, .pointer (some ⟨b7, 0, none⟩), .pointer (some ⟨b, 0, none⟩)] W fun e w' => e = .returned (.bool (U.near D d x)) ∧ Below W.heap.size W w' := by
  by_cases h0 : x < 0
  · have hn : U.near D (d : Int) x = false := by
      cases h : U.near D (d : Int) x with
      | false => rfl
      | true => exact absurd (U.near_iff.1 h).1 (by omega)
    rw [hn]
    have hdc : decide (0 ≤ x) = false := decide_eq_false (by omega)
    clear hn hD hm
    go_enter Try.func43, Try.ntmps43
    go_wp2_with fail
    go_quiet (fail)
    go_wp2_with fail
    go_ret
    exact ⟨rfl, Below.drewNN (Below.refl _ _) _⟩
  · obtain ⟨q, rfl⟩ := Int.eq_ofNat_of_zero_le (show 0 ≤ x by omega)
    have hq0 : (0 : Int) ≤ (q : Int) := Int.natCast_nonneg _
    have hs0 : (0 : Int) ≤ (s : Int) := Int.natCast_nonneg _
    have hs1 : (s : Int) < (N : Int) := by omega
    have hqc := hD q _ (U.lk_of (by omega))
    have hsc := hD s _ (U.lk_of (by omega))
    rw [hd] at hsc
    have hmq := hm q
    have hms := hm s
    rw [hd] at hms
    have hne : (U.lk D q == (d : Int)) = U.near D (d : Int) (q : Int) := by
      rw [Bool.eq_iff_iff, U.near_iff, Int.toNat_natCast, beq_iff_eq]
      omega
    generalize U.near D (d : Int) (q : Int) = R at hne
    generalize U.lk D q = aq at hqc hmq hne
    have HNE := Lib.hid hne
    clear hne
    have hm1 := hmq.1
    have hm2 := hmq.2
    have hd40 : ((d + 1 : Nat) : Int) ≤ 40 := hms.2
    have hd0 : (0 : Int) < ((d + 1 : Nat) : Int) := by omega
    have hw2 : IntKind.i64.wrap (((d + 1 : Nat) : Int) - 1) = ((d + 1 : Nat) : Int) - 1 := IntWalk.i64_in _ (by omega)
    have hdc : decide (0 ≤ (q : Int)) = true := decide_eq_true (by omega)
    clear hD hm hmq hms hd hl hs h0
    go_enter Try.func43, Try.ntmps43
    go_wp2_with fail
    go_quiet (fail)
    go_wp2_with fail
    go_ret
    exact ⟨by rw [← HNE.out]; rfl, Below.drewNN (Below.refl _ _) _⟩
set_option maxRecDepth 100000 in
theorem slice8 (a : Addr) (W : World) : Sem.run Try.prog (Instr.sliceAt 66 (.pointer (some a)) none none none) W = .ok (.slice (some a) 8 8) W := by
  show _ = _
  kernel_rfl
set_option maxHeartbeats 4000000 in
set_option maxRecDepth 1000000 in
theorem auto_least (a : U.Au) (nv fv : Value) (w : World) (hR : RdAu w (· < w.heap.size) nv fv a) (hm : a.may = true) :
    Calls Try.prog 20 #[auVal nv fv] w fun e w' => ∃ D, U.IsD a.next a.final D ∧ LeastPost (U.leastD a.next D) w e w' := by
  have hbN := (Below.refl w.heap.size w).alloc (Nat.le_refl _) (auObj nv fv)
  have HQ2 := Lib.hid (heap_alloc_new w (auObj nv fv))
  have HM := Lib.hid (fun W (hB : Below w.heap.size w W) => auto_may a nv fv W (hR.below hB hB.size))
  have HO := Lib.hid (U.Au.may_iff.1 hm)
  rw [hm] at HM
  obtain ⟨ao, cap, hnv, hnc, hnm⟩ := RdL.form hR.next
  obtain ⟨fo, fcap, hfv, hfc, hfm⟩ := RdL.form hR.final
  have HN := Lib.hid hR.next
  have HF := Lib.hid hR.final
  unfold auObj at hbN HQ2
  unfold auVal at HM ⊢
  have HB := Lib.hid hbN
  obtain ⟨N, hN⟩ : ∃ N, a.next.length = N := ⟨_, rfl⟩
  have hN1 : 1 ≤ N := by rw [← hN]; exact HO.out.one
  have hN40 : N ≤ 40 := by rw [← hN]; exact HO.out.most
  have hFN : a.final.length = N := by rw [← hN]; exact HO.out.fin
  rw [hN] at hnv
  rw [hFN] at hfv
  have HLN := Lib.hid hN
  have HFN := Lib.hid hFN
  have hi0 : (0 : Int) < (N : Int) := by omega
  have hNb : (N : Int) ≤ 40 := by omega
  have HNV := Lib.hid hnv
  have HFV := Lib.hid hfv
  clear hbN hR hnc hnm hfc hfm hm hN hFN hnv hfv
  go_enter Try.func20, Try.ntmps20
  go_wp2_with fail
  refine (HM.out _ HB.out).mono ?_
  rintro e w3 ⟨rfl, hb2⟩
  have HC := Lib.hid (CountAt.mk (a := a) (nv := nv) (fv := fv) (N := N) (w := w) (w3 := w3) (HB.out.trans (hb2.mono HB.out.size)) ((hb2.block w.heap.size (by simp)).trans HQ2.out) (by have := hb2.size; simp at this; omega) HLN.out)
  have c00 := (HC.out.cells (Below.refl _ _)).1
  have c01 := (HC.out.cells (Below.refl _ _)).2
  have hsz := HC.out.size
  have hlt3 : w.heap.size < w3.heap.size := by omega
  rw [HNV.out] at c00
  rw [HFV.out] at c01
  have c00a := fun O => (cell_alloc_old w3 O ⟨w.heap.size, 0, none⟩ hlt3).trans c00
  clear hb2 HM HB HQ2
  go_wp2_with fail
  have hb4 := (Below.refl _ w3).alloc (Nat.le_refl _) (.cells #[.slice none 0 0, .slice fo N fcap] 53 (0, 0))
  have q4 := heap_alloc_new w3 (.cells #[.slice none 0 0, .slice fo N fcap] 53 (0, 0))
  have z4 : (w3.alloc (.cells #[.slice none 0 0, .slice fo N fcap] 53 (0, 0))).heap.size = w3.heap.size + 1 := by simp
  clear c00a
  generalize (w3.alloc (.cells #[.slice none 0 0, .slice fo N fcap] 53 (0, 0))) = w4 at hb4 q4 z4 ⊢
  obtain ⟨iR, hiR, hR0, hR1, hR2⟩ := info_parts info66
  go_loopw [20] (fun i wr => ∃ (k : Nat) (v : Value), k ≤ N ∧ i = .int .i64 k ∧ Below w3.heap.size w3 wr ∧ wr.heap[w3.heap.size]? = some (.cells #[v, .slice fo N fcap] 53 (0, 0)) ∧ wr.ownsRow w3.heap.size 66 8 v k (cells8 (a.next.take k))) (fun i _ => N - (intOf i).toNat)
  case atStart => exact ⟨0, _, Nat.zero_le _, rfl, hb4, q4, World.ownsRow_nil _ _ _ _⟩
  case round =>
    obtain ⟨k, v, hk, rfl, hbw, hq, hown⟩ := hrel
    by_cases hkl : k < N
    · have hy := List.getElem?_eq_getElem (show k < a.next.length by have := HLN.out; omega)
      generalize a.next[k]'(by have := HLN.out; omega) = l at hy
      have hrow := HO.out.at hy
      have h8 := hrow.1
      obtain ⟨gb, o, cap2, pv, e0, hgb, d0, hrv⟩ := RdL.at HN.out hy
      rw [HNV.out] at e0
      injection e0 with e1 e2 e3
      subst e1
      subst e3
      obtain ⟨r0, r1, r2, r3, r4, r5, r6, r7, rfl⟩ := list8 h8
      obtain ⟨rg, ro, rcap, _, e0, hrg, y0, rfl⟩ := RdL.at hrv (i := 0) rfl
      subst e0
      obtain ⟨g1, o1, p1, _, e0, _, y1, rfl⟩ := RdL.at hrv (i := 1) rfl
      injection e0 with e0; injection e0 with e0; injection e0 with e0 e9; subst e0; subst e9
      obtain ⟨g1, o1, p1, _, e0, _, y2, rfl⟩ := RdL.at hrv (i := 2) rfl
      injection e0 with e0; injection e0 with e0; injection e0 with e0 e9; subst e0; subst e9
      obtain ⟨g1, o1, p1, _, e0, _, y3, rfl⟩ := RdL.at hrv (i := 3) rfl
      injection e0 with e0; injection e0 with e0; injection e0 with e0 e9; subst e0; subst e9
      obtain ⟨g1, o1, p1, _, e0, _, y4, rfl⟩ := RdL.at hrv (i := 4) rfl
      injection e0 with e0; injection e0 with e0; injection e0 with e0 e9; subst e0; subst e9
      obtain ⟨g1, o1, p1, _, e0, _, y5, rfl⟩ := RdL.at hrv (i := 5) rfl
      injection e0 with e0; injection e0 with e0; injection e0 with e0 e9; subst e0; subst e9
      obtain ⟨g1, o1, p1, _, e0, _, y6, rfl⟩ := RdL.at hrv (i := 6) rfl
      injection e0 with e0; injection e0 with e0; injection e0 with e0 e9; subst e0; subst e9
      obtain ⟨g1, o1, p1, _, e0, _, y7, rfl⟩ := RdL.at hrv (i := 7) rfl
      injection e0 with e0; injection e0 with e0; injection e0 with e0 e9; subst e0; subst e9
      rw [Nat.add_zero] at y0
      have c3 := (HC.out.cell hbw (o := o + k) hgb).trans d0
      have x0 := (HC.out.cell hbw (o := ro) hrg).trans y0
      have x1 := (HC.out.cell hbw (o := ro + 1) hrg).trans y1
      have x2 := (HC.out.cell hbw (o := ro + 2) hrg).trans y2
      have x3 := (HC.out.cell hbw (o := ro + 3) hrg).trans y3
      have x4 := (HC.out.cell hbw (o := ro + 4) hrg).trans y4
      have x5 := (HC.out.cell hbw (o := ro + 5) hrg).trans y5
      have x6 := (HC.out.cell hbw (o := ro + 6) hrg).trans y6
      have x7 := (HC.out.cell hbw (o := ro + 7) hrg).trans y7
      have m0 := (au_cells hq).1
      have f0 := Lib.frozen_of_heap hq 0
      have hk0 : (0 : Int) ≤ (k : Int) := Int.natCast_nonneg _
      have hk1 : (k : Int) < (N : Int) := by omega
      clear y0 y1 y2 y3 y4 y5 y6 y7 d0 hrow hrv h8 e2
      obtain ⟨va, vc, rfl⟩ := own_form hown
      have hlt3' : w3.heap.size < wr.heap.size := heap_lt hq
      obtain ⟨CL, hCL⟩ : ∃ CL, cells8 (a.next.take k) = CL := ⟨_, rfl⟩
      rw [hCL] at hown
      have HCL := Lib.hid hCL
      clear hCL
      have HOWN := Lib.hid hown
      have HQM := Lib.hid hq
      have hkeep : ∀ (w7 : World), ((wr.alloc (.cells #[.int .i64 r0, .int .i64 r1, .int .i64 r2, .int .i64 r3, .int .i64 r4, .int .i64 r5, .int .i64 r6, .int .i64 r7] 66 (0, 0)))).drew.grownBy w7 (Value.slice va k vc).ownBlock → w7.heap[w3.heap.size]? = some (.cells #[.slice va k vc, .slice fo N fcap] 53 (0, 0)) := fun w7 hg =>
        (hg.block w3.heap.size (by simp; omega) (fun e => ownBlock_ne8 HOWN.out HQM.out (by decide) e.symm)).trans ((Below.heap_alloc wr _ _ hlt3').trans HQM.out)
      have HKEEP := Lib.hid hkeep
      have hbw3 := hbw.size
      have HBW := Lib.hid hbw
      have HY := Lib.hid hy
      have HKL := Lib.hid hkl
      clear hbw hy
      have har := fun c W => arrayAt8 ⟨rg, ro, none⟩ c W
      clear hown hq hkeep
      go_wp2_with fail
      have HST := fun (W : World) (hW : W = World.drew (wr.alloc (.cells #[.int .i64 r0, .int .i64 r1, .int .i64 r2, .int .i64 r3, .int .i64 r4, .int .i64 r5, .int .i64 r6, .int .i64 r7] 66))) (ops : Array Oper) (o : Oper) (a' : Act) (K : Act → World → Prop) (Q : Exit → Act → World → Prop) (E : Prop) (hgd : o.guard = none) (s x : Operand) (ho : o.op = .call { callee := .builtin .append, args := #[s, x], argTypes := #[51, 51] }) (hs : a'.eval s = .slice va k vc) (hx : a'.eval x = .slice (some ⟨wr.heap.size, 0, none⟩) 1 1) h =>
        step_append_lies (P := Try.prog) W (ops := ops) (o := o) (a := a') (K := K) (Q := Q) (E := E) hgd s x 51 ho w3.heap.size 66 iR _ 8 64 Try.underlying51 hiR hR0 hR1 hR2 rfl (by omega) (.slice va k vc) k CL hs (by subst hW; exact ownsRow_drewN (HOWN.out.alloc _) 1) ⟨wr.heap.size, 0, none⟩ 1 1 [.int .i64 r0, .int .i64 r1, .int .i64 r2, .int .i64 r3, .int .i64 r4, .int .i64 r5, .int .i64 r6, .int .i64 r7] hx (by rfl) (by subst hW; exact World.news_of_block (cs := #[.int .i64 r0, .int .i64 r1, .int .i64 r2, .int .i64 r3, .int .i64 r4, .int .i64 r5, .int .i64 r6, .int .i64 r7]) (t := 66) (fr := (0, 0)) (heap_alloc_new wr _)) (by simp [Value.oneCell']) (by omega) (by unfold maxLen; omega) (by omega) (by subst hW; simp; omega) (wr.heap.size + 1) (by subst hW; simp) h
      have HSTH := Lib.hid HST
      clear HST
      go_region_law (refine HSTH.out _ rfl _ _ _ _ _ _ rfl _ _ rfl rfl rfl ?_; intro gg cap7 w7 hown7 hgrow7 hat7 hlt7; have q7 := HKEEP.out _ hgrow7; have q70 := (au_cells q7).1; have q71 := Lib.frozen_of_heap q7 0)
      all_goals
        have hb7 : Below w3.heap.size w3 w7 := (((HBW.out.alloc hbw3 _).drew).grown hgrow7 (by simp; omega) (fun k' hk' => (HOWN.out.lt k' hk').1))
        have hown8 : (w7.setCell ⟨w3.heap.size, 0, none⟩ (.slice (some ⟨gg, 0, none⟩) (k + 1) cap7)).ownsRow w3.heap.size 66 8 (.slice (some ⟨gg, 0, none⟩) (k + 1) cap7) (k + 1) (cells8 (a.next.take (k + 1))) := by
          have h1 : cells8 (a.next.take (k + 1)) = CL ++ [.int .i64 r0, .int .i64 r1, .int .i64 r2, .int .i64 r3, .int .i64 r4, .int .i64 r5, .int .i64 r6, .int .i64 r7] := by
            obtain ⟨hk9, e9⟩ := List.getElem?_eq_some_iff.1 HY.out
            rw [List.take_succ_eq_append_getElem hk9, e9, cells8_app, HCL.out]
            rfl
          rw [h1]
          have hg9 : w7.grownBy (w7.setCell ⟨w3.heap.size, 0, none⟩ (.slice (some ⟨gg, 0, none⟩) (k + 1) cap7)) (some w3.heap.size) := ⟨rfl, rfl, rfl, by simp, fun b _ hb => heap_setCell_other w7 ⟨w3.heap.size, 0, none⟩ b _ (fun e => hb (by simp [e]))⟩
          exact hown7.kept hg9 (.inr (ownBlock_ne8 hown7 q7 (by decide)))
        have hq8 := heap_setCell_same w7 w3.heap.size 0 _ _ (.slice (some ⟨gg, 0, none⟩) (k + 1) cap7) q7
        have hb8 := hb7.setCell (p := ⟨w3.heap.size, 0, none⟩) (Nat.le_refl _) (.slice (some ⟨gg, 0, none⟩) (k + 1) cap7)
        have HX8 := Lib.hid hown8
        have HQ8 := Lib.hid hq8
        have HB8 := Lib.hid hb8
        clear hb7 hown8 hq8 hb8 hown7 hgrow7 hat7 hlt7 q7 q70 q71 m0 f0 x0 x1 x2 x3 x4 x5 x6 x7 c3 har
        go_wp2_with fail
        go_roundw
        case rel => exact ⟨k + 1, _, HKL.out, by go_num, HB8.out, HQ8.out, HX8.out⟩
        case measure => have := HKL.out; simp [intOf]; omega
    · obtain rfl : k = N := by omega
      have hall : a.next.take k = a.next := List.take_of_length_le (by rw [HLN.out]; exact Nat.le_refl _)
      rw [hall] at hown
      have h8s : ∀ l ∈ a.next, l.length = 8 := fun l hl => (HO.out.row l hl).1
      rw [← HLN.out] at hown
      have hmr := RdR8.of_own h8s hown
      obtain ⟨va, vc, hv⟩ := own_form hown
      rw [HLN.out] at hv
      subst hv
      have hff := (HF.out.below (HC.out.below.trans (hbw.mono HC.out.below.size)) (by have := (HC.out.below.trans (hbw.mono HC.out.below.size)).size; omega))
      have hdist := au_dist a.next a.final _ fv wr hmr hff (by rw [HLN.out]; exact hN40) (by rw [HFN.out, HLN.out]) (fun l hl s hs => ((HO.out.row l hl).2 s hs).2)
      rw [HFV.out] at hdist
      have HDI := Lib.hid hdist
      have m0 := (au_cells hq).1
      have m1 := (au_cells hq).2
      have HQ := Lib.hid hq
      have HBW := Lib.hid hbw
      have HMR := Lib.hid hmr
      clear hall hown h8s hmr hff hdist hq hbw hkl hk
      go_wp2_with fail
      refine HDI.out.mono ?_
      rintro e w5 ⟨gD, D, rfl, hDl, hDc, hgD, hgDlo, hDd, hDm, hb5⟩
      have hlt3 : w3.heap.size < wr.heap.size := heap_lt HQ.out
      have q5 := (hb5.block w3.heap.size hlt3).trans HQ.out
      have hM5 := HMR.out.below hb5 hb5.size
      have ht5 := HBW.out.trans (hb5.mono HBW.out.size)
      have hIs : U.IsD a.next a.final D := ⟨hDl, hDd, hDm⟩
      rw [HLN.out] at hDl hDm
      have hc0 := hDc 0 _ (U.lk_of (by omega))
      have hc0a := fun O => (cell_alloc_old w5 O ⟨gD, 0, none⟩ hgD).trans hc0
      obtain ⟨x0, hx0⟩ : ∃ x0, U.lk D 0 = x0 := ⟨_, rfl⟩
      rw [hx0] at hc0a
      have HIS := Lib.hid hIs
      have HDC := Lib.hid hDc
      have HDL := Lib.hid hDl
      have HDM := Lib.hid hDm
      have HM5 := Lib.hid hM5
      have HT5 := Lib.hid ht5
      have HX0 := Lib.hid hx0
      have HQ5 := Lib.hid q5
      have HGD := Lib.hid hgD
      clear hIs hDc hDl hDm hDd hM5 ht5 hb5 hgD hgDlo hlt3 HDI HQ HBW HMR m0 m1 hc0 hx0 q5
      rw [HLN.out]
      by_cases hneg : x0 < 0
      · go_wp2_with fail
        go_ret2
        refine ⟨D, HIS.out, ?_⟩
        have hL : U.leastD a.next D = ([], 7) := by
          unfold U.leastD
          rw [if_pos (by rw [HX0.out]; exact hneg)]
        rw [hL]
        exact ⟨_, rfl, RdI.nil _ _, (HC.out.below.trans (HT5.out.mono HC.out.below.size)).alloc (HC.out.below.trans (HT5.out.mono HC.out.below.size)).size _⟩
      · obtain ⟨d0, rfl⟩ := Int.eq_ofNat_of_zero_le (show 0 ≤ x0 by omega)
        have hL : U.leastD a.next D = (U.path a.next D d0 0, 0) := by
          unfold U.leastD
          rw [if_neg (by rw [HX0.out]; omega), HX0.out, Int.toNat_natCast]
        have hdm := HDM.out 0
        rw [HX0.out] at hdm
        obtain ⟨WD, hWD⟩ : ∃ WD, U.path a.next D d0 0 = WD := ⟨_, rfl⟩
        rw [hWD] at hL
        have HL := Lib.hid hL
        have HWD := Lib.hid hWD
        have HDZ := Lib.hid hdm
        have hd40 : ((d0 : Nat) : Int) ≤ 40 := by omega
        clear hL hWD hdm hneg
        go_wp2_with fail
        have q6 := heap_alloc_new w5 (.cells #[.slice (some ⟨gD, 0, none⟩) k k] 27 (0, 0))
        have hb6 := (Below.refl _ w5).alloc (Nat.le_refl _) (.cells #[.slice (some ⟨gD, 0, none⟩) k k] 27 (0, 0))
        have z6 : (w5.alloc (.cells #[.slice (some ⟨gD, 0, none⟩) k k] 27 (0, 0))).heap.size = w5.heap.size + 1 := by simp
        clear hc0a
        generalize (w5.alloc (.cells #[.slice (some ⟨gD, 0, none⟩) k k] 27 (0, 0))) = W6 at q6 hb6 z6 ⊢
        rw [← z6]
        have hR0 : Rows (W6.alloc (.cells #[.int .i64 0] 3 (0, 0))) W6.heap.size [(.slice none 0 0, []), (.slice (some ⟨W6.heap.size, 0, none⟩) 1 1, [((0 : Nat) : Int)])] :=
          Rows.putNil (Rows.put (Rows.nil _ _) ((show Blk (W6.alloc (.cells #[.int .i64 0] 3 (0, 0))) W6.heap.size [((0 : Nat) : Int)] from heap_alloc_new W6 _).own (Nat.le_refl _) (by simp [maxLen])) (fun i r hr => by simp at hr))
        have hb7 := (Below.refl _ W6).alloc (Nat.le_refl _) (.cells #[.int .i64 0] 3 (0, 0))
        have HQ6 := Lib.hid q6
        have HB6 := Lib.hid hb6
        have HZ6 := Lib.hid z6
        have HR0 := Lib.hid hR0
        have HB7 := Lib.hid hb7
        have HN1 := Lib.hid hN1
        clear q6 hb6 z6 hR0 hb7
        go_loopg [9, 8] 41 (fun gg s9 s8 wr => ∃ (b s d : Nat) (out : List Int), s9 = .pointer (some ⟨b, 0, none⟩) ∧ s < k ∧ Hid (U.lk D s = (d : Int)) ∧ d < gg ∧ Hid (out ++ U.path a.next D d s = WD) ∧ Below W6.heap.size W6 wr ∧ Hid (Rows wr W6.heap.size [(s8, out), (.slice (some ⟨b, 0, none⟩) 1 1, [(s : Int)])]) ∧ Hid (out.length + d ≤ 40))
        case atStart => exact ⟨W6.heap.size, 0, d0, [], rfl, HN1.out, HX0.out, by omega, HWD.out, HB7.out, HR0.out, by show _ ≤ _; simp; omega⟩
        case round =>
          obtain ⟨b, s, d, out, rfl, hs, HDS, hdg, HOW, hbw, HRW, HOL⟩ := hrel
          have hb5w := HB6.out.trans (hbw.mono HB6.out.size)
          have c7 := Lib.cell_of_heap ((hbw.block w5.heap.size (by have := HZ6.out; omega)).trans HQ6.out) 0
          have cM := (au_cells ((hb5w.block w3.heap.size (heap_lt HQ5.out)).trans HQ5.out)).1
          have cs := HRW.out.cell1 (i := 1) (j := 0) rfl rfl
          have cD := (hb5w.cell (p := ⟨gD, s, none⟩) HGD.out).trans (HDC.out s _ (U.lk_of (by rw [HDL.out]; exact hs)))
          rw [HDS.out] at cD
          have c9 := cs.1
          have hs0 : (0 : Int) ≤ (s : Int) := Int.natCast_nonneg _
          have hs1 : (s : Int) < (k : Int) := by omega
          have c7' : wr.cell? ⟨w5.heap.size, 0, none⟩ = some (.slice (some ⟨gD, 0, none⟩) k k) := c7
          have HCS := Lib.hid cs
          clear cs c7
          cases d with
          | zero =>
            clear cM
            go_wp2_with fail
            go_ret2
            refine ⟨D, HIS.out, ?_⟩
            rw [HL.out]
            have h9 := HOW.out
            rw [U.path, List.append_nil] at h9
            refine ⟨u8, rfl, ?_, (HC.out.below.trans (HT5.out.mono HC.out.below.size)).trans (hb5w.mono (HC.out.below.trans (HT5.out.mono HC.out.below.size)).size)⟩
            have h10 := RdI.of_own (HRW.out.own 0 _ rfl)
            rw [← h9]
            exact h10
          | succ d =>
            have hy := List.getElem?_eq_getElem (show s < a.next.length by have := HLN.out; omega)
            generalize a.next[s]'(by have := HLN.out; omega) = l at hy
            have hany := HIS.out.nearer HDS.out hy
            have hrow := HO.out.at hy
            have hMw := HM5.out.below hb5w (Nat.le_refl _)
            obtain ⟨gm, om, cm, em, hgm, h8, hcm⟩ := hMw.row hy
            rw [HLN.out] at em
            injection em with em1 _ em3
            subst em1
            subst em3
            have hgm2 : gm < wr.heap.size := Nat.lt_of_lt_of_le hgm hb5w.size
            have hlr : RdI wr (· < wr.heap.size) (.slice (some ⟨gm, om + s * 8, none⟩) 8 8) l :=
              ⟨_, 8, by rw [h8], by omega, by unfold maxLen; omega, .inr ⟨gm, om + s * 8, rfl, hgm2, fun i x hx => ⟨_, hcm i x hx, rfl⟩⟩⟩
            have hds := HDS.out
            have hlo := fun i => And.intro (HIS.out.lo i) (Int.le_trans (HDM.out i) (show ((k : Nat) : Int) ≤ 40 by omega))
            have hidx := index_M 43 #[.pointer (some ⟨w5.heap.size, 0, none⟩), .pointer (some ⟨b, 0, none⟩)] (enters_of Try.func43 (by kernel_rfl) rfl) (U.near D (d : Int)) (.slice (some ⟨gm, om + s * 8, none⟩) 8 8) l wr hlr
              (fun W x hx hB => (is_nearer w5.heap.size b gD k s d D x W ((hB.cell (p := ⟨w5.heap.size, 0, none⟩) (by show w5.heap.size < wr.heap.size; have := hbw.size; have := HZ6.out; omega)).trans c7') ((hB.cell (p := ⟨b, 0, none⟩) HCS.out.2.2).trans c9)
                (fun i z hz => ((hb5w.trans (hB.mono hb5w.size)).cell (p := ⟨gD, i, none⟩) HGD.out).trans (HDC.out i z hz)) HDL.out hs (by have := (hrow.2 x hx).2; rw [HLN.out] at this; exact this) hds hlo).mono fun e w' h => ⟨h.1, hB.trans (h.2.mono hB.size)⟩)
            have HIDX := Lib.hid hidx
            have hsl := fun W => slice8 ⟨gm, om + s * 8, none⟩ W
            have HY := Lib.hid hy
            have HANY := Lib.hid hany
            have H8 := Lib.hid h8
            have HCM := Lib.hid hcm
            have HRNG := Lib.hid hrow.2
            have HBW := Lib.hid hbw
            have HB5W := Lib.hid hb5w
            have HGM := Lib.hid hgm
            have HGG := Lib.hid hdg
            have HS := Lib.hid hs
            have hd0 : (0 : Int) < ((d + 1 : Nat) : Int) := by omega
            clear hy hany hrow hMw h8 hcm hgm2 hlr hds hlo hidx hbw hb5w hgm hdg hs
            go_wp2_with fail
            refine HIDX.out.mono ?_
            rintro e w8 ⟨i, rfl, hfst, hb8⟩
            rcases hfst with ⟨_, hno⟩ | ⟨j, y, rfl, hj, hnr, hfirst⟩
            · have := HANY.out
              rw [hno] at this
              cases this
            · have hj8 := (List.getElem?_eq_some_iff.1 hj).1
              rw [H8.out] at hj8
              have hy0 := (U.near_iff.1 hnr).1
              obtain ⟨z, rfl⟩ := Int.eq_ofNat_of_zero_le hy0
              have hzd := (U.near_iff.1 hnr).2
              rw [Int.toNat_natCast] at hzd
              have hzk := (HRNG.out _ (List.mem_of_getElem? hj)).2
              rw [HLN.out] at hzk
              have hpath := U.path_step HY.out hj hnr (fun j' y' h1 h2 => by
                have := hfirst
                rw [List.any_eq_false] at this
                simpa using this y' (List.mem_of_getElem? (show (l.take j)[j']? = some y' by rw [List.getElem?_take_of_lt h1]; exact h2)))
              have hhw := HOW.out
              rw [hpath] at hhw
              have HHW : Hid ((out ++ [(j : Int)]) ++ U.path a.next D d z = WD) := by show _ = _; rw [List.append_assoc]; exact hhw
              have hol := HOL.out
              have HOL2 : Hid ((out ++ [(j : Int)]).length + d ≤ 40) := by show _ ≤ _; rw [List.length_append, List.length_singleton]; omega
              have HOL3 : Hid (out.length ≤ 1048576) := by show _ ≤ _; omega
              have hol4 : (out.length : Int) ≤ 40 := by omega
              have HRW8 := Lib.hid (HRW.out.later hb8)
              have HBW8 := Lib.hid (HBW.out.trans (hb8.mono HBW.out.size))
              have HB58 := Lib.hid (HB5W.out.trans (hb8.mono HB5W.out.size))
              have HSZ8 := Lib.hid (HBW8.out.size)
              have HCZ := Lib.hid ((hb8.cell (p := ⟨gm, om + s * 8 + j, none⟩) (Nat.lt_of_lt_of_le HGM.out HB5W.out.size)).trans (HCM.out j _ hj))
              have hzk' : z < k := by omega
              have HZK' := Lib.hid hzk'
              clear hzk'
              have HZD := Lib.hid hzd
              have hj0 : (0 : Int) ≤ (j : Int) := Int.natCast_nonneg _
              have hj1 : (j : Int) < 8 := by omega
              have HJ := Lib.hid hj
              clear hb8 hj hnr hfirst hpath hhw hol hzk hzd hy0 hj8 cM c9 c7' cD HIDX
              go_wp2_with (at_builtin; refine wpList_append_int w8 (j : Int) rfl _ _ rfl W6.heap.size _ 0 u8 out HRW8.out rfl HOL3.out HSZ8.out rfl w8.heap.size rfl rfl ?_; intro g9 cap9 w9 hA9; have cb9 := (hA9.rows.cell1 (i := 1) (j := 0) rfl rfl).1)
              have hrw := hA9.rows
              have hb9 := HBW8.out.trans hA9.below
              have hb59 := HB58.out.trans (hA9.below.mono (by have := HB6.out.size; omega))
              clear cb9 hA9
              have q10 := heap_alloc_new w9 (.cells #[.int .i64 (s : Int)] 3 (0, 0))
              have hb10 := (Below.refl _ w9).alloc (Nat.le_refl _) (.cells #[.int .i64 (s : Int)] 3 (0, 0))
              have hR10 : Rows (w9.alloc (.cells #[.int .i64 (s : Int)] 3 (0, 0))) W6.heap.size [(.slice (some ⟨g9, 0, none⟩) (out.length + 1) cap9, out ++ [(j : Int)]), (.slice (some ⟨w9.heap.size, 0, none⟩) 1 1, [(s : Int)])] := by
                have h1 := (hrw.alloc (.cells #[.int .i64 (s : Int)] 3 (0, 0))).own 0 _ rfl
                refine Rows.put (Rows.put (Rows.nil _ _) ((show Blk (w9.alloc (.cells #[.int .i64 (s : Int)] 3 (0, 0))) w9.heap.size [(s : Int)] from q10).own hb9.size (by simp [maxLen])) (fun i r hr => by simp at hr)) h1 ?_
                intro i r hr b' hb' e
                have hlt := ((hrw.own 0 _ rfl).lt b' hb').2
                cases i with
                | zero =>
                  have e2 : (Value.slice (some ⟨w9.heap.size, 0, none⟩) 1 1, [(s : Int)]) = r := by simpa using hr
                  rw [← e2] at e
                  have : w9.heap.size = b' := by simpa [Value.ownBlock] using e
                  omega
                | succ i => simp at hr
              have hb9s := hb9.size
              have hb9' := hb9.trans (hb10.mono hb9.size)
              have hb5' := hb59.trans (hb10.mono hb59.size)
              generalize hb10z : w9.heap.size = b10 at hR10 q10 ⊢
              clear hb10 hb9 hb59 hrw
              generalize (w9.alloc (.cells #[.int .i64 (s : Int)] 3 (0, 0))) = W10 at q10 hR10 hb9' hb5' ⊢
              have c10 := hR10.cell1 (i := 1) (j := 0) rfl rfl
              have c11 := c10.1
              have f11 := c10.2.1
              have cw := (hR10.cell1 (i := 0) (j := out.length) (x := (j : Int)) rfl (by simp)).1
              have cM := (au_cells ((hb5'.block w3.heap.size (heap_lt HQ5.out)).trans HQ5.out)).1
              have czz := (hb5'.cell (p := ⟨gm, om + s * 8 + j, none⟩) HGM.out).trans (((HB5W.out.cell (p := ⟨gm, om + s * 8 + j, none⟩) HGM.out).symm).trans (HCM.out j _ HJ.out))
              have hst := hR10.store (i := 1) rfl 0 (z : Int)
              have HST := Lib.hid hst.drew
              have hbs : W6.heap.size ≤ b10 := by rw [← hb10z]; exact hb9s
              have HBS := Lib.hid ((hb9'.setCell (p := ⟨b10, 0, none⟩) hbs (.int .i64 (z : Int))).drew)
              clear c10 hst hbs q10 hR10 hb9' hb5'
              have hn0 : (0 : Int) ≤ (out.length : Int) := Int.natCast_nonneg _
              have hn1 : (out.length : Int) < (out.length : Int) + 1 := by omega
              have hw1 : IntKind.i64.wrap (out.length : Int) = (out.length : Int) := IntWalk.i64_in _ (by omega)
              have hw2 : IntKind.i64.wrap ((out.length : Int) + 1 - 1) = (out.length : Int) := by rw [show (out.length : Int) + 1 - 1 = (out.length : Int) by omega]; exact hw1
              go_still_tail 12, (by kernel_rfl)
              go_wp2_with fail
              go_roundg (d + 1)
              case measure => exact HGG.out
              case rel => exact ⟨b10, z, d, out ++ [(j : Int)], rfl, HZK'.out, HZD.out, by omega, HHW.out, HBS.out, HST.out, HOL2.out⟩

end Go.Proofs.Ytonchdhchaiikaa

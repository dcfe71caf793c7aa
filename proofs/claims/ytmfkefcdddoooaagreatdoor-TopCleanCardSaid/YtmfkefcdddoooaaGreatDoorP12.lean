/- Several texts in one: ShowRd, ShowRd2, NameMath, RefName. -/
import Derived.Deep.LoopGhost
import Derived.Deep.RegionLaw
import Derived.Deep.RegionWith
import Derived.Lib.DecodeN
import Derived.Shelf.GgClosure.StringsIndexFunc
import Derived.Outline
import Derived.Test.YtmfkefcdddoooaaGreatDoorP11
import Derived.Test.YtmfkefcdddoooaaGreatDoorP04
import Derived.Test.YtmfkefcdddoooaaGreatDoorP10
import Derived.Test.YtmfkefcdddoooaaGreatDoorP02
import Derived.Test.YtmfkefcdddoooaaGreatDoorP06
namespace Go.Proofs.YtmfkefcdddoooaaGreatDoor
open Go.RowKit

/-- a slice that reads as these tokens, below T -/
def RdTk (w : World) (T : Nat) (v : Value) (ts : List U.Tok) : Prop := ∃ ao cap, v = .slice ao ts.length cap ∧ ts.length ≤ cap ∧
  ∀ (i : Nat) (t : U.Tok), ts[i]? = some t → ∃ g o av, ao = some ⟨g, o, none⟩ ∧ g < T ∧ w.cell? ⟨g, o + i * 5, none⟩ = some (.int .i64 t.kind) ∧ w.cell? ⟨g, o + i * 5 + 1, none⟩ = some (.string ⟨t.name.toArray⟩) ∧
    w.cell? ⟨g, o + i * 5 + 2, none⟩ = some av ∧ w.cell? ⟨g, o + i * 5 + 3, none⟩ = some (.bool t.self) ∧ w.cell? ⟨g, o + i * 5 + 4, none⟩ = some (.string ⟨t.text.toArray⟩) ∧ RdAS w (· < T) av t.attrs
theorem RdTk.below {w w' : World} {T : Nat} {v : Value} {ts : List U.Tok} (h : RdTk w T v ts) (hb : Below T w w') : RdTk w' T v ts := by
  obtain ⟨ao, cap, rfl, h1, hc⟩ := h
  refine ⟨ao, cap, rfl, h1, fun i t ht => ?_⟩
  obtain ⟨g, o, av, e, hg, c0, c1, c2, c3, c4, hA⟩ := hc i t ht
  exact ⟨g, o, av, e, hg, (hb.cell (p := ⟨g, o + i * 5, none⟩) hg).trans c0, (hb.cell (p := ⟨g, o + i * 5 + 1, none⟩) hg).trans c1, (hb.cell (p := ⟨g, o + i * 5 + 2, none⟩) hg).trans c2, (hb.cell (p := ⟨g, o + i * 5 + 3, none⟩) hg).trans c3, (hb.cell (p := ⟨g, o + i * 5 + 4, none⟩) hg).trans c4, hA.keep (fun p hp => hb.cell hp) (fun b hb => hb)⟩
theorem RdTk.tail {w : World} {T g o n cap : Nat} {t : U.Tok} {r : List U.Tok} (h : RdTk w T (.slice (some ⟨g, o, none⟩) n cap) (t :: r)) : RdTk w T (.slice (some ⟨g, o + 5, none⟩) (n - 1) (cap - 1)) r := by
  obtain ⟨ao, cap', e, h1, hc⟩ := h
  injection e with e1 e2 e3
  subst e1
  subst e3
  rw [List.length_cons] at e2 h1
  refine ⟨_, cap - 1, by rw [e2]; rfl, by omega, fun i x hx => ?_⟩
  obtain ⟨g', o', av, e, hg, c⟩ := hc (i + 1) x (by simpa using hx)
  injection e with e
  injection e with e3 e4
  subst e3
  subst e4
  rw [show o + (i + 1) * 5 = o + 5 + i * 5 by omega] at c
  exact ⟨g, o + 5, av, rfl, hg, c⟩
theorem RdTk.nil (w : World) (T : Nat) (ao : Option Addr) (cap : Nat) : RdTk w T (.slice ao 0 cap) [] := ⟨ao, cap, rfl, Nat.zero_le _, fun i t h => by cases h⟩
theorem RdTk.at {w : World} {T : Nat} {v : Value} {t : U.Tok} {r : List U.Tok} (h : RdTk w T v (t :: r)) : ∃ g o cap aa ac, v = .slice (some ⟨g, o, none⟩) (r.length + 1) cap ∧ r.length + 1 ≤ cap ∧ g < T ∧ w.cell? ⟨g, o, none⟩ = some (.int .i64 t.kind) ∧ w.cell? ⟨g, o + 1, none⟩ = some (.string ⟨t.name.toArray⟩) ∧
    w.cell? ⟨g, o + 2, none⟩ = some (.slice aa t.attrs.length ac) ∧ w.cell? ⟨g, o + 3, none⟩ = some (.bool t.self) ∧ w.cell? ⟨g, o + 4, none⟩ = some (.string ⟨t.text.toArray⟩) ∧ RdAS w (· < T) (.slice aa t.attrs.length ac) t.attrs := by
  obtain ⟨ao, cap, rfl, h1, hc⟩ := h
  obtain ⟨g, o, av, rfl, hg, c0, c1, c2, c3, c4, hA⟩ := hc 0 t rfl
  obtain ⟨aa, ac, rfl, x⟩ := id hA
  rw [Nat.zero_mul, Nat.add_zero] at c0 c1 c2 c3 c4
  exact ⟨g, o, cap, aa, ac, rfl, h1, hg, c0, c1, c2, c3, c4, hA⟩

/-- four cells of a node written -/
def fill4 (w : World) (b : Nat) (y0 y1 y2 y3 : Value) : World := (((w.setCell ⟨b, 0, none⟩ y0).setCell ⟨b, 1, none⟩ y1).setCell ⟨b, 2, none⟩ y2).setCell ⟨b, 3, none⟩ y3
theorem fill4_heap {w : World} {b : Nat} {x0 x1 x2 x3 : Value} {T : TypeId} {f : Nat × Nat} (h : w.heap[b]? = some (.cells #[x0, x1, x2, x3] T f)) (y0 y1 y2 y3 : Value) : (fill4 w b y0 y1 y2 y3).heap[b]? = some (.cells #[y0, y1, y2, y3] T f) := by
  simp [fill4, World.setCell, Array.getElem?_modify, h]
theorem fill4_below {a w : World} {B b : Nat} (h : Below B a w) (hb : B ≤ b) (y0 y1 y2 y3 : Value) : Below B a (fill4 w b y0 y1 y2 y3) := (((h.setCell (p := ⟨b, 0, none⟩) hb _).setCell (p := ⟨b, 1, none⟩) hb _).setCell (p := ⟨b, 2, none⟩) hb _).setCell (p := ⟨b, 3, none⟩) hb _
theorem fill4_block {w : World} {b k : Nat} (h : k ≠ b) (y0 y1 y2 y3 : Value) : (fill4 w b y0 y1 y2 y3).heap[k]? = w.heap[k]? := by
  unfold fill4
  rw [Below.heap_setCell _ _ _ _ h, Below.heap_setCell _ _ _ _ h, Below.heap_setCell _ _ _ _ h, Below.heap_setCell _ _ _ _ h]
theorem fill4_size (w : World) (b : Nat) (y0 y1 y2 y3 : Value) : (fill4 w b y0 y1 y2 y3).heap.size = w.heap.size := by simp [fill4, World.setCell]
theorem part_heap {w : World} {b : Nat} {x0 x1 x2 x3 : Value} {T : TypeId} {f : Nat × Nat} (h : w.heap[b]? = some (.cells #[x0, x1, x2, x3] T f)) (y3 : Value) : (w.setCell ⟨b, 3, none⟩ y3).heap[b]? = some (.cells #[x0, x1, x2, y3] T f) := by
  simp [World.setCell, Array.getElem?_modify, h]
theorem nd_frozen {w : World} {b : Nat} {x0 x1 x2 x3 : Value} {T : TypeId} (h : w.heap[b]? = some (.cells #[x0, x1, x2, x3] T (0, 0))) : w.frozen? ⟨b, 0, none⟩ = false ∧ w.frozen? ⟨b, 1, none⟩ = false ∧ w.frozen? ⟨b, 2, none⟩ = false ∧ w.frozen? ⟨b, 3, none⟩ = false := ⟨Lib.frozen_of_heap h 0, Lib.frozen_of_heap h 1, Lib.frozen_of_heap h 2, Lib.frozen_of_heap h 3⟩
/-- what readList answers of these tokens, in whatever world -/
def ReadsL (r : List U.Tok) : Prop := ∀ (T : Nat) (v : Value) (w : World), T ≤ w.heap.size → RdTk w T v r →
  Calls Tryz.prog 35 #[v] w fun e w' => ∃ nv rv, e = .returned (.tuple #[nv, rv]) ∧ RdNs w' (Within T w.heap.size w'.heap.size) nv (U.rd r).1 ∧ RdTk w' T rv (U.rd r).2 ∧ Below w.heap.size w w'

set_option maxHeartbeats 8000000 in
set_option maxRecDepth 1000000 in
theorem read_node (t : U.Tok) (r : List U.Tok) (hr : ReadsL r) (T : Nat) (v : Value) (w : World) (hT : T ≤ w.heap.size) (hR : RdTk w T v (t :: r)) :
    Calls Tryz.prog 61 #[v] w fun e w' => ∃ av pv rv, e = .returned (.tuple #[.agg #[.string ⟨t.name.toArray⟩, av, .string ⟨t.text.toArray⟩, pv], rv]) ∧ RdAS w' (· < T) av t.attrs ∧
      RdNs w' (Within T w.heap.size w'.heap.size) pv (if U.flatT t = true then [] else (U.rd r).1) ∧ RdTk w' T rv (if U.flatT t = true then r else (U.rd r).2.drop 1) ∧ Below w.heap.size w w' := by
  obtain ⟨g, o, cap, aa, ac, rfl, hcap, hg, c0, c1, c2, c3, c4, hA⟩ := hR.at
  have htl := hR.tail
  have HTL := Lib.hid htl
  have HRL := Lib.hid hr
  have HA := Lib.hid hA
  clear hA htl hR hr
  have hg2 : g < w.heap.size := Nat.lt_of_lt_of_le hg hT
  have hk : ∀ (j : Nat) (u : Value), w.cell? ⟨g, j, none⟩ = some u → ∀ O, (w.alloc O).cell? ⟨g, j, none⟩ = some u := fun j u h O => (cell_alloc_old w O ⟨g, j, none⟩ hg2).trans h
  have hk2 : ∀ (j : Nat) (u : Value), w.cell? ⟨g, j, none⟩ = some u → ∀ O O', ((w.alloc O).alloc O').cell? ⟨g, j, none⟩ = some u := fun j u h O O' => (cell_alloc_old (w.alloc O) O' ⟨g, j, none⟩ (by simp; omega)).trans (hk j u h O)
  have b0 := hk _ _ c0
  have b1 := hk _ _ c1
  have b2 := hk _ _ c2
  have b3 := hk _ _ c3
  have b4 := hk _ _ c4
  have a0 := hk2 _ _ c0
  have a1 := hk2 _ _ c1
  have a2 := hk2 _ _ c2
  have a3 := hk2 _ _ c3
  have a4 := hk2 _ _ c4
  clear hk hk2 c0 c1 c2 c3 c4
  obtain ⟨PL, hPL⟩ : ∃ PL, (if U.flatT t = true then [] else (U.rd r).1) = PL := ⟨_, rfl⟩
  obtain ⟨QL, hQL⟩ : ∃ QL, (if U.flatT t = true then r else (U.rd r).2.drop 1) = QL := ⟨_, rfl⟩
  rw [hPL, hQL]
  have HPL := Lib.hid hPL
  have HQL := Lib.hid hQL
  clear hPL hQL
  have hIT := fun W => is_text (.mk t.name t.attrs t.text []) aa none t.attrs.length ac 0 0 W
  unfold ndVal at hIT
  have HIT := Lib.hid hIT
  have HV := Lib.hid (fun W => show_void t.name W)
  have HB1 := Lib.hid ((((Below.refl w.heap.size w).alloc (Nat.le_refl _) (.cells #[.string ⟨t.name.toArray⟩, .slice aa t.attrs.length ac, .string ⟨t.text.toArray⟩, .slice none 0 0] 46 (0, 0))).alloc (by simp) (.cells #[.int .i64 t.kind, .string ⟨t.name.toArray⟩, .slice aa t.attrs.length ac, .bool t.self, .string ⟨t.text.toArray⟩] 33 (0, 0))).drew)
  have HQ1 := Lib.hid (show (((w.alloc (.cells #[.string ⟨t.name.toArray⟩, .slice aa t.attrs.length ac, .string ⟨t.text.toArray⟩, .slice none 0 0] 46 (0, 0))).alloc (.cells #[.int .i64 t.kind, .string ⟨t.name.toArray⟩, .slice aa t.attrs.length ac, .bool t.self, .string ⟨t.text.toArray⟩] 33 (0, 0))).drew).heap[w.heap.size]? = some (.cells #[.string ⟨t.name.toArray⟩, .slice aa t.attrs.length ac, .string ⟨t.text.toArray⟩, .slice none 0 0] 46 (0, 0)) from (Lib.alloc_old (w.alloc _) _ _ (by simp)).trans (heap_alloc_new w _))
  clear hIT
  by_cases hc1 : cap = 1
  · subst hc1
    obtain rfl : r = [] := List.eq_nil_of_length_eq_zero (by omega)
    have HTL := Lib.hid (RdTk.nil w T (some ⟨g, o, none⟩) 0)
    go_enter Tryz.func61, Tryz.ntmps61
    go_wp2_with fail
    go_region
    all_goals
      clear a0 a1 a2 a3 a4 b0 b1 b2 b3 b4
      go_wp2_with fail
      refine (HIT.out _).mono ?_
      rintro e w2 ⟨rfl, hb2⟩
      have t2 := HB1.out.trans (hb2.mono HB1.out.size)
      have Q2 := Lib.hid ((hb2.block w.heap.size (by simp; omega)).trans HQ1.out)
      have u20 := (nd_cells Q2.out).1
      have u21 := (nd_cells Q2.out).2.1
      have u22 := (nd_cells Q2.out).2.2.1
      have u23 := (nd_cells Q2.out).2.2.2
      obtain ⟨v20, v21, v22, v23⟩ := nd_frozen Q2.out
      have L2 := Lib.hid (Array.getElem?_eq_some_iff.1 Q2.out).1
      have hnn : (U.Nd.mk t.name t.attrs t.text []).name.isEmpty = t.name.isEmpty := rfl
      rw [hnn]
      clear hb2 HB1 HQ1 HIT hnn
      cases hne : t.name.isEmpty with
      | true =>
        have hfl : U.flatT t = true := by unfold U.flatT; rw [hne]; rfl
        have e1 := HPL.out
        have e2 := HQL.out
        rw [if_pos hfl] at e1 e2
        subst e1
        subst e2
        clear hne hfl HV HRL
        go_wp2_with fail
        have hff := fill4_heap Q2.out (.string ⟨t.name.toArray⟩) (.slice aa t.attrs.length ac) (.string ⟨t.text.toArray⟩) (.slice none 0 0)
        have tf := fill4_below t2 (Nat.le_refl _) (.string ⟨t.name.toArray⟩) (.slice aa t.attrs.length ac) (.string ⟨t.text.toArray⟩) (.slice none 0 0)
        obtain ⟨z0, z1, z2, z3⟩ := nd_cells hff
        change bodyPost _ _ _ _ _ (fill4 w2 w.heap.size (.string ⟨t.name.toArray⟩) (.slice aa t.attrs.length ac) (.string ⟨t.text.toArray⟩) (.slice none 0 0))
        refine bodyPost_ret (v := .tuple #[.agg #[.string ⟨t.name.toArray⟩, .slice aa t.attrs.length ac, .string ⟨t.text.toArray⟩, .slice none 0 0], .slice (some ⟨g, o, none⟩) 0 0]) (by simp [results, Tryz.results61, go_sem, z0, z1, z2, z3]) rfl ?_
        exact ⟨_, _, _, rfl, HA.out.keep (fun p hp => tf.cell (Nat.lt_of_lt_of_le hp hT)) (fun b hb => hb), RdNs.nil _ _, HTL.out.below (tf.mono hT), tf⟩
      | false =>
        cases hvo : U.isVoid t.name with
        | true => 
          have hfl : U.flatT t = true := by unfold U.flatT; rw [hvo]; simp
          have e1 := HPL.out
          have e2 := HQL.out
          rw [if_pos hfl] at e1 e2
          subst e1
          subst e2
          rw [hvo] at HV
          clear hne hfl HRL hvo
          go_wp2_with (go_at_call 69; refine (HV.out _).mono ?_; rintro e w3 ⟨rfl, rfl⟩)
          have hff := fill4_heap Q2.out (.string ⟨t.name.toArray⟩) (.slice aa t.attrs.length ac) (.string ⟨t.text.toArray⟩) (.slice none 0 0)
          have tf := fill4_below t2 (Nat.le_refl _) (.string ⟨t.name.toArray⟩) (.slice aa t.attrs.length ac) (.string ⟨t.text.toArray⟩) (.slice none 0 0)
          obtain ⟨z0, z1, z2, z3⟩ := nd_cells hff
          change bodyPost _ _ _ _ _ (fill4 w2 w.heap.size (.string ⟨t.name.toArray⟩) (.slice aa t.attrs.length ac) (.string ⟨t.text.toArray⟩) (.slice none 0 0))
          refine bodyPost_ret (v := .tuple #[.agg #[.string ⟨t.name.toArray⟩, .slice aa t.attrs.length ac, .string ⟨t.text.toArray⟩, .slice none 0 0], .slice (some ⟨g, o, none⟩) 0 0]) (by simp [results, Tryz.results61, go_sem, z0, z1, z2, z3]) rfl ?_
          exact ⟨_, _, _, rfl, HA.out.keep (fun p hp => tf.cell (Nat.lt_of_lt_of_le hp hT)) (fun b hb => hb), RdNs.nil _ _, HTL.out.below (tf.mono hT), tf⟩
        | false =>
          have hfl : U.flatT t = false := by unfold U.flatT; rw [hvo, hne]; rfl
          have e1 := HPL.out
          have e2 := HQL.out
          rw [if_neg (by rw [hfl]; decide)] at e1 e2
          subst e1
          subst e2
          rw [hvo] at HV
          have HRC := Lib.hid (HRL.out T _ w2 (Nat.le_trans hT t2.size) (HTL.out.below (t2.mono hT)))
          clear hne hfl HRL hvo
          go_wp2_with (go_at_call 69; refine (HV.out _).mono ?_; rintro e w3 ⟨rfl, rfl⟩)
          refine HRC.out.mono ?_
          rintro e w4 ⟨nv, rv, rfl, hN4, hR4, hb4⟩
          have t4 := t2.trans (hb4.mono t2.size)
          have Q4 := Lib.hid ((hb4.block w.heap.size L2.out).trans Q2.out)
          obtain ⟨na, ncap, hnv, _⟩ := id hN4
          subst hnv
          have HQ5 := Lib.hid (part_heap Q4.out (.slice na (U.rd []).1.length ncap))
          have u43 := (nd_cells Q4.out).2.2.2
          have v43 := (nd_frozen Q4.out).2.2.2
          obtain ⟨x50, x51, x52, x53⟩ := nd_cells HQ5.out
          obtain ⟨y50, y51, y52, y53⟩ := nd_frozen HQ5.out
          have HNF := Lib.hid (show RdNs (fill4 (w4.setCell ⟨w.heap.size, 3, none⟩ (.slice na (U.rd []).1.length ncap)) w.heap.size (.string ⟨t.name.toArray⟩) (.slice aa t.attrs.length ac) (.string ⟨t.text.toArray⟩) (.slice na (U.rd []).1.length ncap)) (Within T w.heap.size (fill4 (w4.setCell ⟨w.heap.size, 3, none⟩ (.slice na (U.rd []).1.length ncap)) w.heap.size (.string ⟨t.name.toArray⟩) (.slice aa t.attrs.length ac) (.string ⟨t.text.toArray⟩) (.slice na (U.rd []).1.length ncap)).heap.size) (.slice na (U.rd []).1.length ncap) (U.rd []).1 from by
            have hl2 := L2.out
            have hsz : (fill4 (w4.setCell ⟨w.heap.size, 3, none⟩ (.slice na (U.rd []).1.length ncap)) w.heap.size (.string ⟨t.name.toArray⟩) (.slice aa t.attrs.length ac) (.string ⟨t.text.toArray⟩) (.slice na (U.rd []).1.length ncap)).heap.size = w4.heap.size := by rw [fill4_size]; simp [World.setCell]
            rw [hsz]
            refine hN4.keep (fun p hp => ?_) (fun b hb => hb.imp id fun h => ⟨by omega, h.2⟩)
            have hne : p.block ≠ w.heap.size := by
              rcases hp with hp | hp
              · omega
              · omega
            exact World.cell?_of_block ((fill4_block hne _ _ _ _).trans (Below.heap_setCell _ _ _ _ hne)))
          have hlR := U.rd_le []
          clear HRC Q2 L2 u20 u21 u22 u23 v20 v21 v22 v23 HV t2 hb4 hN4
          cases hrest : (U.rd []).2 with
          | nil =>
            rw [hrest] at hR4
            obtain ⟨ra, rcap, rfl, _⟩ := id hR4
            have HR4 := Lib.hid hR4
            clear hR4
            go_wp2_with fail
            have hff := fill4_heap HQ5.out (.string ⟨t.name.toArray⟩) (.slice aa t.attrs.length ac) (.string ⟨t.text.toArray⟩) (.slice na (U.rd []).1.length ncap)
            have tf := fill4_below (t4.setCell (p := ⟨w.heap.size, 3, none⟩) (Nat.le_refl _) (.slice na (U.rd []).1.length ncap)) (Nat.le_refl _) (.string ⟨t.name.toArray⟩) (.slice aa t.attrs.length ac) (.string ⟨t.text.toArray⟩) (.slice na (U.rd []).1.length ncap)
            obtain ⟨z0, z1, z2, z3⟩ := nd_cells hff
            change bodyPost _ _ _ _ _ (fill4 (w4.setCell ⟨w.heap.size, 3, none⟩ (.slice na (U.rd []).1.length ncap)) w.heap.size (.string ⟨t.name.toArray⟩) (.slice aa t.attrs.length ac) (.string ⟨t.text.toArray⟩) (.slice na (U.rd []).1.length ncap))
            refine bodyPost_ret (v := .tuple #[.agg #[.string ⟨t.name.toArray⟩, .slice aa t.attrs.length ac, .string ⟨t.text.toArray⟩, .slice na (U.rd []).1.length ncap], .slice ra 0 rcap]) (by simp [results, Tryz.results61, go_sem, z0, z1, z2, z3]) rfl ?_
            have hTF : Below T w4 (fill4 (w4.setCell ⟨w.heap.size, 3, none⟩ (.slice na (U.rd []).1.length ncap)) w.heap.size (.string ⟨t.name.toArray⟩) (.slice aa t.attrs.length ac) (.string ⟨t.text.toArray⟩) (.slice na (U.rd []).1.length ncap)) := fill4_below ((Below.refl T w4).setCell (p := ⟨w.heap.size, 3, none⟩) hT _) hT _ _ _ _
            exact ⟨_, _, _, rfl, HA.out.keep (fun p hp => tf.cell (Nat.lt_of_lt_of_le hp hT)) (fun b hb => hb), HNF.out, by rw [hrest]; exact RdTk.nil _ _ _ _, tf⟩
          | cons t' r' =>
            rw [hrest] at hR4
            obtain ⟨g', o', cap', aa', ac', rfl, hcap', hg', _, _, _, _, _, _⟩ := hR4.at
            have HT4 := Lib.hid hR4.tail
            clear hR4
            have hr1 : (0 : Int) < (r'.length : Int) + 1 := by omega
            by_cases hc2 : cap' = 1
            · subst hc2
              have hr' : r' = [] := List.eq_nil_of_length_eq_zero (by omega)
              subst hr'
              go_wp2_with fail
              have hff := fill4_heap HQ5.out (.string ⟨t.name.toArray⟩) (.slice aa t.attrs.length ac) (.string ⟨t.text.toArray⟩) (.slice na (U.rd []).1.length ncap)
              have tf := fill4_below (t4.setCell (p := ⟨w.heap.size, 3, none⟩) (Nat.le_refl _) (.slice na (U.rd []).1.length ncap)) (Nat.le_refl _) (.string ⟨t.name.toArray⟩) (.slice aa t.attrs.length ac) (.string ⟨t.text.toArray⟩) (.slice na (U.rd []).1.length ncap)
              obtain ⟨z0, z1, z2, z3⟩ := nd_cells hff
              change bodyPost _ _ _ _ _ (fill4 (w4.setCell ⟨w.heap.size, 3, none⟩ (.slice na (U.rd []).1.length ncap)) w.heap.size (.string ⟨t.name.toArray⟩) (.slice aa t.attrs.length ac) (.string ⟨t.text.toArray⟩) (.slice na (U.rd []).1.length ncap))
              refine bodyPost_ret (v := .tuple #[.agg #[.string ⟨t.name.toArray⟩, .slice aa t.attrs.length ac, .string ⟨t.text.toArray⟩, .slice na (U.rd []).1.length ncap], .slice (some ⟨g', o', none⟩) 0 0]) (by simp [results, Tryz.results61, go_sem, z0, z1, z2, z3]) rfl ?_
              have hTF : Below T w4 (fill4 (w4.setCell ⟨w.heap.size, 3, none⟩ (.slice na (U.rd []).1.length ncap)) w.heap.size (.string ⟨t.name.toArray⟩) (.slice aa t.attrs.length ac) (.string ⟨t.text.toArray⟩) (.slice na (U.rd []).1.length ncap)) := fill4_below ((Below.refl T w4).setCell (p := ⟨w.heap.size, 3, none⟩) hT _) hT _ _ _ _
              exact ⟨_, _, _, rfl, HA.out.keep (fun p hp => tf.cell (Nat.lt_of_lt_of_le hp hT)) (fun b hb => hb), HNF.out, by rw [hrest]; exact RdTk.nil _ _ _ _, tf⟩
            · have hc3 : 1 ≤ cap' := by omega
              go_wp2_with fail
              have hff := fill4_heap HQ5.out (.string ⟨t.name.toArray⟩) (.slice aa t.attrs.length ac) (.string ⟨t.text.toArray⟩) (.slice na (U.rd []).1.length ncap)
              have tf := fill4_below (t4.setCell (p := ⟨w.heap.size, 3, none⟩) (Nat.le_refl _) (.slice na (U.rd []).1.length ncap)) (Nat.le_refl _) (.string ⟨t.name.toArray⟩) (.slice aa t.attrs.length ac) (.string ⟨t.text.toArray⟩) (.slice na (U.rd []).1.length ncap)
              obtain ⟨z0, z1, z2, z3⟩ := nd_cells hff
              change bodyPost _ _ _ _ _ (fill4 (w4.setCell ⟨w.heap.size, 3, none⟩ (.slice na (U.rd []).1.length ncap)) w.heap.size (.string ⟨t.name.toArray⟩) (.slice aa t.attrs.length ac) (.string ⟨t.text.toArray⟩) (.slice na (U.rd []).1.length ncap))
              refine bodyPost_ret (v := .tuple #[.agg #[.string ⟨t.name.toArray⟩, .slice aa t.attrs.length ac, .string ⟨t.text.toArray⟩, .slice na (U.rd []).1.length ncap], .slice (some ⟨g', o' + 5, none⟩) r'.length (cap' - 1)]) (by simp [results, Tryz.results61, go_sem, z0, z1, z2, z3]) rfl ?_
              have hTF : Below T w4 (fill4 (w4.setCell ⟨w.heap.size, 3, none⟩ (.slice na (U.rd []).1.length ncap)) w.heap.size (.string ⟨t.name.toArray⟩) (.slice aa t.attrs.length ac) (.string ⟨t.text.toArray⟩) (.slice na (U.rd []).1.length ncap)) := fill4_below ((Below.refl T w4).setCell (p := ⟨w.heap.size, 3, none⟩) hT _) hT _ _ _ _
              exact ⟨_, _, _, rfl, HA.out.keep (fun p hp => tf.cell (Nat.lt_of_lt_of_le hp hT)) (fun b hb => hb), HNF.out, by rw [hrest]; exact HT4.out.below hTF, tf⟩
  · go_enter Tryz.func61, Tryz.ntmps61
    go_wp2_with fail
    go_region
    all_goals
      clear a0 a1 a2 a3 a4 b0 b1 b2 b3 b4
      go_wp2_with fail
      refine (HIT.out _).mono ?_
      rintro e w2 ⟨rfl, hb2⟩
      have t2 := HB1.out.trans (hb2.mono HB1.out.size)
      have Q2 := Lib.hid ((hb2.block w.heap.size (by simp; omega)).trans HQ1.out)
      have u20 := (nd_cells Q2.out).1
      have u21 := (nd_cells Q2.out).2.1
      have u22 := (nd_cells Q2.out).2.2.1
      have u23 := (nd_cells Q2.out).2.2.2
      obtain ⟨v20, v21, v22, v23⟩ := nd_frozen Q2.out
      have L2 := Lib.hid (Array.getElem?_eq_some_iff.1 Q2.out).1
      have hnn : (U.Nd.mk t.name t.attrs t.text []).name.isEmpty = t.name.isEmpty := rfl
      rw [hnn]
      clear hb2 HB1 HQ1 HIT hnn
      cases hne : t.name.isEmpty with
      | true =>
        have hfl : U.flatT t = true := by unfold U.flatT; rw [hne]; rfl
        have e1 := HPL.out
        have e2 := HQL.out
        rw [if_pos hfl] at e1 e2
        subst e1
        subst e2
        clear hne hfl HV HRL
        go_wp2_with fail
        have hff := fill4_heap Q2.out (.string ⟨t.name.toArray⟩) (.slice aa t.attrs.length ac) (.string ⟨t.text.toArray⟩) (.slice none 0 0)
        have tf := fill4_below t2 (Nat.le_refl _) (.string ⟨t.name.toArray⟩) (.slice aa t.attrs.length ac) (.string ⟨t.text.toArray⟩) (.slice none 0 0)
        obtain ⟨z0, z1, z2, z3⟩ := nd_cells hff
        change bodyPost _ _ _ _ _ (fill4 w2 w.heap.size (.string ⟨t.name.toArray⟩) (.slice aa t.attrs.length ac) (.string ⟨t.text.toArray⟩) (.slice none 0 0))
        refine bodyPost_ret (v := .tuple #[.agg #[.string ⟨t.name.toArray⟩, .slice aa t.attrs.length ac, .string ⟨t.text.toArray⟩, .slice none 0 0], .slice (some ⟨g, o + 5, none⟩) r.length (cap - 1)]) (by simp [results, Tryz.results61, go_sem, z0, z1, z2, z3]) rfl ?_
        exact ⟨_, _, _, rfl, HA.out.keep (fun p hp => tf.cell (Nat.lt_of_lt_of_le hp hT)) (fun b hb => hb), RdNs.nil _ _, HTL.out.below (tf.mono hT), tf⟩
      | false =>
        cases hvo : U.isVoid t.name with
        | true => 
          have hfl : U.flatT t = true := by unfold U.flatT; rw [hvo]; simp
          have e1 := HPL.out
          have e2 := HQL.out
          rw [if_pos hfl] at e1 e2
          subst e1
          subst e2
          rw [hvo] at HV
          clear hne hfl HRL hvo
          go_wp2_with (go_at_call 69; refine (HV.out _).mono ?_; rintro e w3 ⟨rfl, rfl⟩)
          have hff := fill4_heap Q2.out (.string ⟨t.name.toArray⟩) (.slice aa t.attrs.length ac) (.string ⟨t.text.toArray⟩) (.slice none 0 0)
          have tf := fill4_below t2 (Nat.le_refl _) (.string ⟨t.name.toArray⟩) (.slice aa t.attrs.length ac) (.string ⟨t.text.toArray⟩) (.slice none 0 0)
          obtain ⟨z0, z1, z2, z3⟩ := nd_cells hff
          change bodyPost _ _ _ _ _ (fill4 w2 w.heap.size (.string ⟨t.name.toArray⟩) (.slice aa t.attrs.length ac) (.string ⟨t.text.toArray⟩) (.slice none 0 0))
          refine bodyPost_ret (v := .tuple #[.agg #[.string ⟨t.name.toArray⟩, .slice aa t.attrs.length ac, .string ⟨t.text.toArray⟩, .slice none 0 0], .slice (some ⟨g, o + 5, none⟩) r.length (cap - 1)]) (by simp [results, Tryz.results61, go_sem, z0, z1, z2, z3]) rfl ?_
          exact ⟨_, _, _, rfl, HA.out.keep (fun p hp => tf.cell (Nat.lt_of_lt_of_le hp hT)) (fun b hb => hb), RdNs.nil _ _, HTL.out.below (tf.mono hT), tf⟩
        | false =>
          have hfl : U.flatT t = false := by unfold U.flatT; rw [hvo, hne]; rfl
          have e1 := HPL.out
          have e2 := HQL.out
          rw [if_neg (by rw [hfl]; decide)] at e1 e2
          subst e1
          subst e2
          rw [hvo] at HV
          have HRC := Lib.hid (HRL.out T _ w2 (Nat.le_trans hT t2.size) (HTL.out.below (t2.mono hT)))
          clear hne hfl HRL hvo
          go_wp2_with (go_at_call 69; refine (HV.out _).mono ?_; rintro e w3 ⟨rfl, rfl⟩)
          refine HRC.out.mono ?_
          rintro e w4 ⟨nv, rv, rfl, hN4, hR4, hb4⟩
          have t4 := t2.trans (hb4.mono t2.size)
          have Q4 := Lib.hid ((hb4.block w.heap.size L2.out).trans Q2.out)
          obtain ⟨na, ncap, hnv, _⟩ := id hN4
          subst hnv
          have HQ5 := Lib.hid (part_heap Q4.out (.slice na (U.rd r).1.length ncap))
          have u43 := (nd_cells Q4.out).2.2.2
          have v43 := (nd_frozen Q4.out).2.2.2
          obtain ⟨x50, x51, x52, x53⟩ := nd_cells HQ5.out
          obtain ⟨y50, y51, y52, y53⟩ := nd_frozen HQ5.out
          have HNF := Lib.hid (show RdNs (fill4 (w4.setCell ⟨w.heap.size, 3, none⟩ (.slice na (U.rd r).1.length ncap)) w.heap.size (.string ⟨t.name.toArray⟩) (.slice aa t.attrs.length ac) (.string ⟨t.text.toArray⟩) (.slice na (U.rd r).1.length ncap)) (Within T w.heap.size (fill4 (w4.setCell ⟨w.heap.size, 3, none⟩ (.slice na (U.rd r).1.length ncap)) w.heap.size (.string ⟨t.name.toArray⟩) (.slice aa t.attrs.length ac) (.string ⟨t.text.toArray⟩) (.slice na (U.rd r).1.length ncap)).heap.size) (.slice na (U.rd r).1.length ncap) (U.rd r).1 from by
            have hl2 := L2.out
            have hsz : (fill4 (w4.setCell ⟨w.heap.size, 3, none⟩ (.slice na (U.rd r).1.length ncap)) w.heap.size (.string ⟨t.name.toArray⟩) (.slice aa t.attrs.length ac) (.string ⟨t.text.toArray⟩) (.slice na (U.rd r).1.length ncap)).heap.size = w4.heap.size := by rw [fill4_size]; simp [World.setCell]
            rw [hsz]
            refine hN4.keep (fun p hp => ?_) (fun b hb => hb.imp id fun h => ⟨by omega, h.2⟩)
            have hne : p.block ≠ w.heap.size := by
              rcases hp with hp | hp
              · omega
              · omega
            exact World.cell?_of_block ((fill4_block hne _ _ _ _).trans (Below.heap_setCell _ _ _ _ hne)))
          have hlR := U.rd_le r
          clear HRC Q2 L2 u20 u21 u22 u23 v20 v21 v22 v23 HV t2 hb4 hN4
          cases hrest : (U.rd r).2 with
          | nil =>
            rw [hrest] at hR4
            obtain ⟨ra, rcap, rfl, _⟩ := id hR4
            have HR4 := Lib.hid hR4
            clear hR4
            go_wp2_with fail
            have hff := fill4_heap HQ5.out (.string ⟨t.name.toArray⟩) (.slice aa t.attrs.length ac) (.string ⟨t.text.toArray⟩) (.slice na (U.rd r).1.length ncap)
            have tf := fill4_below (t4.setCell (p := ⟨w.heap.size, 3, none⟩) (Nat.le_refl _) (.slice na (U.rd r).1.length ncap)) (Nat.le_refl _) (.string ⟨t.name.toArray⟩) (.slice aa t.attrs.length ac) (.string ⟨t.text.toArray⟩) (.slice na (U.rd r).1.length ncap)
            obtain ⟨z0, z1, z2, z3⟩ := nd_cells hff
            change bodyPost _ _ _ _ _ (fill4 (w4.setCell ⟨w.heap.size, 3, none⟩ (.slice na (U.rd r).1.length ncap)) w.heap.size (.string ⟨t.name.toArray⟩) (.slice aa t.attrs.length ac) (.string ⟨t.text.toArray⟩) (.slice na (U.rd r).1.length ncap))
            refine bodyPost_ret (v := .tuple #[.agg #[.string ⟨t.name.toArray⟩, .slice aa t.attrs.length ac, .string ⟨t.text.toArray⟩, .slice na (U.rd r).1.length ncap], .slice ra 0 rcap]) (by simp [results, Tryz.results61, go_sem, z0, z1, z2, z3]) rfl ?_
            have hTF : Below T w4 (fill4 (w4.setCell ⟨w.heap.size, 3, none⟩ (.slice na (U.rd r).1.length ncap)) w.heap.size (.string ⟨t.name.toArray⟩) (.slice aa t.attrs.length ac) (.string ⟨t.text.toArray⟩) (.slice na (U.rd r).1.length ncap)) := fill4_below ((Below.refl T w4).setCell (p := ⟨w.heap.size, 3, none⟩) hT _) hT _ _ _ _
            exact ⟨_, _, _, rfl, HA.out.keep (fun p hp => tf.cell (Nat.lt_of_lt_of_le hp hT)) (fun b hb => hb), HNF.out, by rw [hrest]; exact RdTk.nil _ _ _ _, tf⟩
          | cons t' r' =>
            rw [hrest] at hR4
            obtain ⟨g', o', cap', aa', ac', rfl, hcap', hg', _, _, _, _, _, _⟩ := hR4.at
            have HT4 := Lib.hid hR4.tail
            clear hR4
            have hr1 : (0 : Int) < (r'.length : Int) + 1 := by omega
            by_cases hc2 : cap' = 1
            · subst hc2
              have hr' : r' = [] := List.eq_nil_of_length_eq_zero (by omega)
              subst hr'
              go_wp2_with fail
              have hff := fill4_heap HQ5.out (.string ⟨t.name.toArray⟩) (.slice aa t.attrs.length ac) (.string ⟨t.text.toArray⟩) (.slice na (U.rd r).1.length ncap)
              have tf := fill4_below (t4.setCell (p := ⟨w.heap.size, 3, none⟩) (Nat.le_refl _) (.slice na (U.rd r).1.length ncap)) (Nat.le_refl _) (.string ⟨t.name.toArray⟩) (.slice aa t.attrs.length ac) (.string ⟨t.text.toArray⟩) (.slice na (U.rd r).1.length ncap)
              obtain ⟨z0, z1, z2, z3⟩ := nd_cells hff
              change bodyPost _ _ _ _ _ (fill4 (w4.setCell ⟨w.heap.size, 3, none⟩ (.slice na (U.rd r).1.length ncap)) w.heap.size (.string ⟨t.name.toArray⟩) (.slice aa t.attrs.length ac) (.string ⟨t.text.toArray⟩) (.slice na (U.rd r).1.length ncap))
              refine bodyPost_ret (v := .tuple #[.agg #[.string ⟨t.name.toArray⟩, .slice aa t.attrs.length ac, .string ⟨t.text.toArray⟩, .slice na (U.rd r).1.length ncap], .slice (some ⟨g', o', none⟩) 0 0]) (by simp [results, Tryz.results61, go_sem, z0, z1, z2, z3]) rfl ?_
              have hTF : Below T w4 (fill4 (w4.setCell ⟨w.heap.size, 3, none⟩ (.slice na (U.rd r).1.length ncap)) w.heap.size (.string ⟨t.name.toArray⟩) (.slice aa t.attrs.length ac) (.string ⟨t.text.toArray⟩) (.slice na (U.rd r).1.length ncap)) := fill4_below ((Below.refl T w4).setCell (p := ⟨w.heap.size, 3, none⟩) hT _) hT _ _ _ _
              exact ⟨_, _, _, rfl, HA.out.keep (fun p hp => tf.cell (Nat.lt_of_lt_of_le hp hT)) (fun b hb => hb), HNF.out, by rw [hrest]; exact RdTk.nil _ _ _ _, tf⟩
            · have hc3 : 1 ≤ cap' := by omega
              go_wp2_with fail
              have hff := fill4_heap HQ5.out (.string ⟨t.name.toArray⟩) (.slice aa t.attrs.length ac) (.string ⟨t.text.toArray⟩) (.slice na (U.rd r).1.length ncap)
              have tf := fill4_below (t4.setCell (p := ⟨w.heap.size, 3, none⟩) (Nat.le_refl _) (.slice na (U.rd r).1.length ncap)) (Nat.le_refl _) (.string ⟨t.name.toArray⟩) (.slice aa t.attrs.length ac) (.string ⟨t.text.toArray⟩) (.slice na (U.rd r).1.length ncap)
              obtain ⟨z0, z1, z2, z3⟩ := nd_cells hff
              change bodyPost _ _ _ _ _ (fill4 (w4.setCell ⟨w.heap.size, 3, none⟩ (.slice na (U.rd r).1.length ncap)) w.heap.size (.string ⟨t.name.toArray⟩) (.slice aa t.attrs.length ac) (.string ⟨t.text.toArray⟩) (.slice na (U.rd r).1.length ncap))
              refine bodyPost_ret (v := .tuple #[.agg #[.string ⟨t.name.toArray⟩, .slice aa t.attrs.length ac, .string ⟨t.text.toArray⟩, .slice na (U.rd r).1.length ncap], .slice (some ⟨g', o' + 5, none⟩) r'.length (cap' - 1)]) (by simp [results, Tryz.results61, go_sem, z0, z1, z2, z3]) rfl ?_
              have hTF : Below T w4 (fill4 (w4.setCell ⟨w.heap.size, 3, none⟩ (.slice na (U.rd r).1.length ncap)) w.heap.size (.string ⟨t.name.toArray⟩) (.slice aa t.attrs.length ac) (.string ⟨t.text.toArray⟩) (.slice na (U.rd r).1.length ncap)) := fill4_below ((Below.refl T w4).setCell (p := ⟨w.heap.size, 3, none⟩) hT _) hT _ _ _ _
              exact ⟨_, _, _, rfl, HA.out.keep (fun p hp => tf.cell (Nat.lt_of_lt_of_le hp hT)) (fun b hb => hb), HNF.out, by rw [hrest]; exact HT4.out.below hTF, tf⟩

end Go.Proofs.YtmfkefcdddoooaaGreatDoor

namespace Go.Proofs.YtmfkefcdddoooaaGreatDoor
open Go.RowKit

theorem infoNode4 : (Tryz.prog.info? 46).map (fun i => (i.zero, i.size, i.bytes)) = some (some (.agg #[.string .empty, .slice none 0 0, .string .empty, .slice none 0 0]), 4, 80) := by kernel_rfl

set_option maxHeartbeats 8000000 in
set_option maxRecDepth 1000000 in
theorem read_list (m : Nat) : ∀ (ts : List U.Tok), ts.length ≤ m → m ≤ 1048576 → ReadsL ts := by
  induction m using Nat.strongRecOn with
  | _ m ih =>
  intro ts hm hM T v w hT hR
  obtain ⟨iT, hiT, hT0, hT1, hT2⟩ := info_parts infoNode4
  have IH := Lib.hid ih
  have HR := Lib.hid hR
  obtain ⟨R, hRR⟩ : ∃ R, U.rd ts = R := ⟨_, rfl⟩
  rw [hRR]
  have HRR := Lib.hid hRR
  obtain ⟨ao, cap, rfl⟩ : ∃ ao cap, v = .slice ao ts.length cap := by obtain ⟨a, b, e, _⟩ := hR; exact ⟨a, b, e⟩
  clear ih hR hRR
  go_enter Tryz.func35, Tryz.ntmps35
  go_wp2_with fail
  go_loopg [0, 2] ts.length (fun gg tv nv wr => ∃ (cur : List U.Tok) (xs : List NV) (ca : Option Addr) (cc : Nat), tv = .slice ca cur.length cc ∧ cur.length = gg ∧ gg ≤ ts.length ∧ Hid (RdTk wr T (.slice ca cur.length cc) cur) ∧ Hid (NRow T w wr nv xs) ∧ Hid ((xs.map (·.1) ++ (U.rd cur).1, (U.rd cur).2) = R) ∧ xs.length + gg ≤ ts.length)
  case atStart => exact ⟨ts, [], ao, cap, rfl, rfl, Nat.le_refl _, HR.out, NRow.nil hT (Below.refl _ _), by show _ = _; rw [← HRR.out]; rfl, by simp⟩
  case round =>
    obtain ⟨cur, xs, ca, cc, rfl, rfl, hgl, HC, HN, HE, hxl⟩ := hrel
    obtain ⟨na, ncap, rfl⟩ := own_form HN.out.1
    have hbw := HN.out.2.2.1
    by_cases h0 : cur = []
    · subst h0
      have hz : ¬ (0 : Int) < (([] : List U.Tok).length : Int) := by simp
      go_wp2_with fail
      go_ret2
      have hE := HE.out
      rw [U.rd_nil, List.append_nil] at hE
      rw [← hE]
      exact ⟨_, _, rfl, HN.out.rd, HC.out, hbw⟩
    · obtain ⟨x, r, rfl⟩ : ∃ x r, cur = x :: r := by
        cases cur with
        | nil => exact absurd rfl h0
        | cons x r => exact ⟨x, r, rfl⟩
      obtain ⟨g, o, cap', aa, ac, hca, hcap, hg, c0, -⟩ := HC.out.at
      injection hca with h1 h2 h3
      subst h1
      subst h3
      have hpos : (0 : Int) < (r.length : Int) + 1 := by omega
      rw [List.length_cons] at *
      by_cases hk : x.kind = 2
      · have hkz : ((x.kind : Nat) : Int) = 2 := by omega
        go_wp2_with fail
        go_ret2
        have hE := HE.out
        rw [U.rd_end hk, List.append_nil] at hE
        rw [← hE]
        exact ⟨_, _, rfl, HN.out.rd, HC.out, hbw⟩
      · have hkz : ¬ ((x.kind : Nat) : Int) = 2 := by omega
        have hRN := Lib.hid (fun W (hB : Below w.heap.size w W) (hT9 : T ≤ W.heap.size) h => read_node x r (IH.out r.length (by omega) r (Nat.le_refl _) (by omega)) T (.slice (some ⟨g, o, none⟩) (r.length + 1) cc) W hT9 h)
        go_wp2_with fail
        have hTw := HN.out.2.2.2
        have hbs := hbw.size
        refine (hRN.out _ (hbw.alloc hbw.size _) (by simp; omega) (HC.out.below ((Below.refl T wr).alloc (by omega) _))).mono ?_
        rintro e w2 ⟨av, pv, rv, rfl, hA2, hP2, hR2, hb2⟩
        have t2 : Below wr.heap.size wr w2 := ((Below.refl _ wr).alloc (Nat.le_refl _) _).trans (hb2.mono (by simp))
        have Q2 := (hb2.block wr.heap.size (by simp)).trans (heap_alloc_new wr _)
        obtain ⟨PL, hPL⟩ : ∃ PL, (if U.flatT x = true then [] else (U.rd r).1) = PL := ⟨_, rfl⟩
        obtain ⟨QL, hQL⟩ : ∃ QL, (if U.flatT x = true then r else (U.rd r).2.drop 1) = QL := ⟨_, rfl⟩
        rw [hPL] at hP2
        rw [hQL] at hR2
        obtain ⟨aa2, ac2, rfl, -⟩ := id hA2
        obtain ⟨pa2, pc2, rfl, -⟩ := id hP2
        obtain ⟨ra2, rc2, rfl, -⟩ := id hR2
        obtain ⟨u20, u21, u22, u23⟩ := nd_cells Q2
        obtain ⟨v20, v21, v22, v23⟩ := nd_frozen Q2
        have hrd : U.rd (x :: r) = (x.nd PL :: (U.rd QL).1, (U.rd QL).2) := by
          by_cases hf : U.flatT x = true
          · rw [if_pos hf] at hPL hQL
            rw [U.rd_flat hk hf, ← hPL, ← hQL]
          · rw [if_neg hf] at hPL hQL
            rw [U.rd_deep hk (by simpa using hf), ← hPL, ← hQL]
        have hql : QL.length ≤ r.length := by
          by_cases hf : U.flatT x = true
          · rw [if_pos hf] at hQL
            rw [← hQL]
            exact Nat.le_refl _
          · rw [if_neg hf] at hQL
            have h9 := U.rd_le r
            rw [← hQL, List.length_drop]
            omega
        have hTF : Below wr.heap.size wr (fill4 w2 wr.heap.size (.string ⟨x.name.toArray⟩) (.slice aa2 x.attrs.length ac2) (.string ⟨x.text.toArray⟩) (.slice pa2 PL.length pc2)) := fill4_below t2 (Nat.le_refl _) _ _ _ _
        have hTT : Below T w2 (fill4 w2 wr.heap.size (.string ⟨x.name.toArray⟩) (.slice aa2 x.attrs.length ac2) (.string ⟨x.text.toArray⟩) (.slice pa2 PL.length pc2)) := fill4_below (Below.refl T w2) (by omega) _ _ _ _
        have hff := fill4_heap Q2 (.string ⟨x.name.toArray⟩) (.slice aa2 x.attrs.length ac2) (.string ⟨x.text.toArray⟩) (.slice pa2 PL.length pc2)
        have hsz := fill4_size w2 wr.heap.size (.string ⟨x.name.toArray⟩) (.slice aa2 x.attrs.length ac2) (.string ⟨x.text.toArray⟩) (.slice pa2 PL.length pc2)
        have hs2 := hb2.size
        have hDn : Done (fill4 w2 wr.heap.size (.string ⟨x.name.toArray⟩) (.slice aa2 x.attrs.length ac2) (.string ⟨x.text.toArray⟩) (.slice pa2 PL.length pc2)) (Elsew T w.heap.size (fill4 w2 wr.heap.size (.string ⟨x.name.toArray⟩) (.slice aa2 x.attrs.length ac2) (.string ⟨x.text.toArray⟩) (.slice pa2 PL.length pc2)).heap.size (.slice na xs.length ncap)) ((x.nd PL, .slice aa2 x.attrs.length ac2, .slice pa2 PL.length pc2) : NV) := by
          refine ⟨hA2.keep (fun p hp => hTT.cell hp) (fun b hb => .inl hb), hP2.keep (fun p hp => World.cell?_of_block (fill4_block (fun e => ?_) _ _ _ _)) (fun b hb => HN.out.apart (hi := w2.heap.size) (hb.imp id fun h => ⟨?_, h.2⟩) (by rw [hsz]; exact Nat.le_refl _))⟩
          · rcases hp with hp | hp
            · omega
            · have := hp.1
              simp at this
              omega
          · have := h.1
            simp at this
            omega
        have HDN := Lib.hid hDn
        have HTF := Lib.hid hTF
        have HR2 := Lib.hid (hR2.below hTT)
        have HFF := Lib.hid hff
        have HRD := Lib.hid hrd
        have HSZ := Lib.hid hsz
        clear hA2 hP2 hR2 hb2 t2 Q2 hPL hQL hrd hTF hTT hff hDn hRN HC c0 hsz hs2 HRR HR IH hcap hg hkz hk hpos h0
        have HTX := Lib.hid (fun O => ((HN.out.later HTF.out).alloc O).1)
        have hxm : xs.length + 1 ≤ 1048576 := by omega
        have hNb := HN.out.2.2.1.size
        have hFb := HTF.out.size
        obtain ⟨x50, x51, x52, x53⟩ := nd_cells HFF.out
        go_wp2_with (at_builtin; refine wpList_append_lies _ rfl _ _ 36 rfl w.heap.size 46 iT _ 4 80 Tryz.underlying36 hiT hT0 hT1 hT2 rfl (by decide) _ xs.length _ rfl (HTX.out (.cells #[.string ⟨x.name.toArray⟩, .slice aa2 x.attrs.length ac2, .string ⟨x.text.toArray⟩, .slice pa2 PL.length pc2] 46 (0, 0))) ⟨_, 0, none⟩ 1 1 [.string ⟨x.name.toArray⟩, .slice aa2 x.attrs.length ac2, .string ⟨x.text.toArray⟩, .slice pa2 PL.length pc2] rfl rfl ?b1 ?b2 (by decide) ?b3 ?b4 ?b5 _ rfl ?_)
        case b1 =>
          have hnew : ((fill4 w2 wr.heap.size (.string ⟨x.name.toArray⟩) (.slice aa2 x.attrs.length ac2) (.string ⟨x.text.toArray⟩) (.slice pa2 PL.length pc2)).alloc (.cells #[.string ⟨x.name.toArray⟩, .slice aa2 x.attrs.length ac2, .string ⟨x.text.toArray⟩, .slice pa2 PL.length pc2] 46 (0, 0))).heap[w2.heap.size]? = some (.cells #[.string ⟨x.name.toArray⟩, .slice aa2 x.attrs.length ac2, .string ⟨x.text.toArray⟩, .slice pa2 PL.length pc2] 46 (0, 0)) := by
            have h := heap_alloc_new (fill4 w2 wr.heap.size (.string ⟨x.name.toArray⟩) (.slice aa2 x.attrs.length ac2) (.string ⟨x.text.toArray⟩) (.slice pa2 PL.length pc2)) (.cells #[.string ⟨x.name.toArray⟩, .slice aa2 x.attrs.length ac2, .string ⟨x.text.toArray⟩, .slice pa2 PL.length pc2] 46 (0, 0))
            rw [fill4_size] at h
            exact h
          exact cells4 hnew
        case b2 => intro u hu; simp at hu; rcases hu with rfl | rfl | rfl | rfl <;> rfl
        case b3 => unfold maxLen; omega
        case b4 => omega
        case b5 =>
          show _ ≤ ((fill4 w2 wr.heap.size (.string ⟨x.name.toArray⟩) (.slice aa2 x.attrs.length ac2) (.string ⟨x.text.toArray⟩) (.slice pa2 PL.length pc2)).alloc _).heap.size
          simp
          omega
        intro g7 cap7 w7 hown7 hgrow7 hat7 _
        have HP7 := Lib.hid (((HN.out.later HTF.out).alloc (.cells #[.string ⟨x.name.toArray⟩, .slice aa2 x.attrs.length ac2, .string ⟨x.text.toArray⟩, .slice pa2 PL.length pc2] 46 (0, 0))).put ((x.nd PL, .slice aa2 x.attrs.length ac2, .slice pa2 PL.length pc2) : NV) (by
          have hAl := (Below.refl (fill4 w2 wr.heap.size (.string ⟨x.name.toArray⟩) (.slice aa2 x.attrs.length ac2) (.string ⟨x.text.toArray⟩) (.slice pa2 PL.length pc2)).heap.size (fill4 w2 wr.heap.size (.string ⟨x.name.toArray⟩) (.slice aa2 x.attrs.length ac2) (.string ⟨x.text.toArray⟩) (.slice pa2 PL.length pc2))).alloc (Nat.le_refl _) (.cells #[.string ⟨x.name.toArray⟩, .slice aa2 x.attrs.length ac2, .string ⟨x.text.toArray⟩, .slice pa2 PL.length pc2] 46 (0, 0))
          refine HDN.out.keep (fun p hp => hAl.cell ?_) (fun b hb => hb.imp id fun h => ⟨h.1, Nat.lt_of_lt_of_le h.2.1 hAl.size, h.2.2⟩)
          rcases hp with hp | hp
          · omega
          · exact hp.2.1) hown7 hgrow7 (hat7.imp id (fun e => by rw [e]; simp [fill4_size])))
        have hB7 : Below T (fill4 w2 wr.heap.size (.string ⟨x.name.toArray⟩) (.slice aa2 x.attrs.length ac2) (.string ⟨x.text.toArray⟩) (.slice pa2 PL.length pc2)) w7 := ((Below.refl T (fill4 w2 wr.heap.size (.string ⟨x.name.toArray⟩) (.slice aa2 x.attrs.length ac2) (.string ⟨x.text.toArray⟩) (.slice pa2 PL.length pc2))).alloc (by omega) (.cells #[.string ⟨x.name.toArray⟩, .slice aa2 x.attrs.length ac2, .string ⟨x.text.toArray⟩, .slice pa2 PL.length pc2] 46 (0, 0))).grown hgrow7 (by simp; omega) (fun k hk => by have := (((HN.out.later HTF.out).alloc (.cells #[.string ⟨x.name.toArray⟩, .slice aa2 x.attrs.length ac2, .string ⟨x.text.toArray⟩, .slice pa2 PL.length pc2] 46 (0, 0))).1.lt k hk).1; omega)
        have HR7 := Lib.hid (HR2.out.below hB7)
        have HE7 : Hid (((xs ++ [((x.nd PL, .slice aa2 x.attrs.length ac2, .slice pa2 PL.length pc2) : NV)]).map (·.1) ++ (U.rd QL).1, (U.rd QL).2) = R) := by
          show _ = _
          rw [← HE.out, HRD.out]
          simp
        have hl7 : (xs ++ [((x.nd PL, .slice aa2 x.attrs.length ac2, .slice pa2 PL.length pc2) : NV)]).length + QL.length ≤ ts.length := by rw [List.length_append, List.length_singleton]; omega
        clear hown7 hgrow7 hat7 hB7 HTX HDN HTF HR2 HFF HRD HE HN x50 x51 x52 x53 u20 u21 u22 u23 v20 v21 v22 v23 hbw
        go_wp2_with fail
        go_roundg QL.length
        case measure => omega
        case rel => exact ⟨QL, _, ra2, rc2, rfl, rfl, by omega, HR7.out, HP7.out, HE7.out, hl7⟩

end Go.Proofs.YtmfkefcdddoooaaGreatDoor

namespace Go.Proofs.YtmfkefcdddoooaaGreatDoor

/-- a rune that no name may have -/
def otherR (x : Nat) : Bool := !(decide (97 ≤ x) && decide (x ≤ 122)) && (!(x == 45) && (decide (x < 48) || decide (57 < x)))
theorem other_high {x : Nat} (h : 128 ≤ x) : otherR x = true := by
  unfold otherR
  rw [decide_eq_false (by omega : ¬ x ≤ 122), beq_eq_false_iff_ne.2 (by omega : x ≠ 45), decide_eq_true (by omega : 57 < x)]
  simp
theorem other_byte (b : UInt8) : otherR b.toNat = !U.nameB2 b := by
  unfold otherR U.nameB2 U.small
  have e : (b == 45) = (b.toNat == 45) := by
    rw [Bool.eq_iff_iff, beq_iff_eq, beq_iff_eq]
    constructor
    · rintro rfl; rfl
    · intro h; exact UInt8.toNat.inj h
  rw [e]
  have e2 : (decide (b.toNat < 48) || decide (57 < b.toNat)) = !(decide (48 ≤ b.toNat) && decide (b.toNat ≤ 57)) := by
    rw [Bool.not_and, ← decide_not, ← decide_not, decide_eq_decide.2 (Nat.not_le (a := 48)), decide_eq_decide.2 (Nat.not_le (b := 57))]
  rw [e2]
  simp only [Bool.not_or]
  rw [Bool.and_assoc]
theorem decodeN_high (n b0 b1 b2 b3 : Nat) (h : 128 ≤ b0) : 128 ≤ (Lib.decodeN n b0 b1 b2 b3).1 := by
  unfold Lib.decodeN
  rw [if_neg (by omega)]
  repeat' split
  all_goals first | omega | (simp only; omega) | (rename_i h2; simp only; omega)
theorem get_bang (s : ByteArray) {k : Nat} (h : k < s.size) : s.get! k = s[k]'h := by
  have : s.data[k]! = s.data[k]'h := getElem!_pos s.data k h
  exact this
theorem idx_other (s : ByteArray) : ∀ (f pos : Nat), s.size ≤ pos + f → decide (0 ≤ Lib.idxFuncFrom otherR true s f pos) = !((s.data.toList.drop pos).all U.nameB2)
  | 0, pos, h => by
    have hl : s.data.toList.length = s.size := by rw [Array.length_toList]; rfl
    rw [List.drop_eq_nil_of_le (by omega)]
    rfl
  | f + 1, pos, h => by
    have hl : s.data.toList.length = s.size := by rw [Array.length_toList]; rfl
    unfold Lib.idxFuncFrom
    by_cases hp : pos < s.size
    · rw [if_pos hp]
      have hg : s.data.toList[pos]'(by omega) = s.get! pos := by rw [get_bang s hp]; rfl
      rw [List.drop_eq_getElem_cons (by omega : pos < s.data.toList.length), List.all_cons, hg, Lib.decode_at]
      by_cases hb : (s.get! pos).toNat < 128
      · have hd : ∀ n b1 b2 b3, Lib.decodeN n (s.get! pos).toNat b1 b2 b3 = ((s.get! pos).toNat, 1) := fun n b1 b2 b3 => by simp [Lib.decodeN, hb]
        rw [hd]
        simp only
        rw [other_byte]
        cases hn : U.nameB2 (s.get! pos) with
        | false =>
          rw [if_pos (by rfl)]
          rw [decide_eq_true (by omega)]
          rfl
        | true =>
          rw [if_neg (by simp), Bool.true_and]
          exact idx_other s f (pos + 1) (by omega)
      · have hd := decodeN_high (s.size - pos) (s.get! pos).toNat (s.get! (pos + 1)).toNat (s.get! (pos + 2)).toNat (s.get! (pos + 3)).toNat (by omega)
        rw [if_pos (other_high hd), decide_eq_true (by omega)]
        have hn : U.nameB2 (s.get! pos) = false := by
          have h1 := other_byte (s.get! pos)
          rw [other_high (by omega)] at h1
          simpa using h1.symm
        rw [hn]
        rfl
    · rw [if_neg hp, List.drop_eq_nil_of_le (by omega)]
      rfl
theorem idx_name (s : ByteArray) : decide (0 ≤ Lib.idxFunc otherR true s) = !(s.data.toList.all U.nameB2) := idx_other s s.size 0 (by omega)

end Go.Proofs.YtmfkefcdddoooaaGreatDoor

namespace Go.Proofs.YtmfkefcdddoooaaGreatDoor
open Go.RowKit

theorem isName_iff (l : List UInt8) : U.isName l = true ↔ 1 ≤ l.length ∧ l.length ≤ 12 ∧ (∀ b, l[0]? = some b → U.small b = true) ∧ l.all U.nameB2 = true := by
  cases l with
  | nil => simp [U.isName]
  | cons c r =>
    unfold U.isName
    rw [Bool.and_eq_true, Bool.and_eq_true, decide_eq_true_eq, List.all_cons, Bool.and_eq_true]
    constructor
    · rintro ⟨⟨h1, h2⟩, h3⟩
      refine ⟨by simp, by simp; omega, ?_, (U.small_facts h1).2, h2⟩
      intro b hb
      simp at hb
      exact hb ▸ h1
    · rintro ⟨_, h2, h3, h4⟩
      refine ⟨⟨h3 c rfl, h4.2⟩, ?_⟩
      simp at h2
      omega
theorem small_iff (b : UInt8) : U.small b = true ↔ 97 ≤ b.toNat ∧ b.toNat ≤ 122 := by
  unfold U.small
  rw [Bool.and_eq_true, decide_eq_true_eq, decide_eq_true_eq]
theorem nameB2_iff (b : UInt8) : U.nameB2 b = true ↔ (97 ≤ b.toNat ∧ b.toNat ≤ 122) ∨ b.toNat = 45 ∨ (48 ≤ b.toNat ∧ b.toNat ≤ 57) := by
  unfold U.nameB2
  rw [Bool.or_eq_true, Bool.or_eq_true, small_iff, Bool.and_eq_true, decide_eq_true_eq, decide_eq_true_eq, beq_iff_eq]
  have : b = 45 ↔ b.toNat = 45 := ⟨fun h => by rw [h]; rfl, fun h => UInt8.toNat.inj h⟩
  rw [this]
  omega
theorem all_grow {l : List UInt8} {k : Nat} {b : UInt8} (h : (l.take k).all U.nameB2 = true) (hb : l[k]? = some b) (hn : U.nameB2 b = true) : (l.take (k + 1)).all U.nameB2 = true := by
  obtain ⟨hk, e⟩ := List.getElem?_eq_some_iff.1 hb
  rw [List.take_succ_eq_append_getElem hk, e, List.all_append, h]
  simp [hn]
theorem not_name {l : List UInt8} {k : Nat} {b : UInt8} (hb : l[k]? = some b) (hn : U.nameB2 b = false ∨ (k = 0 ∧ U.small b = false)) : U.isName l = false := by
  cases h : U.isName l with
  | false => rfl
  | true =>
    obtain ⟨_, _, h3, h4⟩ := (isName_iff l).1 h
    rcases hn with hn | ⟨rfl, hn⟩
    · have := List.all_eq_true.1 h4 b (List.mem_of_getElem? hb)
      rw [hn] at this
      cases this
    · have := h3 b hb
      rw [hn] at this
      cases this

set_option maxHeartbeats 2000000 in
set_option maxRecDepth 1000000 in
theorem name_may (s : ByteArray) (w : World) :
    Calls Tryz.prog 128 #[.string s] w fun e w' => e = .returned (.bool (U.isName s.data.toList)) ∧ w = w' := by
  have hl : s.data.toList.length = s.size := by rw [Array.length_toList]; rfl
  go_enter Tryz.func128, Tryz.ntmps128
  by_cases h0 : s.size < 1
  · have hr : U.isName s.data.toList = false := by
      cases h : U.isName s.data.toList with
      | false => rfl
      | true => have := ((isName_iff _).1 h).1; omega
    rw [hr]
    go_wp2_with fail
    go_ret
    exact ⟨rfl, rfl⟩
  by_cases h1 : 12 < s.size
  · have hr : U.isName s.data.toList = false := by
      cases h : U.isName s.data.toList with
      | false => rfl
      | true => have := ((isName_iff _).1 h).2.1; omega
    rw [hr]
    go_wp2_with fail
    go_ret
    exact ⟨rfl, rfl⟩
  obtain ⟨R, hR⟩ : ∃ R, U.isName s.data.toList = R := ⟨_, rfl⟩
  rw [hR]
  have HR := Lib.hid hR
  clear hR
  go_wp2_with fail
  go_loopw [3] (fun i wr => ∃ k : Nat, k ≤ s.size ∧ i = .int .i64 k ∧ w = wr ∧ Hid ((s.data.toList.take k).all U.nameB2 = true ∧ (0 < k → ∀ b, s.data.toList[0]? = some b → U.small b = true))) (fun i _ => s.size - (intOf i).toNat)
  case atStart => exact ⟨0, Nat.zero_le _, rfl, rfl, rfl, fun h => absurd h (Nat.lt_irrefl 0)⟩
  case round =>
    obtain ⟨k, hk, rfl, rfl, HA⟩ := hrel
    by_cases hlt : k < s.size
    · have hb := byte_get s hlt
      have HB := Lib.hid hb
      have hk0 : (0 : Int) ≤ (k : Int) := Int.natCast_nonneg _
      have hk1 : (k : Int) < (s.size : Int) := by omega
      clear hb
      have hok : U.nameB2 (s[k]'hlt) = true → (k = 0 → U.small (s[k]'hlt) = true) → Hid ((s.data.toList.take (k + 1)).all U.nameB2 = true ∧ (0 < k + 1 → ∀ b, s.data.toList[0]? = some b → U.small b = true)) := fun hn h0s => by
        refine ⟨all_grow HA.out.1 HB.out hn, fun _ b hb0 => ?_⟩
        rcases Nat.eq_zero_or_pos k with hz | hz
        · subst hz
          have := HB.out.symm.trans hb0
          injection this with this
          exact this ▸ h0s rfl
        · exact HA.out.2 hz b hb0
      have hno : U.nameB2 (s[k]'hlt) = false ∨ (k = 0 ∧ U.small (s[k]'hlt) = false) → R = false := fun hn => HR.out.symm.trans (not_name HB.out hn)
      have hsm := small_iff (s[k]'hlt)
      have hnb := nameB2_iff (s[k]'hlt)
      have hb256 := (s[k]'hlt).toNat_lt
      have HOK := Lib.hid hok
      have HNO := Lib.hid hno
      have HSM := Lib.hid hsm
      have HNB := Lib.hid hnb
      clear hok hno hsm hnb
      by_cases hs1 : 97 ≤ (s[k]'hlt).toNat ∧ (s[k]'hlt).toNat ≤ 122
      · obtain ⟨d1, d2⟩ := hs1
        go_wp2_with fail
        go_roundw
        case rel => exact ⟨k + 1, by omega, by go_num, by first | rfl | trivial, HOK.out (HNB.out.2 (.inl ⟨d1, d2⟩)) (fun _ => HSM.out.2 ⟨d1, d2⟩)⟩
        case measure => simp [intOf]; omega
      · have hns : U.small (s[k]'hlt) = false := by
          cases h : U.small (s[k]'hlt) with
          | false => rfl
          | true => exact absurd (HSM.out.1 h) hs1
        have hsb : (decide (97 ≤ ((s[k]'hlt).toNat : Int)) && decide (((s[k]'hlt).toNat : Int) ≤ 122)) = false := by
          rw [Bool.and_eq_false_iff, decide_eq_false_iff_not, decide_eq_false_iff_not]; omega
        rcases Nat.eq_zero_or_pos k with hz | hz
        · have hRf := HNO.out (.inr ⟨hz, hns⟩)
          subst hRf
          subst hz
          clear HSM HNB HOK HNO hns hsb
          rcases Nat.lt_or_ge (s[0]'hlt).toNat 97 with h97 | h97
          · clear hs1
            go_wp2_with fail
            go_ret
            exact ⟨rfl, rfl⟩
          · have h122 : 122 < (s[0]'hlt).toNat := by omega
            have e122 : decide (((s[0]'hlt).toNat : Int) ≤ 122) = false := decide_eq_false (by omega)
            clear hs1
            go_wp2_with fail
            go_ret
            exact ⟨rfl, rfl⟩
        · have hk3 : ((k : Int) == 0) = false := beq_eq_false_iff_ne.2 (by omega)
          by_cases h45 : (s[k]'hlt).toNat = 45
          · have n45 : (((s[k]'hlt).toNat : Int) != 45) = false := by rw [h45]; rfl
            have h97 : (s[k]'hlt).toNat < 97 := by omega
            have hnn := HNB.out.2 (.inr (.inl h45))
            have HK := Lib.hid (HOK.out hnn (fun e => absurd e (by omega)))
            clear h45 hs1 hsb hnn HOK HNO
            go_wp2_with fail
            go_roundw
            case rel => exact ⟨k + 1, by omega, by go_num, by first | rfl | trivial, HK.out⟩
            case measure => simp [intOf]; omega
          · have n45 : (((s[k]'hlt).toNat : Int) != 45) = true := bne_iff_ne.2 (by omega)
            by_cases hd : 48 ≤ (s[k]'hlt).toNat ∧ (s[k]'hlt).toNat ≤ 57
            · obtain ⟨h48, h57⟩ := hd
              have h97 : (s[k]'hlt).toNat < 97 := by omega
              have hnn := HNB.out.2 (.inr (.inr ⟨h48, h57⟩))
              have HK := Lib.hid (HOK.out hnn (fun e => absurd e (by omega)))
              clear h45 hs1 hsb hnn HOK HNO
              go_wp2_with fail
              go_roundw
              case rel => exact ⟨k + 1, by omega, by go_num, by first | rfl | trivial, HK.out⟩
              case measure => simp [intOf]; omega
            · have hnb0 : U.nameB2 (s[k]'hlt) = false := by
                cases h : U.nameB2 (s[k]'hlt) with
                | false => rfl
                | true => have := HNB.out.1 h; omega
              have hRf := HNO.out (.inl hnb0)
              subst hRf
              clear HSM HNB HOK HNO hns hnb0
              rcases Nat.lt_or_ge (s[k]'hlt).toNat 48 with h48 | h48
              · have h97 : (s[k]'hlt).toNat < 97 := by omega
                clear h45 hs1 hsb hd
                go_wp2_with fail
                go_ret
                exact ⟨rfl, rfl⟩
              · have h57 : 57 < (s[k]'hlt).toNat := by omega
                rcases Nat.lt_or_ge (s[k]'hlt).toNat 97 with h97 | h97
                · clear h45 hd hsb hs1
                  go_wp2_with fail
                  go_ret
                  exact ⟨rfl, rfl⟩
                · have h122 : 122 < (s[k]'hlt).toNat := by omega
                  have e122 : decide (((s[k]'hlt).toNat : Int) ≤ 122) = false := decide_eq_false (by omega)
                  clear h45 hd hsb hs1
                  go_wp2_with fail
                  go_ret
                  exact ⟨rfl, rfl⟩
    · go_wp2_with fail
      go_ret
      refine ⟨?_, rfl⟩
      have hall : (s.data.toList.take k).all U.nameB2 = true := HA.out.1
      rw [List.take_of_length_le (by omega)] at hall
      have : U.isName s.data.toList = true := (isName_iff _).2 ⟨by omega, by omega, HA.out.2 (by omega), hall⟩
      rw [HR.out] at this
      rw [this]
      rfl

end Go.Proofs.YtmfkefcdddoooaaGreatDoor

/- Plain mathematics: quotes, gaps and the case of names do not matter. -/
import Derived.Test.YtkmjngpgngkalaaDoorToksMath
import Derived.Test.YtkmjngpgngkalaaDoorParts3
import Derived.Outline
namespace Go.Proofs.YtkmjngpgngkalaaDoor
namespace U

theorem skip1 : ∀ (g l t n v : List UInt8) (q : UInt8) (al : List Att), (∀ b ∈ g, isSp b = true) → runM ⟨1, t, n, v, q, false, al⟩ (g ++ l) = runM ⟨1, t, n, v, q, false, al⟩ l
  | [], _, _, _, _, _, _, _ => rfl
  | b :: g, l, t, n, v, q, al, h => by
    rw [List.cons_append, runM_go _ (step_A3 (h b (by simp)))]
    exact skip1 g l t n v q al fun c hc => h c (by simp [hc])
theorem skip3 : ∀ (g l t n v : List UInt8) (q : UInt8) (sl : Bool) (al : List Att), (∀ b ∈ g, isSp b = true) → runM ⟨3, t, n, v, q, sl, al⟩ (g ++ l) = runM ⟨3, t, n, v, q, sl, al⟩ l
  | [], _, _, _, _, _, _, _, _ => rfl
  | b :: g, l, t, n, v, q, sl, al, h => by
    rw [List.cons_append, runM_go _ (step_C1 (h b (by simp)))]
    exact skip3 g l t n v q sl al fun c hc => h c (by simp [hc])
theorem skip4 : ∀ (g l t n v : List UInt8) (q : UInt8) (sl : Bool) (al : List Att), (∀ b ∈ g, isSp b = true) → runM ⟨4, t, n, v, q, sl, al⟩ (g ++ l) = runM ⟨4, t, n, v, q, sl, al⟩ l
  | [], _, _, _, _, _, _, _, _ => rfl
  | b :: g, l, t, n, v, q, sl, al, h => by
    rw [List.cons_append, runM_go _ (step_D1 (h b (by simp)))]
    exact skip4 g l t n v q sl al fun c hc => h c (by simp [hc])
/-- behind an attribute's name: a gap and the sign = -/
theorem skip2 (g l t n v : List UInt8) (q : UInt8) (sl : Bool) (al : List Att) (h : ∀ b ∈ g, isSp b = true) : runM ⟨2, t, n, v, q, sl, al⟩ (g ++ 61 :: l) = runM ⟨4, t, n, v, q, sl, al⟩ l := by
  cases g with
  | nil => exact runM_go l (step_B4 rfl)
  | cons b g =>
    rw [List.cons_append, runM_go _ (step_B1 (h b (by simp))), skip3 g _ t n v q sl al fun c hc => h c (by simp [hc]), run_eq]

/-- the bytes of a value that neither a quote nor a gap ends -/
def valB (b : UInt8) : Prop := b ≠ 34 ∧ b ≠ 39 ∧ b ≠ 38 ∧ b ≠ 62 ∧ isSp b = false
theorem place_quote (q : UInt8) : ∀ (v l : List UInt8), (∀ b ∈ v, b ≠ q) → placeOf [q] (v ++ q :: l) = some v.length
  | [], l, _ => by rw [List.nil_append, placeOf]; simp
  | b :: v, l, h => by
    rw [List.cons_append, placeOf, if_neg (by have := h b (by simp); simpa using this), place_quote q v l fun c hc => h c (by simp [hc])]
    rfl
theorem sign_quoted (q : UInt8) (hq : q = 34 ∨ q = 39) (w l t n v : List UInt8) (p : UInt8) (sl : Bool) (al : List Att) (h : ∀ b ∈ w, valB b) : ∃ v' q', runM ⟨4, t, n, v, p, sl, al⟩ (q :: (w ++ q :: l)) = runM ⟨1, t, n, v', q', false, al ++ [(low n, w)]⟩ l := by
  have hne : ∀ b ∈ w, b ≠ q := fun b hb e => by
    subst e
    rcases hq with e | e
    · exact (h b hb).1 e
    · exact (h b hb).2.1 e
  rw [run_quote q _ t n v p sl al hq, run_quoted, place_quote q w l hne]
  refine ⟨w, q, ?_⟩
  simp only [List.nil_append, List.take_left]
  rw [unesc_same (fun hm => (h 38 hm).2.2.1 rfl), show w.length + 1 = (w ++ [q]).length by simp, show w ++ q :: l = (w ++ [q]) ++ l by simp, List.drop_left]
theorem take_bare : ∀ (w l : List UInt8), (∀ b ∈ w, valB b) → (∀ b r, l = b :: r → bareB b = false) → (w ++ l).takeWhile bareB = w ∧ (w ++ l).dropWhile bareB = l
  | [], l, _, hl => by
    cases l with
    | nil => exact ⟨rfl, rfl⟩
    | cons b r => rw [List.nil_append, List.takeWhile_cons_of_neg (by rw [hl b r rfl]; simp), List.dropWhile_cons_of_neg (by rw [hl b r rfl]; simp)]; exact ⟨rfl, rfl⟩
  | b :: w, l, h, hl => by
    have hb : bareB b = true := by
      have := h b (by simp)
      unfold bareB
      rw [this.2.2.2.2, beq_eq_false_iff_ne.2 this.2.2.2.1]
      rfl
    obtain ⟨e1, e2⟩ := take_bare w l (fun c hc => h c (by simp [hc])) hl
    rw [List.cons_append, List.takeWhile_cons_of_pos hb, List.dropWhile_cons_of_pos hb, e1, e2]
    exact ⟨rfl, rfl⟩
theorem sign_bare (w l t n v : List UInt8) (p : UInt8) (sl : Bool) (al : List Att) (h0 : w ≠ []) (h : ∀ b ∈ w, valB b) (hl : ∀ b r, l = b :: r → bareB b = false) : ∃ v' q', runM ⟨4, t, n, v, p, sl, al⟩ (w ++ l) = runM ⟨1, t, n, v', q', false, al ++ [(low n, w)]⟩ l := by
  obtain ⟨e1, e2⟩ := take_bare w l h hl
  cases w with
  | nil => exact absurd rfl h0
  | cons b r =>
    have hb := h b (by simp)
    rw [List.cons_append] at e1 e2 ⊢
    rw [run_bare b _ t n v p sl al hb.2.2.2.2 (fun e => e.elim hb.1 hb.2.1), run_bared, e1, e2]
    refine ⟨[] ++ (b :: r), p, ?_⟩
    rw [List.nil_append, unesc_same (fun hm => (h 38 hm).2.2.1 rfl)]

/-- the name of the element and of the attribute, small and big -/
def sElem (big : Bool) : UInt8 := if big = true then 65 else 97
def sName (big : Bool) : List UInt8 := if big = true then [72, 114, 69, 102] else [104, 114, 101, 102]
theorem sign_elem (big : Bool) (sp : UInt8) (hsp : sp = 32 ∨ sp = 10) (L : List UInt8) : runM st0 (sElem big :: sp :: L) = runM ⟨1, [sElem big], [], [], 0, false, []⟩ L := by
  rcases hsp with rfl | rfl <;> cases big <;> rfl
theorem sign_name (big : Bool) (L t : List UInt8) : runM ⟨1, t, [], [], 0, false, []⟩ (sName big ++ L) = runM ⟨2, t, sName big, [], 0, false, []⟩ L := by
  cases big with
  | false =>
    show runM ⟨1, t, [], [], 0, false, []⟩ (104 :: 114 :: 101 :: 102 :: L) = _
    rw [run_open 104 _ _ _ _ _ _ _ (by decide) (by decide), runM_go _ (step_B5 (by decide) (by decide) (by decide) (by decide)), runM_go _ (step_B5 (by decide) (by decide) (by decide) (by decide)), runM_go _ (step_B5 (by decide) (by decide) (by decide) (by decide))]
    rfl
  | true =>
    show runM ⟨1, t, [], [], 0, false, []⟩ (72 :: 114 :: 69 :: 102 :: L) = _
    rw [run_open 72 _ _ _ _ _ _ _ (by decide) (by decide), runM_go _ (step_B5 (by decide) (by decide) (by decide) (by decide)), runM_go _ (step_B5 (by decide) (by decide) (by decide) (by decide)), runM_go _ (step_B5 (by decide) (by decide) (by decide) (by decide))]
    rfl
theorem sign_toks (big : Bool) (sp : UInt8) (hsp : sp = 32 ∨ sp = 10) (g0 g1 g2 g3 V w : List UInt8) (h0 : ∀ b ∈ g0, isSp b = true) (h1 : ∀ b ∈ g1, isSp b = true) (h2 : ∀ b ∈ g2, isSp b = true) (h3 : ∀ b ∈ g3, isSp b = true)
    (hV : ∀ (t n v : List UInt8) (p : UInt8) (sl : Bool) (al : List Att), ∃ v' q', runM ⟨4, t, n, v, p, sl, al⟩ (V ++ (g3 ++ [62])) = runM ⟨1, t, n, v', q', false, al ++ [(low n, w)]⟩ (g3 ++ [62])) :
    toks (60 :: sElem big :: sp :: (g0 ++ (sName big ++ (g1 ++ 61 :: (g2 ++ (V ++ (g3 ++ [62]))))))) = [⟨1, [97], [([104, 114, 101, 102], w)], false, []⟩] := by
  have hi : item (60 :: sElem big :: sp :: (g0 ++ (sName big ++ (g1 ++ 61 :: (g2 ++ (V ++ (g3 ++ [62]))))))) = .start [97] [([104, 114, 101, 102], w)] false [] := by
    have e1 : item (60 :: sElem big :: sp :: (g0 ++ (sName big ++ (g1 ++ 61 :: (g2 ++ (V ++ (g3 ++ [62]))))))) = startI (sElem big :: sp :: (g0 ++ (sName big ++ (g1 ++ 61 :: (g2 ++ (V ++ (g3 ++ [62]))))))) := by
      have ha : isAl (sElem big) = true := by cases big <;> rfl
      rw [item_cons, if_neg (by decide), if_pos ha]
    have e2 := fun L => sign_elem big sp hsp L
    have e3 := fun L t => sign_name big L t
    obtain ⟨v', q', e4⟩ := hV [sElem big] (sName big) [] 0 false []
    have e5 : low (sName big) = [104, 114, 101, 102] := by cases big <;> rfl
    rw [e1]
    unfold startI
    rw [e2, skip1 _ _ _ _ _ _ _ h0, e3, skip2 _ _ _ _ _ _ _ _ h1, skip4 _ _ _ _ _ _ _ _ h2, e4, skip1 _ _ _ _ _ _ _ h3, run_close, List.nil_append, e5]
    cases big <;> rfl
  rw [toks_toksT, toksT_start hi]
  rfl

end U
end Go.Proofs.YtkmjngpgngkalaaDoor
namespace Go.Proofs.YtkmjngpgngkalaaDoor
open Go.RowKit

theorem pg_gap (j : Nat) (h : j < 4) : ∀ b ∈ (pg j).data.toList, U.isSp b = true := by
  match j, h with
  | 0, _ => intro b hb; cases hb
  | 1, _ => intro b hb; have : b ∈ [(32 : UInt8)] := hb; simp at this; subst this; rfl
  | 2, _ => intro b hb; have : b ∈ [(10 : UInt8), 32] := hb; simp at this; rcases this with rfl | rfl <;> rfl
  | 3, _ => intro b hb; have : b ∈ [(9 : UInt8)] := hb; simp at this; subst this; rfl

set_option maxHeartbeats 4000000 in
set_option maxRecDepth 1000000 in
theorem gap_walk (i bg : Nat) (bo : Option Addr) (cap2 : Nat) (ys : List Int) (w : World) (hc : w.cell? ⟨bg, 0, none⟩ = some (.slice bo ys.length cap2)) (hR : Rd w w.heap.size bo ys) (hb : bg < w.heap.size) :
    Calls Tryd.prog 12 #[.int .i64 i, .pointer (some ⟨bg, 0, none⟩)] w fun e w' => ∃ g : ByteArray, e = .returned (.string g) ∧ (∀ b ∈ g.data.toList, U.isSp b = true) ∧ g.size ≤ 2 ∧ Below w.heap.size w w' := by
  have HR := Lib.hid hR
  clear hR
  have hi0 : (0 : Int) ≤ (i : Int) := Int.natCast_nonneg _
  by_cases hlt : i < ys.length
  · obtain ⟨ad, rfl, hb2, hc1⟩ := HR.out i ys[i] (List.getElem?_eq_getElem hlt)
    generalize ys[i] = z at *
    have hc2 : ∀ o, (w.alloc o).cell? (ad.add i) = some (.int .i64 z) := fun o => by
      rw [World.cell?_alloc_lt w o (ad.add i) (by rw [add_block]; omega)]
      exact hc1
    have hc3 : ∀ o, (w.alloc o).cell? ⟨bg, 0, none⟩ = some (.slice (some ad) ys.length cap2) := fun o => by
      rw [World.cell?_alloc_lt w o ⟨bg, 0, none⟩ hb]
      exact hc
    have hk1 : (i : Int) < (ys.length : Int) := by omega
    have hj0 := Int.emod_nonneg z (b := 4) (by omega)
    have hj1 := Int.emod_lt_of_pos z (b := 4) (by omega)
    obtain ⟨j, hj, ej⟩ : ∃ j : Nat, j < 4 ∧ z % 4 = (j : Int) := ⟨(z % 4).toNat, by omega, by omega⟩
    clear hj0 hj1
    have EJ := Lib.hid ej
    clear ej
    have hlc := pg_cell j hj
    have hlg := pg_get j
    have hsz := pg_size j
    have HN := Lib.hid (pg_gap j hj)
    have hj0 : (0 : Int) ≤ (j : Int) := Int.natCast_nonneg _
    have hj1 : (j : Int) < 4 := by omega
    go_enter Tryd.func12, Tryd.ntmps12
    go_wp2_with ((go_at_call_of 9 (Value.int IntKind.i64 z); refine (picked_walk _ _ _ (by omega) (by omega)).mono ?_; rintro e w' ⟨rfl, rfl⟩; rw [EJ.out]))
    go_ret
    exact ⟨_, rfl, HN.out, hsz, by go_grown⟩
  · go_enter Tryd.func12, Tryd.ntmps12
    go_wp2_with fail
    go_ret
    exact ⟨_, rfl, fun b hb => (by cases hb), by decide, Below.refl _ _⟩

/-- what all three texts read as -/
def wantT (V : ByteArray) : List U.Tok := [⟨1, [97], [([104, 114, 101, 102], V.data.toList)], false, []⟩]
theorem list_1 (b : UInt8) : (ByteArray.mk #[b]).data.toList = [b] := rfl
theorem size_1 (b : UInt8) : (ByteArray.mk #[b]).size = 1 := rfl
theorem sign_want (V : ByteArray) (hV : ∀ b ∈ V.data.toList, U.valB b) (hz : V.size ≤ 20) (w : World) (hG : Glob w) :
    Calls Tryd.prog 8 #[.string (ByteArray.mk #[60, 97, 32, 104, 114, 101, 102, 61, 34] ++ V ++ ByteArray.mk #[34, 62])] w fun e w' => ∃ v, e = .returned (.tuple #[v, .bool true]) ∧ RdT w' w'.heap.size v (wantT V) ∧ Below w.heap.size w w' := by
  have e := U.sign_toks false 32 (.inl rfl) [] [] [] [] (34 :: (V.data.toList ++ [34])) V.data.toList (by simp) (by simp) (by simp) (by simp) (fun t n v p sl al => by
    have := U.sign_quoted 34 (.inl rfl) V.data.toList ([] ++ [62]) t n v p sl al hV
    simpa using this)
  have hp := parsed_walk (ByteArray.mk #[60, 97, 32, 104, 114, 101, 102, 61, 34] ++ V ++ ByteArray.mk #[34, 62]) w (by
    rw [ByteArray.size_append, ByteArray.size_append, show (ByteArray.mk #[60, 97, 32, 104, 114, 101, 102, 61, 34]).size = 9 from rfl, show (ByteArray.mk #[34, 62]).size = 2 from rfl]; omega) hG
  rw [show (ByteArray.mk #[60, 97, 32, 104, 114, 101, 102, 61, 34] ++ V ++ ByteArray.mk #[34, 62]).data.toList = 60 :: U.sElem false :: 32 :: ([] ++ (U.sName false ++ ([] ++ 61 :: ([] ++ ((34 :: (V.data.toList ++ [34])) ++ ([] ++ [62])))))) by
    rw [append_list, append_list]
    simp [U.sElem, U.sName], e] at hp
  exact hp

theorem sign_x (big : Bool) (E N V g0 g1 g2 g3 : ByteArray) (hE : E.data.toList = [U.sElem big]) (hN : N.data.toList = U.sName big) (hV : ∀ b ∈ V.data.toList, U.valB b) (hz : V.size ≤ 20) (h0 : ∀ b ∈ g0.data.toList, U.isSp b = true) (h1 : ∀ b ∈ g1.data.toList, U.isSp b = true) (h2 : ∀ b ∈ g2.data.toList, U.isSp b = true) (h3 : ∀ b ∈ g3.data.toList, U.isSp b = true)
    (z0 : g0.size ≤ 2) (z1 : g1.size ≤ 2) (z2 : g2.size ≤ 2) (z3 : g3.size ≤ 2) (w : World) (hG : Glob w) :
    Calls Tryd.prog 8 #[.string (ByteArray.mk #[60] ++ E ++ ByteArray.mk #[32] ++ g0 ++ N ++ g1 ++ ByteArray.mk #[61] ++ g2 ++ ByteArray.mk #[39] ++ V ++ ByteArray.mk #[39] ++ g3 ++ ByteArray.mk #[62])] w fun e w' => ∃ v, e = .returned (.tuple #[v, .bool true]) ∧ RdT w' w'.heap.size v (wantT V) ∧ Below w.heap.size w w' := by
  have e := U.sign_toks big 32 (.inl rfl) g0.data.toList g1.data.toList g2.data.toList g3.data.toList (39 :: (V.data.toList ++ [39])) V.data.toList h0 h1 h2 h3 (fun t n v p sl al => by
    have := U.sign_quoted 39 (.inr rfl) V.data.toList (g3.data.toList ++ [62]) t n v p sl al hV
    simpa using this)
  have lE : E.size = 1 := by rw [← len_list, hE]; rfl
  have lN : N.size = 4 := by rw [← len_list, hN]; cases big <;> rfl
  have hp := parsed_walk (ByteArray.mk #[60] ++ E ++ ByteArray.mk #[32] ++ g0 ++ N ++ g1 ++ ByteArray.mk #[61] ++ g2 ++ ByteArray.mk #[39] ++ V ++ ByteArray.mk #[39] ++ g3 ++ ByteArray.mk #[62]) w (by
    simp only [ByteArray.size_append, size_1, lE, lN]; omega) hG
  rw [show (ByteArray.mk #[60] ++ E ++ ByteArray.mk #[32] ++ g0 ++ N ++ g1 ++ ByteArray.mk #[61] ++ g2 ++ ByteArray.mk #[39] ++ V ++ ByteArray.mk #[39] ++ g3 ++ ByteArray.mk #[62]).data.toList = 60 :: U.sElem big :: 32 :: (g0.data.toList ++ (U.sName big ++ (g1.data.toList ++ 61 :: (g2.data.toList ++ ((39 :: (V.data.toList ++ [39])) ++ (g3.data.toList ++ [62])))))) by
    simp only [append_list, hE, hN]
    simp, e] at hp
  exact hp

theorem sign_y (big : Bool) (E N V g0 g1 g2 g3 : ByteArray) (hE : E.data.toList = [U.sElem big]) (hN : N.data.toList = U.sName big) (hV : ∀ b ∈ V.data.toList, U.valB b) (hz : V.size ≤ 20) (hV0 : V.data.toList ≠ []) (h0 : ∀ b ∈ g0.data.toList, U.isSp b = true) (h1 : ∀ b ∈ g1.data.toList, U.isSp b = true) (h2 : ∀ b ∈ g2.data.toList, U.isSp b = true) (h3 : ∀ b ∈ g3.data.toList, U.isSp b = true)
    (z0 : g0.size ≤ 2) (z1 : g1.size ≤ 2) (z2 : g2.size ≤ 2) (z3 : g3.size ≤ 2) (w : World) (hG : Glob w) :
    Calls Tryd.prog 8 #[.string (ByteArray.mk #[60] ++ E ++ ByteArray.mk #[10] ++ g0 ++ N ++ g1 ++ ByteArray.mk #[61] ++ g2 ++ V ++ g3 ++ ByteArray.mk #[62])] w fun e w' => ∃ v, e = .returned (.tuple #[v, .bool true]) ∧ RdT w' w'.heap.size v (wantT V) ∧ Below w.heap.size w w' := by
  have e := U.sign_toks big 10 (.inr rfl) g0.data.toList g1.data.toList g2.data.toList g3.data.toList V.data.toList V.data.toList h0 h1 h2 h3 (fun t n v p sl al =>
    U.sign_bare V.data.toList (g3.data.toList ++ [62]) t n v p sl al hV0 hV (fun b r e => by
      cases hg : g3.data.toList with
      | nil => rw [hg] at e; simp at e; rw [← e.1]; rfl
      | cons c r' =>
        rw [hg] at e
        simp only [List.cons_append, List.cons.injEq] at e
        rw [← e.1]
        have := h3 c (by rw [hg]; simp)
        unfold U.bareB
        rw [this]
        rfl))
  have lE : E.size = 1 := by rw [← len_list, hE]; rfl
  have lN : N.size = 4 := by rw [← len_list, hN]; cases big <;> rfl
  have hp := parsed_walk (ByteArray.mk #[60] ++ E ++ ByteArray.mk #[10] ++ g0 ++ N ++ g1 ++ ByteArray.mk #[61] ++ g2 ++ V ++ g3 ++ ByteArray.mk #[62]) w (by
    simp only [ByteArray.size_append, size_1, lE, lN]; omega) hG
  rw [show (ByteArray.mk #[60] ++ E ++ ByteArray.mk #[10] ++ g0 ++ N ++ g1 ++ ByteArray.mk #[61] ++ g2 ++ V ++ g3 ++ ByteArray.mk #[62]).data.toList = 60 :: U.sElem big :: 10 :: (g0.data.toList ++ (U.sName big ++ (g1.data.toList ++ 61 :: (g2.data.toList ++ (V.data.toList ++ (g3.data.toList ++ [62])))))) by
    simp only [append_list, hE, hN]
    simp, e] at hp
  exact hp

theorem ps_val (j : Nat) (h : j < 5) : (((ByteArray.mk #[97, 98, 99, 49, 45]).extract j 5).extract 0 1).size = 1 ∧ ∀ b ∈ (((ByteArray.mk #[97, 98, 99, 49, 45]).extract j 5).extract 0 1).data.toList, U.valB b := by
  have key : ∀ c : UInt8, U.valB c → ∀ b ∈ [c], U.valB b := fun c h b hb => by
    obtain rfl := List.mem_singleton.1 hb
    exact h
  rw [← len_list]
  simp only [Lib.extract_data]
  match j, h with
  | 0, _ => exact ⟨rfl, key 97 ⟨by decide, by decide, by decide, by decide, rfl⟩⟩
  | 1, _ => exact ⟨rfl, key 98 ⟨by decide, by decide, by decide, by decide, rfl⟩⟩
  | 2, _ => exact ⟨rfl, key 99 ⟨by decide, by decide, by decide, by decide, rfl⟩⟩
  | 3, _ => exact ⟨rfl, key 49 ⟨by decide, by decide, by decide, by decide, rfl⟩⟩
  | 4, _ => exact ⟨rfl, key 45 ⟨by decide, by decide, by decide, by decide, rfl⟩⟩

set_option maxHeartbeats 8000000 in
set_option maxRecDepth 1000000 in
theorem signs_walk (ao : Option Addr) (cap : Nat) (xs : List Int) (bo : Option Addr) (cap2 : Nat) (ys : List Int) (p : Bool) (w : World) (hR : Rd w w.heap.size ao xs) (hR2 : Rd w w.heap.size bo ys) (hG : Glob w) :
    Calls Tryd.prog 5 #[.slice ao xs.length cap, .slice bo ys.length cap2, .bool p] w fun e w' => e = .returned (.bool true) ∧ Below w.heap.size w w' := by
  have hb1 : Below w.heap.size w (w.alloc (.cells #[.slice bo ys.length cap2] 29 (0, 0))) := (Below.refl _ _).alloc (Nat.le_refl _) _
  have hq := heap_alloc_new w (.cells #[.slice bo ys.length cap2] 29 (0, 0))
  have hc1 : (w.alloc (.cells #[.slice bo ys.length cap2] 29 (0, 0))).cell? ⟨w.heap.size, 0, none⟩ = some (.slice bo ys.length cap2) := by rw [Lib.cell_of_heap hq]; rfl
  have hlt1 : w.heap.size < (w.alloc (.cells #[.slice bo ys.length cap2] 29 (0, 0))).heap.size := by simp
  have HR := Lib.hid (hR.below hb1)
  have HR2 := Lib.hid ((hR2.below hb1).more hb1.size)
  have hG1 := hG.below hb1
  clear hR hR2 hq hG
  go_enter Tryd.func5, Tryd.ntmps5
  go_wp2_with fail
  generalize w.alloc (.cells #[.slice bo ys.length cap2] 29 (0, 0)) = w1 at *
  go_loopw [7, 8] (fun t i wr => ∃ (k : Nat) (T : ByteArray), k ≤ xs.length ∧ k ≤ 9 ∧ i = .int .i64 k ∧ t = .string T ∧ wr = w1 ∧ T.size ≤ k ∧ Hid (∀ b ∈ T.data.toList, U.valB b)) (fun _ i _ => xs.length - (intOf i).toNat)
  case atStart => exact ⟨0, ⟨#[]⟩, Nat.zero_le _, Nat.zero_le _, rfl, rfl, rfl, Nat.le_refl _, Lib.hid (fun b hb => by cases hb)⟩
  case round =>
    obtain ⟨k, T, hk, hkn, rfl, rfl, hwe, hT, hV⟩ := hrel
    have hwe := hwe.symm
    subst hwe
    by_cases hgo : k < xs.length ∧ k < 9
    · obtain ⟨hlt, hlt2⟩ := hgo
      obtain ⟨ad, rfl, hb, hc⟩ := HR.out k xs[k] (List.getElem?_eq_getElem hlt)
      generalize xs[k] = z at *
      have hk0 : (0 : Int) ≤ (k : Int) := Int.natCast_nonneg _
      have hk1 : (k : Int) < (xs.length : Int) := by omega
      have hj0 := Int.emod_nonneg z (b := 5) (by omega)
      have hj1 := Int.emod_lt_of_pos z (b := 5) (by omega)
      obtain ⟨j, hj, ej⟩ : ∃ j : Nat, j < 5 ∧ z % 5 = (j : Int) := ⟨(z % 5).toNat, by omega, by omega⟩
      clear hj0 hj1
      have EJ := Lib.hid ej
      clear ej
      obtain ⟨hpz, hpv⟩ := ps_val j hj
      have HN : Hid (∀ b ∈ (T ++ ((ByteArray.mk #[97, 98, 99, 49, 45]).extract j 5).extract 0 1).data.toList, U.valB b) := by
        intro b hb
        rw [append_list] at hb
        rcases List.mem_append.1 hb with hb | hb
        · exact hV.out b hb
        · exact hpv b hb
      have HZ := Lib.hid (show (T ++ ((ByteArray.mk #[97, 98, 99, 49, 45]).extract j 5).extract 0 1).size ≤ k + 1 by rw [ByteArray.size_append, hpz]; omega)
      have hj0 : (0 : Int) ≤ (j : Int) := Int.natCast_nonneg _
      have hj1 : (j : Int) ≤ 5 := by omega
      have hz5 : (ByteArray.mk #[97, 98, 99, 49, 45]).size = 5 := rfl
      have hzj : ((ByteArray.mk #[97, 98, 99, 49, 45]).extract j 5).size = 5 - j := by rw [ByteArray.size_extract]; omega
      have hz1 : (1 : Int) ≤ (((ByteArray.mk #[97, 98, 99, 49, 45]).extract j 5).size : Int) := by omega
      clear hpv hpz
      go_wp2_with ((go_at_call_of 9 (Value.int IntKind.i64 z); refine (picked_walk _ _ _ (by omega) (by omega)).mono ?_; rintro e w' ⟨rfl, rfl⟩; rw [EJ.out]))
      go_roundw
      case rel => exact ⟨k + 1, _, by omega, by omega, by go_num, rfl, trivial, HZ.out, HN⟩
      case measure => simp [intOf]; omega
    · obtain ⟨V, eV⟩ : ∃ V, T ++ ByteArray.mk #[122] = V := ⟨_, rfl⟩
      have hVl : V.data.toList = T.data.toList ++ [122] := by rw [← eV, append_list]
      have hVv : ∀ b ∈ V.data.toList, U.valB b := fun b hb => by
        rw [hVl] at hb
        rcases List.mem_append.1 hb with hb | hb
        · exact hV.out b hb
        · obtain rfl := List.mem_singleton.1 hb
          exact ⟨by decide, by decide, by decide, by decide, rfl⟩
      have hV0 : V.data.toList ≠ [] := by rw [hVl]; simp
      have hVz : V.size ≤ 20 := by rw [← len_list, hVl, List.length_append, len_list]; exact Nat.le_trans (Nat.add_le_add_right (Nat.le_trans hT hkn) _) (by decide)
      have hw := fun w' hG' => sign_want V hVv hVz w' hG'
      have hx := fun big E N g0 g1 g2 g3 hE hN => sign_x big E N V g0 g1 g2 g3 hE hN hVv hVz
      have hy := fun big E N g0 g1 g2 g3 hE hN => sign_y big E N V g0 g1 g2 g3 hE hN hVv hVz hV0
      have htw : (wantT V).length = 1 := rfl
      generalize wantT V = tw at *
      rw [← eV] at hw hx hy
      have HW := Lib.hid hw
      have HX := Lib.hid hx
      have HY := Lib.hid hy
      have hbX : Below w1.heap.size w1 w1 := Below.refl _ _
      have hk0 : (0 : Int) ≤ (k : Int) := Int.natCast_nonneg _
      clear hw hx hy hV hVl hVv hV0 hVz eV
      rcases Nat.lt_or_ge k xs.length with h1 | h1
      · have h2 : 9 ≤ k := by omega
        clear hgo
        cases p
        case false =>
          go_wp2_with (first
            | (go_at_call 12; refine (gap_walk _ _ bo cap2 ys _ ((hbX.cell (p := ⟨w.heap.size, 0, none⟩) hlt1).trans hc1) ((HR2.out.below hbX).more hbX.size) (Nat.lt_of_lt_of_le hlt1 hbX.size)).mono ?_; rintro e w' ⟨g, rfl, hg, hgz, hbg⟩; replace hbX := hbX.trans (hbg.mono hbX.size); (try replace hRw := (hRw.below hbg).more hbg.size); (try replace hRx := (hRx.below hbg).more hbg.size); skip)
            | (go_at_call 8; have hRx2 := hRx; refine (HY.out false (ByteArray.mk #[97]) (ByteArray.mk #[104, 114, 101, 102]) _ _ _ _ rfl rfl (by assumption) (by assumption) (by assumption) (by assumption) (by assumption) (by assumption) (by assumption) (by assumption) _ (hG1.below hbX)).mono ?_; rintro e w9 ⟨vy, rfl, hRy, hbg⟩; obtain ⟨aoy, cpy, rfl, _⟩ := id hRy; rw [htw] at hRy ⊢; replace hbX := hbX.trans (hbg.mono hbX.size); (try replace hRw := (hRw.below hbg).more hbg.size); (try replace hRx := (hRx.below hbg).more hbg.size); clear hRx2)
            | (go_at_call 8; have hRw2 := hRw; refine (HX.out false (ByteArray.mk #[97]) (ByteArray.mk #[104, 114, 101, 102]) _ _ _ _ rfl rfl (by assumption) (by assumption) (by assumption) (by assumption) (by assumption) (by assumption) (by assumption) (by assumption) _ (hG1.below hbX)).mono ?_; rintro e w' ⟨vx, rfl, hRx, hbg⟩; obtain ⟨aox, cpx, rfl, _⟩ := id hRx; rw [htw] at hRx ⊢; replace hbX := hbX.trans (hbg.mono hbX.size); replace hRw := (hRw.below hbg).more hbg.size; clear hRw2)
            | (go_at_call_of 8 (Value.string (ByteArray.mk #[60, 97, 32, 104, 114, 101, 102, 61, 34] ++ (T ++ ByteArray.mk #[122]) ++ ByteArray.mk #[34, 62])); refine (HW.out _ hG1).mono ?_; rintro e w' ⟨vw, rfl, hRw, hbg⟩; obtain ⟨aow, cpw, rfl, _⟩ := id hRw; rw [htw] at hRw ⊢; replace hbX := hbX.trans (hbg.mono hbX.size))
            | (go_at_call_of 11 (Value.slice aox 1 cpx); refine (same_k _ _ tw _ hRx hRw (by omega)).mono ?_; rintro e w' ⟨rfl, n8, rfl⟩; replace hbX := below_drewN hbX n8; replace hRw : RdT (w9.drewN n8) (w9.drewN n8).heap.size (.slice aow 1 cpw) tw := hRw.keep (fun _ _ => rfl); replace hRy : RdT (w9.drewN n8) (w9.drewN n8).heap.size (.slice aoy 1 cpy) tw := hRy.keep (fun _ _ => rfl))
            | (go_at_call_of 11 (Value.slice aoy 1 cpy); refine (same_k _ _ tw _ hRy hRw (by omega)).mono ?_; rintro e w' ⟨rfl, n9, rfl⟩; replace hbX := below_drewN hbX n9))
          go_ret
          exact ⟨rfl, hb1.trans (Below.mono (by rw [← World.drewN_drewN]; exact hbX) hb1.size)⟩
        case true =>
          go_wp2_with (first
            | (go_at_call 12; refine (gap_walk _ _ bo cap2 ys _ ((hbX.cell (p := ⟨w.heap.size, 0, none⟩) hlt1).trans hc1) ((HR2.out.below hbX).more hbX.size) (Nat.lt_of_lt_of_le hlt1 hbX.size)).mono ?_; rintro e w' ⟨g, rfl, hg, hgz, hbg⟩; replace hbX := hbX.trans (hbg.mono hbX.size); (try replace hRw := (hRw.below hbg).more hbg.size); (try replace hRx := (hRx.below hbg).more hbg.size); skip)
            | (go_at_call 8; have hRx2 := hRx; refine (HY.out true (ByteArray.mk #[65]) (ByteArray.mk #[72, 114, 69, 102]) _ _ _ _ rfl rfl (by assumption) (by assumption) (by assumption) (by assumption) (by assumption) (by assumption) (by assumption) (by assumption) _ (hG1.below hbX)).mono ?_; rintro e w9 ⟨vy, rfl, hRy, hbg⟩; obtain ⟨aoy, cpy, rfl, _⟩ := id hRy; rw [htw] at hRy ⊢; replace hbX := hbX.trans (hbg.mono hbX.size); (try replace hRw := (hRw.below hbg).more hbg.size); (try replace hRx := (hRx.below hbg).more hbg.size); clear hRx2)
            | (go_at_call 8; have hRw2 := hRw; refine (HX.out true (ByteArray.mk #[65]) (ByteArray.mk #[72, 114, 69, 102]) _ _ _ _ rfl rfl (by assumption) (by assumption) (by assumption) (by assumption) (by assumption) (by assumption) (by assumption) (by assumption) _ (hG1.below hbX)).mono ?_; rintro e w' ⟨vx, rfl, hRx, hbg⟩; obtain ⟨aox, cpx, rfl, _⟩ := id hRx; rw [htw] at hRx ⊢; replace hbX := hbX.trans (hbg.mono hbX.size); replace hRw := (hRw.below hbg).more hbg.size; clear hRw2)
            | (go_at_call_of 8 (Value.string (ByteArray.mk #[60, 97, 32, 104, 114, 101, 102, 61, 34] ++ (T ++ ByteArray.mk #[122]) ++ ByteArray.mk #[34, 62])); refine (HW.out _ hG1).mono ?_; rintro e w' ⟨vw, rfl, hRw, hbg⟩; obtain ⟨aow, cpw, rfl, _⟩ := id hRw; rw [htw] at hRw ⊢; replace hbX := hbX.trans (hbg.mono hbX.size))
            | (go_at_call_of 11 (Value.slice aox 1 cpx); refine (same_k _ _ tw _ hRx hRw (by omega)).mono ?_; rintro e w' ⟨rfl, n8, rfl⟩; replace hbX := below_drewN hbX n8; replace hRw : RdT (w9.drewN n8) (w9.drewN n8).heap.size (.slice aow 1 cpw) tw := hRw.keep (fun _ _ => rfl); replace hRy : RdT (w9.drewN n8) (w9.drewN n8).heap.size (.slice aoy 1 cpy) tw := hRy.keep (fun _ _ => rfl))
            | (go_at_call_of 11 (Value.slice aoy 1 cpy); refine (same_k _ _ tw _ hRy hRw (by omega)).mono ?_; rintro e w' ⟨rfl, n9, rfl⟩; replace hbX := below_drewN hbX n9))
          go_ret
          exact ⟨rfl, hb1.trans (Below.mono (by rw [← World.drewN_drewN]; exact hbX) hb1.size)⟩
      · clear hgo
        cases p
        case false =>
          go_wp2_with (first
            | (go_at_call 12; refine (gap_walk _ _ bo cap2 ys _ ((hbX.cell (p := ⟨w.heap.size, 0, none⟩) hlt1).trans hc1) ((HR2.out.below hbX).more hbX.size) (Nat.lt_of_lt_of_le hlt1 hbX.size)).mono ?_; rintro e w' ⟨g, rfl, hg, hgz, hbg⟩; replace hbX := hbX.trans (hbg.mono hbX.size); (try replace hRw := (hRw.below hbg).more hbg.size); (try replace hRx := (hRx.below hbg).more hbg.size); skip)
            | (go_at_call 8; have hRx2 := hRx; refine (HY.out false (ByteArray.mk #[97]) (ByteArray.mk #[104, 114, 101, 102]) _ _ _ _ rfl rfl (by assumption) (by assumption) (by assumption) (by assumption) (by assumption) (by assumption) (by assumption) (by assumption) _ (hG1.below hbX)).mono ?_; rintro e w9 ⟨vy, rfl, hRy, hbg⟩; obtain ⟨aoy, cpy, rfl, _⟩ := id hRy; rw [htw] at hRy ⊢; replace hbX := hbX.trans (hbg.mono hbX.size); (try replace hRw := (hRw.below hbg).more hbg.size); (try replace hRx := (hRx.below hbg).more hbg.size); clear hRx2)
            | (go_at_call 8; have hRw2 := hRw; refine (HX.out false (ByteArray.mk #[97]) (ByteArray.mk #[104, 114, 101, 102]) _ _ _ _ rfl rfl (by assumption) (by assumption) (by assumption) (by assumption) (by assumption) (by assumption) (by assumption) (by assumption) _ (hG1.below hbX)).mono ?_; rintro e w' ⟨vx, rfl, hRx, hbg⟩; obtain ⟨aox, cpx, rfl, _⟩ := id hRx; rw [htw] at hRx ⊢; replace hbX := hbX.trans (hbg.mono hbX.size); replace hRw := (hRw.below hbg).more hbg.size; clear hRw2)
            | (go_at_call_of 8 (Value.string (ByteArray.mk #[60, 97, 32, 104, 114, 101, 102, 61, 34] ++ (T ++ ByteArray.mk #[122]) ++ ByteArray.mk #[34, 62])); refine (HW.out _ hG1).mono ?_; rintro e w' ⟨vw, rfl, hRw, hbg⟩; obtain ⟨aow, cpw, rfl, _⟩ := id hRw; rw [htw] at hRw ⊢; replace hbX := hbX.trans (hbg.mono hbX.size))
            | (go_at_call_of 11 (Value.slice aox 1 cpx); refine (same_k _ _ tw _ hRx hRw (by omega)).mono ?_; rintro e w' ⟨rfl, n8, rfl⟩; replace hbX := below_drewN hbX n8; replace hRw : RdT (w9.drewN n8) (w9.drewN n8).heap.size (.slice aow 1 cpw) tw := hRw.keep (fun _ _ => rfl); replace hRy : RdT (w9.drewN n8) (w9.drewN n8).heap.size (.slice aoy 1 cpy) tw := hRy.keep (fun _ _ => rfl))
            | (go_at_call_of 11 (Value.slice aoy 1 cpy); refine (same_k _ _ tw _ hRy hRw (by omega)).mono ?_; rintro e w' ⟨rfl, n9, rfl⟩; replace hbX := below_drewN hbX n9))
          go_ret
          exact ⟨rfl, hb1.trans (Below.mono (by rw [← World.drewN_drewN]; exact hbX) hb1.size)⟩
        case true =>
          go_wp2_with (first
            | (go_at_call 12; refine (gap_walk _ _ bo cap2 ys _ ((hbX.cell (p := ⟨w.heap.size, 0, none⟩) hlt1).trans hc1) ((HR2.out.below hbX).more hbX.size) (Nat.lt_of_lt_of_le hlt1 hbX.size)).mono ?_; rintro e w' ⟨g, rfl, hg, hgz, hbg⟩; replace hbX := hbX.trans (hbg.mono hbX.size); (try replace hRw := (hRw.below hbg).more hbg.size); (try replace hRx := (hRx.below hbg).more hbg.size); skip)
            | (go_at_call 8; have hRx2 := hRx; refine (HY.out true (ByteArray.mk #[65]) (ByteArray.mk #[72, 114, 69, 102]) _ _ _ _ rfl rfl (by assumption) (by assumption) (by assumption) (by assumption) (by assumption) (by assumption) (by assumption) (by assumption) _ (hG1.below hbX)).mono ?_; rintro e w9 ⟨vy, rfl, hRy, hbg⟩; obtain ⟨aoy, cpy, rfl, _⟩ := id hRy; rw [htw] at hRy ⊢; replace hbX := hbX.trans (hbg.mono hbX.size); (try replace hRw := (hRw.below hbg).more hbg.size); (try replace hRx := (hRx.below hbg).more hbg.size); clear hRx2)
            | (go_at_call 8; have hRw2 := hRw; refine (HX.out true (ByteArray.mk #[65]) (ByteArray.mk #[72, 114, 69, 102]) _ _ _ _ rfl rfl (by assumption) (by assumption) (by assumption) (by assumption) (by assumption) (by assumption) (by assumption) (by assumption) _ (hG1.below hbX)).mono ?_; rintro e w' ⟨vx, rfl, hRx, hbg⟩; obtain ⟨aox, cpx, rfl, _⟩ := id hRx; rw [htw] at hRx ⊢; replace hbX := hbX.trans (hbg.mono hbX.size); replace hRw := (hRw.below hbg).more hbg.size; clear hRw2)
            | (go_at_call_of 8 (Value.string (ByteArray.mk #[60, 97, 32, 104, 114, 101, 102, 61, 34] ++ (T ++ ByteArray.mk #[122]) ++ ByteArray.mk #[34, 62])); refine (HW.out _ hG1).mono ?_; rintro e w' ⟨vw, rfl, hRw, hbg⟩; obtain ⟨aow, cpw, rfl, _⟩ := id hRw; rw [htw] at hRw ⊢; replace hbX := hbX.trans (hbg.mono hbX.size))
            | (go_at_call_of 11 (Value.slice aox 1 cpx); refine (same_k _ _ tw _ hRx hRw (by omega)).mono ?_; rintro e w' ⟨rfl, n8, rfl⟩; replace hbX := below_drewN hbX n8; replace hRw : RdT (w9.drewN n8) (w9.drewN n8).heap.size (.slice aow 1 cpw) tw := hRw.keep (fun _ _ => rfl); replace hRy : RdT (w9.drewN n8) (w9.drewN n8).heap.size (.slice aoy 1 cpy) tw := hRy.keep (fun _ _ => rfl))
            | (go_at_call_of 11 (Value.slice aoy 1 cpy); refine (same_k _ _ tw _ hRy hRw (by omega)).mono ?_; rintro e w' ⟨rfl, n9, rfl⟩; replace hbX := below_drewN hbX n9))
          go_ret
          exact ⟨rfl, hb1.trans (Below.mono (by rw [← World.drewN_drewN]; exact hbX) hb1.size)⟩

end Go.Proofs.YtkmjngpgngkalaaDoor

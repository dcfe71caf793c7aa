/- Several texts in one: ParW, Chars, Raw, Ends. -/
import Derived.Deep.AppendLies
import Derived.Handy
import Derived.Outline
import Derived.Deep.Cut
import Derived.Test.YtmfkefcdddoooaaGreatDoorP20
import Derived.Test.YtmfkefcdddoooaaGreatDoorP09
namespace Go.Proofs.YtmfkefcdddoooaaGreatDoor
open Go.RowKit

/-- the parser and the tokens that it has -/
structure ParW (w wr : World) (bp : Nat) (r : ByteArray) (v : Value) (l : List (U.Tok × Value)) : Prop where
  par : wr.heap[bp]? = some (parBlock r v)
  row : wr.ownsRow (bp + 1) 33 5 v l.length (tokCells l)
  atts : ∀ x ∈ l, wr.ownsRow w.heap.size 54 2 x.2 x.1.attrs.length (attCells x.1.attrs)
  below : Below w.heap.size w wr
  bp0 : w.heap.size ≤ bp
  lens : ∀ x ∈ l, x.1.attrs.length ≤ 1048576
theorem att_far {w : World} {B n bp : Nat} {u v : Value} {xs : List Value} {r : ByteArray} (h : w.ownsRow B 54 2 u n xs) (hp : w.heap[bp]? = some (parBlock r v)) : u.ownBlock = none ∨ u.ownBlock ≠ some bp := by
  rcases h.2 with ⟨e, _⟩ | ⟨g, cap, cur, e, _, hg, _⟩
  · rw [e]; exact .inl rfl
  · rw [e]
    right
    intro e0
    have : g = bp := by simpa [Value.ownBlock] using e0
    subst this
    rw [hp] at hg
    unfold parBlock at hg
    injection hg with hg
    injection hg with _ h5 _
    exact absurd h5 (by decide)
theorem row_far {w : World} {B n bp : Nat} {v : Value} {xs : List Value} (h : w.ownsRow (bp + 1) 33 B v n xs) : v.ownBlock = none ∨ v.ownBlock ≠ some bp := by
  cases hv : v.ownBlock with
  | none => exact .inl rfl
  | some g =>
    right
    intro e
    have := (h.lt g hv).1
    injection e with e
    omega
theorem ParW.step {w wr w2 : World} {bp : Nat} {r r2 : ByteArray} {v : Value} {l : List (U.Tok × Value)} (h : ParW w wr bp r v l) (hR : Reads wr w2 bp r2 v) : ParW w w2 bp r2 v l :=
  ⟨hR.par, h.row.kept (row := some bp) hR.grown (row_far h.row), fun x hx => (h.atts x hx).kept (row := some bp) hR.grown (att_far (h.atts x hx) h.par),
    h.below.grown hR.grown h.below.size (fun k hk => by injection hk with hk; have := h.bp0; omega), h.bp0, h.lens⟩
theorem ParW.later {w wr w2 : World} {bp : Nat} {r : ByteArray} {v : Value} {l : List (U.Tok × Value)} (h : ParW w wr bp r v l) (hb : Below wr.heap.size wr w2) : ParW w w2 bp r v l :=
  h.step ((Reads.start h.par).later hb)
theorem ParW.alloc {w wr : World} {bp : Nat} {r : ByteArray} {v : Value} {l : List (U.Tok × Value)} (h : ParW w wr bp r v l) (o : Obj) : ParW w (wr.alloc o) bp r v l := h.later ((Below.refl _ _).alloc (Nat.le_refl _) _)
/-- the parser's block behind an append -/
theorem ParW.grown {w wr w2 : World} {bp : Nat} {r : ByteArray} {v : Value} {l : List (U.Tok × Value)} (h : ParW w wr bp r v l) (hg : wr.grownBy w2 v.ownBlock) : w2.heap[bp]? = some (parBlock r v) :=
  (hg.block _ (lt_of_heap h.par) (fun e => by have := (h.row.lt _ e.symm).1; omega)).trans h.par
theorem ParW.put {w wr w2 : World} {bp : Nat} {r : ByteArray} {v v2 : Value} {l : List (U.Tok × Value)} (h : ParW w wr bp r v l) (x : U.Tok) (av : Value) (hx : wr.ownsRow w.heap.size 54 2 av x.attrs.length (attCells x.attrs)) (hxl : x.attrs.length ≤ 1048576)
    (ho : w2.ownsRow (bp + 1) 33 5 v2 (l.length + 1) (tokCells l ++ [.int .i64 (x.kind : Nat), .string ⟨x.name.toArray⟩, av, .bool x.self, .string ⟨x.text.toArray⟩])) (hg : wr.grownBy w2 v.ownBlock) :
    ParW w (w2.setCell ⟨bp, 1, none⟩ v2) bp r v2 (l ++ [(x, av)]) := by
  have h4 := h.bp0
  have hb := lt_of_heap h.par
  have hlt : ∀ k, v.ownBlock = some k → bp + 1 ≤ k := fun k hk => (h.row.lt k hk).1
  have hpar := h.grown hg
  have hatt : ∀ (y : Value) (al : List U.Att), wr.ownsRow w.heap.size 54 2 y al.length (attCells al) → (w2.setCell ⟨bp, 1, none⟩ v2).ownsRow w.heap.size 54 2 y al.length (attCells al) := by
    intro y al hy
    have hy2 : w2.ownsRow w.heap.size 54 2 y al.length (attCells al) := hy.kept (row := v.ownBlock) hg (own_apart hy h.row (by decide))
    exact hy2.kept (row := some bp) (grown_setCell _ _ _ _) (att_far hy2 hpar)
  refine ⟨?_, ?_, ?_, ((h.below.grown hg h.below.size (fun k hk => by have := hlt k hk; omega)).setCell (p := ⟨bp, 1, none⟩) h4 _), h4, fun y hy => ?_⟩
  · unfold parBlock at hpar ⊢
    simp [World.setCell, Array.getElem?_modify, hpar]
  · rw [List.length_append, tokCells_append]
    exact ownsRow_setCell_below ho (a := ⟨bp, 1, none⟩) (Nat.lt_succ_self _) _
  · intro y hy
    rcases List.mem_append.1 hy with hy | hy
    · exact hatt _ _ (h.atts y hy)
    · obtain rfl := List.mem_singleton.1 hy
      exact hatt _ _ hx
  · rcases List.mem_append.1 hy with hy | hy
    · exact h.lens y hy
    · obtain rfl := List.mem_singleton.1 hy
      exact hxl

theorem new_cells {w : World} {n : Nat} {a b c d e : Value} {t : TypeId} (h : w.heap[n]? = some (.cells #[a, b, c, d, e] t (0, 0))) : ∀ (j : Nat) u, [a, b, c, d, e][j]? = some u → w.cell? ((⟨n, 0, none⟩ : Addr).add j) = some u := by
  intro j u hj
  have e0 : (⟨n, 0, none⟩ : Addr).add j = ⟨n, j, none⟩ := by cases j <;> simp [Addr.add]
  rw [e0, Lib.cell_of_heap h]
  match j, hj with
  | 0, hj => simpa using hj
  | 1, hj => simpa using hj
  | 2, hj => simpa using hj
  | 3, hj => simpa using hj
  | 4, hj => simpa using hj
  | (j + 5), hj => simp at hj

set_option maxHeartbeats 4000000 in
set_option maxRecDepth 1000000 in
theorem add_text (w wr : World) (bp : Nat) (r : ByteArray) (v : Value) (l : List (U.Tok × Value)) (k : Nat) (txt : List UInt8) (h : ParW w wr bp r v l) (hl : l.length ≤ 1048576) :
    Calls Tryz.prog 60 #[.pointer (some ⟨bp, 0, none⟩), .int .i64 k, .string ⟨txt.toArray⟩] wr fun e w' => e = .returned (.tuple #[]) ∧ ∃ v2, ParW w w' bp r v2 (l ++ [(⟨k, [], [], false, txt⟩, .slice none 0 0)]) := by
  obtain ⟨iT, hiT, hT0, hT1, hT2⟩ := info_parts infoTok
  obtain ⟨c0, c1, f0, f1⟩ := par_cells h.par
  have hbp := lt_of_heap h.par
  obtain ⟨ao, cap, rfl⟩ := own_form h.row
  have hN := h.alloc (.cells #[.int .i64 k, .string ⟨#[]⟩, .slice none 0 0, .bool false, .string ⟨txt.toArray⟩] 33 (0, 0))
  have hnew := heap_alloc_new wr (.cells #[.int .i64 k, .string ⟨#[]⟩, .slice none 0 0, .bool false, .string ⟨txt.toArray⟩] 33 (0, 0))
  have hcells := new_cells hnew
  go_enter Tryz.func60, Tryz.ntmps60
  go_wp2_with (at_builtin; refine wpList_append_own _ rfl _ _ 23 rfl (bp + 1) 33 iT _ 5 72 Tryz.underlying23 hiT hT0 hT1 hT2 rfl (by decide) _ _ _ rfl hN.row ⟨_, 0, none⟩ 1 1 [.int .i64 k, .string ⟨#[]⟩, .slice none 0 0, .bool false, .string ⟨txt.toArray⟩] rfl rfl ?c1 ?c2 ?c3 ?c4 ?c5 ?_)
  case c1 => exact hcells
  case c2 => first | exact ⟨rfl, rfl, rfl, rfl, rfl⟩ | (intro u hu; simp at hu; rcases hu with rfl | rfl | rfl | rfl | rfl <;> rfl)
  case c3 => unfold maxLen; omega
  case c4 => omega
  case c5 => simp; omega
  intro v7 w7 hown7 hgrow7 _
  obtain ⟨ao7, cap7, rfl⟩ := own_form hown7
  obtain ⟨q0, q1, q2, q3⟩ := par_cells (hN.grown hgrow7)
  have HP := hN.put ⟨k, [], [], false, txt⟩ (.slice none 0 0) (World.ownsRow_nil _ _ _ _) (Nat.zero_le _) hown7 hgrow7
  go_wp2_with fail
  go_end0
  exact ⟨rfl, _, HP⟩

end Go.Proofs.YtmfkefcdddoooaaGreatDoor

namespace Go.Proofs.YtmfkefcdddoooaaGreatDoor
open Go.RowKit

/-- one round of Parse: what the tokens are, what is left -/
def Ate (w w' : World) (bp : Nat) (r : ByteArray) (l : List (U.Tok × Value)) : Prop :=
  ∃ (r' : ByteArray) (v' : Value) (l' : List (U.Tok × Value)), ParW w w' bp r' v' l' ∧ l'.map (·.1) ++ U.toksT [] r'.data.toList = l.map (·.1) ++ U.toksT [] r.data.toList ∧ r'.size < r.size ∧ l'.length + 2 * r'.size ≤ l.length + 2 * r.size

theorem ate_chars {w w' : World} {bp n : Nat} {r : ByteArray} {v6 : Value} {l : List (U.Tok × Value)} (h1 : 1 ≤ n) (h2 : n ≤ r.size) (hall : ∀ i, i < n → U.kindOf (r.data.toList.drop i) = 3) (he : n = r.size ∨ U.kindOf (r.data.toList.drop n) ≠ 3)
    (h : ParW w w' bp (r.extract n r.size) v6 (l ++ [(⟨3, [], [], false, U.unesc (r.data.toList.take n)⟩, .slice none 0 0)])) : Ate w w' bp r l := by
  refine ⟨_, _, _, h, ?_, by rw [size_drop]; omega, by rw [size_drop, List.length_append, List.length_singleton]; omega⟩
  rw [U.toks_chars (n := n) (l := r.data.toList) (by omega) (by rw [len_list]; exact h2) hall (by rw [len_list]; exact he), list_drop]
  simp

set_option maxHeartbeats 4000000 in
set_option maxRecDepth 1000000 in
theorem read_chars (w wr : World) (bp : Nat) (r : ByteArray) (v : Value) (l : List (U.Tok × Value)) (h : ParW w wr bp r v l) (hG : Glob wr) (hF : Far bp) (hr : r.size ≤ 1048576) (h0 : 0 < r.size) (hl : l.length ≤ 1048576) (hk : U.kindOf r.data.toList = 3) :
    Calls Tryz.prog 34 #[.pointer (some ⟨bp, 0, none⟩)] wr fun e w' => e = .returned (.tuple #[]) ∧ Ate w w' bp r l := by
  have HK := Lib.hid hk
  clear hk
  go_enter Tryz.func34, Tryz.ntmps34
  go_wp2_with fail
  go_loopw [2] (fun s w2 => ∃ n : Nat, 1 ≤ n ∧ n ≤ r.size ∧ s = .int .i64 n ∧ Below wr.heap.size wr w2 ∧ Hid (∀ i, i < n → U.kindOf (r.data.toList.drop i) = 3)) (fun s _ => r.size - (intOf s).toNat)
  case atStart => exact ⟨1, Nat.le_refl _, h0, rfl, Below.refl _ _, Lib.hid (fun i hi => by obtain rfl : i = 0 := (by omega); rw [List.drop_zero]; exact HK.out)⟩
  case round =>
    obtain ⟨n, hn1, hn2, rfl, hb, hall⟩ := hrel
    have hP := h.later hb
    obtain ⟨c0, c1, f0, f1⟩ := par_cells hP.par
    by_cases hlt : n < r.size
    · have hi0 : (0 : Int) ≤ (n : Int) := Int.natCast_nonneg _
      have hi1 : (n : Int) ≤ (r.size : Int) := by omega
      have hka := fun w3 => kind_at (r.extract n r.size) w3
      rw [list_drop] at hka
      by_cases h3 : U.kindOf (r.data.toList.drop n) = 3
      · have HN : Hid (∀ i, i < n + 1 → U.kindOf (r.data.toList.drop i) = 3) := by
          intro i hi
          by_cases e : i = n
          · rw [e]; exact h3
          · exact hall.out i (by omega)
        rw [h3] at hka
        clear h3
        go_wp2_with (refine (hka _).mono ?_; rintro e w3 ⟨rfl, rfl⟩)
        go_roundw
        case rel => exact ⟨n + 1, by omega, by omega, by go_num, hb, HN⟩
        case measure => simp [intOf]; omega
      · have HE : Hid (n = r.size ∨ U.kindOf (r.data.toList.drop n) ≠ 3) := Or.inr h3
        have hk3 : (((U.kindOf (r.data.toList.drop n) : Nat) : Int) == 3) = false := by rw [beq_eq_false_iff_ne]; omega
        generalize U.kindOf (r.data.toList.drop n) = kk at hka hk3
        clear h3
        go_wp2_with (first
          | (refine (hka _).mono ?_; rintro e w3 ⟨rfl, rfl⟩)
          | (refine (take_walk _ bp n r v hP.par hn2).mono ?_; rintro e w4 ⟨rfl, hR4⟩; have hG4 := (hG.below hb).grown hF hR4.grown)
          | (refine (unescape_walk (r.extract 0 n) (by rw [size_take _ _ hn2]; omega) _ hG4.err).mono ?_; rintro e w5 ⟨rfl, b5⟩; have hP5 := (hP.step hR4).later b5)
          | (refine (add_text w _ bp _ v l 3 _ hP5 hl).mono ?_; rintro e w6 ⟨rfl, v6, hP6⟩))
        go_end0
        exact ⟨rfl, ate_chars hn1 hn2 hall.out HE.out hP6⟩
    · have HE : Hid (n = r.size ∨ U.kindOf (r.data.toList.drop n) ≠ 3) := Or.inl (by omega)
      go_wp2_with (first
        | (refine (take_walk _ bp n r v hP.par hn2).mono ?_; rintro e w4 ⟨rfl, hR4⟩; have hG4 := (hG.below hb).grown hF hR4.grown)
        | (refine (unescape_walk (r.extract 0 n) (by rw [size_take _ _ hn2]; omega) _ hG4.err).mono ?_; rintro e w5 ⟨rfl, b5⟩; have hP5 := (hP.step hR4).later b5)
        | (refine (add_text w _ bp _ v l 3 _ hP5 hl).mono ?_; rintro e w6 ⟨rfl, v6, hP6⟩))
      go_end0
      exact ⟨rfl, ate_chars hn1 hn2 hall.out HE.out hP6⟩

end Go.Proofs.YtmfkefcdddoooaaGreatDoor

namespace Go.Proofs.YtmfkefcdddoooaaGreatDoor
open Go.RowKit

/-- a raw text is read; D: what is done with it -/
def Raw (w w' : World) (bp : Nat) (r : ByteArray) (l : List (U.Tok × Value)) (n : List UInt8) (D : List UInt8 → List UInt8) : Prop :=
  ∃ (r' : ByteArray) (v' : Value) (l' : List (U.Tok × Value)), ParW w w' bp r' v' l' ∧ r'.data.toList = (U.rawText n r.data.toList).2 ∧
    l'.map (·.1) = l.map (·.1) ++ (if (U.rawText n r.data.toList).1 = [] then [] else [⟨3, [], [], false, D (U.rawText n r.data.toList).1⟩]) ∧ r'.size ≤ r.size ∧ l'.length + 2 * r'.size ≤ l.length + 2 * r.size
theorem raw_none {w w' : World} {bp : Nat} {r : ByteArray} {v : Value} {l : List (U.Tok × Value)} {n : List UInt8} {D : List UInt8 → List UInt8} (h : ParW w w' bp r v l) (hr : U.rawText n r.data.toList = (r.data.toList.take 0, r.data.toList.drop 0)) : Raw w w' bp r l n D := by
  refine ⟨r, v, l, h, by rw [hr]; simp, by rw [hr]; simp, Nat.le_refl _, Nat.le_refl _⟩
theorem raw_some {w w' : World} {bp k : Nat} {r : ByteArray} {v : Value} {l : List (U.Tok × Value)} {n : List UInt8} {D : List UInt8 → List UInt8} (hk : k ≤ r.size) (h0 : 0 < k) (h : ParW w w' bp (r.extract k r.size) v (l ++ [(⟨3, [], [], false, D (r.data.toList.take k)⟩, .slice none 0 0)])) (hr : U.rawText n r.data.toList = (r.data.toList.take k, r.data.toList.drop k)) : Raw w w' bp r l n D := by
  refine ⟨_, v, _, h, by rw [hr, list_drop], ?_, by rw [size_drop]; omega, by rw [size_drop, List.length_append, List.length_singleton]; omega⟩
  rw [hr]
  simp only
  rw [if_neg (fun e => by have := congrArg List.length e; rw [List.length_take, len_list, List.length_nil] at this; omega)]
  simp

set_option maxRecDepth 100000 in
theorem plain_fn (t : ByteArray) (w : World) : Calls Tryz.prog 57 #[.string t] w fun e w' => e = .returned (.string t) ∧ w' = w := by
  go_enter Tryz.func57, Tryz.ntmps57
  go_wp2_with fail
  go_ret
  exact ⟨rfl, rfl⟩

set_option maxHeartbeats 4000000 in
set_option maxRecDepth 1000000 in
theorem read_raw_plain (w wr : World) (bp : Nat) (r n : ByteArray) (v : Value) (l : List (U.Tok × Value)) (h : ParW w wr bp r v l) (hG : Glob wr) (hF : Far bp) (hr : r.size ≤ 1048576) (hn : n.size ≤ 1048576) (hl : l.length ≤ 1048576) :
    Calls Tryz.prog 56 #[.pointer (some ⟨bp, 0, none⟩), .string n, .func (.func 57) #[] #[]] wr fun e w' => e = .returned (.tuple #[]) ∧ Raw w w' bp r l n.data.toList (fun x => x) := by
  obtain ⟨c0, c1, f0, f1⟩ := par_cells h.par
  obtain ⟨LW, hLW⟩ : ∃ LW : ByteArray, LW = ⟨(U.low r.data.toList).toArray⟩ := ⟨_, rfl⟩
  have hls : LW.size = r.size := by rw [hLW, size_of_mk, U.low_length, len_list]
  have hll : LW.data.toList = U.low r.data.toList := by rw [hLW]
  have hlow := fun w2 => lower_walk r w2 (by omega)
  rw [← hLW] at hlow
  have HLL := Lib.hid hll
  clear hll hLW
  go_enter Tryz.func56, Tryz.ntmps56
  go_wp2_with (refine (hlow _).mono ?_; rintro e w1 ⟨rfl, b1⟩)

  go_loopw [7] (fun s w2 => ∃ k : Nat, k ≤ r.size ∧ s = .int .i64 k ∧ Below wr.heap.size wr w2 ∧ Hid (∀ i, i < k → U.rawEnd n.data.toList (r.data.toList.drop i) = false)) (fun s _ => r.size - (intOf s).toNat)
  case atStart => exact ⟨0, Nat.zero_le _, rfl, b1, Lib.hid (fun i hi => absurd hi (Nat.not_lt_zero _))⟩
  case round =>
    obtain ⟨k, hk, rfl, hb, hall⟩ := hrel
    have hP := h.later hb
    obtain ⟨c0, c1, f0, f1⟩ := par_cells hP.par
    have htk : r.extract 0 k = ⟨(r.data.toList.take k).toArray⟩ := by rw [← list_take, mk_of_list]
    by_cases hlt : k < r.size
    · have hi0 : (0 : Int) ≤ (k : Int) := Int.natCast_nonneg _
      have hi1 : (k : Int) ≤ (LW.size : Int) := by omega
      have hi2 : (k : Int) < (LW.size : Int) := by omega
      have hie := fun w3 => is_end n (LW.extract k LW.size) w3 hn
      rw [list_drop, HLL.out, ← U.low_drop, ← U.rawEnd_low, hls] at hie
      cases he : U.rawEnd n.data.toList (r.data.toList.drop k) with
      | false =>
        have HN : Hid (∀ i, i < k + 1 → U.rawEnd n.data.toList (r.data.toList.drop i) = false) := by
          intro i hi
          by_cases e : i = k
          · rw [e]; exact he
          · exact hall.out i (by omega)
        rw [he] at hie
        clear he
        have HX := Lib.hid hie
        clear hie
        go_wp2_with (refine (HX.out _).mono ?_; rintro e w3 ⟨rfl, rfl⟩)
        go_roundw
        case rel => exact ⟨k + 1, by omega, by go_num, hb, HN⟩
        case measure => simp [intOf]; omega
      | true =>
        have HE := Lib.hid (U.rawText_at n.data.toList r.data.toList k (by rw [len_list]; exact hk) hall.out (.inr he))
        rw [he] at hie
        clear he
        have HX := Lib.hid hie
        clear hie
        rcases Nat.eq_zero_or_pos k with h0 | h0
        · subst h0
          go_wp2_with (refine (HX.out _).mono ?_; rintro e w3 ⟨rfl, rfl⟩)
          go_end0
          exact ⟨rfl, raw_none hP HE.out⟩
        · have hk0 : decide ((0 : Int) < (k : Int)) = true := decide_eq_true (by omega)
          go_wp2_with (first
            | (refine (HX.out _).mono ?_; rintro e w3 ⟨rfl, rfl⟩)
            | (refine (take_walk _ bp k r v hP.par hk).mono ?_; rintro e w4 ⟨rfl, hR4⟩; have hG4 := (hG.below hb).grown hF hR4.grown)
            | (refine (plain_fn _ _).mono ?_; rintro e w5 ⟨rfl, rfl⟩; have hP5 := hP.step hR4)
            | (refine (add_text w _ bp _ v l 3 (r.data.toList.take k) hP5 hl).mono ?_; rintro e w6 ⟨rfl, v6, hP6⟩))
          go_end0
          exact ⟨rfl, raw_some hk h0 hP6 HE.out⟩
    · have hke : k = r.size := by omega
      have hi2 : ¬ (k : Int) < (LW.size : Int) := by omega
      have HE := Lib.hid (U.rawText_at n.data.toList r.data.toList k (by rw [len_list]; exact hk) hall.out (.inl (by rw [len_list]; exact hke)))
      clear hke hlt
      rcases Nat.eq_zero_or_pos k with h0 | h0
      · subst h0
        go_wp2_with fail
        go_end0
        exact ⟨rfl, raw_none hP HE.out⟩
      · have hk0 : decide ((0 : Int) < (k : Int)) = true := decide_eq_true (by omega)
        go_wp2_with (first
          | (refine (take_walk _ bp k r v hP.par hk).mono ?_; rintro e w4 ⟨rfl, hR4⟩; have hG4 := (hG.below hb).grown hF hR4.grown)
          | (refine (plain_fn _ _).mono ?_; rintro e w5 ⟨rfl, rfl⟩; have hP5 := hP.step hR4)
          | (refine (add_text w _ bp _ v l 3 (r.data.toList.take k) hP5 hl).mono ?_; rintro e w6 ⟨rfl, v6, hP6⟩))
        go_end0
        exact ⟨rfl, raw_some hk h0 hP6 HE.out⟩

set_option maxHeartbeats 4000000 in
set_option maxRecDepth 1000000 in
theorem read_raw_unesc (w wr : World) (bp : Nat) (r n : ByteArray) (v : Value) (l : List (U.Tok × Value)) (h : ParW w wr bp r v l) (hG : Glob wr) (hF : Far bp) (hr : r.size ≤ 1048576) (hn : n.size ≤ 1048576) (hl : l.length ≤ 1048576) :
    Calls Tryz.prog 56 #[.pointer (some ⟨bp, 0, none⟩), .string n, .func (.func 58) #[] #[]] wr fun e w' => e = .returned (.tuple #[]) ∧ Raw w w' bp r l n.data.toList (U.unesc) := by
  obtain ⟨c0, c1, f0, f1⟩ := par_cells h.par
  obtain ⟨LW, hLW⟩ : ∃ LW : ByteArray, LW = ⟨(U.low r.data.toList).toArray⟩ := ⟨_, rfl⟩
  have hls : LW.size = r.size := by rw [hLW, size_of_mk, U.low_length, len_list]
  have hll : LW.data.toList = U.low r.data.toList := by rw [hLW]
  have hlow := fun w2 => lower_walk r w2 (by omega)
  rw [← hLW] at hlow
  have HLL := Lib.hid hll
  clear hll hLW
  go_enter Tryz.func56, Tryz.ntmps56
  go_wp2_with (refine (hlow _).mono ?_; rintro e w1 ⟨rfl, b1⟩)

  go_loopw [7] (fun s w2 => ∃ k : Nat, k ≤ r.size ∧ s = .int .i64 k ∧ Below wr.heap.size wr w2 ∧ Hid (∀ i, i < k → U.rawEnd n.data.toList (r.data.toList.drop i) = false)) (fun s _ => r.size - (intOf s).toNat)
  case atStart => exact ⟨0, Nat.zero_le _, rfl, b1, Lib.hid (fun i hi => absurd hi (Nat.not_lt_zero _))⟩
  case round =>
    obtain ⟨k, hk, rfl, hb, hall⟩ := hrel
    have hP := h.later hb
    obtain ⟨c0, c1, f0, f1⟩ := par_cells hP.par
    by_cases hlt : k < r.size
    · have hi0 : (0 : Int) ≤ (k : Int) := Int.natCast_nonneg _
      have hi1 : (k : Int) ≤ (LW.size : Int) := by omega
      have hi2 : (k : Int) < (LW.size : Int) := by omega
      have hie := fun w3 => is_end n (LW.extract k LW.size) w3 hn
      rw [list_drop, HLL.out, ← U.low_drop, ← U.rawEnd_low, hls] at hie
      cases he : U.rawEnd n.data.toList (r.data.toList.drop k) with
      | false =>
        have HN : Hid (∀ i, i < k + 1 → U.rawEnd n.data.toList (r.data.toList.drop i) = false) := by
          intro i hi
          by_cases e : i = k
          · rw [e]; exact he
          · exact hall.out i (by omega)
        rw [he] at hie
        clear he
        have HX := Lib.hid hie
        clear hie
        go_wp2_with (refine (HX.out _).mono ?_; rintro e w3 ⟨rfl, rfl⟩)
        go_roundw
        case rel => exact ⟨k + 1, by omega, by go_num, hb, HN⟩
        case measure => simp [intOf]; omega
      | true =>
        have HE := Lib.hid (U.rawText_at n.data.toList r.data.toList k (by rw [len_list]; exact hk) hall.out (.inr he))
        rw [he] at hie
        clear he
        have HX := Lib.hid hie
        clear hie
        rcases Nat.eq_zero_or_pos k with h0 | h0
        · subst h0
          go_wp2_with (refine (HX.out _).mono ?_; rintro e w3 ⟨rfl, rfl⟩)
          go_end0
          exact ⟨rfl, raw_none hP HE.out⟩
        · have hk0 : decide ((0 : Int) < (k : Int)) = true := decide_eq_true (by omega)
          go_wp2_with (first
            | (refine (HX.out _).mono ?_; rintro e w3 ⟨rfl, rfl⟩)
            | (refine (take_walk _ bp k r v hP.par hk).mono ?_; rintro e w4 ⟨rfl, hR4⟩; have hG4 := (hG.below hb).grown hF hR4.grown)
            | (refine (unescape_walk (r.extract 0 k) (by rw [size_take _ _ hk]; omega) _ hG4.err).mono ?_; rintro e w5 ⟨rfl, b5⟩; have hP5 := (hP.step hR4).later b5)
            | (refine (add_text w _ bp _ v l 3 _ hP5 hl).mono ?_; rintro e w6 ⟨rfl, v6, hP6⟩))
          go_end0
          exact ⟨rfl, raw_some hk h0 hP6 HE.out⟩
    · have hke : k = r.size := by omega
      have hi2 : ¬ (k : Int) < (LW.size : Int) := by omega
      have HE := Lib.hid (U.rawText_at n.data.toList r.data.toList k (by rw [len_list]; exact hk) hall.out (.inl (by rw [len_list]; exact hke)))
      clear hke hlt
      rcases Nat.eq_zero_or_pos k with h0 | h0
      · subst h0
        go_wp2_with fail
        go_end0
        exact ⟨rfl, raw_none hP HE.out⟩
      · have hk0 : decide ((0 : Int) < (k : Int)) = true := decide_eq_true (by omega)
        go_wp2_with (first
          | (refine (take_walk _ bp k r v hP.par hk).mono ?_; rintro e w4 ⟨rfl, hR4⟩; have hG4 := (hG.below hb).grown hF hR4.grown)
          | (refine (unescape_walk (r.extract 0 k) (by rw [size_take _ _ hk]; omega) _ hG4.err).mono ?_; rintro e w5 ⟨rfl, b5⟩; have hP5 := (hP.step hR4).later b5)
          | (refine (add_text w _ bp _ v l 3 _ hP5 hl).mono ?_; rintro e w6 ⟨rfl, v6, hP6⟩))
        go_end0
        exact ⟨rfl, raw_some hk h0 hP6 HE.out⟩

end Go.Proofs.YtmfkefcdddoooaaGreatDoor

namespace Go.Proofs.YtmfkefcdddoooaaGreatDoor
open Go.RowKit

theorem read_tag_none {L : List UInt8} (w : World) (bp : Nat) (r : ByteArray) (v : Value) (h : w.heap[bp]? = some (parBlock r v)) (hr : r.size ≤ 1048576) (hG : Glob w) (hF : Far bp) (hl : r.data.toList = L) (hrun : U.runM U.st0 L = none) :
    Calls Tryz.prog 55 #[.pointer (some ⟨bp, 0, none⟩)] w fun e w' => e = .returned (.tuple #[.agg #[.int .i64 0, .string ⟨#[]⟩, .slice none 0 0, .bool false, .string ⟨#[]⟩], .bool false]) ∧ ∃ r' : ByteArray, Reads w w' bp r' v ∧ r'.size = 0 := by
  refine (read_tag w bp r v h hr hG hF).mono ?_
  intro e w' hT
  unfold Tagged at hT
  rw [hl, hrun] at hT
  obtain ⟨r', he, hR, hz⟩ := hT
  exact ⟨he, r', hR, hz⟩
theorem read_tag_some {L t : List UInt8} {s : U.St} (w : World) (bp : Nat) (r : ByteArray) (v : Value) (h : w.heap[bp]? = some (parBlock r v)) (hr : r.size ≤ 1048576) (hG : Glob w) (hF : Far bp) (hl : r.data.toList = L) (hrun : U.runM U.st0 L = some (s, t)) :
    Calls Tryz.prog 55 #[.pointer (some ⟨bp, 0, none⟩)] w fun e w' => ∃ (ao : Option Addr) (cap : Nat) (r' : ByteArray), e = .returned (.tuple #[.agg #[.int .i64 0, .string ⟨(U.low s.tname).toArray⟩, .slice ao (U.firsts [] s.all).length cap, .bool s.slash, .string ⟨#[]⟩], .bool true]) ∧ Reads w w' bp r' v ∧ r'.data.toList = t ∧
      w'.ownsRow w.heap.size 54 2 (.slice ao (U.firsts [] s.all).length cap) (U.firsts [] s.all).length (attCells (U.firsts [] s.all)) ∧ (U.firsts [] s.all).length ≤ r.size := by
  refine (read_tag w bp r v h hr hG hF).mono ?_
  intro e w' hT
  unfold Tagged at hT
  rw [hl, hrun] at hT
  obtain ⟨av, r', he, hR, hz, hown, hln⟩ := hT
  obtain ⟨ao, cap, rfl⟩ := own_form hown
  exact ⟨ao, cap, r', he, hR, hz, hown, hln⟩
theorem ate_stop {w w' : World} {bp : Nat} {r r' : ByteArray} {v : Value} {l : List (U.Tok × Value)} (hi : U.item r.data.toList = .stop) (h0 : 0 < r.size) (h : ParW w w' bp r' v l) (hz : r'.size = 0) : Ate w w' bp r l := by
  refine ⟨r', v, l, h, ?_, by omega, by omega⟩
  rw [U.toksT_stop hi, show r'.data.toList = [] from List.eq_nil_of_length_eq_zero (by rw [len_list]; exact hz)]
  rfl
theorem ate_close {w w' : World} {bp : Nat} {r r' : ByteArray} {n t : List UInt8} {v : Value} {l : List (U.Tok × Value)} (hi : U.item r.data.toList = .close n t) (ht : r'.data.toList = t) (h : ParW w w' bp r' v (l ++ [(⟨2, n, [], false, []⟩, .slice none 0 0)])) : Ate w w' bp r l := by
  have hs := U.item_shorter.2.1 _ _ hi
  rw [← ht, len_list, len_list] at hs
  refine ⟨r', v, _, h, ?_, hs, by rw [List.length_append, List.length_singleton]; omega⟩
  rw [U.toksT_close hi, ht]
  simp

theorem ate_start {w w' : World} {bp : Nat} {r r' : ByteArray} {n t : List UInt8} {aa : List U.Att} {sl : Bool} {v av : Value} {l : List (U.Tok × Value)} (hi : U.item r.data.toList = .start n aa sl t) (ht : r'.data.toList = t) (hn : U.rawName n = false) (h : ParW w w' bp r' v (l ++ [(⟨1, n, aa, sl, []⟩, av)])) : Ate w w' bp r l := by
  have hs := U.item_shorter.2.2 _ _ _ _ hi
  rw [← ht, len_list, len_list] at hs
  refine ⟨r', v, _, h, ?_, hs, by rw [List.length_append, List.length_singleton]; omega⟩
  rw [U.toksT_start hi, ht, if_neg (by rw [hn]; decide)]
  simp
theorem ate_raw {w w' : World} {bp : Nat} {r r' : ByteArray} {n t : List UInt8} {aa : List U.Att} {sl : Bool} {av : Value} {l : List (U.Tok × Value)} {D : List UInt8 → List UInt8} (hi : U.item r.data.toList = .start n aa sl t) (ht : r'.data.toList = t) (hn : U.rawName n = true) (hD : ∀ x, D x = if n.head? = some 116 then U.unesc x else x)
    (h : Raw w w' bp r' (l ++ [(⟨1, n, aa, sl, []⟩, av)]) n D) : Ate w w' bp r l := by
  have hs := U.item_shorter.2.2 _ _ _ _ hi
  rw [← ht, len_list, len_list] at hs
  obtain ⟨r2, v2, l2, hP, h2, h3, h4, h5⟩ := h
  rw [List.length_append, List.length_singleton] at h5
  refine ⟨r2, v2, l2, hP, ?_, by omega, by omega⟩
  rw [U.toksT_start hi, if_pos hn, h3, h2, ht]
  unfold U.rawToks
  rw [hD]
  simp

set_option maxHeartbeats 4000000 in
set_option maxRecDepth 1000000 in
theorem read_end (w wr : World) (bp : Nat) (r : ByteArray) (v : Value) (l : List (U.Tok × Value)) (h : ParW w wr bp r v l) (hG : Glob wr) (hF : Far bp) (hr : r.size ≤ 1048576) (hl : l.length ≤ 1048576) (hk : U.kindOf r.data.toList = 2) :
    Calls Tryz.prog 32 #[.pointer (some ⟨bp, 0, none⟩)] wr fun e w' => e = .returned (.tuple #[]) ∧ Ate w w' bp r l := by
  obtain ⟨iT, hiT, hT0, hT1, hT2⟩ := info_parts infoTok
  obtain ⟨c, u, hlist, _, hi⟩ := U.item_end hk
  have h2 : 2 ≤ r.size := by rw [← len_list, hlist]; simp
  have hx : (r.extract 2 r.size).data.toList = c :: u := by rw [list_drop, hlist]; rfl
  have hsd := size_drop r 2
  unfold U.closeI at hi
  cases hrun : U.runM U.st0 (c :: u) with
  | none =>
    rw [hrun] at hi
    have HI := Lib.hid hi
    have HX := Lib.hid hx
    have HR := Lib.hid hrun
    clear hi hx hrun hlist hk
    go_enter Tryz.func32, Tryz.ntmps32
    go_wp2_with (first
      | (refine (take_walk _ bp 2 r v h.par h2).mono ?_; rintro e w2 ⟨rfl, hR1⟩)
      | (refine (read_tag_none _ bp _ v hR1.par (by omega) (hG.grown hF hR1.grown) hF HX.out HR.out).mono ?_; rintro e w3 ⟨rfl, r3, hR3, hz3⟩; have hP3 := (h.step hR1).step hR3))
    go_end0
    exact ⟨rfl, ate_stop HI.out (by omega) (hP3.alloc _) hz3⟩
  | some st =>
    obtain ⟨st, t⟩ := st
    rw [hrun] at hi
    have HI := Lib.hid hi
    have HX := Lib.hid hx
    have HR := Lib.hid hrun
    clear hi hx hrun hlist hk
    go_enter Tryz.func32, Tryz.ntmps32
    go_wp2_with (first
      | (refine (take_walk _ bp 2 r v h.par h2).mono ?_; rintro e w2 ⟨rfl, hR1⟩)
      | (refine (read_tag_some _ bp _ v hR1.par (by omega) (hG.grown hF hR1.grown) hF HX.out HR.out).mono ?_; rintro e w3 ⟨aoT, capT, r3, rfl, hR3, hr3, hown3, hln3⟩; have hP3 := (h.step hR1).step hR3; have Hr3 := Lib.hid hr3; clear hr3; generalize hN : U.low st.tname = N; have HN := Lib.hid hN; clear hN; generalize (U.firsts [] st.all).length = na))
    have hP4 := hP3.alloc (tokCells5 N (.slice aoT na capT) st.slash)
    have hnew := heap_alloc_new w3 (tokCells5 N (.slice aoT na capT) st.slash)
    obtain ⟨x0, x1, x2, x3, x4, _⟩ := res_cells hnew
    generalize w3.heap.size = q at *
    generalize w3.alloc (tokCells5 N (.slice aoT na capT) st.slash) = w4 at *
    obtain ⟨ao, cap, rfl⟩ := own_form hP4.row
    obtain ⟨c0, c1, f0, f1⟩ := par_cells hP4.par
    have k4 := (cell_alloc_old w4 (.cells #[.int .i64 2, .string ⟨N.toArray⟩, .slice none 0 0, .bool false, .string ⟨#[]⟩] 33) ⟨bp, 1, none⟩ (lt_of_heap hP4.par)).trans c1
    go_region_law (refine step_append_lies _ (by rfl) _ _ _ (by rfl) (bp + 1) 33 iT _ 5 72 Tryz.underlying23 hiT hT0 hT1 hT2 rfl (by omega) (.slice ao l.length cap) l.length (tokCells l) (by rfl) ((hP4.alloc _).later (below_drewN (Below.refl _ _) 1)).row ⟨w4.heap.size, 0, none⟩ 1 1 [.int .i64 2, .string ⟨N.toArray⟩, .slice none 0 0, .bool false, .string ⟨#[]⟩] (by rfl) (by rfl) (World.news_of_block (cs := #[.int .i64 2, .string ⟨N.toArray⟩, .slice none 0 0, .bool false, .string ⟨#[]⟩]) (t := 33) (fr := (0, 0)) (heap_alloc_new w4 _)) (by simp [Value.oneCell']) (by omega) (by unfold maxLen; omega) (by omega) (by simp; exact Nat.le_of_lt (lt_of_heap hP4.par)) (w4.heap.size + 1) (by simp) ?_; intro gg cap7 w7 hown7 hgrow7 hat7 hlt7; obtain ⟨q0, q1, q2, q3⟩ := par_cells (((hP4.alloc _).later (below_drewN (Below.refl _ _) 1)).grown hgrow7))
    all_goals
      have HP := ((hP4.alloc _).later (below_drewN (Below.refl _ _) 1)).put ⟨2, N, [], false, []⟩ (.slice none 0 0) (World.ownsRow_nil _ _ _ _) (Nat.zero_le _) hown7 hgrow7
      clear hown7 hgrow7
      go_wp2_with fail
      go_end0
      exact ⟨rfl, ate_close (by rw [HI.out, HN.out]) Hr3.out HP⟩

set_option maxHeartbeats 8000000 in
set_option maxRecDepth 1000000 in
theorem read_start (w wr : World) (bp : Nat) (r : ByteArray) (v : Value) (l : List (U.Tok × Value)) (h : ParW w wr bp r v l) (hGw : Glob w) (hG : Glob wr) (hF : Far bp) (hr : r.size ≤ 1048576) (hl : l.length ≤ 1048575) (hk : U.kindOf r.data.toList = 1) :
    Calls Tryz.prog 31 #[.pointer (some ⟨bp, 0, none⟩)] wr fun e w' => e = .returned (.tuple #[]) ∧ Ate w w' bp r l := by
  obtain ⟨iT, hiT, hT0, hT1, hT2⟩ := info_parts infoTok
  obtain ⟨c, u, hlist, _, hi⟩ := U.item_start hk
  have h1 : 1 ≤ r.size := by rw [← len_list, hlist]; simp
  have hx : (r.extract 1 r.size).data.toList = c :: u := by rw [list_drop, hlist]; rfl
  have hsd := size_drop r 1
  unfold U.startI at hi
  cases hrun : U.runM U.st0 (c :: u) with
  | none =>
    rw [hrun] at hi
    have HI := Lib.hid hi
    have HX := Lib.hid hx
    have HR := Lib.hid hrun
    clear hi hx hrun hlist hk
    go_enter Tryz.func31, Tryz.ntmps31
    go_wp2_with (first
      | (refine (take_walk _ bp 1 r v h.par h1).mono ?_; rintro e w2 ⟨rfl, hR1⟩)
      | (refine (read_tag_none _ bp _ v hR1.par (by omega) (hG.grown hF hR1.grown) hF HX.out HR.out).mono ?_; rintro e w3 ⟨rfl, r3, hR3, hz3⟩; have hP3 := (h.step hR1).step hR3))
    refine bodyPost_ret (results_none rfl _ _ _) rfl ?_
    exact ⟨rfl, ate_stop HI.out (by omega) (hP3.alloc _) hz3⟩
  | some st =>
    obtain ⟨st, t⟩ := st
    rw [hrun] at hi
    have HI := Lib.hid hi
    have HX := Lib.hid hx
    have HR := Lib.hid hrun
    have hsh := U.item_shorter.2.2 _ _ _ _ hi
    rw [len_list] at hsh
    clear hi hx hrun hlist hk
    have hsz := h.below.size
    go_enter Tryz.func31, Tryz.ntmps31
    go_wp2_with (first
      | (refine (take_walk _ bp 1 r v h.par h1).mono ?_; rintro e w2 ⟨rfl, hR1⟩)
      | (refine (read_tag_some _ bp _ v hR1.par (by omega) (hG.grown hF hR1.grown) hF HX.out HR.out).mono ?_; rintro e w3 ⟨aoT, capT, r3, rfl, hR3, hr3, hown3, hln3⟩; have hP3 := (h.step hR1).step hR3; have Hr3 := Lib.hid hr3; clear hr3; generalize hN : U.low st.tname = N; have HN := Lib.hid hN; clear hN; generalize hA : U.firsts [] st.all = aa at *; have HA := Lib.hid hA; clear hA))
    have hr3s : r3.size < r.size := by rw [← len_list r3, Hr3.out]; exact hsh
    have hqlt : ∀ g, v.ownBlock = some g → g < w3.heap.size := fun g hg => (hP3.row.lt g hg).2
    have hqbp : w3.heap.size ≠ bp := Nat.ne_of_gt (lt_of_heap hP3.par)
    have hqw := hP3.below.size
    have hP5 := hP3.alloc (.cells #[.int .i64 1, .string ⟨N.toArray⟩, .slice aoT aa.length capT, .bool st.slash, .string ⟨#[]⟩] 33)
    have hq5 := heap_alloc_new w3 (.cells #[.int .i64 1, .string ⟨N.toArray⟩, .slice aoT aa.length capT, .bool st.slash, .string ⟨#[]⟩] 33)
    have hown5 := own_keep (own_base hown3 (B' := w.heap.size) (Nat.le_trans hsz (hR1.grown.size))) ((Below.refl _ w3).alloc (Nat.le_refl _) (.cells #[.int .i64 1, .string ⟨N.toArray⟩, .slice aoT aa.length capT, .bool st.slash, .string ⟨#[]⟩] 33))
    generalize w3.heap.size = q at *
    generalize w3.alloc (.cells #[.int .i64 1, .string ⟨N.toArray⟩, .slice aoT aa.length capT, .bool st.slash, .string ⟨#[]⟩] 33) = w5 at *
    obtain ⟨ao, cap, rfl⟩ := own_form hP5.row
    obtain ⟨c0, c1, f0, f1⟩ := par_cells hP5.par
    obtain ⟨x0, x1, x2, x3, x4⟩ : w5.cell? ⟨q, 0, none⟩ = some (.int .i64 1) ∧ w5.cell? ⟨q, 1, none⟩ = some (.string ⟨N.toArray⟩) ∧ w5.cell? ⟨q, 2, none⟩ = some (.slice aoT aa.length capT) ∧ w5.cell? ⟨q, 3, none⟩ = some (.bool st.slash) ∧ w5.cell? ⟨q, 4, none⟩ = some (.string ⟨#[]⟩) :=
      ⟨by rw [Lib.cell_of_heap hq5]; rfl, by rw [Lib.cell_of_heap hq5]; rfl, by rw [Lib.cell_of_heap hq5]; rfl, by rw [Lib.cell_of_heap hq5]; rfl, by rw [Lib.cell_of_heap hq5]; rfl⟩
    have k4 := (cell_alloc_old w5 (.cells #[.int .i64 1, .string ⟨N.toArray⟩, .slice aoT aa.length capT, .bool st.slash, .string ⟨#[]⟩] 33) ⟨bp, 1, none⟩ (lt_of_heap hP5.par)).trans c1
    go_region_law (refine step_append_lies _ (by rfl) _ _ _ (by rfl) (bp + 1) 33 iT _ 5 72 Tryz.underlying23 hiT hT0 hT1 hT2 rfl (by omega) (.slice ao l.length cap) l.length (tokCells l) (by rfl) ((hP5.alloc _).later (below_drewN (Below.refl _ _) 1)).row ⟨w5.heap.size, 0, none⟩ 1 1 [.int .i64 1, .string ⟨N.toArray⟩, .slice aoT aa.length capT, .bool st.slash, .string ⟨#[]⟩] (by rfl) (by rfl) (World.news_of_block (cs := #[.int .i64 1, .string ⟨N.toArray⟩, .slice aoT aa.length capT, .bool st.slash, .string ⟨#[]⟩]) (t := 33) (fr := (0, 0)) (heap_alloc_new w5 _)) (by simp [Value.oneCell']) (by omega) (by unfold maxLen; omega) (by omega) (by simp; exact Nat.le_of_lt (lt_of_heap hP5.par)) (w5.heap.size + 1) (by simp) ?_; intro gg cap7 w7 hown7 hgrow7 hat7 hlt7; obtain ⟨q0, q1, q2, q3⟩ := par_cells (((hP5.alloc _).later (below_drewN (Below.refl _ _) 1)).grown hgrow7))
    all_goals
      have HP := ((hP5.alloc _).later (below_drewN (Below.refl _ _) 1)).put ⟨1, N, aa, st.slash, []⟩ (.slice aoT aa.length capT) (own_keep (own_keep hown5 ((Below.refl _ w5).alloc (Nat.le_refl _) _)) (below_drewN (Below.refl _ _) 1)) (by show aa.length ≤ 1048576; omega) hown7 hgrow7
      have hq7 : (w7.setCell ⟨bp, 1, none⟩ (.slice (some ⟨gg, 0, none⟩) (l.length + 1) cap7)).heap[q]? = _ := (Below.heap_setCell _ _ _ _ hqbp).trans ((hgrow7.block q (by have := lt_of_heap hq5; simp; omega) (fun e => by have := hqlt q e.symm; omega)).trans ((Lib.alloc_old _ _ _ (lt_of_heap hq5)).trans hq5))
      have z1 : (w7.setCell ⟨bp, 1, none⟩ (.slice (some ⟨gg, 0, none⟩) (l.length + 1) cap7)).cell? ⟨q, 1, none⟩ = some (.string ⟨N.toArray⟩) := by rw [Lib.cell_of_heap hq7]; rfl
      have HG := hGw.below HP.below
      clear hown7 hgrow7 hq7
      generalize w7.setCell ⟨bp, 1, none⟩ (.slice (some ⟨gg, 0, none⟩) (l.length + 1) cap7) = w8 at *
      by_cases e_script : N = [115, 99, 114, 105, 112, 116]
      · have b_script : (N == [115, 99, 114, 105, 112, 116]) = true := beq_iff_eq.2 e_script
        have hN8 : N.length ≤ 8 := by rw [e_script]; decide
        have HRN := Lib.hid (show U.rawName N = true from by rw [e_script]; rfl)
        have HDD := Lib.hid (show N.head? = some 116 ↔ False from by rw [e_script]; simp)
        clear e_script
        go_wp2_with (refine (read_raw_plain w _ bp r3 ⟨N.toArray⟩ _ _ HP HG hF (by omega) (by rw [size_of_mk]; omega) (by rw [List.length_append, List.length_singleton]; omega)).mono ?_; rintro e w9 ⟨rfl, hRaw⟩)
        go_end0
        exact ⟨rfl, ate_raw (by rw [HI.out, HN.out]) Hr3.out HRN.out (fun x => by rw [if_neg (fun e => HDD.out.1 e)]) hRaw⟩
      by_cases e_style : N = [115, 116, 121, 108, 101]
      · have b_script : (N == [115, 99, 114, 105, 112, 116]) = false := beq_eq_false_iff_ne.2 e_script
        have b_style : (N == [115, 116, 121, 108, 101]) = true := beq_iff_eq.2 e_style
        have hN8 : N.length ≤ 8 := by rw [e_style]; decide
        have HRN := Lib.hid (show U.rawName N = true from by rw [e_style]; rfl)
        have HDD := Lib.hid (show N.head? = some 116 ↔ False from by rw [e_style]; simp)
        clear e_script e_style
        go_wp2_with (refine (read_raw_plain w _ bp r3 ⟨N.toArray⟩ _ _ HP HG hF (by omega) (by rw [size_of_mk]; omega) (by rw [List.length_append, List.length_singleton]; omega)).mono ?_; rintro e w9 ⟨rfl, hRaw⟩)
        go_end0
        exact ⟨rfl, ate_raw (by rw [HI.out, HN.out]) Hr3.out HRN.out (fun x => by rw [if_neg (fun e => HDD.out.1 e)]) hRaw⟩
      by_cases e_textarea : N = [116, 101, 120, 116, 97, 114, 101, 97]
      · have b_script : (N == [115, 99, 114, 105, 112, 116]) = false := beq_eq_false_iff_ne.2 e_script
        have b_style : (N == [115, 116, 121, 108, 101]) = false := beq_eq_false_iff_ne.2 e_style
        have b_textarea : (N == [116, 101, 120, 116, 97, 114, 101, 97]) = true := beq_iff_eq.2 e_textarea
        have hN8 : N.length ≤ 8 := by rw [e_textarea]; decide
        have HRN := Lib.hid (show U.rawName N = true from by rw [e_textarea]; rfl)
        have HDD := Lib.hid (show N.head? = some 116 ↔ True from by rw [e_textarea]; simp)
        clear e_script e_style e_textarea
        go_wp2_with (refine (read_raw_unesc w _ bp r3 ⟨N.toArray⟩ _ _ HP HG hF (by omega) (by rw [size_of_mk]; omega) (by rw [List.length_append, List.length_singleton]; omega)).mono ?_; rintro e w9 ⟨rfl, hRaw⟩)
        go_end0
        exact ⟨rfl, ate_raw (by rw [HI.out, HN.out]) Hr3.out HRN.out (fun x => by rw [if_pos (HDD.out.2 trivial)]) hRaw⟩
      by_cases e_title : N = [116, 105, 116, 108, 101]
      · have b_script : (N == [115, 99, 114, 105, 112, 116]) = false := beq_eq_false_iff_ne.2 e_script
        have b_style : (N == [115, 116, 121, 108, 101]) = false := beq_eq_false_iff_ne.2 e_style
        have b_textarea : (N == [116, 101, 120, 116, 97, 114, 101, 97]) = false := beq_eq_false_iff_ne.2 e_textarea
        have b_title : (N == [116, 105, 116, 108, 101]) = true := beq_iff_eq.2 e_title
        have hN8 : N.length ≤ 8 := by rw [e_title]; decide
        have HRN := Lib.hid (show U.rawName N = true from by rw [e_title]; rfl)
        have HDD := Lib.hid (show N.head? = some 116 ↔ True from by rw [e_title]; simp)
        clear e_script e_style e_textarea e_title
        go_wp2_with (refine (read_raw_unesc w _ bp r3 ⟨N.toArray⟩ _ _ HP HG hF (by omega) (by rw [size_of_mk]; omega) (by rw [List.length_append, List.length_singleton]; omega)).mono ?_; rintro e w9 ⟨rfl, hRaw⟩)
        go_end0
        exact ⟨rfl, ate_raw (by rw [HI.out, HN.out]) Hr3.out HRN.out (fun x => by rw [if_pos (HDD.out.2 trivial)]) hRaw⟩
      have b_script : (N == [115, 99, 114, 105, 112, 116]) = false := beq_eq_false_iff_ne.2 e_script
      have b_style : (N == [115, 116, 121, 108, 101]) = false := beq_eq_false_iff_ne.2 e_style
      have b_textarea : (N == [116, 101, 120, 116, 97, 114, 101, 97]) = false := beq_eq_false_iff_ne.2 e_textarea
      have b_title : (N == [116, 105, 116, 108, 101]) = false := beq_eq_false_iff_ne.2 e_title
      have HRN := Lib.hid (show U.rawName N = false from by unfold U.rawName; rw [b_script, b_style, b_textarea, b_title]; rfl)
      clear e_script e_style e_textarea e_title
      go_wp2_with fail
      go_end0
      exact ⟨rfl, ate_start (by rw [HI.out, HN.out]) Hr3.out HRN.out HP⟩

end Go.Proofs.YtmfkefcdddoooaaGreatDoor

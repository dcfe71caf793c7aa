/- Several texts in one: ShowText, Lower, Named, BuilderRune. -/
import Derived.Lib.ConvBytes
import Derived.Laws.IdiomStrings
import Derived.Outline
import Derived.OwnWalk
import Derived.Test.YtmfkefcdddoooaaGreatDoorShelf
import Derived.Test.YtmfkefcdddoooaaGreatDoorP17
import Derived.Test.YtmfkefcdddoooaaGreatDoorP18
import Derived.Test.YtmfkefcdddoooaaGreatDoorP07
import Derived.Test.YtmfkefcdddoooaaGreatDoorP00
import Derived.Test.YtmfkefcdddoooaaGreatDoorP09
import Derived.Test.YtmfkefcdddoooaaGreatDoorP08
namespace Go.Proofs.YtmfkefcdddoooaaGreatDoor
open Go.RowKit

/-- a row of tokens whose attributes lie elsewhere reads as these tokens -/
theorem rdKC_row {w : World} {N : Nat} {v : Value} {l : List (U.Tok × Value)} (ho : w.ownsRow N 33 5 v l.length (tokCells l)) (ha : ∀ x ∈ l, RdAS w (· < w.heap.size) x.2 x.1.attrs) : RdKC w w.heap.size v ((l.map (·.1)).map U.Tok.tk) := by
  have hrow : ∀ {i : Nat} {x : U.Tok × Value}, l[i]? = some x → _ := fun {i x} hx => row_tok ho hx
  obtain ⟨ao, cap, rfl⟩ := own_form ho
  have hl : ((l.map (·.1)).map U.Tok.tk).length = l.length := by simp
  have hget : ∀ {i : Nat} {t : U.Tk}, ((l.map (·.1)).map U.Tok.tk)[i]? = some t → ∃ x, l[i]? = some x ∧ x.1.tk = t := fun {i t} ht => by
    rw [List.map_map, List.getElem?_map] at ht
    cases hx : l[i]? with
    | none => rw [hx] at ht; cases ht
    | some x => rw [hx] at ht; exact ⟨x, rfl, by simpa using ht⟩
  refine ⟨⟨ao, cap, by rw [hl], fun i t ht => ?_⟩, Cap.of_own ho, fun ao' n' cap' e i t ht g o e2 av hc => ?_⟩
  · obtain ⟨x, hx, rfl⟩ := hget ht
    obtain ⟨g, cap2, e, c0, c1, c2, c3, c4⟩ := hrow hx
    injection e with e1 _ _
    subst e1
    exact ⟨g, 0, x.2, rfl, (ho.lt g rfl).2, by rw [Nat.zero_add]; exact c0, by rw [Nat.zero_add]; exact c1, by rw [Nat.zero_add]; exact c2, by rw [Nat.zero_add]; exact c3, by rw [Nat.zero_add]; exact c4, (ha x (List.mem_of_getElem? hx)).lt fun b hb => hb⟩
  · obtain ⟨x, hx, rfl⟩ := hget ht
    obtain ⟨g', cap2, e', _, _, c2, _, _⟩ := hrow hx
    rw [e] at e'
    injection e' with e1 _ _
    rw [e2] at e1
    injection e1 with e1
    injection e1 with e3 e4
    subst e3
    subst e4
    rw [Nat.zero_add, c2] at hc
    injection hc with hc
    obtain ⟨a, c, e5, h1, _⟩ := ha x (List.mem_of_getElem? hx)
    rw [← hc, e5]
    exact Cap.mk h1

set_option maxHeartbeats 4000000 in
set_option maxRecDepth 1000000 in
theorem show_text (v : Value) (l : List U.Nd) (w : World) (hR : RdNs w (· < w.heap.size) v l) (hl : U.cntL l ≤ 1048576) :
    Calls Tryz.prog 18 #[v] w fun e w' => e = .returned (.tuple #[.string ⟨(U.showText l).1.toArray⟩, .int .i64 ((U.showText l).2 : Nat)]) ∧ Below w.heap.size w w' := by
  have H1 := Lib.hid (show_check v l w hR hl)
  have H2 := Lib.hid (fun (W : World) (hB : Below w.heap.size w W) => append_tokens _ l (Nat.le_refl _) hl W.heap.size (.slice none 0 0) [] v W (World.ownsRow_nil _ _ _ _) (Nat.le_refl _) (hR.below hB hB.size) (by simp; omega))
  obtain ⟨ao, cap, rfl⟩ : ∃ ao cap, v = .slice ao l.length cap := by obtain ⟨a, b, e, _⟩ := hR; exact ⟨a, b, e⟩
  obtain ⟨R, hRR⟩ : ∃ R, U.showText l = R := ⟨_, rfl⟩
  rw [hRR]
  obtain ⟨R1, R2⟩ := R
  have HRR := Lib.hid hRR
  clear hR hRR
  go_enter Tryz.func18, Tryz.ntmps18
  go_wp2_with fail
  refine H1.out.mono ?_
  rintro e w1 ⟨rfl, hb1⟩
  clear H1
  by_cases h0 : U.showFault l = 0
  · have hst := U.show_textOf h0
    have hok := U.show_ok h0
    have hFz : ((U.showFault l : Nat) : Int) = 0 := by omega
    have HST := Lib.hid (hst.trans HRR.out)
    have HOK := Lib.hid hok
    clear hst hok h0
    go_wp2_with fail
    refine (H2.out _ hb1).mono ?_
    rintro e w2 ⟨v2, ys, rfl, hT, hY⟩
    obtain ⟨vo2, vcap2, rfl⟩ := own_form hT.own
    have hE : Calls Tryz.prog 10 #[.slice vo2 ([] ++ ys).length vcap2] w2 fun e w' => e = .returned (.tuple #[.string ⟨R1.toArray⟩, .int .i64 (R2 : Nat)]) ∧ Below w2.heap.size w2 w' := by
      have hk := rdKC_row (l := [] ++ ys) hT.own (fun x hx => (hT.atts x (by simpa using hx)).keep (fun p hp => hT.below.cell hp) (fun b hb => Nat.lt_of_lt_of_le hb hT.grown.size))
      have h3 := etext_walk _ _ w2 hk (by rw [List.length_map, List.length_map]; have := congrArg List.length hY; rw [List.length_map] at this; have h4 := HOK.out.2.1; unfold most; simp; omega) (fun t ht => by
        obtain ⟨x, hx, rfl⟩ := List.mem_map.1 ht
        obtain ⟨y, hy, rfl⟩ := List.mem_map.1 hx
        obtain ⟨a, c, e5, h1, h2, _⟩ := hT.atts y (by simpa using hy)
        show y.1.attrs.length ≤ most
        unfold most
        unfold maxLen at h2
        omega)
      rw [show (([] ++ ys : List (U.Tok × Value)).map (·.1)) = U.lToks l from by rw [List.nil_append]; exact hY, HST.out] at h3
      exact h3
    have t2 := hb1.trans ((hT.below).mono hb1.size)
    have HE := Lib.hid hE
    clear hE hT hY H2 hb1
    go_wp2_with fail
    refine HE.out.mono ?_
    rintro e w3 ⟨rfl, hb3⟩
    have t3 := t2.trans (hb3.mono t2.size)
    clear HE hb3 t2
    go_wp2_with fail
    go_ret2
    exact ⟨rfl, t3⟩
  · have h1 := HRR.out
    unfold U.showText at h1
    rw [if_neg h0] at h1
    injection h1 with h2 h3
    subst h2
    rw [h3] at h0 ⊢
    have hne : (((R2 : Nat) : Int) != 0) = true := bne_iff_ne.2 (by omega)
    clear H2 h0 h3 HRR
    go_wp2_with fail
    go_ret2
    exact ⟨rfl, hb1⟩

end Go.Proofs.YtmfkefcdddoooaaGreatDoor

namespace Go.Proofs.YtmfkefcdddoooaaGreatDoor
open Go.RowKit

/-- while the bytes are lowered: the first k are -/
structure LowW (w wr : World) (s : ByteArray) (k : Nat) : Prop where
  below : Below w.heap.size w wr
  done : ∀ (j : Nat) (b : UInt8), j < k → s.data.toList[j]? = some b → wr.cell? ⟨w.heap.size, j, none⟩ = some (.int .u8 (U.low1 b).toNat)
  todo : ∀ (j : Nat) (b : UInt8), k ≤ j → s.data.toList[j]? = some b → wr.cell? ⟨w.heap.size, j, none⟩ = some (.int .u8 b.toNat)
  warm : ∀ (j : Nat), j < s.size → wr.frozen? ⟨w.heap.size, j, none⟩ = false
theorem LowW.start (w : World) (s : ByteArray) : LowW w (Lib.bytesWorld w 5 s) s 0 := by
  refine ⟨⟨by simp [Lib.bytesWorld, World.freeze, World.alloc, World.drew, -World.alloc_eq, -World.drew_eq], by simp [Lib.bytesWorld, World.freeze, World.alloc, World.drew, -World.alloc_eq, -World.drew_eq], by simp [Lib.bytesWorld, World.freeze, World.alloc, World.drew, -World.alloc_eq, -World.drew_eq], by rw [Lib.bytesWorld_size]; omega, fun k hk => Lib.bytesWorld_at_old w _ s k hk⟩, fun j b hj => by omega, fun j b _ hb => ?_, fun j hj => ?_⟩
  · have hlt : j < s.size := by
      have := (List.getElem?_eq_some_iff.1 hb).1
      rwa [len_list] at this
    rw [Lib.bytesWorld_cell w _ s j hlt, List.getD_eq_getElem?_getD, hb]
    rfl
  · unfold World.frozen?
    rw [Lib.bytesWorld_at_new]
    have : s.size ≤ (Lib.bytesCells w 5 s).size := by
      unfold Lib.bytesCells
      rw [Array.size_append, Array.size_map]
      show s.data.size ≤ _
      omega
    simp only [Bool.and_eq_false_iff, decide_eq_false_iff_not]
    left
    show ¬ (Lib.bytesCells w 5 s).size ≤ j
    omega
theorem LowW.set {w wr : World} {s : ByteArray} {k : Nat} {b : UInt8} (h : LowW w wr s k) (hb : s.data.toList[k]? = some b) : LowW w (wr.setCell ⟨w.heap.size, k, none⟩ (.int .u8 (U.low1 b).toNat)) s (k + 1) := by
  refine ⟨h.below.setCell (p := ⟨w.heap.size, k, none⟩) (Nat.le_refl _) _, fun j c hj hc => ?_, fun j c hj hc => ?_, fun j hj => by rw [World.frozen?_setCell]; exact h.warm j hj⟩
  · by_cases e : j = k
    · subst e
      rw [hb] at hc
      injection hc with hc
      subst hc
      exact World.cell?_setCell_same _ _ _ (h.todo j b (Nat.le_refl _) hb)
    · rw [World.cell?_setCell_other _ _ _ _ (fun e2 => e (by injection e2 with _ e2; exact e2.symm))]
      exact h.done j c (by omega) hc
  · rw [World.cell?_setCell_other _ _ _ _ (fun e2 => by injection e2 with _ e2; omega)]
    exact h.todo j c (by omega) hc
theorem LowW.next {w wr : World} {s : ByteArray} {k : Nat} {b : UInt8} (h : LowW w wr s k) (hb : s.data.toList[k]? = some b) (hl : U.low1 b = b) : LowW w wr s (k + 1) := by
  refine ⟨h.below, fun j c hj hc => ?_, fun j c hj hc => h.todo j c (by omega) hc, h.warm⟩
  by_cases e : j = k
  · subst e
    rw [hb] at hc
    injection hc with hc
    subst hc
    rw [hl]
    exact h.todo j b (Nat.le_refl _) hb
  · exact h.done j c (by omega) hc
theorem LowW.fin {w wr : World} {s : ByteArray} (h : LowW w wr s s.size) (cap : Nat) : (convert 56 9 (.slice (some ⟨w.heap.size, 0, none⟩) s.size cap)).run Tryz.prog wr = .ok (.string ⟨(U.low s.data.toList).toArray⟩) wr := by
  have e : s.size = (U.low s.data.toList).length := by rw [U.low_length, len_list]
  rw [e]
  refine run_convert_bytes_back wr _ _ 5 _ cap (U.low s.data.toList) Tryz.underlying56 Tryz.underlying5 Tryz.underlying9 (fun j hj => ?_)
  have hj2 : j < s.data.toList.length := by rwa [U.low_length] at hj
  have := h.done j _ (by rwa [← e] at hj) (List.getElem?_eq_getElem hj2)
  have e2 : (U.low s.data.toList)[j] = U.low1 (s.data.toList[j]) := by simp [U.low]
  rw [e2, show (⟨w.heap.size, 0, none⟩ : Addr).add j = ⟨w.heap.size, j, none⟩ from by cases j <;> simp [Addr.add]]
  exact this

set_option maxHeartbeats 4000000 in
set_option maxRecDepth 100000 in
theorem lower_walk (s : ByteArray) (w : World) (hs : s.size ≤ 140737488351232) :
    Calls Tryz.prog 86 #[.string s] w fun e w' => e = .returned (.string ⟨(U.low s.data.toList).toArray⟩) ∧ Below w.heap.size w w' := by
  have hcv := Lib.run_convert_string_bytes (P := Tryz.prog) w 9 56 5 s (u := .string) Tryz.underlying9 Tryz.underlying56 Tryz.underlying5
  have h0 := LowW.start w s
  generalize grownCap w s.size 0 5 = cap at *
  generalize Lib.bytesWorld w 5 s = w0 at *
  go_enter Tryz.func86, Tryz.ntmps86
  go_wp2_with fail
  go_loopw [10] (fun i wr => ∃ k : Nat, k ≤ s.size ∧ i = .int .i64 k ∧ LowW w wr s k) (fun i _ => s.size - (intOf i).toNat)
  case atStart => exact ⟨0, Nat.zero_le _, rfl, h0⟩
  case round =>
    obtain ⟨k, hk, rfl, hW⟩ := hrel
    by_cases hlt : k < s.size
    · have hg := byte_get s hlt
      generalize s[k]'hlt = b at hg
      have hb := b.toNat_lt
      have hc := hW.todo k b (Nat.le_refl _) hg
      have hf := hW.warm k hlt
      by_cases hup : 65 ≤ b.toNat ∧ b.toNat ≤ 90
      · have hv : (b.toNat : Int) + 97 - 65 = ((U.low1 b).toNat : Int) := by
          unfold U.low1
          rw [if_pos hup]
          simp
          omega
        have HN := hW.set hg
        obtain ⟨u0, u1⟩ := hup
        clear hg hW
        go_wp2_with fail
        go_roundw
        case rel => exact ⟨k + 1, by omega, by go_num, HN⟩
        case measure => simp [intOf]; omega
      · have hl : U.low1 b = b := by unfold U.low1; rw [if_neg hup]
        have HN := hW.next hg hl
        clear hg hW hl
        rcases Nat.lt_or_ge b.toNat 65 with h1 | h1
        · clear hup
          go_wp2_with fail
          go_roundw
          case rel => exact ⟨k + 1, by omega, by go_num, HN⟩
          case measure => simp [intOf]; omega
        · have h2 : 91 ≤ b.toNat := by omega
          clear hup
          go_wp2_with fail
          go_roundw
          case rel => exact ⟨k + 1, by omega, by go_num, HN⟩
          case measure => simp [intOf]; omega
    · obtain rfl : k = s.size := by omega
      have hfin := hW.fin cap
      have hbl := hW.below
      clear hW
      go_wp2_with fail
      go_ret
      exact ⟨rfl, hbl⟩

end Go.Proofs.YtmfkefcdddoooaaGreatDoor

namespace Go.Proofs.YtmfkefcdddoooaaGreatDoor
open Go.RowKit

set_option maxHeartbeats 4000000 in
set_option maxRecDepth 100000 in
theorem named_walk (t : ByteArray) (w : World) : Calls Tryz.prog 124 #[.string t] w fun e w' => e = .returned (ptV (U.nameOf t.data.toList)) ∧ Below w.heap.size w w' := by
  have ht := Lib.toList_data t
  by_cases h0 : t.data.toList = [97, 109, 112]
  · have hN : U.nameOf t.data.toList = some 38 := by rw [h0]; rfl
    have HN := Lib.hid hN
    have tt0 : (t.toList == [97, 109, 112]) = true := by rw [ht, h0]; rfl
    clear hN ht h0
    go_enter Tryz.func124, Tryz.ntmps124
    go_wp2
    go_ret2
    rw [HN.out]
    exact ⟨rfl, Below.refl _ _⟩
  have tt0 : (t.toList == [97, 109, 112]) = false := by rw [ht, beq_eq_false_iff_ne]; exact h0
  by_cases h1 : t.data.toList = [108, 116]
  · have hN : U.nameOf t.data.toList = some 60 := by rw [h1]; rfl
    have HN := Lib.hid hN
    have tt1 : (t.toList == [108, 116]) = true := by rw [ht, h1]; rfl
    clear hN ht h1
    go_enter Tryz.func124, Tryz.ntmps124
    go_wp2
    go_ret2
    rw [HN.out]
    exact ⟨rfl, Below.refl _ _⟩
  have tt1 : (t.toList == [108, 116]) = false := by rw [ht, beq_eq_false_iff_ne]; exact h1
  by_cases h2 : t.data.toList = [103, 116]
  · have hN : U.nameOf t.data.toList = some 62 := by rw [h2]; rfl
    have HN := Lib.hid hN
    have tt2 : (t.toList == [103, 116]) = true := by rw [ht, h2]; rfl
    clear hN ht h2
    go_enter Tryz.func124, Tryz.ntmps124
    go_wp2
    go_ret2
    rw [HN.out]
    exact ⟨rfl, Below.refl _ _⟩
  have tt2 : (t.toList == [103, 116]) = false := by rw [ht, beq_eq_false_iff_ne]; exact h2
  by_cases h3 : t.data.toList = [113, 117, 111, 116]
  · have hN : U.nameOf t.data.toList = some 34 := by rw [h3]; rfl
    have HN := Lib.hid hN
    have tt3 : (t.toList == [113, 117, 111, 116]) = true := by rw [ht, h3]; rfl
    clear hN ht h3
    go_enter Tryz.func124, Tryz.ntmps124
    go_wp2
    go_ret2
    rw [HN.out]
    exact ⟨rfl, Below.refl _ _⟩
  have tt3 : (t.toList == [113, 117, 111, 116]) = false := by rw [ht, beq_eq_false_iff_ne]; exact h3
  by_cases h4 : t.data.toList = [110, 98, 115, 112]
  · have hN : U.nameOf t.data.toList = some 160 := by rw [h4]; rfl
    have HN := Lib.hid hN
    have tt4 : (t.toList == [110, 98, 115, 112]) = true := by rw [ht, h4]; rfl
    clear hN ht h4
    go_enter Tryz.func124, Tryz.ntmps124
    go_wp2
    go_ret2
    rw [HN.out]
    exact ⟨rfl, Below.refl _ _⟩
  have tt4 : (t.toList == [110, 98, 115, 112]) = false := by rw [ht, beq_eq_false_iff_ne]; exact h4
  by_cases h5 : t.data.toList = [99, 111, 112, 121]
  · have hN : U.nameOf t.data.toList = some 169 := by rw [h5]; rfl
    have HN := Lib.hid hN
    have tt5 : (t.toList == [99, 111, 112, 121]) = true := by rw [ht, h5]; rfl
    clear hN ht h5
    go_enter Tryz.func124, Tryz.ntmps124
    go_wp2
    go_ret2
    rw [HN.out]
    exact ⟨rfl, Below.refl _ _⟩
  have tt5 : (t.toList == [99, 111, 112, 121]) = false := by rw [ht, beq_eq_false_iff_ne]; exact h5
  have HN := Lib.hid (show U.nameOf t.data.toList = none by
    unfold U.nameOf
    rw [if_neg h0, if_neg h1, if_neg h2, if_neg h3, if_neg h4, if_neg h5])
  clear ht h0 h1 h2 h3 h4 h5
  go_enter Tryz.func124, Tryz.ntmps124
  go_wp2
  go_ret2
  rw [HN.out]
  exact ⟨rfl, Below.refl _ _⟩

/-- what leadingReference answers -/
def leadV (r : List UInt8) (v : Value) : Prop := ∃ (p k : Int) (b : Bool), v = .tuple #[.int .i32 p, .int .i64 k, .bool b] ∧ match U.refTail r with
  | some (n, m) => p = n ∧ k = m ∧ b = true
  | none => b = false

theorem take_min10 (l : List UInt8) : l.take (min l.length 10) = l.take 10 := by
  rcases Nat.le_total l.length 10 with h | h
  · rw [Nat.min_eq_left h, List.take_length, List.take_of_length_le h]
  · rw [Nat.min_eq_right h]

set_option maxHeartbeats 4000000 in
set_option maxRecDepth 1000000 in
theorem leading_walk (s : ByteArray) (r : List UInt8) (hs : s.data.toList = 38 :: r) (hmax : s.size ≤ 140737488351232) (w : World) (hS : ErrS w) :
    Calls Tryz.prog 94 #[.string s] w fun e w' => ∃ v, e = .returned v ∧ leadV r v ∧ Below w.heap.size w w' := by
  have hlen : s.size = r.length + 1 := by rw [← len_list, hs]; rfl
  have hidx : Lib.indexByte (s.extract 0 (min (s.size : Int) 10).toNat).data.toList (Int.toNat 59).toUInt8 = Lib.indexByte ((38 :: r).take 10) 59 := by
    rw [Lib.extract_data, hs, List.drop_zero, hlen, show (min ((r.length + 1 : Nat) : Int) 10).toNat - 0 = min (38 :: r).length 10 by rw [List.length_cons]; omega, take_min10]
    rfl
  have Hidx := Lib.hid hidx
  have Hlen := Lib.hid hlen
  have hpos : 1 ≤ s.size := by omega
  clear hidx hlen
  go_enter Tryz.func94, Tryz.ntmps94
  go_wp2_with fail
  refine (Tryz.strings_IndexByte _ 59 _).mono ?_
  rintro e w1 ⟨rfl, rfl⟩
  rw [Hidx.out]
  rcases U.index_cases r with ⟨e1, hr⟩ | ⟨o, h1, h9, hor, e1, hr⟩
  · rw [e1]
    have Hr := Lib.hid hr
    clear hr e1
    go_wp2_with fail
    go_ret3
    exact ⟨_, rfl, ⟨_, _, _, rfl, by rw [Hr.out]⟩, Below.refl _ _⟩
  · rw [e1]
    have ho : o ≤ s.size := by have := Hlen.out; omega
    have hex : (s.extract 1 o).data.toList = r.take (o - 1) := by
      rw [Lib.extract_data, hs]; rfl
    have hpl : (r.take (o - 1)).length ≤ 8 := by rw [List.length_take]; omega
    clear e1
    by_cases hp : ∃ d, r.take (o - 1) = 35 :: d
    · obtain ⟨d, hd⟩ := hp
      have hx := U.prefix_hash_yes d
      rw [← hd, ← hex] at hx
      have hx1 : Lib.hasPrefix (s.extract 1 o).data.toList (ByteArray.mk #[35]).data.toList = true := hx.1
      have hx2 : Lib.trimPrefix (s.extract 1 o).data.toList (ByteArray.mk #[35]).data.toList = d := hx.2
      have HX1 := Lib.hid hx1
      have HX2 := Lib.hid hx2
      have hdl : d.length ≤ 7 := by rw [hd, List.length_cons] at hpl; omega
      have hds : (ByteArray.mk d.toArray).size ≤ 7 := by show d.toArray.size ≤ 7; simpa using hdl
      have r2 := numbered_walk (ByteArray.mk d.toArray) hds
      rw [show (ByteArray.mk d.toArray).data.toList = d by simp] at r2
      rw [hd] at hr
      clear hx hx1 hx2 hex hpl
      go_wp2_with fail
      refine (Tryz.strings_CutPrefix _ _ _).mono ?_
      rintro e w1 ⟨rfl, rfl⟩
      rw [HX1.out, HX2.out]
      go_wp2_with fail
      cases hN : U.numOf d
      · rw [hN] at r2
        have hl := Lib.hid (show U.refTail r = none by rw [hr, U.body_hash, hN]; rfl)
        simp only [ptV] at r2
        clear hN hr
        refine (r2 _ hS).mono ?_
        rintro e w2 ⟨rfl, b2⟩
        go_wp2_with fail
        go_ret3
        exact ⟨_, rfl, ⟨_, _, _, rfl, by rw [hl.out]⟩, b2⟩
      · rename_i n
        rw [hN] at r2
        have hl := Lib.hid (show U.refTail r = some (n, o + 1) by rw [hr, U.body_hash, hN]; rfl)
        simp only [ptV] at r2
        clear hN hr
        refine (r2 _ hS).mono ?_
        rintro e w2 ⟨rfl, b2⟩
        go_wp2_with fail
        go_ret3
        exact ⟨_, rfl, ⟨_, _, _, rfl, by rw [hl.out]; exact ⟨rfl, by simp, rfl⟩⟩, b2⟩
    · have hnd : ∀ d, r.take (o - 1) ≠ 35 :: d := fun d e => hp ⟨d, e⟩
      have hx := U.prefix_hash_no hnd
      have hb := U.body_name hnd
      rw [← hex] at hx
      have hx1 : Lib.hasPrefix (s.extract 1 o).data.toList (ByteArray.mk #[35]).data.toList = false := hx
      have HX1 := Lib.hid hx1
      have r2 := named_walk (s.extract 1 o)
      rw [hex] at r2
      clear hx hx1 hex hpl hnd hp
      go_wp2_with fail
      refine (Tryz.strings_CutPrefix _ _ _).mono ?_
      rintro e w1 ⟨rfl, rfl⟩
      rw [HX1.out]
      go_wp2_with fail
      cases hN : U.nameOf (r.take (o - 1))
      · rw [hN] at r2
        have hl := Lib.hid (show U.refTail r = none by rw [hr, hb, hN]; rfl)
        simp only [ptV] at r2
        clear hN hr
        refine (r2 _).mono ?_
        rintro e w2 ⟨rfl, b2⟩
        go_wp2_with fail
        go_ret3
        exact ⟨_, rfl, ⟨_, _, _, rfl, by rw [hl.out]⟩, b2⟩
      · rename_i n
        rw [hN] at r2
        have hl := Lib.hid (show U.refTail r = some (n, o + 1) by rw [hr, hb, hN]; rfl)
        simp only [ptV] at r2
        clear hN hr
        refine (r2 _).mono ?_
        rintro e w2 ⟨rfl, b2⟩
        go_wp2_with fail
        go_ret3
        exact ⟨_, rfl, ⟨_, _, _, rfl, by rw [hl.out]; exact ⟨rfl, by simp, rfl⟩⟩, b2⟩

end Go.Proofs.YtmfkefcdddoooaaGreatDoor

namespace Go.Proofs.YtmfkefcdddoooaaGreatDoor
open Go.RowKit

set_option maxHeartbeats 4000000 in
set_option maxRecDepth 100000 in
/-- WriteRune: a letter's bytes more (those of 65533, if the number is none). -/
theorem write_rune (B b : Nat) (l : List UInt8) (r : Int) (hr0 : -2147483648 ≤ r) (hr1 : r ≤ 2147483647) (w : World) (h : Bld B b l w) (hlen : l.length + 4 ≤ 140737488355328) (hBw : B ≤ w.heap.size) :
    Calls Tryz.prog 45 #[.pointer (some ⟨b, 0, none⟩), .int .i32 r] w fun e w' => e = .returned (.tuple #[.int .i64 (Lib.runeCells r).length, .nilIface]) ∧ BldAt B b (l ++ Lib.encodeRune r) w' ∧ Below B w w' ∧ Kept b w w' := by
  have hk4 := Lib.runeCells_le r
  have ec : Lib.byteCells (l ++ Lib.encodeRune r) = Lib.byteCells l ++ Lib.runeCells r := by rw [Lib.byteCells_append, Lib.byteCells_encodeRune]
  have el : (Lib.byteCells l ++ Lib.runeCells r).length = l.length + (Lib.runeCells r).length := by rw [List.length_append, Lib.byteCells_length]
  have EC := Lib.hid ec
  have EL := Lib.hid el
  clear ec el
  generalize hR : Lib.runeCells r = R at *
  have HR := Lib.hid hR
  clear hR
  go_enter Tryz.func45, Tryz.ntmps45
  go_wp2_with fail
  refine (check_any B b l _ h).mono ?_
  rintro e w1 ⟨rfl, h1, hb1, hk1⟩
  obtain ⟨ao, cap, hbk, hown, hne, hB, hlt⟩ := Bld_slice h1
  have c0 : w1.cell? ⟨b, 0, none⟩ = some (.pointer (some ⟨b, 0, none⟩)) := by rw [Lib.cell_of_heap hbk]; rfl
  have c1 : w1.cell? ⟨b, 1, none⟩ = some (.slice ao l.length cap) := by rw [Lib.cell_of_heap hbk]; rfl
  have hbs := hb1.size
  go_wp2_with fail
  refine (Tryz.utf8_AppendRune_row B _ l.length _ r hr0 hr1 _ hown hlen (by omega)).mono ?_
  rintro e w2 ⟨v', rfl, hown', o, hgrow⟩
  rw [HR.out] at hown'
  have hb2 : w2.heap[b]? = some (.cells #[.pointer (some ⟨b, 0, none⟩), .slice ao l.length cap] 58 (0, 0)) := by
    rw [hgrow.block b (by simp; omega) (fun e => hne e.symm), Lib.alloc_old w1 _ b hlt]
    exact hbk
  have d0 : w2.cell? ⟨b, 0, none⟩ = some (.pointer (some ⟨b, 0, none⟩)) := by rw [Lib.cell_of_heap hb2]; rfl
  have d1 : w2.cell? ⟨b, 1, none⟩ = some (.slice ao l.length cap) := by rw [Lib.cell_of_heap hb2]; rfl
  have f1 : w2.frozen? ⟨b, 1, none⟩ = false := Lib.frozen_of_heap hb2 1
  obtain ⟨g, cap', rfl⟩ : ∃ g cap', v' = .slice (some ⟨g, 0, none⟩) (l.length + R.length) cap' := by
    rcases hown'.2 with ⟨_, h0⟩ | ⟨g, cap', cur, fz, hv, _⟩
    · omega
    · exact ⟨g, cap', hv⟩
  go_wp2
  go_ret2
  refine ⟨?_, ?_, ?_, ((hk1.alloc _).grown hgrow (Lib.ownsRowF_kind (hown.alloc _))).setCell ⟨b, 1, none⟩ rfl _⟩
  · have e : ((l.length : Int) + (R.length : Int) - (l.length : Int)) = (R.length : Int) := by omega
    simp [e]
  · refine Lib.BuilderAtF.put (T := 58) (e := 5) hB hb2 ?_ (by decide)
    rw [EC.out, EL.out]
    exact hown'
  · exact ((hb1.alloc (by omega) _).grown hgrow (by simp; omega) (fun k hk => (hown.lt k hk).1)).setCell (p := ⟨b, 1, none⟩) hB _

end Go.Proofs.YtmfkefcdddoooaaGreatDoor

/- tok's parser: readRaw. -/
import Derived.Outline
import Derived.Test.YtankcnikebcpkaaGreatDoorP24
import Derived.Test.YtankcnikebcpkaaGreatDoorP21
namespace Go.Proofs.YtankcnikebcpkaaGreatDoor
open Go.RowKit

/-- a raw text is read; D: what is done with it -/
def Raw (w w' : World) (bp : Nat) (r : ByteArray) (l : List (U.Tok × Value)) (n : List UInt8) (D : List UInt8 → List UInt8) : Prop :=
  ∃ (r' : ByteArray) (v' : Value) (l' : List (U.Tok × Value)), ParW w w' bp r' v' l' ∧ r'.data.toList = (U.rawText n r.data.toList).2 ∧
    l'.map (·.1) = l.map (·.1) ++ (if (U.rawText n r.data.toList).1 = [] then [] else [⟨3, [], [], false, D (U.rawText n r.data.toList).1⟩]) ∧ r'.size ≤ r.size ∧ l'.length + 2 * r'.size ≤ l.length + 2 * r.size
theorem raw_none {w w' : World} {bp : Nat} {r : ByteArray} {v : Value} {l : List (U.Tok × Value)} {n : List UInt8} {D : List UInt8 → List UInt8} (h : ParW w w' bp r v l) (hr : U.rawText n r.data.toList = (r.data.toList.take 0, r.data.toList.drop 0)) : Raw w w' bp r l n D := by
  refine ⟨r, v, l, h, by rw [hr]; simp, by rw [hr]; simp, Nat.le_refl _, Nat.le_refl _⟩
theorem raw_some {w w' : World} {bp k : Nat} {r : ByteArray} {v : Value} {l : List (U.Tok × Value)} {n : List UInt8} {D : List UInt8 → List UInt8} (hk : k ≤ r.size) (h0 : 0 < k) (h : ParW w w' bp (r.extract k r.size) v (l ++ [(⟨3, [], [], false, D (r.data.toList.take k)⟩, .slice none 0 0)])) (hr : U.rawText n r.data.toList = (r.data.toList.take k, r.data.toList.drop k)) : Raw w w' bp r l n D := by
  refine ⟨_, v, _, h, by rw [hr, list_drop], ?_, by rw [size_drop]; omega, by rw [size_drop, List.length_append, List.length_singleton]; omega⟩
  rw [hr]
  simp only
  rw [if_neg (fun e => by have := congrArg List.length e; rw [List.length_take, len_list, List.length_nil] at this; omega)]
  simp

set_option maxRecDepth 100000 in
theorem plain_fn (t : ByteArray) (w : World) : Calls Tryz.prog 39 #[.string t] w fun e w' => e = .returned (.string t) ∧ w' = w := by
  go_enter Tryz.func39, Tryz.ntmps39
  go_wp2_with fail
  go_ret
  exact ⟨rfl, rfl⟩

set_option maxHeartbeats 4000000 in
set_option maxRecDepth 1000000 in
theorem read_raw_plain (w wr : World) (bp : Nat) (r n : ByteArray) (v : Value) (l : List (U.Tok × Value)) (h : ParW w wr bp r v l) (hG : Glob wr) (hF : Far bp) (hr : r.size ≤ 1048576) (hn : n.size ≤ 1048576) (hl : l.length ≤ 1048576) :
    Calls Tryz.prog 38 #[.pointer (some ⟨bp, 0, none⟩), .string n, .func (.func 39) #[] #[]] wr fun e w' => e = .returned (.tuple #[]) ∧ Raw w w' bp r l n.data.toList (fun x => x) := by
  obtain ⟨c0, c1, f0, f1⟩ := par_cells h.par
  obtain ⟨LW, hLW⟩ : ∃ LW : ByteArray, LW = ⟨(U.low r.data.toList).toArray⟩ := ⟨_, rfl⟩
  have hls : LW.size = r.size := by rw [hLW, size_of_mk, U.low_length, len_list]
  have hll : LW.data.toList = U.low r.data.toList := by rw [hLW]
  have hlow := fun w2 => lower_walk r w2 (by omega)
  rw [← hLW] at hlow
  have HLL := Lib.hid hll
  clear hll hLW
  go_enter Tryz.func38, Tryz.ntmps38
  go_wp2_with (refine (hlow _).mono ?_; rintro e w1 ⟨rfl, b1⟩)

  go_loopw [7] (fun s w2 => ∃ k : Nat, k ≤ r.size ∧ s = .int .i64 k ∧ Below wr.heap.size wr w2 ∧ Hid (∀ i, i < k → U.rawEnd n.data.toList (r.data.toList.drop i) = false)) (fun s _ => r.size - (intOf s).toNat)
  case atStart => exact ⟨0, Nat.zero_le _, rfl, b1, Lib.hid (fun i hi => absurd hi (Nat.not_lt_zero _))⟩
  case round =>
    obtain ⟨k, hk, rfl, hb, hall⟩ := hrel
    have hP := h.later hb
    obtain ⟨c0, c1, f0, f1⟩ := par_cells hP.par
    have htk : r.extract 0 k = ⟨(r.data.toList.take k).toArray⟩ := by rw [← list_take, mk_of_list]
    by_cases hlt : k < r.size
    · have hi0 : (0 : Int) ≤ (k : Int) := Int.natCast_nonneg _
      have hi1 : (k : Int) ≤ (LW.size : Int) := by omega
      have hi2 : (k : Int) < (LW.size : Int) := by omega
      have hie := fun w3 => is_end n (LW.extract k LW.size) w3 hn
      rw [list_drop, HLL.out, ← U.low_drop, ← U.rawEnd_low, hls] at hie
      cases he : U.rawEnd n.data.toList (r.data.toList.drop k) with
      | false =>
        have HN : Hid (∀ i, i < k + 1 → U.rawEnd n.data.toList (r.data.toList.drop i) = false) := by
          intro i hi
          by_cases e : i = k
          · rw [e]; exact he
          · exact hall.out i (by omega)
        rw [he] at hie
        clear he
        have HX := Lib.hid hie
        clear hie
        go_wp2_with (refine (HX.out _).mono ?_; rintro e w3 ⟨rfl, rfl⟩)
        go_roundw
        case rel => exact ⟨k + 1, by omega, by go_num, hb, HN⟩
        case measure => simp [intOf]; omega
      | true =>
        have HE := Lib.hid (U.rawText_at n.data.toList r.data.toList k (by rw [len_list]; exact hk) hall.out (.inr he))
        rw [he] at hie
        clear he
        have HX := Lib.hid hie
        clear hie
        rcases Nat.eq_zero_or_pos k with h0 | h0
        · subst h0
          go_wp2_with (refine (HX.out _).mono ?_; rintro e w3 ⟨rfl, rfl⟩)
          go_end0
          exact ⟨rfl, raw_none hP HE.out⟩
        · have hk0 : decide ((0 : Int) < (k : Int)) = true := decide_eq_true (by omega)
          go_wp2_with (first
            | (refine (HX.out _).mono ?_; rintro e w3 ⟨rfl, rfl⟩)
            | (refine (take_walk _ bp k r v hP.par hk).mono ?_; rintro e w4 ⟨rfl, hR4⟩; have hG4 := (hG.below hb).grown hF hR4.grown)
            | (refine (plain_fn _ _).mono ?_; rintro e w5 ⟨rfl, rfl⟩; have hP5 := hP.step hR4)
            | (refine (add_text w _ bp _ v l 3 (r.data.toList.take k) hP5 hl).mono ?_; rintro e w6 ⟨rfl, v6, hP6⟩))
          go_end0
          exact ⟨rfl, raw_some hk h0 hP6 HE.out⟩
    · have hke : k = r.size := by omega
      have hi2 : ¬ (k : Int) < (LW.size : Int) := by omega
      have HE := Lib.hid (U.rawText_at n.data.toList r.data.toList k (by rw [len_list]; exact hk) hall.out (.inl (by rw [len_list]; exact hke)))
      clear hke hlt
      rcases Nat.eq_zero_or_pos k with h0 | h0
      · subst h0
        go_wp2_with fail
        go_end0
        exact ⟨rfl, raw_none hP HE.out⟩
      · have hk0 : decide ((0 : Int) < (k : Int)) = true := decide_eq_true (by omega)
        go_wp2_with (first
          | (refine (take_walk _ bp k r v hP.par hk).mono ?_; rintro e w4 ⟨rfl, hR4⟩; have hG4 := (hG.below hb).grown hF hR4.grown)
          | (refine (plain_fn _ _).mono ?_; rintro e w5 ⟨rfl, rfl⟩; have hP5 := hP.step hR4)
          | (refine (add_text w _ bp _ v l 3 (r.data.toList.take k) hP5 hl).mono ?_; rintro e w6 ⟨rfl, v6, hP6⟩))
        go_end0
        exact ⟨rfl, raw_some hk h0 hP6 HE.out⟩

set_option maxHeartbeats 4000000 in
set_option maxRecDepth 1000000 in
theorem read_raw_unesc (w wr : World) (bp : Nat) (r n : ByteArray) (v : Value) (l : List (U.Tok × Value)) (h : ParW w wr bp r v l) (hG : Glob wr) (hF : Far bp) (hr : r.size ≤ 1048576) (hn : n.size ≤ 1048576) (hl : l.length ≤ 1048576) :
    Calls Tryz.prog 38 #[.pointer (some ⟨bp, 0, none⟩), .string n, .func (.func 40) #[] #[]] wr fun e w' => e = .returned (.tuple #[]) ∧ Raw w w' bp r l n.data.toList (U.unesc) := by
  obtain ⟨c0, c1, f0, f1⟩ := par_cells h.par
  obtain ⟨LW, hLW⟩ : ∃ LW : ByteArray, LW = ⟨(U.low r.data.toList).toArray⟩ := ⟨_, rfl⟩
  have hls : LW.size = r.size := by rw [hLW, size_of_mk, U.low_length, len_list]
  have hll : LW.data.toList = U.low r.data.toList := by rw [hLW]
  have hlow := fun w2 => lower_walk r w2 (by omega)
  rw [← hLW] at hlow
  have HLL := Lib.hid hll
  clear hll hLW
  go_enter Tryz.func38, Tryz.ntmps38
  go_wp2_with (refine (hlow _).mono ?_; rintro e w1 ⟨rfl, b1⟩)

  go_loopw [7] (fun s w2 => ∃ k : Nat, k ≤ r.size ∧ s = .int .i64 k ∧ Below wr.heap.size wr w2 ∧ Hid (∀ i, i < k → U.rawEnd n.data.toList (r.data.toList.drop i) = false)) (fun s _ => r.size - (intOf s).toNat)
  case atStart => exact ⟨0, Nat.zero_le _, rfl, b1, Lib.hid (fun i hi => absurd hi (Nat.not_lt_zero _))⟩
  case round =>
    obtain ⟨k, hk, rfl, hb, hall⟩ := hrel
    have hP := h.later hb
    obtain ⟨c0, c1, f0, f1⟩ := par_cells hP.par
    by_cases hlt : k < r.size
    · have hi0 : (0 : Int) ≤ (k : Int) := Int.natCast_nonneg _
      have hi1 : (k : Int) ≤ (LW.size : Int) := by omega
      have hi2 : (k : Int) < (LW.size : Int) := by omega
      have hie := fun w3 => is_end n (LW.extract k LW.size) w3 hn
      rw [list_drop, HLL.out, ← U.low_drop, ← U.rawEnd_low, hls] at hie
      cases he : U.rawEnd n.data.toList (r.data.toList.drop k) with
      | false =>
        have HN : Hid (∀ i, i < k + 1 → U.rawEnd n.data.toList (r.data.toList.drop i) = false) := by
          intro i hi
          by_cases e : i = k
          · rw [e]; exact he
          · exact hall.out i (by omega)
        rw [he] at hie
        clear he
        have HX := Lib.hid hie
        clear hie
        go_wp2_with (refine (HX.out _).mono ?_; rintro e w3 ⟨rfl, rfl⟩)
        go_roundw
        case rel => exact ⟨k + 1, by omega, by go_num, hb, HN⟩
        case measure => simp [intOf]; omega
      | true =>
        have HE := Lib.hid (U.rawText_at n.data.toList r.data.toList k (by rw [len_list]; exact hk) hall.out (.inr he))
        rw [he] at hie
        clear he
        have HX := Lib.hid hie
        clear hie
        rcases Nat.eq_zero_or_pos k with h0 | h0
        · subst h0
          go_wp2_with (refine (HX.out _).mono ?_; rintro e w3 ⟨rfl, rfl⟩)
          go_end0
          exact ⟨rfl, raw_none hP HE.out⟩
        · have hk0 : decide ((0 : Int) < (k : Int)) = true := decide_eq_true (by omega)
          go_wp2_with (first
            | (refine (HX.out _).mono ?_; rintro e w3 ⟨rfl, rfl⟩)
            | (refine (take_walk _ bp k r v hP.par hk).mono ?_; rintro e w4 ⟨rfl, hR4⟩; have hG4 := (hG.below hb).grown hF hR4.grown)
            | (refine (unescape_walk (r.extract 0 k) (by rw [size_take _ _ hk]; omega) _ hG4.err).mono ?_; rintro e w5 ⟨rfl, b5⟩; have hP5 := (hP.step hR4).later b5)
            | (refine (add_text w _ bp _ v l 3 _ hP5 hl).mono ?_; rintro e w6 ⟨rfl, v6, hP6⟩))
          go_end0
          exact ⟨rfl, raw_some hk h0 hP6 HE.out⟩
    · have hke : k = r.size := by omega
      have hi2 : ¬ (k : Int) < (LW.size : Int) := by omega
      have HE := Lib.hid (U.rawText_at n.data.toList r.data.toList k (by rw [len_list]; exact hk) hall.out (.inl (by rw [len_list]; exact hke)))
      clear hke hlt
      rcases Nat.eq_zero_or_pos k with h0 | h0
      · subst h0
        go_wp2_with fail
        go_end0
        exact ⟨rfl, raw_none hP HE.out⟩
      · have hk0 : decide ((0 : Int) < (k : Int)) = true := decide_eq_true (by omega)
        go_wp2_with (first
          | (refine (take_walk _ bp k r v hP.par hk).mono ?_; rintro e w4 ⟨rfl, hR4⟩; have hG4 := (hG.below hb).grown hF hR4.grown)
          | (refine (unescape_walk (r.extract 0 k) (by rw [size_take _ _ hk]; omega) _ hG4.err).mono ?_; rintro e w5 ⟨rfl, b5⟩; have hP5 := (hP.step hR4).later b5)
          | (refine (add_text w _ bp _ v l 3 _ hP5 hl).mono ?_; rintro e w6 ⟨rfl, v6, hP6⟩))
        go_end0
        exact ⟨rfl, raw_some hk h0 hP6 HE.out⟩

end Go.Proofs.YtankcnikebcpkaaGreatDoor

/- tok's parser: readChars. -/
import Derived.Test.YtkmjngpgngkalaaDoorParW
import Derived.Outline
namespace Go.Proofs.YtkmjngpgngkalaaDoor
open Go.RowKit

/-- one round of Parse: what the tokens are, what is left -/
def Ate (w w' : World) (bp : Nat) (r : ByteArray) (l : List (U.Tok × Value)) : Prop :=
  ∃ (r' : ByteArray) (v' : Value) (l' : List (U.Tok × Value)), ParW w w' bp r' v' l' ∧ l'.map (·.1) ++ U.toksT [] r'.data.toList = l.map (·.1) ++ U.toksT [] r.data.toList ∧ r'.size < r.size ∧ l'.length + 2 * r'.size ≤ l.length + 2 * r.size

theorem ate_chars {w w' : World} {bp n : Nat} {r : ByteArray} {v6 : Value} {l : List (U.Tok × Value)} (h1 : 1 ≤ n) (h2 : n ≤ r.size) (hall : ∀ i, i < n → U.kindOf (r.data.toList.drop i) = 3) (he : n = r.size ∨ U.kindOf (r.data.toList.drop n) ≠ 3)
    (h : ParW w w' bp (r.extract n r.size) v6 (l ++ [(⟨3, [], [], false, U.unesc (r.data.toList.take n)⟩, .slice none 0 0)])) : Ate w w' bp r l := by
  refine ⟨_, _, _, h, ?_, by rw [size_drop]; omega, by rw [size_drop, List.length_append, List.length_singleton]; omega⟩
  rw [U.toks_chars (n := n) (l := r.data.toList) (by omega) (by rw [len_list]; exact h2) hall (by rw [len_list]; exact he), list_drop]
  simp

set_option maxHeartbeats 4000000 in
set_option maxRecDepth 1000000 in
theorem read_chars (w wr : World) (bp : Nat) (r : ByteArray) (v : Value) (l : List (U.Tok × Value)) (h : ParW w wr bp r v l) (hG : Glob wr) (hF : Far bp) (hr : r.size ≤ 1048576) (h0 : 0 < r.size) (hl : l.length ≤ 1048576) (hk : U.kindOf r.data.toList = 3) :
    Calls Tryd.prog 18 #[.pointer (some ⟨bp, 0, none⟩)] wr fun e w' => e = .returned (.tuple #[]) ∧ Ate w w' bp r l := by
  have HK := Lib.hid hk
  clear hk
  go_enter Tryd.func18, Tryd.ntmps18
  go_wp2_with fail
  go_loopw [2] (fun s w2 => ∃ n : Nat, 1 ≤ n ∧ n ≤ r.size ∧ s = .int .i64 n ∧ Below wr.heap.size wr w2 ∧ Hid (∀ i, i < n → U.kindOf (r.data.toList.drop i) = 3)) (fun s _ => r.size - (intOf s).toNat)
  case atStart => exact ⟨1, Nat.le_refl _, h0, rfl, Below.refl _ _, Lib.hid (fun i hi => by obtain rfl : i = 0 := (by omega); rw [List.drop_zero]; exact HK.out)⟩
  case round =>
    obtain ⟨n, hn1, hn2, rfl, hb, hall⟩ := hrel
    have hP := h.later hb
    obtain ⟨c0, c1, f0, f1⟩ := par_cells hP.par
    by_cases hlt : n < r.size
    · have hi0 : (0 : Int) ≤ (n : Int) := Int.natCast_nonneg _
      have hi1 : (n : Int) ≤ (r.size : Int) := by omega
      have hka := fun w3 => kind_at (r.extract n r.size) w3
      rw [list_drop] at hka
      by_cases h3 : U.kindOf (r.data.toList.drop n) = 3
      · have HN : Hid (∀ i, i < n + 1 → U.kindOf (r.data.toList.drop i) = 3) := by
          intro i hi
          by_cases e : i = n
          · rw [e]; exact h3
          · exact hall.out i (by omega)
        rw [h3] at hka
        clear h3
        go_wp2_with (refine (hka _).mono ?_; rintro e w3 ⟨rfl, rfl⟩)
        go_roundw
        case rel => exact ⟨n + 1, by omega, by omega, by go_num, hb, HN⟩
        case measure => simp [intOf]; omega
      · have HE : Hid (n = r.size ∨ U.kindOf (r.data.toList.drop n) ≠ 3) := Or.inr h3
        have hk3 : (((U.kindOf (r.data.toList.drop n) : Nat) : Int) == 3) = false := by rw [beq_eq_false_iff_ne]; omega
        generalize U.kindOf (r.data.toList.drop n) = kk at hka hk3
        clear h3
        go_wp2_with (first
          | (refine (hka _).mono ?_; rintro e w3 ⟨rfl, rfl⟩)
          | (refine (take_walk _ bp n r v hP.par hn2).mono ?_; rintro e w4 ⟨rfl, hR4⟩; have hG4 := (hG.below hb).grown hF hR4.grown)
          | (refine (unescape_walk (r.extract 0 n) (by rw [size_take _ _ hn2]; omega) _ hG4.err).mono ?_; rintro e w5 ⟨rfl, b5⟩; have hP5 := (hP.step hR4).later b5)
          | (refine (add_text w _ bp _ v l 3 _ hP5 hl).mono ?_; rintro e w6 ⟨rfl, v6, hP6⟩))
        go_end0
        exact ⟨rfl, ate_chars hn1 hn2 hall.out HE.out hP6⟩
    · have HE : Hid (n = r.size ∨ U.kindOf (r.data.toList.drop n) ≠ 3) := Or.inl (by omega)
      go_wp2_with (first
        | (refine (take_walk _ bp n r v hP.par hn2).mono ?_; rintro e w4 ⟨rfl, hR4⟩; have hG4 := (hG.below hb).grown hF hR4.grown)
        | (refine (unescape_walk (r.extract 0 n) (by rw [size_take _ _ hn2]; omega) _ hG4.err).mono ?_; rintro e w5 ⟨rfl, b5⟩; have hP5 := (hP.step hR4).later b5)
        | (refine (add_text w _ bp _ v l 3 _ hP5 hl).mono ?_; rintro e w6 ⟨rfl, v6, hP6⟩))
      go_end0
      exact ⟨rfl, ate_chars hn1 hn2 hall.out HE.out hP6⟩

end Go.Proofs.YtkmjngpgngkalaaDoor

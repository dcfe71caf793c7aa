/- show.Text. -/
import Derived.Test.YtmfkefcdddoooaaShowCheck
import Derived.Test.YtmfkefcdddoooaaShowToks
import Derived.Test.YtmfkefcdddoooaaEText
namespace Go.Proofs.Ytmfkefcdddoooaa
open Go.RowKit

/-- a row of tokens whose attributes lie elsewhere reads as these tokens -/
theorem rdKC_row {w : World} {N : Nat} {v : Value} {l : List (U.Tok × Value)} (ho : w.ownsRow N 31 5 v l.length (tokCells l)) (ha : ∀ x ∈ l, RdAS w (· < w.heap.size) x.2 x.1.attrs) : RdKC w w.heap.size v ((l.map (·.1)).map U.Tok.tk) := by
  have hrow : ∀ {i : Nat} {x : U.Tok × Value}, l[i]? = some x → _ := fun {i x} hx => row_tok ho hx
  obtain ⟨ao, cap, rfl⟩ := own_form ho
  have hl : ((l.map (·.1)).map U.Tok.tk).length = l.length := by simp
  have hget : ∀ {i : Nat} {t : U.Tk}, ((l.map (·.1)).map U.Tok.tk)[i]? = some t → ∃ x, l[i]? = some x ∧ x.1.tk = t := fun {i t} ht => by
    rw [List.map_map, List.getElem?_map] at ht
    cases hx : l[i]? with
    | none => rw [hx] at ht; cases ht
    | some x => rw [hx] at ht; exact ⟨x, rfl, by simpa using ht⟩
  refine ⟨⟨ao, cap, by rw [hl], fun i t ht => ?_⟩, Cap.of_own ho, fun ao' n' cap' e i t ht g o e2 av hc => ?_⟩
  · obtain ⟨x, hx, rfl⟩ := hget ht
    obtain ⟨g, cap2, e, c0, c1, c2, c3, c4⟩ := hrow hx
    injection e with e1 _ _
    subst e1
    exact ⟨g, 0, x.2, rfl, (ho.lt g rfl).2, by rw [Nat.zero_add]; exact c0, by rw [Nat.zero_add]; exact c1, by rw [Nat.zero_add]; exact c2, by rw [Nat.zero_add]; exact c3, by rw [Nat.zero_add]; exact c4, (ha x (List.mem_of_getElem? hx)).lt fun b hb => hb⟩
  · obtain ⟨x, hx, rfl⟩ := hget ht
    obtain ⟨g', cap2, e', _, _, c2, _, _⟩ := hrow hx
    rw [e] at e'
    injection e' with e1 _ _
    rw [e2] at e1
    injection e1 with e1
    injection e1 with e3 e4
    subst e3
    subst e4
    rw [Nat.zero_add, c2] at hc
    injection hc with hc
    obtain ⟨a, c, e5, h1, _⟩ := ha x (List.mem_of_getElem? hx)
    rw [← hc, e5]
    exact Cap.mk h1

set_option maxHeartbeats 4000000 in
set_option maxRecDepth 1000000 in
theorem show_text (v : Value) (l : List U.Nd) (w : World) (hR : RdNs w (· < w.heap.size) v l) (hl : U.cntL l ≤ 1048576) :
    Calls Try.prog 18 #[v] w fun e w' => e = .returned (.tuple #[.string ⟨(U.showText l).1.toArray⟩, .int .i64 ((U.showText l).2 : Nat)]) ∧ Below w.heap.size w w' := by
  have H1 := Lib.hid (show_check v l w hR hl)
  have H2 := Lib.hid (fun (W : World) (hB : Below w.heap.size w W) => append_tokens _ l (Nat.le_refl _) hl W.heap.size (.slice none 0 0) [] v W (World.ownsRow_nil _ _ _ _) (Nat.le_refl _) (hR.below hB hB.size) (by simp; omega))
  obtain ⟨ao, cap, rfl⟩ : ∃ ao cap, v = .slice ao l.length cap := by obtain ⟨a, b, e, _⟩ := hR; exact ⟨a, b, e⟩
  obtain ⟨R, hRR⟩ : ∃ R, U.showText l = R := ⟨_, rfl⟩
  rw [hRR]
  obtain ⟨R1, R2⟩ := R
  have HRR := Lib.hid hRR
  clear hR hRR
  go_enter Try.func18, Try.ntmps18
  go_wp2_with fail
  refine H1.out.mono ?_
  rintro e w1 ⟨rfl, hb1⟩
  clear H1
  by_cases h0 : U.showFault l = 0
  · have hst := U.show_textOf h0
    have hok := U.show_ok h0
    have hFz : ((U.showFault l : Nat) : Int) = 0 := by omega
    have HST := Lib.hid (hst.trans HRR.out)
    have HOK := Lib.hid hok
    clear hst hok h0
    go_wp2_with fail
    refine (H2.out _ hb1).mono ?_
    rintro e w2 ⟨v2, ys, rfl, hT, hY⟩
    obtain ⟨vo2, vcap2, rfl⟩ := own_form hT.own
    have hE : Calls Try.prog 11 #[.slice vo2 ([] ++ ys).length vcap2] w2 fun e w' => e = .returned (.tuple #[.string ⟨R1.toArray⟩, .int .i64 (R2 : Nat)]) ∧ Below w2.heap.size w2 w' := by
      have hk := rdKC_row (l := [] ++ ys) hT.own (fun x hx => (hT.atts x (by simpa using hx)).keep (fun p hp => hT.below.cell hp) (fun b hb => Nat.lt_of_lt_of_le hb hT.grown.size))
      have h3 := etext_walk _ _ w2 hk (by rw [List.length_map, List.length_map]; have := congrArg List.length hY; rw [List.length_map] at this; have h4 := HOK.out.2.1; unfold most; simp; omega) (fun t ht => by
        obtain ⟨x, hx, rfl⟩ := List.mem_map.1 ht
        obtain ⟨y, hy, rfl⟩ := List.mem_map.1 hx
        obtain ⟨a, c, e5, h1, h2, _⟩ := hT.atts y (by simpa using hy)
        show y.1.attrs.length ≤ most
        unfold most
        unfold maxLen at h2
        omega)
      rw [show (([] ++ ys : List (U.Tok × Value)).map (·.1)) = U.lToks l from by rw [List.nil_append]; exact hY, HST.out] at h3
      exact h3
    have t2 := hb1.trans ((hT.below).mono hb1.size)
    have HE := Lib.hid hE
    clear hE hT hY H2 hb1
    go_wp2_with fail
    refine HE.out.mono ?_
    rintro e w3 ⟨rfl, hb3⟩
    have t3 := t2.trans (hb3.mono t2.size)
    clear HE hb3 t2
    go_wp2_with fail
    go_ret2
    exact ⟨rfl, t3⟩
  · have h1 := HRR.out
    unfold U.showText at h1
    rw [if_neg h0] at h1
    injection h1 with h2 h3
    subst h2
    rw [h3] at h0 ⊢
    have hne : (((R2 : Nat) : Int) != 0) = true := bne_iff_ne.2 (by omega)
    clear H2 h0 h3 HRR
    go_wp2_with fail
    go_ret2
    exact ⟨rfl, hb1⟩

end Go.Proofs.Ytmfkefcdddoooaa

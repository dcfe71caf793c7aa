/- Plain mathematics: nodes shown one by one; a copy of nodes. -/
import Derived.Test.YtmfkefcdddoooaaShowText
import Derived.Test.YtmfkefcdddoooaaShowRefText
import Derived.Test.YtmfkefcdddoooaaCount5
namespace Go.Proofs.Ytmfkefcdddoooaa
open Go.RowKit

namespace U
theorem nodeFault_false {prev : Bool} {D : Nat} {n : Nd} (h : nodeFault prev D n = 0) : nodeFault false D n = 0 := by
  unfold nodeFault at h ⊢
  split
  · rename_i hd
    rw [if_pos hd] at h
    cases h
  · rename_i hd
    rw [if_neg hd] at h
    split
    · rename_i hn
      rw [if_pos hn] at h
      rw [if_neg]
      rintro (e | e | e | e)
      · rw [if_pos (.inl e)] at h; cases h
      · rw [if_pos (.inr (.inl e))] at h; cases h
      · rw [if_pos (.inr (.inr (.inl e)))] at h; cases h
      · cases e
    · rename_i hn
      rw [if_neg hn] at h
      exact h
theorem lFault_false {prev : Bool} {D : Nat} : ∀ {l : List Nd}, lFault prev D l = 0 → lFault false D l = 0
  | [], _ => lFault_nil _ _
  | n :: r, h => by
    rw [lFault_cons] at h ⊢
    by_cases h0 : ndFault prev D n = 0
    · rw [if_pos h0] at h
      have h1 : ndFault false D n = 0 := by
        rw [ndFault_eq] at h0 ⊢
        by_cases h2 : nodeFault prev D n = 0
        · rw [if_pos h2] at h0
          rw [if_pos (nodeFault_false h2)]
          exact h0
        · rw [if_neg h2] at h0
          exact absurd h0 h2
      rw [if_pos h1]
      exact h
    · rw [if_neg h0] at h
      exact absurd h h0
theorem lFault_tail {prev : Bool} {D : Nat} {n : Nd} {r : List Nd} (h : lFault prev D (n :: r) = 0) : ndFault prev D n = 0 ∧ lFault n.name.isEmpty D r = 0 := by
  rw [lFault_cons] at h
  by_cases h0 : ndFault prev D n = 0
  · rw [if_pos h0] at h; exact ⟨h0, h⟩
  · rw [if_neg h0] at h; exact absurd h h0
theorem lFault_take {D : Nat} : ∀ (l : List Nd) (k : Nat) (prev : Bool), lFault prev D l = 0 → lFault prev D (l.take k) = 0
  | [], k, _, _ => by rw [List.take_nil]; exact lFault_nil _ _
  | n :: r, 0, _, _ => lFault_nil _ _
  | n :: r, k + 1, prev, h => by
    obtain ⟨h1, h2⟩ := lFault_tail h
    rw [List.take_succ_cons, lFault_cons, if_pos h1]
    exact lFault_take r k _ h2
theorem lFault_drop {D : Nat} : ∀ (l : List Nd) (k : Nat) (prev : Bool), lFault prev D l = 0 → lFault false D (l.drop k) = 0
  | [], k, _, _ => by rw [List.drop_nil]; exact lFault_nil _ _
  | n :: r, 0, _, h => lFault_false h
  | n :: r, k + 1, prev, h => by
    rw [List.drop_succ_cons]
    exact lFault_drop r k _ (lFault_tail h).2
theorem ok_text {l : List Nd} (h : lFault false 0 l = 0) (hc : cntL l ≤ 150) : showFault l = 0 ∧ showText l = if 600 < (shown l).length then ([], 1) else (shown l, 0) := by
  have h0 : showFault l = 0 := by unfold showFault; rw [if_pos h, if_neg (by omega)]
  exact ⟨h0, by unfold showText; rw [if_pos h0]; rfl⟩
theorem shown_split (l : List Nd) (k : Nat) : shown l = shown (l.take k) ++ shown (l.drop k) := by
  unfold shown
  rw [← emit_append, ← lToks_append, List.take_append_drop]
theorem cnt_split (l : List Nd) (k : Nat) : cntL l = cntL (l.take k) + cntL (l.drop k) := by
  rw [← cntL_append, List.take_append_drop]
theorem shown_em (l : List Nd) : shown [.mk [101, 109] [] [] l] = [60, 101, 109, 62] ++ shown l ++ [60, 47, 101, 109, 62] := by
  unfold shown
  rw [lToks_cons, lToks_nil, List.append_nil, emit_nd, if_neg (show ¬ (Nd.mk [101, 109] [] [] l).name = [] from fun h => by cases h), if_neg (show ¬ isVoid (Nd.mk [101, 109] [] [] l).name = true from by show ¬ isVoid [101, 109] = true; decide)]
  show startE [101, 109] [] false ++ (shown l ++ endE [101, 109]) = _
  simp [startE, endE, tailE, shown]
theorem em_fault {l : List Nd} (h : lFault false 1 l = 0) : lFault false 0 [.mk [101, 109] [] [] l] = 0 := by
  have h1 : ndFault false 0 (.mk [101, 109] [] [] l) = 0 := by
    rw [ndFault_eq]
    have h2 : nodeFault false 0 (.mk [101, 109] [] [] l) = 0 := by
      unfold nodeFault
      rw [if_neg (by decide), if_neg (show ¬ (Nd.mk [101, 109] [] [] l).name = [] from fun h => by cases h), elemFault_zero]
      exact ⟨by show isName [101, 109] = true; decide, ⟨(fun a ha => by cases ha), by show 0 ≤ 4; decide, List.Pairwise.nil⟩, rfl, by show rawName [101, 109] = false; decide, fun h => absurd h (by show ¬ isVoid [101, 109] = true; decide)⟩
    rw [h2, if_pos rfl]
    exact h
  rw [lFault_cons, if_pos h1]
  exact lFault_nil _ _
theorem br_text : showText [.mk [98, 114] [] [] []] = ([60, 98, 114, 62], 0) := by
  have h := ok_text (l := [.mk [98, 114] [] [] []]) (by
    have h1 : ndFault false 0 (.mk [98, 114] [] [] []) = 0 := by
      rw [ndFault_eq]
      have h2 : nodeFault false 0 (.mk [98, 114] [] [] []) = 0 := by
        unfold nodeFault
        rw [if_neg (by decide), if_neg (show ¬ (Nd.mk [98, 114] [] [] []).name = [] by decide), elemFault_zero]
        exact ⟨by decide, ⟨(fun a ha => by cases ha), by show 0 ≤ 4; decide, List.Pairwise.nil⟩, rfl, by decide, fun _ => rfl⟩
      rw [h2, if_pos rfl]
      exact lFault_nil _ _
    rw [lFault_cons, if_pos h1]
    exact lFault_nil _ _) (by rw [cntL_cons, cntN_eq, cntL_nil]; show 1 + cntL [] + 0 ≤ 150; rw [cntL_nil]; decide)
  have he : shown [.mk [98, 114] [] [] []] = [60, 98, 114, 62] := by
    unfold shown
    rw [lToks_cons, lToks_nil, List.append_nil, emit_nd, if_neg (show ¬ (Nd.mk [98, 114] [] [] []).name = [] by decide), if_pos (show isVoid (Nd.mk [98, 114] [] [] []).name = true by decide)]
    rfl
  rw [h.2, he, if_neg (by decide)]
end U

/-- append([]api.Node(nil), l...) -/
theorem copy_nodes (W : World) (ao : Option Addr) (cap : Nat) (l : List U.Nd) (hR : RdNs W (· < W.heap.size) (.slice ao l.length cap) l) (hl : l.length ≤ 1048576) :
    ∃ (a : Option Addr) (c : Nat) (w' : World), (Builtin.append_ #[33, 33] 33 #[.slice none 0 0, .slice ao l.length cap]).run Try.prog W = .ok (.slice a l.length c) w' ∧ RdNs w' (· < w'.heap.size) (.slice a l.length c) l ∧ Below W.heap.size W w' := by
  obtain ⟨v', w', ys, h1, h2, h3, h4, h5⟩ := app_nodes W W.heap.size (.slice none 0 0) [] (World.ownsRow_nil _ _ _ _) (Nat.le_refl _) ao cap l (· < W.heap.size) hR (by simp; exact hl)
  have hyl : ys.length = l.length := by rw [← h4, List.length_map]
  have hb : Below W.heap.size W w' := (Below.refl _ W).grown h3 (Nat.le_refl _) (fun k hk => by cases hk)
  rw [List.nil_append] at h2
  have h6 := RdNs.of_own (S := (· < w'.heap.size)) h2 (fun x hx => (h5 x hx).keep (fun p hp => hb.cell hp) (fun b hb' => Nat.lt_of_lt_of_le hb' hb.size)) (fun g hg => (h2.lt g hg).2)
  rw [h4] at h6
  obtain ⟨a, c, rfl, h7⟩ := id h6
  exact ⟨a, c, w', h1, h6, hb⟩

end Go.Proofs.Ytmfkefcdddoooaa

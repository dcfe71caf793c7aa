/- Plain mathematics: nodes as the maker of keep makes them. -/
import Derived.Test.YtmfkefcdddoooaaShowMath
namespace Go.Proofs.Ytmfkefcdddoooaa
namespace U

theorem lastB_endT : ∀ (l : List Nd) (prev : Bool), lastB prev l = if l = [] then prev else endT l
  | [], _ => rfl
  | [a], _ => rfl
  | a :: b :: r, prev => by
    rw [lastB, lastB_endT (b :: r), if_neg (by simp), if_neg (by simp)]
    unfold endT
    rw [List.getLast?_cons_cons]
theorem lFault_snoc (D : Nat) (x : Nd) : ∀ (l : List Nd) (prev : Bool), lFault prev D l = 0 → ndFault (lastB prev l) D x = 0 → lFault prev D (l ++ [x]) = 0
  | [], prev, _, h => by
    rw [List.nil_append, lFault_cons]
    have h' : ndFault prev D x = 0 := h
    rw [if_pos h', lFault_nil]
  | a :: r, prev, h0, h => by
    rw [lFault_cons] at h0
    by_cases ha : ndFault prev D a = 0
    · rw [if_pos ha] at h0
      rw [List.cons_append, lFault_cons, if_pos ha]
      exact lFault_snoc D x r _ h0 h
    · rw [if_neg ha] at h0
      exact absurd h0 ha
theorem lFault_snoc0 {D : Nat} {x : Nd} {l : List Nd} (h0 : lFault false D l = 0) (h : ndFault (endT l) D x = 0) : lFault false D (l ++ [x]) = 0 := by
  refine lFault_snoc D x l false h0 ?_
  rw [lastB_endT]
  split
  · rename_i e; subst e; exact h
  · exact h
/-- how many nodes one may have within it -/
def room : Nat → Nat
  | 0 => 1
  | 1 => 1
  | d + 2 => 1 + 4 * room (d + 1)
mutual
/-- the maker's names -/
def plainN : Nd → Prop | .mk n _ _ p => n ≠ [108, 105] ∧ plainL p
def plainL : List Nd → Prop | [] => True | n :: r => plainN n ∧ plainL r
end
theorem plainL_append : ∀ (a b : List Nd), plainL a → plainL b → plainL (a ++ b)
  | [], b, _, h => h
  | n :: r, b, h, h2 => by
    rw [plainL] at h
    rw [List.cons_append, plainL]
    exact ⟨h.1, plainL_append r b h.2 h2⟩
/-- nodes as they are made, at most n of them, nested in at most deep -/
structure Made (deep n : Nat) (l : List Nd) : Prop where
  len : l.length ≤ n
  cnt : cntL l ≤ l.length * room deep
  ok : ∀ D, D + deep ≤ 10 → lFault false D l = 0
  names : plainL l
theorem Made.nil (deep n : Nat) : Made deep n [] := ⟨Nat.zero_le _, by rw [cntL_nil]; exact Nat.zero_le _, fun D _ => lFault_nil _ _, by rw [plainL]; trivial⟩
theorem Made.snoc {deep n : Nat} {l : List Nd} {x : Nd} (h : Made deep n l) (hl : l.length < n) (hc : cntN x ≤ room deep) (ho : ∀ D, D + deep ≤ 10 → ndFault (endT l) D x = 0) (hn : plainN x) : Made deep n (l ++ [x]) := by
  refine ⟨by simp; omega, ?_, fun D hD => lFault_snoc0 (h.ok D hD) (ho D hD), plainL_append _ _ h.names (by rw [plainL, plainL]; exact ⟨hn, trivial⟩)⟩
  rw [cntL_append, cntL_cons, cntL_nil, List.length_append, List.length_singleton, Nat.add_mul]
  have := h.cnt
  omega
theorem room_pos : ∀ (d : Nat), 1 ≤ room d
  | 0 => Nat.le_refl _
  | 1 => Nat.le_refl _
  | d + 2 => by rw [room]; omega
theorem made_text {deep : Nat} {l : List Nd} {t : List UInt8} (hd : 1 ≤ deep) (ht : t ≠ []) (he : endT l = false) : cntN (.mk [] [] t []) ≤ room deep ∧ (∀ D, D + deep ≤ 10 → ndFault (endT l) D (.mk [] [] t []) = 0) ∧ plainN (.mk [] [] t []) := by
  refine ⟨by rw [cntN, cntL_nil]; exact room_pos deep, fun D hD => ?_, by rw [plainN, plainL]; exact ⟨by decide, trivial⟩⟩
  rw [ndFault_eq]
  have h1 : nodeFault (endT l) D (.mk [] [] t []) = 0 := by
    unfold nodeFault
    rw [if_neg (by omega), if_pos (show (Nd.mk [] [] t []).name = [] from rfl), if_neg]
    rintro (h | h | h | h)
    · exact h rfl
    · exact h rfl
    · exact ht h
    · rw [he] at h; cases h
  rw [h1, if_pos rfl]
  exact lFault_nil _ _
theorem made_elem {deep : Nat} {l p : List Nd} {nm : List UInt8} {al : List Att} (hd : 1 ≤ deep) (hn : isName nm = true) (ha : attsOk al) (hr : rawName nm = false) (hli : nm ≠ [108, 105]) (hv : isVoid nm = true → p = []) (hc : 1 + cntL p ≤ room deep) (hp : ∀ D, D + deep ≤ 10 → lFault false (D + 1) p = 0) (hpn : plainL p) :
    cntN (.mk nm al [] p) ≤ room deep ∧ (∀ D, D + deep ≤ 10 → ndFault (endT l) D (.mk nm al [] p) = 0) ∧ plainN (.mk nm al [] p) := by
  refine ⟨by rw [cntN]; exact hc, fun D hD => ?_, by rw [plainN]; exact ⟨hli, hpn⟩⟩
  rw [ndFault_eq]
  have h1 : nodeFault (endT l) D (.mk nm al [] p) = 0 := by
    unfold nodeFault
    rw [if_neg (by omega), if_neg (fun e => by have e' : nm = [] := e; rw [e'] at hn; cases hn), elemFault_zero]
    exact ⟨hn, ha, rfl, hr, hv⟩
  rw [h1, if_pos rfl]
  exact hp D hD
theorem Made.in {deep : Nat} {p : List Nd} (hd : 1 ≤ deep) (h : Made deep 4 p) : 1 + cntL p ≤ room (deep + 1) ∧ (∀ D, D + (deep + 1) ≤ 10 → lFault false (D + 1) p = 0) := by
  refine ⟨?_, fun D hD => h.ok (D + 1) (by omega)⟩
  have h1 := h.cnt
  have h2 := h.len
  have h3 : p.length * room deep ≤ 4 * room deep := Nat.mul_le_mul_right _ h2
  cases deep with
  | zero => omega
  | succ d => rw [show room (d + 1 + 1) = 1 + 4 * room (d + 1) from rfl]; omega

end U
end Go.Proofs.Ytmfkefcdddoooaa

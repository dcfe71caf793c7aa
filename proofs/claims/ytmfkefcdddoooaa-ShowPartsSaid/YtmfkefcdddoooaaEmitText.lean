/- Plain mathematics: the text of tokens, as it is asked for and as it is written with its texts cut. -/
import Derived.Test.YtmfkefcdddoooaaFaultAt
namespace Go.Proofs.Ytmfkefcdddoooaa
namespace U

def textOf (l : List Tk) : List UInt8 × Nat := if fault l = 0 then (if 600 < (emit (l.map Tk.tok)).length then ([], 1) else (emit (l.map Tk.tok), 0)) else ([], fault l)
/-- an attribute, a token as they are written with their texts cut -/
def attC (a : Att) : List UInt8 := 32 :: (a.1 ++ 61 :: 34 :: (esc true (a.2.take 601) ++ [34]))
def startC (n : List UInt8) (al : List Att) (self : Bool) : List UInt8 := 60 :: (n ++ (al.flatMap attC ++ tailE self))
def tokC (t : Tk) : List UInt8 := if t.kind = 3 then esc false (t.text.take 601) else if t.kind = 2 then endE t.name else startC t.name t.attrs t.self

theorem esc_take (q : Bool) (v : List UInt8) : (esc q (v.take 601)).length ≤ (esc q v).length ∧ ((esc q (v.take 601)).length ≤ 600 → esc q (v.take 601) = esc q v) := by
  have h : esc q v = esc q (v.take 601) ++ esc q (v.drop 601) := by rw [← esc_append, List.take_append_drop]
  refine ⟨by rw [h, List.length_append]; omega, fun hl => ?_⟩
  have h1 := (esc_length q (v.take 601)).1
  rw [List.take_of_length_le (by rw [List.length_take] at h1; omega)]
theorem attC_cut (a : Att) : (attC a).length ≤ (attE a).length ∧ ((attC a).length ≤ 600 → attC a = attE a) := by
  obtain ⟨h1, h2⟩ := esc_take true a.2
  have l1 : (attC a).length = a.1.length + (esc true (a.2.take 601)).length + 4 := by simp [attC]; omega
  have l2 : (attE a).length = a.1.length + (esc true a.2).length + 4 := by simp [attE]; omega
  refine ⟨by omega, fun h => ?_⟩
  unfold attC attE
  rw [h2 (by omega)]
theorem atts_cut (al : List Att) : (al.flatMap attC).length ≤ (al.flatMap attE).length ∧ ((al.flatMap attC).length ≤ 600 → al.flatMap attC = al.flatMap attE) := by
  induction al with
  | nil => exact ⟨Nat.le_refl _, fun _ => rfl⟩
  | cons a r ih =>
    obtain ⟨h1, h2⟩ := attC_cut a
    have e1 : (a :: r).flatMap attC = attC a ++ r.flatMap attC := by simp
    have e2 : (a :: r).flatMap attE = attE a ++ r.flatMap attE := by simp
    rw [e1, e2, List.length_append, List.length_append]
    refine ⟨by omega, fun h => ?_⟩
    rw [h2 (by omega), ih.2 (by omega)]
theorem tokC_cut {t : Tk} (hk : t.kind = 1 ∨ t.kind = 2 ∨ t.kind = 3) : (tokC t).length ≤ (tokE t.tok).length ∧ ((tokC t).length ≤ 600 → tokC t = tokE t.tok) := by
  obtain ⟨kind, name, attrs, self, text⟩ := t
  simp only at hk
  rcases hk with rfl | rfl | rfl
  · have e1 : tokC ⟨1, name, attrs, self, text⟩ = startC name attrs self := rfl
    have e2 : tokE (Tk.tok ⟨1, name, attrs, self, text⟩) = startE name attrs self := rfl
    obtain ⟨h1, h2⟩ := atts_cut attrs
    rw [e1, e2]
    have l1 : (startC name attrs self).length = name.length + (attrs.flatMap attC).length + (tailE self).length + 1 := by simp only [startC, List.length_cons, List.length_append]; omega
    have l2 : (startE name attrs self).length = name.length + (attrs.flatMap attE).length + (tailE self).length + 1 := by simp only [startE, List.length_cons, List.length_append]; omega
    refine ⟨by omega, fun h => ?_⟩
    unfold startC startE
    rw [h2 (by omega)]
  · have e1 : tokC ⟨2, name, attrs, self, text⟩ = endE name := rfl
    have e2 : tokE (Tk.tok ⟨2, name, attrs, self, text⟩) = endE name := rfl
    rw [e1, e2]
    exact ⟨Nat.le_refl _, fun _ => rfl⟩
  · have e1 : tokC ⟨3, name, attrs, self, text⟩ = esc false (text.take 601) := rfl
    have e2 : tokE (Tk.tok ⟨3, name, attrs, self, text⟩) = esc false text := rfl
    rw [e1, e2]
    exact esc_take false text
/-- what each token is where nothing is refused -/
theorem faults_tok : ∀ (l : List Tk) (prev : Bool), faults prev l = 0 → ∀ t ∈ l, t.kind = 3 ∨ (t.kind = 2 ∧ isName t.name = true ∧ attsOk t.attrs) ∨ (t.kind = 1 ∧ isName t.name = true ∧ attsOk t.attrs)
  | [], _, _, t, ht => by cases ht
  | a :: r, prev, h, t, ht => by
    rw [faults_cons] at h
    split at h
    · rename_i h0
      rcases List.mem_cons.1 ht with rfl | ht
      · unfold faultAt at h0
        by_cases h12 : t.kind = 1 ∨ t.kind = 2
        · rw [if_pos h12] at h0
          split at h0
          · rename_i hn
            obtain ⟨h1, h2⟩ := namesFault_zero.1 hn
            rcases h12 with k | k
            · exact .inr (.inr ⟨k, h1, h2⟩)
            · exact .inr (.inl ⟨k, h1, h2⟩)
          · rename_i hn; exact absurd h0 hn
        · rw [if_neg h12] at h0
          by_cases h34 : t.kind = 3 ∨ t.kind = 4
          · rcases h34 with k | k
            · exact .inl k
            · rw [if_pos (.inr k), form4_zero, formOk_four k] at h0
              cases h0
          · rw [if_neg h34] at h0
            cases h0
      · exact faults_tok r _ h t ht
    · rename_i h0; exact absurd h h0
theorem isName_le {n : List UInt8} (h : isName n = true) : n.length ≤ 12 := by
  cases n with
  | nil => exact Nat.zero_le _
  | cons c r =>
    unfold isName at h
    rw [Bool.and_eq_true, decide_eq_true_eq] at h
    rw [List.length_cons]
    omega
theorem emit_take {l : List Tk} {k : Nat} {t : Tk} (h : l[k]? = some t) : emit ((l.take (k + 1)).map Tk.tok) = emit ((l.take k).map Tk.tok) ++ tokE t.tok := by
  obtain ⟨hk, e⟩ := List.getElem?_eq_some_iff.1 h
  rw [List.take_succ_eq_append_getElem hk, e, List.map_append, emit_append]
  congr 1
  simp [emit]
theorem emit_le (l : List Tk) (k : Nat) : (emit ((l.take k).map Tk.tok)).length ≤ (emit (l.map Tk.tok)).length := by
  have h : emit (l.map Tk.tok) = emit ((l.take k).map Tk.tok) ++ emit ((l.drop k).map Tk.tok) := by rw [← emit_append, ← List.map_append, List.take_append_drop]
  rw [h, List.length_append]
  omega

end U
end Go.Proofs.Ytmfkefcdddoooaa

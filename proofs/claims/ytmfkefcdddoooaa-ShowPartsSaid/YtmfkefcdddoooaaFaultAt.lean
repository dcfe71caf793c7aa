/- Plain mathematics: one round of the check. -/
import Derived.Test.YtmfkefcdddoooaaFaultMath
namespace Go.Proofs.Ytmfkefcdddoooaa
namespace U

/-- does a text end the list -/
def endB (l : List Tk) : Bool := match l.getLast? with
  | some t => t.kind == 3
  | none => false
theorem endB_zero (l : List Tk) : endB (l.take 0) = false := by rw [List.take_zero]; rfl
theorem endB_succ {l : List Tk} {k : Nat} {t : Tk} (h : l[k]? = some t) : endB (l.take (k + 1)) = (t.kind == 3) := by
  obtain ⟨hk, e⟩ := List.getElem?_eq_some_iff.1 h
  unfold endB
  rw [List.take_succ_eq_append_getElem hk, e, List.getLast?_concat]
theorem faults_at {l : List Tk} {k : Nat} {t : Tk} (prev : Bool) (h : l[k]? = some t) : faults prev (l.drop k) = if faultAt prev t (l.drop (k + 1)) = 0 then faults (t.kind == 3) (l.drop (k + 1)) else faultAt prev t (l.drop (k + 1)) := by
  obtain ⟨hk, e⟩ := List.getElem?_eq_some_iff.1 h
  rw [List.drop_eq_getElem_cons hk, e, faults_cons]
theorem faults_go {l : List Tk} {k R : Nat} {t : Tk} (h : l[k]? = some t) (hR : faults (endB (l.take k)) (l.drop k) = R) (h0 : faultAt (endB (l.take k)) t (l.drop (k + 1)) = 0) : faults (endB (l.take (k + 1))) (l.drop (k + 1)) = R := by
  rw [faults_at _ h, if_pos h0] at hR
  rw [endB_succ h]
  exact hR
theorem faults_stop {l : List Tk} {k R m : Nat} {t : Tk} (h : l[k]? = some t) (hR : faults (endB (l.take k)) (l.drop k) = R) (h0 : faultAt (endB (l.take k)) t (l.drop (k + 1)) = m) (hm : m ≠ 0) : R = m := by
  rw [faults_at _ h, h0, if_neg hm] at hR
  exact hR.symm
theorem isEndB_none {l : List Tk} {k : Nat} (n : List UInt8) (h : l.length ≤ k) : isEndB n (l.drop k) = false := by
  rw [List.drop_eq_nil_of_le h]; rfl
theorem isEndB_some {l : List Tk} {k : Nat} {t : Tk} (n : List UInt8) (h : l[k]? = some t) : isEndB n (l.drop k) = (t.kind == 2 && t.name == n) := by
  obtain ⟨hk, e⟩ := List.getElem?_eq_some_iff.1 h
  rw [List.drop_eq_getElem_cons hk, e]; rfl
variable {prev : Bool} {t : Tk} {r : List Tk}
theorem faultAt_kind (h1 : t.kind ≠ 1) (h2 : t.kind ≠ 2) (h3 : t.kind ≠ 3) (h4 : t.kind ≠ 4) : faultAt prev t r = 3 := by
  unfold faultAt
  rw [if_neg (by omega), if_neg (by omega)]
theorem faultAt_name (h : t.kind = 1 ∨ t.kind = 2) (hn : isName t.name = false) : faultAt prev t r = 5 := by
  unfold faultAt namesFault
  rw [if_pos h, hn]
  rfl
theorem faultAt_atts (h : t.kind = 1 ∨ t.kind = 2) (hn : isName t.name = true) (ha : attrsFault t.attrs ≠ 0) : faultAt prev t r = attrsFault t.attrs := by
  unfold faultAt namesFault
  rw [if_pos h, if_pos hn, if_neg ha]
theorem faultAt_tag (h : t.kind = 1 ∨ t.kind = 2) (hn : isName t.name = true) (ha : attrsFault t.attrs = 0) : faultAt prev t r = form4 prev t r := by
  unfold faultAt namesFault
  rw [if_pos h, if_pos hn, if_pos ha]
theorem faultAt_text (h : t.kind = 3 ∨ t.kind = 4) : faultAt prev t r = form4 prev t r := by
  unfold faultAt
  rw [if_neg (by omega), if_pos h]
theorem form4_no (h : formOk prev t r = false) : form4 prev t r = 4 := by unfold form4; rw [h]; rfl
theorem form4_yes (h : formOk prev t r = true) : form4 prev t r = 0 := by unfold form4; rw [h]; rfl
theorem formOk_one (h : t.kind = 1) : formOk prev t r = (t.text.isEmpty && (!rawName t.name || isEndB t.name r)) := by unfold formOk; rw [if_pos h]
theorem formOk_two (h : t.kind = 2) : formOk prev t r = (t.text.isEmpty && (t.attrs.isEmpty && !t.self)) := by unfold formOk; rw [if_neg (by omega), if_pos h]
theorem formOk_three (h : t.kind = 3) : formOk prev t r = (!t.text.isEmpty && (t.name.isEmpty && (t.attrs.isEmpty && !t.self && !prev))) := by unfold formOk; rw [if_neg (by omega), if_neg (by omega), if_pos h]
theorem formOk_four (h : t.kind = 4) : formOk prev t r = false := by unfold formOk; rw [if_neg (by omega), if_neg (by omega), if_neg (by omega)]
theorem rawName_cases {n : List UInt8} (h : rawName n = true) : n = [115, 99, 114, 105, 112, 116] ∨ n = [115, 116, 121, 108, 101] ∨ n = [116, 101, 120, 116, 97, 114, 101, 97] ∨ n = [116, 105, 116, 108, 101] := by
  unfold rawName at h
  simp only [Bool.or_eq_true, beq_iff_eq] at h
  rcases h with ((h | h) | h) | h
  · exact .inl h
  · exact .inr (.inl h)
  · exact .inr (.inr (.inl h))
  · exact .inr (.inr (.inr h))
theorem rawName_no {n : List UInt8} (h : rawName n = false) : (n == [115, 99, 114, 105, 112, 116]) = false ∧ (n == [115, 116, 121, 108, 101]) = false ∧ (n == [116, 101, 120, 116, 97, 114, 101, 97]) = false ∧ (n == [116, 105, 116, 108, 101]) = false := by
  unfold rawName at h
  simp only [Bool.or_eq_false_iff] at h
  exact ⟨h.1.1.1, h.1.1.2, h.1.2, h.2⟩

end U
end Go.Proofs.Ytmfkefcdddoooaa

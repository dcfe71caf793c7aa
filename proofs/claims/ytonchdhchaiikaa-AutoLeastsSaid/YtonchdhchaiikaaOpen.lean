/- The arguments of a law, opened: texts, bools, a number; and what the bound gives of them. -/
import Derived.Test.YtonchdhchaiikaaLaw
namespace Go.Proofs.Ytonchdhchaiikaa
open Go.ChangeShapes Go.WideShapes Go.ChangeAt Go.RowKit
open Go.ChangeMaps (open_string shut_string)

section
variable {H : Type} {enc : TypeId × Value → H} {P : Program}

/-- a string, a bool -/
theorem open_string_bool {f : Func} {s : ChangeSpec} {apart : Bool} {t u : TypeId} {base : Nat} {W : World} {args : Array Value} {ds gs : List (DataW H)} {before : List MemPlace}
    (hp : f.params = #[t, u]) (ht : P.underlying t = some .string) (hu : P.underlying u = some .bool) (hv : s.vars = [])
    (hval : ∀ (j : Nat) t v, f.params[j]? = some t → args[j]? = some v → Value.okWide P W .any base t v)
    (hW : DataW.Whole enc P f.params.toList s.vars apart W args.toList ds gs before) :
    ∃ a : ByteArray, ∃ p : Bool, args = #[.string a, .bool p] ∧ ds = [.lit (.string a.data.toList), .lit (.bool p)] ∧ gs = [] ∧ a.size ≤ maxLen := by
  obtain ⟨p, q, hA, hV, _⟩ := hW
  rw [hp] at hA hval
  rw [hv] at hV
  obtain ⟨rfl, rfl⟩ := trodVars_none hV
  obtain ⟨v0, vs0, d0, ds0, p0, q0, hargs, rfl, rfl, h0, r0⟩ := trodAll_cons hA
  obtain ⟨v1, vs1, d1, ds1, p1, q1, rfl, rfl, rfl, h1, r1⟩ := trodAll_cons r0
  obtain ⟨rfl, rfl, rfl⟩ := trodAll_nil r1
  obtain rfl : args = #[v0, v1] := by cases args; simp_all
  obtain ⟨a, rfl, rfl, rfl, ha⟩ := open_string ht (hval 0 t v0 rfl rfl) h0
  obtain ⟨p, rfl, rfl, rfl⟩ := open_bool hu (hval 1 u v1 rfl rfl) h1
  exact ⟨a, p, rfl, rfl, rfl, ha⟩

/-- two strings, a bool -/
theorem open_two_strings_bool {f : Func} {s : ChangeSpec} {apart : Bool} {t u : TypeId} {base : Nat} {W : World} {args : Array Value} {ds gs : List (DataW H)} {before : List MemPlace}
    (hp : f.params = #[t, t, u]) (ht : P.underlying t = some .string) (hu : P.underlying u = some .bool) (hv : s.vars = [])
    (hval : ∀ (j : Nat) t v, f.params[j]? = some t → args[j]? = some v → Value.okWide P W .any base t v)
    (hW : DataW.Whole enc P f.params.toList s.vars apart W args.toList ds gs before) :
    ∃ a : ByteArray, ∃ b : ByteArray, ∃ p : Bool, args = #[.string a, .string b, .bool p] ∧ ds = [.lit (.string a.data.toList), .lit (.string b.data.toList), .lit (.bool p)] ∧ gs = [] ∧ a.size ≤ maxLen ∧ b.size ≤ maxLen := by
  obtain ⟨p, q, hA, hV, _⟩ := hW
  rw [hp] at hA hval
  rw [hv] at hV
  obtain ⟨rfl, rfl⟩ := trodVars_none hV
  obtain ⟨v0, vs0, d0, ds0, p0, q0, hargs, rfl, rfl, h0, r0⟩ := trodAll_cons hA
  obtain ⟨v1, vs1, d1, ds1, p1, q1, rfl, rfl, rfl, h1, r1⟩ := trodAll_cons r0
  obtain ⟨v2, vs2, d2, ds2, p2, q2, rfl, rfl, rfl, h2, r2⟩ := trodAll_cons r1
  obtain ⟨rfl, rfl, rfl⟩ := trodAll_nil r2
  obtain rfl : args = #[v0, v1, v2] := by cases args; simp_all
  obtain ⟨a, rfl, rfl, rfl, ha⟩ := open_string ht (hval 0 t v0 rfl rfl) h0
  obtain ⟨b, rfl, rfl, rfl, hb⟩ := open_string ht (hval 1 t v1 rfl rfl) h1
  obtain ⟨p, rfl, rfl, rfl⟩ := open_bool hu (hval 2 u v2 rfl rfl) h2
  exact ⟨a, b, p, rfl, rfl, rfl, ha, hb⟩

/-- a string, two bools -/
theorem open_string_two_bools {f : Func} {s : ChangeSpec} {apart : Bool} {t u : TypeId} {base : Nat} {W : World} {args : Array Value} {ds gs : List (DataW H)} {before : List MemPlace}
    (hp : f.params = #[t, u, u]) (ht : P.underlying t = some .string) (hu : P.underlying u = some .bool) (hv : s.vars = [])
    (hval : ∀ (j : Nat) t v, f.params[j]? = some t → args[j]? = some v → Value.okWide P W .any base t v)
    (hW : DataW.Whole enc P f.params.toList s.vars apart W args.toList ds gs before) :
    ∃ a : ByteArray, ∃ p : Bool, ∃ q : Bool, args = #[.string a, .bool p, .bool q] ∧ ds = [.lit (.string a.data.toList), .lit (.bool p), .lit (.bool q)] ∧ gs = [] ∧ a.size ≤ maxLen := by
  obtain ⟨p, q, hA, hV, _⟩ := hW
  rw [hp] at hA hval
  rw [hv] at hV
  obtain ⟨rfl, rfl⟩ := trodVars_none hV
  obtain ⟨v0, vs0, d0, ds0, p0, q0, hargs, rfl, rfl, h0, r0⟩ := trodAll_cons hA
  obtain ⟨v1, vs1, d1, ds1, p1, q1, rfl, rfl, rfl, h1, r1⟩ := trodAll_cons r0
  obtain ⟨v2, vs2, d2, ds2, p2, q2, rfl, rfl, rfl, h2, r2⟩ := trodAll_cons r1
  obtain ⟨rfl, rfl, rfl⟩ := trodAll_nil r2
  obtain rfl : args = #[v0, v1, v2] := by cases args; simp_all
  obtain ⟨a, rfl, rfl, rfl, ha⟩ := open_string ht (hval 0 t v0 rfl rfl) h0
  obtain ⟨p, rfl, rfl, rfl⟩ := open_bool hu (hval 1 u v1 rfl rfl) h1
  obtain ⟨q, rfl, rfl, rfl⟩ := open_bool hu (hval 2 u v2 rfl rfl) h2
  exact ⟨a, p, q, rfl, rfl, rfl, ha⟩

/-- a number -/
theorem open_one_int {f : Func} {s : ChangeSpec} {apart : Bool} {v : TypeId} {base : Nat} {W : World} {args : Array Value} {ds gs : List (DataW H)} {before : List MemPlace}
    (hp : f.params = #[v]) (hn : P.underlying v = some (.int .i64)) (hv : s.vars = [])
    (hval : ∀ (j : Nat) t v, f.params[j]? = some t → args[j]? = some v → Value.okWide P W .any base t v)
    (hW : DataW.Whole enc P f.params.toList s.vars apart W args.toList ds gs before) :
    ∃ n : Int, args = #[.int .i64 n] ∧ ds = [.lit (.int .i64 n)] ∧ gs = [] ∧ (Lit.int .i64 n).wf = true := by
  obtain ⟨p, q, hA, hV, _⟩ := hW
  rw [hp] at hA hval
  rw [hv] at hV
  obtain ⟨rfl, rfl⟩ := trodVars_none hV
  obtain ⟨v0, vs0, d0, ds0, p0, q0, hargs, rfl, rfl, h0, r0⟩ := trodAll_cons hA
  obtain ⟨rfl, rfl, rfl⟩ := trodAll_nil r0
  obtain rfl : args = #[v0] := by cases args; simp_all
  obtain ⟨n, rfl, rfl, rfl, hn⟩ := open_int hn (hval 0 v v0 rfl rfl) h0
  exact ⟨n, rfl, rfl, rfl, hn⟩
end

theorem short_sb {H : Type} {a : ByteArray} {p : Bool} (hk : Rows.uptoSmall H ([.lit (.string a.data.toList), .lit (.bool p)] ++ []) = true) : a.size ≤ 1048574 := by
  have h : Rows.uptoBulkAll ([DataW.lit (H := H) (.string a.data.toList), DataW.lit (H := H) (.bool p)] ++ []) ≤ 1048576 := of_decide_eq_true hk
  simp only [List.cons_append, List.nil_append, Rows.uptoBulkAll, Rows.uptoBulk] at h
  have ea : a.data.toList.length = a.size := by rw [Array.length_toList]; rfl
  omega

theorem short_ssb {H : Type} {a b : ByteArray} {p : Bool} (hk : Rows.uptoSmall H ([.lit (.string a.data.toList), .lit (.string b.data.toList), .lit (.bool p)] ++ []) = true) : a.size + b.size ≤ 1048573 := by
  have h : Rows.uptoBulkAll ([DataW.lit (H := H) (.string a.data.toList), DataW.lit (H := H) (.string b.data.toList), DataW.lit (H := H) (.bool p)] ++ []) ≤ 1048576 := of_decide_eq_true hk
  simp only [List.cons_append, List.nil_append, Rows.uptoBulkAll, Rows.uptoBulk] at h
  have ea : a.data.toList.length = a.size := by rw [Array.length_toList]; rfl
  have eb : b.data.toList.length = b.size := by rw [Array.length_toList]; rfl
  omega

theorem short_sbb {H : Type} {a : ByteArray} {p q : Bool} (hk : Rows.uptoSmall H ([.lit (.string a.data.toList), .lit (.bool p), .lit (.bool q)] ++ []) = true) : a.size ≤ 1048573 := by
  have h : Rows.uptoBulkAll ([DataW.lit (H := H) (.string a.data.toList), DataW.lit (H := H) (.bool p), DataW.lit (H := H) (.bool q)] ++ []) ≤ 1048576 := of_decide_eq_true hk
  simp only [List.cons_append, List.nil_append, Rows.uptoBulkAll, Rows.uptoBulk] at h
  have ea : a.data.toList.length = a.size := by rw [Array.length_toList]; rfl
  omega

end Go.Proofs.Ytonchdhchaiikaa

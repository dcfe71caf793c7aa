/- hidesText, isVoid, endsParagraph. -/
import Derived.Test.YtmfkefcdddoooaaNodeMath
import Derived.Test.YtmfkefcdddoooaaWords
import Derived.Test.YtmfkefcdddoooaaAtts
import Derived.Outline
namespace Go.Proofs.Ytmfkefcdddoooaa
open Go.RowKit

set_option maxHeartbeats 4000000 in
set_option maxRecDepth 1000000 in
theorem hides_walk (n : List UInt8) (w : World) : Calls Try.prog 62 #[.string ⟨n.toArray⟩] w fun e w' => e = .returned (.bool (U.hides n)) ∧ w = w' := by
  go_enter Try.func62, Try.ntmps62
  by_cases h1 : n = [115, 99, 114, 105, 112, 116]
  · subst h1
    go_wp2_with fail
    go_ret
    exact ⟨rfl, rfl⟩
  · go_wp2_with fail
    go_ret
    exact ⟨rfl, rfl⟩
theorem U.isVoid_no {n : List UInt8} (h : U.isVoid n = false) : (n == [98, 114]) = false ∧ (n == [104, 114]) = false ∧ (n == [105, 109, 103]) = false ∧ (n == [105, 110, 112, 117, 116]) = false := by
  simpa [U.isVoid, and_assoc] using h
theorem U.isVoid_yes {n : List UInt8} (h : U.isVoid n = true) : n = [98, 114] ∨ n = [104, 114] ∨ n = [105, 109, 103] ∨ n = [105, 110, 112, 117, 116] := by
  simpa [U.isVoid, or_assoc] using h

set_option maxHeartbeats 4000000 in
set_option maxRecDepth 1000000 in
theorem void_walk (n : List UInt8) (w : World) : Calls Try.prog 63 #[.string ⟨n.toArray⟩] w fun e w' => e = .returned (.bool (U.isVoid n)) ∧ w = w' := by
  cases hr : U.isVoid n with
  | false =>
    obtain ⟨r0, r1, r2, r3⟩ := U.isVoid_no hr
    clear hr
    go_enter Try.func63, Try.ntmps63
    go_wp2_with fail
    go_ret
    exact ⟨rfl, rfl⟩
  | true =>
    rcases U.isVoid_yes hr with rfl | rfl | rfl | rfl
    all_goals
      clear hr
      go_enter Try.func63, Try.ntmps63
      go_wp2_with fail
      go_ret
      exact ⟨rfl, rfl⟩
theorem U.endsPar_no {n : List UInt8} (h : U.endsPar n = false) : (n == [112]) = false ∧ (n == [100, 105, 118]) = false ∧ (n == [117, 108]) = false ∧ (n == [111, 108]) = false ∧ (n == [108, 105]) = false ∧ (n == [104, 49]) = false ∧ (n == [104, 50]) = false ∧ (n == [116, 97, 98, 108, 101]) = false ∧ (n == [98, 108, 111, 99, 107, 113, 117, 111, 116, 101]) = false := by
  simpa [U.endsPar, and_assoc] using h
theorem U.endsPar_yes {n : List UInt8} (h : U.endsPar n = true) : n = [112] ∨ n = [100, 105, 118] ∨ n = [117, 108] ∨ n = [111, 108] ∨ n = [108, 105] ∨ n = [104, 49] ∨ n = [104, 50] ∨ n = [116, 97, 98, 108, 101] ∨ n = [98, 108, 111, 99, 107, 113, 117, 111, 116, 101] := by
  simpa [U.endsPar, or_assoc] using h

set_option maxHeartbeats 4000000 in
set_option maxRecDepth 1000000 in
theorem par_walk (n : List UInt8) (w : World) : Calls Try.prog 78 #[.string ⟨n.toArray⟩] w fun e w' => e = .returned (.bool (U.endsPar n)) ∧ w = w' := by
  cases hr : U.endsPar n with
  | false =>
    obtain ⟨r0, r1, r2, r3, r4, r5, r6, r7, r8⟩ := U.endsPar_no hr
    clear hr
    go_enter Try.func78, Try.ntmps78
    go_wp2_with fail
    go_ret
    exact ⟨rfl, rfl⟩
  | true =>
    rcases U.endsPar_yes hr with rfl | rfl | rfl | rfl | rfl | rfl | rfl | rfl | rfl
    all_goals
      clear hr
      go_enter Try.func78, Try.ntmps78
      go_wp2_with fail
      go_ret
      exact ⟨rfl, rfl⟩

end Go.Proofs.Ytmfkefcdddoooaa

/- utf.Text: the walk. -/
import Derived.Test.YtmfbabbjcjdhbaaBuilder
import Derived.Test.YtmfbabbjcjdhbaaTextMath
import Derived.Laws.IdiomStrings
import Derived.Lib.BufferRead
import Derived.Outline
namespace Go.Proofs.Ytmfbabbjcjdhbaa
open Go.RowKit

/-- a row of bytes as a string -/
theorem str_of_row {w : World} {B : Nat} {v : Value} {l : List UInt8} (h : w.ownsRow B 5 1 v l.length (Lib.byteCells l)) :
    (convert 38 9 v).run Try.prog w = .ok (.string ⟨l.toArray⟩) w := by
  rcases h.2 with ⟨rfl, h0⟩ | ⟨g, cap, cur, rfl, hb, hg, _⟩
  · have : l = [] := List.length_eq_zero_iff.1 h0
    subst this
    exact Lib.run_convert_nil_bytes w _ _ _ 0 Try.underlying38 Try.underlying5 Try.underlying9
  · exact run_convert_bytes_back w _ _ _ _ cap l Try.underlying38 Try.underlying5 Try.underlying9 (fun j hj => by
      exact h.cells (g := g) rfl j _ (by simp [Lib.byteCells, hj]))

set_option maxRecDepth 100000 in
/-- isCodePoint -/
theorem code_point (n : Int) (w : World) : Calls Try.prog 23 #[.int .i64 n] w fun e w' => e = .returned (.bool (U.okI n)) ∧ w = w' := by
  by_cases h : 0 ≤ n ∧ n ≤ 1114111 ∧ (n < 55296 ∨ 57343 < n)
  · rw [show U.okI n = true from U.okI_iff.2 h]
    obtain ⟨h0, h1, h2 | h2⟩ := h
    · go_enter Try.func23, Try.ntmps23
      go_wp2
      go_ret
      exact ⟨rfl, rfl⟩
    · go_enter Try.func23, Try.ntmps23
      go_wp2
      go_ret
      exact ⟨rfl, rfl⟩
  · rw [show U.okI n = false from decide_eq_false h]
    by_cases h0 : 0 ≤ n
    · by_cases h1 : n ≤ 1114111
      · have h2 : 55296 ≤ n := by omega
        have h3 : n ≤ 57343 := by omega
        clear h
        go_enter Try.func23, Try.ntmps23
        go_wp2
        go_ret
        exact ⟨rfl, rfl⟩
      · have h2 : 1114112 ≤ n := by omega
        have h3 : decide (n ≤ 1114111) = false := decide_eq_false h1
        clear h h1
        go_enter Try.func23, Try.ntmps23
        go_wp2
        go_ret
        exact ⟨rfl, rfl⟩
    · have h2 : n < 0 := by omega
      clear h h0
      go_enter Try.func23, Try.ntmps23
      go_wp2
      go_ret
      exact ⟨rfl, rfl⟩

set_option maxHeartbeats 2000000 in
set_option maxRecDepth 100000 in
/-- utf.Text -/
theorem text_walk (ao : Option Addr) (cap : Nat) (zs : List Int) (w : World) (hr : Rd w w.heap.size ao zs) (hz : zs.length ≤ maxLen) :
    Calls Try.prog 15 #[.slice ao zs.length cap] w fun e w' => e = .returned (.tuple #[.string ⟨(U.textR zs).1.toArray⟩, .int .i64 (U.textR zs).2]) ∧ Below w.heap.size w w' := by
  unfold maxLen at hz
  go_enter Try.func15, Try.ntmps15
  go_wp2
  go_loop [11] (fun i => ∃ k : Nat, k ≤ zs.length ∧ i = .int .i64 k ∧ (zs.take k).all U.okI = true) (fun i => zs.length - (intOf i).toNat)
  case atStart => exact ⟨0, Nat.zero_le _, rfl, rfl⟩
  case round =>
    obtain ⟨k, hk, rfl, hall⟩ := hrel
    have Hall := Lib.hid hall
    clear hall
    by_cases hlt : k < zs.length
    · obtain ⟨ad, rfl, hb, hc⟩ := hr k zs[k] (List.getElem?_eq_getElem hlt)
      have Hz := Lib.hid (List.getElem?_eq_getElem hlt)
      generalize zs[k] = z at *
      have HR := Lib.hid hr
      clear hr
      cases hok : U.okI z
      · have Hok := Lib.hid hok
        clear hok
        go_wp2_with fail
        refine (code_point z _).mono ?_
        rintro e w' ⟨rfl, rfl⟩
        rw [Hok.out]
        go_wp2_with fail
        go_ret2
        rw [U.textR_bad (U.all_of_bad Hz.out Hok.out)]
        exact ⟨rfl, Below.refl _ _⟩
      · have Hok := Lib.hid hok
        clear hok
        go_wp2_with fail
        refine (code_point z _).mono ?_
        rintro e w' ⟨rfl, rfl⟩
        rw [Hok.out]
        go_wp2_with fail
        go_round
        case rel => exact ⟨k + 1, by omega, by go_num, by rw [U.all_take_snoc Hz.out, Hall.out, Hok.out]; rfl⟩
        case measure => simp [intOf]; omega
    · obtain rfl : k = zs.length := by omega
      have hall := Hall.out
      rw [List.take_length] at hall
      have Hal2 := Lib.hid hall
      clear hall
      go_wp2_with fail
      go_loopw [6, 21] (fun v i wr => ∃ k : Nat, k ≤ zs.length ∧ i = .int .i64 k ∧ wr.ownsRow w.heap.size 5 1 v (U.encZ (zs.take k)).length (Lib.byteCells (U.encZ (zs.take k))) ∧ Below w.heap.size w wr ∧ (U.encZ (zs.take k)).length ≤ 600) (fun _ i _ => zs.length - (intOf i).toNat)
      case atStart => exact ⟨0, Nat.zero_le _, rfl, World.ownsRow_nil _ _ _ _, Below.refl _ _, by simp [U.encZ_nil]⟩
      case round =>
        obtain ⟨k, hk, rfl, hown, hbw, h600⟩ := hrel
        by_cases hlt : k < zs.length
        · obtain ⟨ad, rfl, hb, hc⟩ := (hr.below hbw) k zs[k] (List.getElem?_eq_getElem hlt)
          have hz : zs[k]? = some zs[k] := List.getElem?_eq_getElem hlt
          have hokz : U.okI zs[k] = true := List.all_eq_true.1 Hal2.out _ (List.getElem_mem hlt)
          have hz0 := (U.okI_iff.1 hokz).1
          have hz1 := (U.okI_iff.1 hokz).2.1
          have Hz := Lib.hid hz
          have Hok := Lib.hid hokz
          clear hz hokz
          generalize zs[k] = z at *
          have HR := Lib.hid hr
          clear hr
          go_wp2_with fail
          refine (Try.utf8_AppendRune_plain w.heap.size _ _ _ z (by omega) (by omega) _ hown (by omega) hbw.size).mono ?_
          rintro e w2 ⟨v', rfl, hown', o, hgrow⟩
          have hbw2 : Below w.heap.size w w2 := (hbw.alloc hbw.size _).grown hgrow (by have := hbw.size; simp; omega) (fun k hk => (hown.lt k hk).1)
          have hen : Lib.encodeRune z = U.enc z.toNat := by
            obtain ⟨n, rfl⟩ := Int.eq_ofNat_of_zero_le hz0
            exact U.encodeRune_eq (U.okI_isL Hok.out)
          have e1 : U.encZ (zs.take (k + 1)) = U.encZ (zs.take k) ++ Lib.encodeRune z := by rw [U.take_snoc Hz.out, U.encZ_append, U.encZ_one, hen]
          have e2 : Lib.byteCells (U.encZ (zs.take (k + 1))) = Lib.byteCells (U.encZ (zs.take k)) ++ Lib.runeCells z := by rw [e1, Lib.byteCells_append, Lib.byteCells_encodeRune]
          have e3 : (U.encZ (zs.take (k + 1))).length = (U.encZ (zs.take k)).length + (Lib.runeCells z).length := by rw [e1, List.length_append, Lib.runeCells_length]
          rw [← e2, ← e3] at hown'
          have hle := U.encZ_take_le zs (k + 1)
          clear e1 e2 e3 hen
          have hk4 := Lib.runeCells_le z
          generalize hE : U.encZ (zs.take (k + 1)) = E at *
          have HE := Lib.hid hE
          clear hE
          obtain ⟨a', c', rfl⟩ := own_form hown'
          by_cases hbig : 600 < E.length
          · go_wp2_with fail
            go_ret2
            rw [U.textR_long Hal2.out (by omega)]
            exact ⟨rfl, hbw2⟩
          · go_wp2_with fail
            go_roundw
            case rel => exact ⟨k + 1, by omega, by go_num, by rw [HE.out]; exact hown', hbw2, by rw [HE.out]; omega⟩
            case measure => simp [intOf]; omega
        · obtain rfl : k = zs.length := by omega
          rw [List.take_length] at hown h600
          have hcv := str_of_row hown
          go_wp2_with fail
          go_ret2
          rw [U.textR_good Hal2.out h600]
          exact ⟨rfl, hbw⟩

end Go.Proofs.Ytmfbabbjcjdhbaa

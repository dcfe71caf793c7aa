/- CleanLines: the number of lines does not depend on the kind of line terminators. -/
import Derived.Test.YtmfbabbjcjdhbaaClean
import Derived.Test.YtmfbabbjcjdhbaaCleanMore
import Derived.Test.YtmfbabbjcjdhbaaText
import Derived.Test.YtmfbabbjcjdhbaaPicked
import Derived.Outline
namespace Go.Proofs.Ytmfbabbjcjdhbaa
open Go.RowKit

def letterB (j : Nat) : UInt8 := if j = 0 then 97 else if j = 1 then 98 else if j = 2 then 32 else 60
def letter (j : Nat) : ByteArray := ⟨#[letterB j]⟩
def ending (j : Nat) : ByteArray := if j = 0 then ⟨#[]⟩ else if j = 1 then ⟨#[10]⟩ else if j = 2 then ⟨#[13, 10]⟩ else ⟨#[13]⟩

theorem letter_cell (j : Nat) (hj : j < 4) (W : World) (T : TypeId) :
    (W.alloc (.cells #[.string ⟨#[97]⟩, .string ⟨#[98]⟩, .string ⟨#[32]⟩, .string ⟨#[60]⟩] T)).cell? ⟨W.heap.size, j, none⟩ = some (.string (letter j)) := by
  match j, hj with
  | 0, _ => simp [letter, letterB]
  | 1, _ => simp [letter, letterB]
  | 2, _ => simp [letter, letterB]
  | 3, _ => simp [letter, letterB]
theorem ending_cell (j : Nat) (hj : j < 4) (W : World) (T : TypeId) :
    (W.alloc (.cells #[.string ⟨#[]⟩, .string ⟨#[10]⟩, .string ⟨#[13, 10]⟩, .string ⟨#[13]⟩] T)).cell? ⟨W.heap.size, j, none⟩ = some (.string (ending j)) := by
  match j, hj with
  | 0, _ => simp [ending]
  | 1, _ => simp [ending]
  | 2, _ => simp [ending]
  | 3, _ => simp [ending]

theorem ending_get (j : Nat) (h : j < ([.string ⟨#[]⟩, .string ⟨#[10]⟩, .string ⟨#[13, 10]⟩, .string ⟨#[13]⟩] : List Value).length) :
    ([.string ⟨#[]⟩, .string ⟨#[10]⟩, .string ⟨#[13, 10]⟩, .string ⟨#[13]⟩] : List Value)[j]'h = .string (ending j) := by
  match j, h with
  | 0, _ => rfl
  | 1, _ => rfl
  | 2, _ => rfl
  | 3, _ => rfl

theorem letter_size (j : Nat) : (letter j).size = 1 := rfl
theorem ending_size (j : Nat) : (ending j).size ≤ 2 := by
  unfold ending
  repeat' split
  all_goals decide

/-- what holds of the two texts behind k lines -/
structure LinesOk (k : Nat) (S T : ByteArray) : Prop where
  low : ∀ b ∈ S.data.toList, b.toNat < 128
  same : U.clean S.data.toList = T.data.toList
  ssize : S.size ≤ 3 * k
  tsize : T.size ≤ 2 * k

theorem LinesOk.zero : LinesOk 0 ⟨#[]⟩ ⟨#[]⟩ := ⟨by intro b hb; simp at hb, rfl, by decide, by decide⟩

theorem ba_append (a b : ByteArray) : (a ++ b).data.toList = a.data.toList ++ b.data.toList := by simp

theorem LinesOk.step {k : Nat} {S T : ByteArray} (h : LinesOk k S T) (j j2 : Nat) (hj2 : j2 < 4) (h0 : j2 ≠ 0) :
    LinesOk (k + 1) (S ++ (letter j ++ ending j2)) (T ++ letter j ++ ⟨#[10]⟩) := by
  have hx : 13 < (letterB j).toNat ∧ (letterB j).toNat < 128 := by
    unfold letterB
    repeat' split
    all_goals decide
  have key := U.clean_line S.data.toList h.low (letterB j) hx (ending j2).data.toList [10] (by
    match j2, hj2, h0 with
    | 1, _, _ => exact .inr (.inl ⟨rfl, rfl⟩)
    | 2, _, _ => exact .inr (.inr (.inl ⟨rfl, rfl⟩))
    | 3, _, _ => exact .inr (.inr (.inr ⟨rfl, rfl⟩)))
  have e1 : (S ++ (letter j ++ ending j2)).data.toList = S.data.toList ++ ([letterB j] ++ (ending j2).data.toList) := by rw [ba_append, ba_append]; rfl
  refine ⟨by rw [e1]; exact key.2, ?_, ?_, ?_⟩
  · rw [e1, key.1, h.same, ba_append, ba_append, List.append_assoc]; rfl
  · have := ending_size j2
    have := h.ssize
    rw [ByteArray.size_append, ByteArray.size_append, letter_size]; omega
  · have := h.tsize
    rw [ByteArray.size_append, ByteArray.size_append, letter_size]
    show T.size + 1 + 1 ≤ _
    omega

theorem LinesOk.step0 {k : Nat} {S T : ByteArray} (h : LinesOk k S T) (j : Nat) :
    LinesOk (k + 1) (S ++ (letter j ++ ending 0)) (T ++ letter j) := by
  have hx : 13 < (letterB j).toNat ∧ (letterB j).toNat < 128 := by
    unfold letterB
    repeat' split
    all_goals decide
  have key := U.clean_line S.data.toList h.low (letterB j) hx (ending 0).data.toList [] (.inl ⟨rfl, rfl⟩)
  have e1 : (S ++ (letter j ++ ending 0)).data.toList = S.data.toList ++ ([letterB j] ++ (ending 0).data.toList) := by rw [ba_append, ba_append]; rfl
  refine ⟨by rw [e1]; exact key.2, ?_, ?_, ?_⟩
  · rw [e1, key.1, h.same, ba_append]; rfl
  · have := ending_size 0
    have := h.ssize
    rw [ByteArray.size_append, ByteArray.size_append, letter_size]; omega
  · have := h.tsize
    rw [ByteArray.size_append, letter_size]; omega

set_option maxHeartbeats 2000000 in
set_option maxRecDepth 100000 in
theorem lines_walk (ao bo : Option Addr) (ca cb : Nat) (xs ys : List Int) (w : World) (hr : Rd w w.heap.size ao xs) (hq : Rd w w.heap.size bo ys) :
    Calls Try.prog 8 #[.slice ao xs.length ca, .slice bo ys.length cb] w fun e w' => e = .returned (.bool true) ∧ Below w.heap.size w w' := by
  have HR := Lib.hid hr
  have HQ := Lib.hid hq
  clear hr hq
  go_enter Try.func8, Try.ntmps8
  go_wp2
  go_loopw [5, 6, 7] (fun s t i wr => ∃ (k : Nat) (S T : ByteArray), k ≤ xs.length ∧ k ≤ 40 ∧ i = .int .i64 k ∧ s = .string S ∧ t = .string T ∧ LinesOk k S T ∧ Below w.heap.size w wr) (fun _ _ i _ => xs.length - (intOf i).toNat)
  case atStart => exact ⟨0, ⟨#[]⟩, ⟨#[]⟩, Nat.zero_le _, Nat.zero_le _, rfl, rfl, rfl, LinesOk.zero, Below.refl _ _⟩
  case round =>
    obtain ⟨k, S, T, hk, h40, rfl, rfl, rfl, hL, hbw⟩ := hrel
    have hss := hL.ssize
    have hts := hL.tsize
    by_cases hlt : k < xs.length ∧ k < 40
    · obtain ⟨hlt, hlt40⟩ := hlt
      obtain ⟨ad, rfl, hb, hc⟩ := (HR.out.below hbw) k xs[k] (List.getElem?_eq_getElem hlt)
      generalize xs[k] = z at *
      have hbs := hbw.size
      have hc2 : ∀ o, (wr.alloc o).cell? (ad.add k) = some (.int .i64 z) := fun o => by
        rw [World.cell?_alloc_lt wr o (ad.add k) (by rw [add_block]; omega)]
        exact hc
      go_wp2_with fail
      refine (picked_walk z 4 _ (by omega) (by omega)).mono ?_
      rintro e w1 ⟨rfl, rfl⟩
      obtain ⟨j, hj, ej⟩ : ∃ j : Nat, j < 4 ∧ z % 4 = (j : Int) := ⟨(z % 4).toNat, by omega, by omega⟩
      rw [ej]
      have hlc := letter_cell j hj
      have hls : (letter j).size ≤ 1 := Nat.le_refl _
      have hbw1 : ∀ o p, Below w.heap.size w ((wr.alloc o).alloc p) := fun o p => (hbw.alloc hbw.size o).alloc (by simp; omega) p
      by_cases hky : k < ys.length
      · obtain ⟨bd, rfl, hb', hc'⟩ := (HQ.out.below hbw) k ys[k] (List.getElem?_eq_getElem hky)
        generalize ys[k] = z2 at *
        have hc3 : ∀ o, (wr.alloc o).cell? (bd.add k) = some (.int .i64 z2) := fun o => by
          rw [World.cell?_alloc_lt wr o (bd.add k) (by rw [add_block]; omega)]
          exact hc'
        go_wp2_with fail
        refine (picked_walk z2 4 _ (by omega) (by omega)).mono ?_
        rintro e w2 ⟨rfl, rfl⟩
        obtain ⟨j2, hj2, ej2⟩ : ∃ j2 : Nat, j2 < 4 ∧ z2 % 4 = (j2 : Int) := ⟨(z2 % 4).toNat, by omega, by omega⟩
        rw [ej2]
        have hec := ending_cell j2 hj2
        have hes := ending_size j2
        clear ej ej2
        by_cases h0 : j2 = 0
        · subst h0
          go_wp2_with fail
          go_roundw
          case rel => exact ⟨k + 1, _, _, by omega, by omega, by go_num, rfl, rfl, hL.step0 j, hbw1 _ _⟩
          case measure => simp [intOf]; omega
        · have hpos : 0 < j2 := by omega
          have hge := ending_get j2
          go_wp2_with fail
          go_roundw
          case rel => exact ⟨k + 1, _, _, by omega, by omega, by go_num, rfl, rfl, hL.step j j2 hj2 h0, hbw1 _ _⟩
          case measure => simp [intOf]; omega
      · have hec := ending_cell 0 (by omega)
        have hes := ending_size 0
        clear ej
        go_wp2_with fail
        go_roundw
        case rel => exact ⟨k + 1, _, _, by omega, by omega, by go_num, rfl, rfl, hL.step0 j, hbw1 _ _⟩
        case measure => simp [intOf]; omega
    · have r1 := clean_walk S
      rw [hL.same, show ByteArray.mk T.data.toList.toArray = T by cases T; simp] at r1
      have r2 := clean_walk (ByteArray.mk #[97])
      rw [show U.clean (ByteArray.mk #[97]).data.toList = [97] by decide] at r2
      by_cases hlt2 : k < xs.length
      · have h40' : ¬ k < 40 := by omega
        clear hlt
        go_wp2_with fail
        refine (r1 _ (by omega)).mono ?_
        rintro e w1 ⟨rfl, b1⟩
        go_wp2_with fail
        refine (r2 _ (by decide)).mono ?_
        rintro e w2 ⟨rfl, b2⟩
        go_wp2_with fail
        go_ret
        exact ⟨rfl, hbw.trans ((b1.mono hbw.size).trans (b2.mono (Nat.le_trans hbw.size b1.size)))⟩
      · clear hlt
        go_wp2_with fail
        refine (r1 _ (by omega)).mono ?_
        rintro e w1 ⟨rfl, b1⟩
        go_wp2_with fail
        refine (r2 _ (by decide)).mono ?_
        rintro e w2 ⟨rfl, b2⟩
        go_wp2_with fail
        go_ret
        exact ⟨rfl, hbw.trans ((b1.mono hbw.size).trans (b2.mono (Nat.le_trans hbw.size b1.size)))⟩

end Go.Proofs.Ytmfbabbjcjdhbaa

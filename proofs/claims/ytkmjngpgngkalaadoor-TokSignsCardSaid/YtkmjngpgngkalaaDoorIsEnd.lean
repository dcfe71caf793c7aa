/- tok.isEndOf. -/
import Derived.Test.YtkmjngpgngkalaaDoorShelf
import Derived.Test.YtkmjngpgngkalaaDoorToksMath
import Derived.Test.YtkmjngpgngkalaaDoorParser
import Derived.Lib.IndexAny
import Derived.Outline
namespace Go.Proofs.YtkmjngpgngkalaaDoor
open Go.RowKit

namespace U
theorem low1_beq {a k : UInt8} (hk : k.toNat < 65) : (low1 a == k) = (a == k) := by
  unfold low1
  split
  · rename_i h
    have h1 : (a == k) = false := beq_eq_false_iff_ne.2 (fun e => by subst e; omega)
    have h2 : (UInt8.ofNat (a.toNat + 32) == k) = false := beq_eq_false_iff_ne.2 (fun e => by
      subst e
      simp only [UInt8.toNat_ofNat'] at hk
      omega)
    rw [h1, h2]
  · rfl
theorem low1_isSp (c : UInt8) : isSp (low1 c) = isSp c := by
  unfold isSp
  rw [low1_beq (by decide), low1_beq (by decide), low1_beq (by decide), low1_beq (by decide)]
def stopAt (c : UInt8) : Bool := isSp c || c == 47 || c == 62
theorem stopAt_contains (c : UInt8) : ([32, 9, 10, 12, 47, 62] : List UInt8).contains c = stopAt c := by
  rw [Bool.eq_iff_iff]
  simp [stopAt, isSp, or_assoc]
/-- an end tag of this name begins here (the text is lowered) -/
def endAt (n l : List UInt8) : Bool := List.isPrefixOf (60 :: 47 :: n) l && (match l.drop (2 + n.length) with
  | [] => false
  | c :: _ => stopAt c)
theorem prefix_take (n : List UInt8) : ∀ (l : List UInt8), n.isPrefixOf l = (l.take n.length == n) := by
  induction n with
  | nil => intro l; simp
  | cons a n ih =>
    intro l
    cases l with
    | nil => simp [List.isPrefixOf]
    | cons b l =>
      rw [List.isPrefixOf_cons_cons, ih l, List.length_cons, List.take_succ_cons]
      show (a == b && _) = (b == a && _)
      rw [Bool.beq_comm]
      rfl
theorem low_take (l : List UInt8) (k : Nat) : low (l.take k) = (low l).take k := by simp [low]
theorem low_drop (l : List UInt8) (k : Nat) : low (l.drop k) = (low l).drop k := by simp [low]
theorem rawEnd_low (n l : List UInt8) : rawEnd n l = endAt n (low l) := by
  unfold rawEnd endAt
  rw [← low_drop]
  cases hd : l.drop (2 + n.length) with
  | nil => simp [low]
  | cons c r =>
    have hl := congrArg List.length hd
    simp only [List.length_drop, List.length_cons] at hl
    have e1 : low (c :: r) = low1 c :: low r := rfl
    rw [e1]
    simp only
    unfold stopAt
    rw [low1_isSp, low1_beq (by decide), low1_beq (by decide)]
    congr 1
    match l, hl with
    | a :: b :: u, _ =>
      have e2 : low (a :: b :: u) = low1 a :: low1 b :: low u := rfl
      rw [e2, List.isPrefixOf_cons_cons, List.isPrefixOf_cons_cons, prefix_take]
      have e3 : ((60 : UInt8) == low1 a) = (a == 60) := by rw [Bool.beq_comm]; exact low1_beq (by decide)
      have e4 : ((47 : UInt8) == low1 b) = (b == 47) := by rw [Bool.beq_comm]; exact low1_beq (by decide)
      rw [e3, e4]
      simp only [List.take_succ_cons, List.take_zero, List.drop_succ_cons, List.drop_zero, low_take]
      show (a == 60 && (b == 47 && true) && _) = _
      rw [Bool.and_true, Bool.and_assoc]
    | [a], hl => simp only [List.length_cons, List.length_nil] at hl; omega
    | [], hl => simp at hl
end U

theorem mk_append (a b : List UInt8) : ByteArray.mk a.toArray ++ ByteArray.mk b.toArray = ByteArray.mk (a ++ b).toArray := by
  apply ByteArray.ext
  simp

set_option maxHeartbeats 4000000 in
set_option maxRecDepth 100000 in
theorem is_end (n s : ByteArray) (w : World) (hn : n.size ≤ 1048576) : Calls Tryd.prog 34 #[.string n, .string s] w fun e w' => e = .returned (.bool (U.endAt n.data.toList s.data.toList)) ∧ w' = w := by
  have hp : (ByteArray.mk #[60, 47] ++ n).data.toList = 60 :: 47 :: n.data.toList := by simp [ByteArray.data_append]
  have hcp := fun w => Tryd.strings_CutPrefix s (ByteArray.mk #[60, 47] ++ n) w
  rw [hp] at hcp
  have hln := len_list n
  unfold U.endAt
  unfold Lib.trimPrefix Lib.hasPrefix at hcp
  have e0 : (60 :: 47 :: n.data.toList).length = 2 + n.data.toList.length := by rw [List.length_cons, List.length_cons]; omega
  rw [e0] at hcp
  cases hpre : List.isPrefixOf (60 :: 47 :: n.data.toList) s.data.toList with
  | false =>
    rw [hpre] at hcp
    simp only [Bool.false_eq_true, if_false] at hcp
    rw [Bool.false_and]
    clear hp
    go_enter Tryd.func34, Tryd.ntmps34
    go_wp2_with (refine (hcp _).mono ?_; rintro e w' ⟨rfl, rfl⟩)
    go_ret
    exact ⟨rfl, rfl⟩
  | true =>
    rw [hpre] at hcp
    simp only [if_true] at hcp
    cases hd : s.data.toList.drop (2 + n.data.toList.length) with
    | nil =>
      rw [hd] at hcp
      clear hp hpre
      go_enter Tryd.func34, Tryd.ntmps34
      go_wp2_with (refine (hcp _).mono ?_; rintro e w' ⟨rfl, rfl⟩)
      go_ret
      exact ⟨rfl, rfl⟩
    | cons c r =>
      rw [hd] at hcp
      have hi := fun w => Tryd.strings_IndexByte (ByteArray.mk #[32, 9, 10, 12, 47, 62]) (c.toNat : Int) w
      have hcs := Lib.contains_iff_indexByte [32, 9, 10, 12, 47, 62] c
      rw [U.stopAt_contains] at hcs
      have hbk : ((c.toNat : Int)).toNat.toUInt8 = c := by simp
      rw [hbk] at hi
      have hlist : (ByteArray.mk #[32, 9, 10, 12, 47, 62]).data.toList = [32, 9, 10, 12, 47, 62] := rfl
      rw [hlist] at hi
      generalize Lib.indexByte [32, 9, 10, 12, 47, 62] c = ix at hi hcs
      have hne : (ByteArray.mk (c :: r).toArray).toList.isEmpty = false := by rw [Lib.toList_data]; rfl
      clear hp hpre hd
      simp only [Bool.true_and]
      go_enter Tryd.func34, Tryd.ntmps34
      go_wp2_with (first | (refine (hcp _).mono ?_; rintro e w' ⟨rfl, rfl⟩) | (refine (hi _).mono ?_; rintro e w' ⟨rfl, rfl⟩))
      go_ret
      exact ⟨by rw [hcs]; rfl, rfl⟩

end Go.Proofs.YtkmjngpgngkalaaDoor

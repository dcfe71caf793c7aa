/- tok's parser: readValue. -/
import Derived.Test.YtkmjngpgngkalaaDoorUntil
import Derived.Test.YtkmjngpgngkalaaDoorNumbered
import Derived.Test.YtkmjngpgngkalaaDoorIsEnd
import Derived.Test.YtkmjngpgngkalaaDoorKindAt
import Derived.Outline
namespace Go.Proofs.YtkmjngpgngkalaaDoor
open Go.RowKit

/-- the package-level variables that the library reads -/
structure Glob (w : World) : Prop where
  max : ∃ m, w.cell? ⟨0, 0, none⟩ = some (.int .i64 m)
  err : ErrS w
/-- a block that is none of them -/
def Far (bp : Nat) : Prop := 0 ≠ bp ∧ 3 ≠ bp
theorem Glob.grown {w w' : World} {bp : Nat} (h : Glob w) (hf : Far bp) (hg : w.grownBy w' (some bp)) : Glob w' := by
  obtain ⟨m, hm⟩ := h.max
  obtain ⟨te, pe, he⟩ := h.err
  exact ⟨⟨m, hg.cell hm (by simpa using hf.1)⟩, ⟨te, pe, hg.cell he (by simpa using hf.2)⟩⟩
theorem Glob.below {w w' : World} (h : Glob w) (hb : Below w.heap.size w w') : Glob w' := by
  obtain ⟨m, hm⟩ := h.max
  obtain ⟨te, pe, he⟩ := h.err
  exact ⟨⟨m, (hb.cell (World.block_lt_of_cell? w _ hm)).trans hm⟩, ⟨te, pe, (hb.cell (World.block_lt_of_cell? w _ he)).trans he⟩⟩

namespace U
theorem index_place (find : List UInt8) (hf : find ≠ []) : ∀ l : List UInt8, Lib.index l find = match placeOf find l with
    | none => -1
    | some k => (k : Int)
  | [] => by
    rw [Lib.index, placeOf, if_neg hf]
    cases find with
    | nil => exact absurd rfl hf
    | cons a f => rfl
  | b :: r => by
    rw [Lib.index, placeOf, prefix_take]
    by_cases h : (b :: r).take find.length = find
    · rw [if_pos h, if_pos (by rw [h]; simp)]
      rfl
    · rw [if_neg h, if_neg (by simpa using h), index_place find hf r]
      cases placeOf find r with
      | none => rfl
      | some k =>
        simp only [Option.map_some]
        rw [if_neg (by simp only [beq_iff_eq]; omega)]
        rfl
theorem cut_place (find l : List UInt8) (hf : find ≠ []) : Lib.cut l find = match placeOf find l with
    | none => (l, [], false)
    | some k => (l.take k, l.drop (k + find.length), true) := by
  unfold Lib.cut
  rw [index_place find hf l]
  cases placeOf find l with
  | none => rfl
  | some k =>
    simp only
    rw [if_pos (by omega)]
    rfl
end U

theorem cut_val (q : UInt8) (l : List UInt8) (hq : q = 34 ∨ q = 39) : ∃ A B f, Lib.cut l [q] = (A, B, f) ∧ U.readVal (q :: l) = (A, B) ∧ A.length + B.length ≤ l.length := by
  rw [U.cut_place [q] l (by simp)]
  unfold U.readVal
  simp only [if_pos hq]
  cases hp : U.placeOf [q] l with
  | none => exact ⟨l, [], false, rfl, rfl, by simp⟩
  | some k => exact ⟨l.take k, l.drop (k + 1), true, rfl, rfl, by simp only [List.length_take, List.length_drop]; omega⟩
theorem empty_of {r : ByteArray} (h : r.size = 0) : r.toList.isEmpty = true := by
  rw [Lib.toList_data, show r.data.toList = [] from List.eq_nil_of_length_eq_zero (by rw [len_list]; exact h)]; rfl
theorem empty_not {r : ByteArray} (h : 0 < r.size) : r.toList.isEmpty = false := by
  rw [Lib.toList_data]
  cases hl : r.data.toList with
  | nil => have := len_list r; rw [hl, List.length_nil] at this; omega
  | cons _ _ => rfl
theorem list_one {r : ByteArray} (h : 0 < r.size) : r.data.toList = r[0] :: r.data.toList.drop 1 := by
  have := drop_byte (byte_get r (k := 0) h)
  rwa [List.drop_zero] at this

/-- a value is read -/
def Valued (w w' : World) (bp : Nat) (r : ByteArray) (v : Value) (e : Ending) : Prop :=
  ∃ a b : ByteArray, e = .returned (.string a) ∧ Reads w w' bp b v ∧ a.data.toList = (U.readVal r.data.toList).1 ∧ b.data.toList = (U.readVal r.data.toList).2 ∧ a.size + b.size ≤ r.size

theorem bare_set : (fun b => !([32, 9, 10, 12, 62] : List UInt8).contains b) = U.bareB := by
  funext b
  rw [Bool.eq_iff_iff]
  simp [U.bareB, U.isSp, and_assoc]
theorem valued_bare {w w' : World} {bp : Nat} {r : ByteArray} {v : Value} {e : Ending} (hq : ∀ b l, r.data.toList = b :: l → ¬ (b = 34 ∨ b = 39)) (h : Took w w' bp r v (fun b => !([32, 9, 10, 12, 62] : List UInt8).contains b) e) : Valued w w' bp r v e := by
  obtain ⟨a, b, he, hR, ha, hb, hs⟩ := h
  rw [bare_set] at ha hb
  refine ⟨a, b, he, hR, ?_, ?_, by omega⟩
  · rw [ha]
    cases hl : r.data.toList with
    | nil => rfl
    | cons c l => unfold U.readVal; simp only [if_neg (hq c l hl)]
  · rw [hb]
    cases hl : r.data.toList with
    | nil => rfl
    | cons c l => unfold U.readVal; simp only [if_neg (hq c l hl)]

set_option maxHeartbeats 4000000 in
set_option maxRecDepth 100000 in
theorem read_value (w : World) (bp : Nat) (r : ByteArray) (v : Value) (h : w.heap[bp]? = some (parBlock r v)) (hr : r.size ≤ 1048576) (hG : Glob w) (hF : Far bp) :
    Calls Tryd.prog 46 #[.pointer (some ⟨bp, 0, none⟩)] w fun e w' => Valued w w' bp r v e := by
  obtain ⟨c0, c1, f0, f1⟩ := par_cells h
  have hu := until_walk (ByteArray.mk #[32, 9, 10, 12, 62]) w bp r v h hr (by decide) (by decide) (by decide)
  have hset : (ByteArray.mk #[32, 9, 10, 12, 62]).data.toList = [32, 9, 10, 12, 62] := rfl
  rw [hset] at hu
  rcases Nat.eq_zero_or_pos r.size with h0 | h0
  · have hem := empty_of h0
    have hq : ∀ b l, r.data.toList = b :: l → ¬ (b = 34 ∨ b = 39) := fun b l e => by
      have := len_list r
      rw [e, List.length_cons] at this
      omega
    have HQ := Lib.hid hq
    clear hq
    go_enter Tryd.func46, Tryd.ntmps46
    go_wp2_with (refine hu.mono ?_; rintro e w2 ⟨a, b, rfl, hR, ha, hb, hs⟩)
    go_ret
    exact valued_bare HQ.out ⟨a, b, rfl, hR, ha, hb, hs⟩
  · have hem := empty_not h0
    have hl := list_one h0
    by_cases hq : r[0] = 34 ∨ r[0] = 39
    · obtain ⟨A, B, f, hcut, hval, hAB⟩ := cut_val (r[0]'h0) (r.data.toList.drop 1) hq
      have hx : (r.extract 0 1).data.toList = [r[0]'h0] := by rw [list_take, hl]; rfl
      rw [← list_drop, ← hx] at hcut
      rw [← hl] at hval
      have hAB2 : A.length + B.length ≤ r.size := by
        rw [List.length_drop, len_list] at hAB
        omega
      have HV := Lib.hid hval
      clear hx hl hAB hval
      rcases hq with hq | hq
      · have b34 : (((r[0]'h0).toNat : Int) != 34) = false := by rw [hq]; rfl
        clear hq
        go_enter Tryd.func46, Tryd.ntmps46
        go_wp2_with (first
          | (refine (take_walk w bp 1 r v h h0).mono ?_; rintro e w2 ⟨rfl, hR⟩; obtain ⟨k0, k1, k2, k3⟩ := par_cells hR.par; obtain ⟨m, hm⟩ := (hG.grown hF hR.grown).max)
          | (refine (Tryd.strings_Cut _ _ m _ (by rw [size_drop]; omega) hm).mono ?_; rintro e w3 ⟨rfl, n, rfl⟩; rw [hcut]; have hR2 := (hR.later (below_drewN (Below.refl _ _) n)); obtain ⟨j0, j1, j2, j3⟩ := par_cells hR2.par; have hR3 := hR2.setRest ⟨B.toArray⟩))
        go_ret
        exact ⟨_, _, rfl, hR3, by rw [HV.out], by rw [HV.out], by rw [size_of_mk, size_of_mk]; omega⟩
      · have b34 : (((r[0]'h0).toNat : Int) != 34) = true := by rw [hq]; rfl
        have b39 : (((r[0]'h0).toNat : Int) != 39) = false := by rw [hq]; rfl
        clear hq
        go_enter Tryd.func46, Tryd.ntmps46
        go_wp2_with (first
          | (refine (take_walk w bp 1 r v h h0).mono ?_; rintro e w2 ⟨rfl, hR⟩; obtain ⟨k0, k1, k2, k3⟩ := par_cells hR.par; obtain ⟨m, hm⟩ := (hG.grown hF hR.grown).max)
          | (refine (Tryd.strings_Cut _ _ m _ (by rw [size_drop]; omega) hm).mono ?_; rintro e w3 ⟨rfl, n, rfl⟩; rw [hcut]; have hR2 := (hR.later (below_drewN (Below.refl _ _) n)); obtain ⟨j0, j1, j2, j3⟩ := par_cells hR2.par; have hR3 := hR2.setRest ⟨B.toArray⟩))
        go_ret
        exact ⟨_, _, rfl, hR3, by rw [HV.out], by rw [HV.out], by rw [size_of_mk, size_of_mk]; omega⟩
    · have HQ : Hid (∀ b l, r.data.toList = b :: l → ¬ (b = 34 ∨ b = 39)) := by
        intro b l e
        rw [hl] at e
        injection e with e _
        rw [← e]; exact hq
      have b34 : (((r[0]'h0).toNat : Int) != 34) = true := bne_yes (fun e => hq (.inl ((byte_eq (k := 34) (by decide)).1 (by omega))))
      have b39 : (((r[0]'h0).toNat : Int) != 39) = true := bne_yes (fun e => hq (.inr ((byte_eq (k := 39) (by decide)).1 (by omega))))
      clear hq hl
      go_enter Tryd.func46, Tryd.ntmps46
      go_wp2_with (refine hu.mono ?_; rintro e w2 ⟨a, b, rfl, hR, ha, hb, hs⟩)
      go_ret
      exact valued_bare HQ.out ⟨a, b, rfl, hR, ha, hb, hs⟩

end Go.Proofs.YtkmjngpgngkalaaDoor

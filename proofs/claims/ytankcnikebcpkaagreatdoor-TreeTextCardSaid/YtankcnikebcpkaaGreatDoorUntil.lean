/- tok's parser: until, skip. -/
import Derived.Outline
import Derived.Test.YtankcnikebcpkaaGreatDoorP17
import Derived.Test.YtankcnikebcpkaaGreatDoorP02
namespace Go.Proofs.YtankcnikebcpkaaGreatDoor
open Go.RowKit

namespace U
theorem take_while (p : UInt8 → Bool) : ∀ l : List UInt8, l.take (l.takeWhile p).length = l.takeWhile p ∧ l.drop (l.takeWhile p).length = l.dropWhile p
  | [] => ⟨rfl, rfl⟩
  | b :: l => by
    by_cases h : p b = true
    · rw [List.takeWhile_cons_of_pos h, List.dropWhile_cons_of_pos h, List.length_cons, List.take_succ_cons, List.drop_succ_cons, (take_while p l).1, (take_while p l).2]
      exact ⟨rfl, rfl⟩
    · rw [List.takeWhile_cons_of_neg h, List.dropWhile_cons_of_neg h]
      exact ⟨rfl, rfl⟩
theorem take_while_le (p : UInt8 → Bool) (l : List UInt8) : (l.takeWhile p).length ≤ l.length := (List.takeWhile_sublist p).length_le
theorem any_while (chars : List UInt8) : ∀ l : List UInt8, (Lib.indexAny l chars = -1 ∧ (l.takeWhile fun b => !chars.contains b).length = l.length) ∨ Lib.indexAny l chars = ((l.takeWhile fun b => !chars.contains b).length : Nat)
  | [] => .inl ⟨rfl, rfl⟩
  | b :: l => by
    rw [Lib.indexAny]
    by_cases h : chars.contains b = true
    · rw [if_pos h, List.takeWhile_cons_of_neg (by rw [h]; decide)]
      exact .inr rfl
    · rw [if_neg h, List.takeWhile_cons_of_pos (by simpa using h), List.length_cons]
      rcases any_while chars l with ⟨h1, h2⟩ | h1
      · rw [h1, if_pos (by decide), h2]
        exact .inl ⟨rfl, rfl⟩
      · rw [h1, if_neg (by simp only [beq_iff_eq]; omega)]
        exact .inr (by omega)
end U
theorem list_take (r : ByteArray) (n : Nat) : (r.extract 0 n).data.toList = r.data.toList.take n := by rw [Lib.extract_data]; simp
theorem list_drop (r : ByteArray) (n : Nat) : (r.extract n r.size).data.toList = r.data.toList.drop n := by
  rw [Lib.extract_data, List.take_of_length_le (by rw [List.length_drop, len_list]; exact Nat.le_refl _)]
theorem extract_all (r : ByteArray) : r.extract 0 r.size = r := by
  apply ByteArray.ext
  simp
theorem size_take (r : ByteArray) (n : Nat) (h : n ≤ r.size) : (r.extract 0 n).size = n := by rw [← len_list, list_take, List.length_take, len_list]; omega
theorem size_drop (r : ByteArray) (n : Nat) : (r.extract n r.size).size = r.size - n := by rw [← len_list, list_drop, List.length_drop, len_list]

/-- what is read, and what is left -/
def Took (w w' : World) (bp : Nat) (r : ByteArray) (v : Value) (p : UInt8 → Bool) (e : Ending) : Prop :=
  ∃ a b : ByteArray, e = .returned (.string a) ∧ Reads w w' bp b v ∧ a.data.toList = r.data.toList.takeWhile p ∧ b.data.toList = r.data.toList.dropWhile p ∧ a.size + b.size = r.size
theorem took_at {w w' : World} {bp n : Nat} {r : ByteArray} {v : Value} {p : UInt8 → Bool} (hn : n = (r.data.toList.takeWhile p).length) (h : Reads w w' bp (r.extract n r.size) v) : Took w w' bp r v p (.returned (.string (r.extract 0 n))) := by
  have hle : n ≤ r.size := by
    have := U.take_while_le p r.data.toList
    rw [len_list] at this
    omega
  refine ⟨_, _, rfl, h, ?_, ?_, ?_⟩
  · rw [list_take, hn]; exact (U.take_while p _).1
  · rw [list_drop, hn]; exact (U.take_while p _).2
  · rw [size_take _ _ hle, size_drop]; omega

set_option maxHeartbeats 2000000 in
set_option maxRecDepth 100000 in
theorem until_walk (chars : ByteArray) (w : World) (bp : Nat) (r : ByteArray) (v : Value) (h : w.heap[bp]? = some (parBlock r v)) (hr : r.size ≤ 1048576) (h5 : 5 ≤ chars.size) (hcs : chars.size ≤ 100) (ha : ∀ b ∈ chars.data.toList, b.toNat < 128) :
    Calls Tryz.prog 57 #[.pointer (some ⟨bp, 0, none⟩), .string chars] w fun e w' => Took w w' bp r v (fun b => !chars.data.toList.contains b) e := by
  obtain ⟨c0, c1, f0, f1⟩ := par_cells h
  have hany := index_any r chars w h5 hcs hr ha
  rcases U.any_while chars.data.toList r.data.toList with ⟨e1, e2⟩ | e1
  · rw [e1] at hany
    have HN := Lib.hid e2
    clear e1 e2 ha
    go_enter Tryz.func57, Tryz.ntmps57
    go_wp2_with (first
      | (refine hany.mono ?_; rintro e w2 ⟨rfl, b2⟩; have hR := (Reads.start h).later b2; obtain ⟨k0, k1, k2, k3⟩ := par_cells hR.par)
      | (refine (take_walk _ bp r.size r v hR.par (Nat.le_refl _)).mono ?_; rintro e w3 ⟨rfl, h3⟩))
    go_ret
    have HT := took_at (p := fun b => !chars.data.toList.contains b) (by rw [HN.out, len_list]) (hR.trans h3)
    rw [extract_all] at HT
    exact HT
  · rw [e1] at hany
    have hle := U.take_while_le (fun b => !chars.data.toList.contains b) r.data.toList
    rw [len_list] at hle
    obtain ⟨n, hn⟩ : ∃ n, n = (r.data.toList.takeWhile fun b => !chars.data.toList.contains b).length := ⟨_, rfl⟩
    rw [← hn] at hany hle
    have HN := Lib.hid hn
    clear e1 hn ha
    go_enter Tryz.func57, Tryz.ntmps57
    go_wp2_with (first
      | (refine hany.mono ?_; rintro e w2 ⟨rfl, b2⟩; have hR := (Reads.start h).later b2; obtain ⟨k0, k1, k2, k3⟩ := par_cells hR.par)
      | (refine (take_walk _ bp n r v hR.par hle).mono ?_; rintro e w3 ⟨rfl, h3⟩))
    go_ret
    exact took_at HN.out (hR.trans h3)

theorem trim_left (r chars : ByteArray) (w : World) (hcs : chars.size ≤ 100) (ha : ∀ b ∈ chars.data.toList, b.toNat < 128) :
    Calls Tryz.prog 81 #[.string r, .string chars] w fun e w' => e = .returned (.string ⟨(r.data.toList.dropWhile fun b => chars.data.toList.contains b).toArray⟩) ∧ Below w.heap.size w w' :=
  Any.strings_TrimLeft_laid Tryz.lays161 (by kernel_rfl) r chars w (by omega) (fun j b hb => ha b (List.mem_of_getElem? hb))

set_option maxHeartbeats 2000000 in
set_option maxRecDepth 100000 in
theorem skip_walk (chars : ByteArray) (w : World) (bp : Nat) (r : ByteArray) (v : Value) (h : w.heap[bp]? = some (parBlock r v)) (hr : r.size ≤ 1048576) (hcs : chars.size ≤ 100) (ha : ∀ b ∈ chars.data.toList, b.toNat < 128) :
    Calls Tryz.prog 58 #[.pointer (some ⟨bp, 0, none⟩), .string chars] w fun e w' => Took w w' bp r v (fun b => chars.data.toList.contains b) e := by
  obtain ⟨c0, c1, f0, f1⟩ := par_cells h
  have htl : ∀ w2, Calls Tryz.prog 81 #[.string r, .string chars] w2 fun e w' => e = .returned (.string ⟨(r.data.toList.dropWhile fun b => chars.data.toList.contains b).toArray⟩) ∧ Below w2.heap.size w2 w' := fun w2 => trim_left r chars w2 hcs ha
  obtain ⟨n, hn⟩ : ∃ n, n = (r.data.toList.takeWhile fun b => chars.data.toList.contains b).length := ⟨_, rfl⟩
  obtain ⟨t, ht⟩ : ∃ t, t = ByteArray.mk (r.data.toList.dropWhile fun b => chars.data.toList.contains b).toArray := ⟨_, rfl⟩
  have hle := U.take_while_le (fun b => chars.data.toList.contains b) r.data.toList
  rw [len_list, ← hn] at hle
  have hz : (r.size : Int) - (t.size : Int) = (n : Int) := by
    have : t.size = r.size - n := by rw [ht, size_of_mk, ← (U.take_while _ _).2, List.length_drop, len_list, ← hn]
    omega
  have hz2 : t.size ≤ r.size := by omega
  have hwn : IntKind.i64.wrap (n : Int) = (n : Int) := wrap_small _ (by omega) (by omega)
  rw [← ht] at htl
  have HN := Lib.hid hn
  clear hn ht ha
  go_enter Tryz.func58, Tryz.ntmps58
  go_wp2_with fail
  go_region_law (first
    | (refine step_call2 81 rfl _ _ _ rfl (.string r) (.string chars) (by rfl) (by rfl) (enters_of Tryz.func81 (by kernel_rfl) rfl) ((htl _).mono ?_); rintro e w2 ⟨rfl, b2⟩; refine ⟨_, rfl, ?_⟩; have hR := ((Reads.start h).later (below_drewN (Below.refl w.heap.size w) 1)).later b2; obtain ⟨k0, k1, k2, k3⟩ := par_cells hR.par)
    | (refine step_call2 36 rfl _ _ _ rfl (.pointer (some ⟨bp, 0, none⟩)) (.int .i64 n) (by rfl) (by first | rfl | (simp [Act.eval, Act.put, hz, hwn]; done)) (enters_of Tryz.func36 (by kernel_rfl) rfl) ((take_walk _ bp n r v hR.par hle).mono ?_); rintro e w3 ⟨rfl, h3⟩; refine ⟨_, rfl, ?_⟩))
  all_goals go_wp2_with fail
  all_goals go_ret
  all_goals exact took_at HN.out (hR.trans h3)

end Go.Proofs.YtankcnikebcpkaaGreatDoor

/- tok.withAttr. -/
import Derived.Test.YtkmjngpgngkalaaDoorParser
import Derived.Test.YtkmjngpgngkalaaDoorReadMath
import Derived.Test.YtkmjngpgngkalaaDoorAtts
import Derived.Outline
namespace Go.Proofs.YtkmjngpgngkalaaDoor
open Go.RowKit

set_option maxHeartbeats 4000000 in
set_option maxRecDepth 100000 in
theorem with_attr (w : World) (B : Nat) (v : Value) (al : List U.Att) (x : U.Att) (h : w.ownsRow B 42 2 v al.length (attCells al)) (hB : B ≤ w.heap.size) (hl : al.length ≤ 1048576) :
    Calls Tryd.prog 32 #[v, .agg #[.string ⟨x.1.toArray⟩, .string ⟨x.2.toArray⟩]] w fun e w' => ∃ v', e = .returned v' ∧ w'.ownsRow B 42 2 v' (U.withAtt al x).length (attCells (U.withAtt al x)) ∧ w.grownBy w' v.ownBlock := by
  obtain ⟨iA, hiA, hA0, hA1, hA2⟩ := info_parts infoAttr
  obtain ⟨ao, cap, rfl⟩ := own_form h
  have h1 := own_keep h ((Below.refl _ w).alloc (Nat.le_refl _) (.cells #[.string ⟨x.1.toArray⟩, .string ⟨x.2.toArray⟩] 42 (0, 0)))
  go_enter Tryd.func32, Tryd.ntmps32
  go_wp2_with fail
  go_loopw [9] (fun i wr => ∃ k : Nat, k ≤ al.length ∧ i = .int .i64 k ∧ wr.ownsRow B 42 2 (.slice ao al.length cap) al.length (attCells al) ∧ Hid ((al.take k).all (fun c => c.1 != x.1) = true) ∧ w.heap.size < wr.heap.size ∧ wr.heap[w.heap.size]? = some (.cells #[.string ⟨x.1.toArray⟩, .string ⟨x.2.toArray⟩] 42 (0, 0)) ∧ Below w.heap.size w wr) (fun i _ => al.length - (intOf i).toNat)
  case atStart => exact ⟨0, Nat.zero_le _, rfl, h1, rfl, by simp, heap_alloc_new _ _, (Below.refl _ w).alloc (Nat.le_refl _) _⟩
  case round =>
    obtain ⟨k, hk, rfl, hW, hall, hsz, hbx, hbw⟩ := hrel
    by_cases hlt : k < al.length
    · obtain ⟨g, c2, e2, d1, d2⟩ := row_att hW (List.getElem?_eq_getElem hlt)
      injection e2 with e2 _ e3
      subst e2
      subst e3
      have hy := Lib.hid (List.getElem?_eq_getElem hlt)
      generalize al[k]'hlt = y at *
      have hx0 : wr.cell? ⟨w.heap.size, 0, none⟩ = some (.string ⟨x.1.toArray⟩) := by rw [Lib.cell_of_heap hbx]; rfl
      have k4 := (cell_alloc_old wr (.cells #[.string ⟨y.1.toArray⟩, .string ⟨y.2.toArray⟩] 42 (0, 0)) ⟨w.heap.size, 0, none⟩ hsz).trans hx0
      have hbN := hbw.alloc (Nat.le_of_lt hsz) (.cells #[.string ⟨y.1.toArray⟩, .string ⟨y.2.toArray⟩] 42 (0, 0))
      have hWN := own_keep hW ((Below.refl _ wr).alloc (Nat.le_refl _) (.cells #[.string ⟨y.1.toArray⟩, .string ⟨y.2.toArray⟩] 42 (0, 0)))
      have hbxN : (wr.alloc (.cells #[.string ⟨y.1.toArray⟩, .string ⟨y.2.toArray⟩] 42 (0, 0))).heap[w.heap.size]? = _ := (Lib.alloc_old _ _ _ hsz).trans hbx
      by_cases he : y.1 = x.1
      · have hw : U.withAtt al x = al := by
          unfold U.withAtt
          rw [if_neg]
          intro hh
          have := List.all_eq_true.1 hh y (List.mem_of_getElem? hy.out)
          simp [he] at this
        have HW := Lib.hid hw
        have hbe : (y.1 == x.1) = true := beq_iff_eq.2 he
        clear hw hbx hall he
        go_wp2_with fail
        go_ret
        refine ⟨_, rfl, ?_, grown_below hbN _⟩
        rw [HW.out]
        exact hWN
      · have hs : Hid ((al.take (k + 1)).all (fun c => c.1 != x.1) = true) := by
          show _ = _
          rw [all_take _ hy.out, hall.out]
          simpa using he
        have hbe : (y.1 == x.1) = false := beq_eq_false_iff_ne.2 he
        clear hbx hall he
        go_wp2_with fail
        go_roundw
        case rel => exact ⟨k + 1, by omega, by go_num, hWN, hs, by simp; omega, hbxN, hbN⟩
        case measure => simp [intOf]; omega
    · obtain rfl : k = al.length := by omega
      have hw : U.withAtt al x = al ++ [x] := by
        unfold U.withAtt
        rw [if_pos]
        have := hall.out
        rwa [List.take_length] at this
      have HW := Lib.hid hw
      have hx0 : wr.cell? ⟨w.heap.size, 0, none⟩ = some (.string ⟨x.1.toArray⟩) := by rw [Lib.cell_of_heap hbx]; rfl
      have hx1 : wr.cell? ⟨w.heap.size, 1, none⟩ = some (.string ⟨x.2.toArray⟩) := by rw [Lib.cell_of_heap hbx]; rfl
      clear hw hall
      have hbz := hbw.size
      have hWN := own_keep hW ((Below.refl _ wr).alloc (Nat.le_refl _) (.cells #[.string ⟨x.1.toArray⟩, .string ⟨x.2.toArray⟩] 42 (0, 0)))
      have hgN := grown_below (hbw.alloc (Nat.le_of_lt hsz) (.cells #[.string ⟨x.1.toArray⟩, .string ⟨x.2.toArray⟩] 42 (0, 0))) ((Value.slice ao al.length cap).ownBlock)
      have ca0 : (wr.alloc (.cells #[.string ⟨x.1.toArray⟩, .string ⟨x.2.toArray⟩] 42 (0, 0))).cell? ⟨wr.heap.size, 0, none⟩ = some (str x.1) := by rw [Lib.cell_of_heap (heap_alloc_new wr _)]; rfl
      have ca1 : (wr.alloc (.cells #[.string ⟨x.1.toArray⟩, .string ⟨x.2.toArray⟩] 42 (0, 0))).cell? ⟨wr.heap.size, 1, none⟩ = some (str x.2) := by rw [Lib.cell_of_heap (heap_alloc_new wr _)]; rfl
      clear hbx h h1
      go_wp2_with (at_builtin; refine wpList_append_own _ rfl _ _ 25 rfl B 42 iA _ 2 32 Tryd.underlying25 hiA hA0 hA1 hA2 rfl (by decide) _ _ _ rfl hWN ⟨_, 0, none⟩ 1 1 [str x.1, str x.2] rfl rfl ?c1 ?c2 ?c3 ?c4 ?c5 ?_)
      case c1 =>
        intro j u hj
        match j, hj with
        | 0, hj => simp at hj; subst hj; simpa [Addr.add] using ca0
        | 1, hj => simp at hj; subst hj; simpa [Addr.add] using ca1
        | (j + 2), hj => simp at hj
      case c2 => first | exact ⟨rfl, rfl⟩ | (intro u hu; simp at hu; rcases hu with rfl | rfl <;> rfl)
      case c3 => unfold maxLen; omega
      case c4 => omega
      case c5 => first | omega | (simp; omega)
      intro v7 w7 hown7 hgrow7 _
      obtain ⟨ao7, cap7, rfl⟩ := own_form hown7
      go_wp2_with fail
      go_ret
      refine ⟨_, rfl, ?_, grown_trans hgN hgrow7⟩
      rw [HW.out, List.length_append, attCells_append]
      exact hown7

end Go.Proofs.YtkmjngpgngkalaaDoor

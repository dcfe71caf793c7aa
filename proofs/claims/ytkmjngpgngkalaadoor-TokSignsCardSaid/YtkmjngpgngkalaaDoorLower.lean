/- tok.lower. -/
import Derived.Test.YtkmjngpgngkalaaDoorParser
import Derived.Test.YtkmjngpgngkalaaDoorTokMath
import Derived.Lib.ConvBytes
import Derived.Laws.IdiomStrings
import Derived.Outline
namespace Go.Proofs.YtkmjngpgngkalaaDoor
open Go.RowKit

/-- while the bytes are lowered: the first k are -/
structure LowW (w wr : World) (s : ByteArray) (k : Nat) : Prop where
  below : Below w.heap.size w wr
  done : ∀ (j : Nat) (b : UInt8), j < k → s.data.toList[j]? = some b → wr.cell? ⟨w.heap.size, j, none⟩ = some (.int .u8 (U.low1 b).toNat)
  todo : ∀ (j : Nat) (b : UInt8), k ≤ j → s.data.toList[j]? = some b → wr.cell? ⟨w.heap.size, j, none⟩ = some (.int .u8 b.toNat)
  warm : ∀ (j : Nat), j < s.size → wr.frozen? ⟨w.heap.size, j, none⟩ = false
theorem LowW.start (w : World) (s : ByteArray) : LowW w (Lib.bytesWorld w 5 s) s 0 := by
  refine ⟨⟨by simp [Lib.bytesWorld, World.freeze, World.alloc, World.drew, -World.alloc_eq, -World.drew_eq], by simp [Lib.bytesWorld, World.freeze, World.alloc, World.drew, -World.alloc_eq, -World.drew_eq], by simp [Lib.bytesWorld, World.freeze, World.alloc, World.drew, -World.alloc_eq, -World.drew_eq], by rw [Lib.bytesWorld_size]; omega, fun k hk => Lib.bytesWorld_at_old w _ s k hk⟩, fun j b hj => by omega, fun j b _ hb => ?_, fun j hj => ?_⟩
  · have hlt : j < s.size := by
      have := (List.getElem?_eq_some_iff.1 hb).1
      rwa [len_list] at this
    rw [Lib.bytesWorld_cell w _ s j hlt, List.getD_eq_getElem?_getD, hb]
    rfl
  · unfold World.frozen?
    rw [Lib.bytesWorld_at_new]
    have : s.size ≤ (Lib.bytesCells w 5 s).size := by
      unfold Lib.bytesCells
      rw [Array.size_append, Array.size_map]
      show s.data.size ≤ _
      omega
    simp only [Bool.and_eq_false_iff, decide_eq_false_iff_not]
    left
    show ¬ (Lib.bytesCells w 5 s).size ≤ j
    omega
theorem LowW.set {w wr : World} {s : ByteArray} {k : Nat} {b : UInt8} (h : LowW w wr s k) (hb : s.data.toList[k]? = some b) : LowW w (wr.setCell ⟨w.heap.size, k, none⟩ (.int .u8 (U.low1 b).toNat)) s (k + 1) := by
  refine ⟨h.below.setCell (p := ⟨w.heap.size, k, none⟩) (Nat.le_refl _) _, fun j c hj hc => ?_, fun j c hj hc => ?_, fun j hj => by rw [World.frozen?_setCell]; exact h.warm j hj⟩
  · by_cases e : j = k
    · subst e
      rw [hb] at hc
      injection hc with hc
      subst hc
      exact World.cell?_setCell_same _ _ _ (h.todo j b (Nat.le_refl _) hb)
    · rw [World.cell?_setCell_other _ _ _ _ (fun e2 => e (by injection e2 with _ e2; exact e2.symm))]
      exact h.done j c (by omega) hc
  · rw [World.cell?_setCell_other _ _ _ _ (fun e2 => by injection e2 with _ e2; omega)]
    exact h.todo j c (by omega) hc
theorem LowW.next {w wr : World} {s : ByteArray} {k : Nat} {b : UInt8} (h : LowW w wr s k) (hb : s.data.toList[k]? = some b) (hl : U.low1 b = b) : LowW w wr s (k + 1) := by
  refine ⟨h.below, fun j c hj hc => ?_, fun j c hj hc => h.todo j c (by omega) hc, h.warm⟩
  by_cases e : j = k
  · subst e
    rw [hb] at hc
    injection hc with hc
    subst hc
    rw [hl]
    exact h.todo j b (Nat.le_refl _) hb
  · exact h.done j c (by omega) hc
theorem LowW.fin {w wr : World} {s : ByteArray} (h : LowW w wr s s.size) (cap : Nat) : (convert 59 9 (.slice (some ⟨w.heap.size, 0, none⟩) s.size cap)).run Tryd.prog wr = .ok (.string ⟨(U.low s.data.toList).toArray⟩) wr := by
  have e : s.size = (U.low s.data.toList).length := by rw [U.low_length, len_list]
  rw [e]
  refine run_convert_bytes_back wr _ _ 5 _ cap (U.low s.data.toList) Tryd.underlying59 Tryd.underlying5 Tryd.underlying9 (fun j hj => ?_)
  have hj2 : j < s.data.toList.length := by rwa [U.low_length] at hj
  have := h.done j _ (by rwa [← e] at hj) (List.getElem?_eq_getElem hj2)
  have e2 : (U.low s.data.toList)[j] = U.low1 (s.data.toList[j]) := by simp [U.low]
  rw [e2, show (⟨w.heap.size, 0, none⟩ : Addr).add j = ⟨w.heap.size, j, none⟩ from by cases j <;> simp [Addr.add]]
  exact this

set_option maxHeartbeats 4000000 in
set_option maxRecDepth 100000 in
theorem lower_walk (s : ByteArray) (w : World) (hs : s.size ≤ 140737488351232) :
    Calls Tryd.prog 28 #[.string s] w fun e w' => e = .returned (.string ⟨(U.low s.data.toList).toArray⟩) ∧ Below w.heap.size w w' := by
  have hcv := Lib.run_convert_string_bytes (P := Tryd.prog) w 9 59 5 s (u := .string) Tryd.underlying9 Tryd.underlying59 Tryd.underlying5
  have h0 := LowW.start w s
  generalize grownCap w s.size 0 5 = cap at *
  generalize Lib.bytesWorld w 5 s = w0 at *
  go_enter Tryd.func28, Tryd.ntmps28
  go_wp2_with fail
  go_loopw [10] (fun i wr => ∃ k : Nat, k ≤ s.size ∧ i = .int .i64 k ∧ LowW w wr s k) (fun i _ => s.size - (intOf i).toNat)
  case atStart => exact ⟨0, Nat.zero_le _, rfl, h0⟩
  case round =>
    obtain ⟨k, hk, rfl, hW⟩ := hrel
    by_cases hlt : k < s.size
    · have hg := byte_get s hlt
      generalize s[k]'hlt = b at hg
      have hb := b.toNat_lt
      have hc := hW.todo k b (Nat.le_refl _) hg
      have hf := hW.warm k hlt
      by_cases hup : 65 ≤ b.toNat ∧ b.toNat ≤ 90
      · have hv : (b.toNat : Int) + 97 - 65 = ((U.low1 b).toNat : Int) := by
          unfold U.low1
          rw [if_pos hup]
          simp
          omega
        have HN := hW.set hg
        obtain ⟨u0, u1⟩ := hup
        clear hg hW
        go_wp2_with fail
        go_roundw
        case rel => exact ⟨k + 1, by omega, by go_num, HN⟩
        case measure => simp [intOf]; omega
      · have hl : U.low1 b = b := by unfold U.low1; rw [if_neg hup]
        have HN := hW.next hg hl
        clear hg hW hl
        rcases Nat.lt_or_ge b.toNat 65 with h1 | h1
        · clear hup
          go_wp2_with fail
          go_roundw
          case rel => exact ⟨k + 1, by omega, by go_num, HN⟩
          case measure => simp [intOf]; omega
        · have h2 : 91 ≤ b.toNat := by omega
          clear hup
          go_wp2_with fail
          go_roundw
          case rel => exact ⟨k + 1, by omega, by go_num, HN⟩
          case measure => simp [intOf]; omega
    · obtain rfl : k = s.size := by omega
      have hfin := hW.fin cap
      have hbl := hW.below
      clear hW
      go_wp2_with fail
      go_ret
      exact ⟨rfl, hbl⟩

end Go.Proofs.YtkmjngpgngkalaaDoor

/- Several texts in one: TagAt, TokI, TokLA, TokLB. -/
import Derived.Laws.EntriesVeiled
import Derived.Deep.DeepCutAuto
import Derived.WalkSpells
import Derived.Deep.QuietTactic
import Derived.BigQuiet
import Derived.Deep.RegionLaw
import Derived.Deep.Quiet
import Derived.Shelf.Abstract
import Derived.Test.YtcdgiohogddbkaaGreatDoorTagS0
import Derived.Test.YtcdgiohogddbkaaGreatDoorTagS1
import Derived.Test.YtcdgiohogddbkaaGreatDoorTagS2
import Derived.Test.YtcdgiohogddbkaaGreatDoorTagS3
import Derived.Test.YtcdgiohogddbkaaGreatDoorP21
import Derived.Test.YtcdgiohogddbkaaGreatDoorTagS6
import Derived.Test.YtcdgiohogddbkaaGreatDoorP16
namespace Go.Proofs.YtcdgiohogddbkaaGreatDoor
open Go.RowKit

set_option maxHeartbeats 16000000 in
set_option maxRecDepth 1000000 in
theorem tag_at (s : ByteArray) (a : Nat) (w : World) (hs : s.size ≤ 1048576) (ha : a ≤ s.size) :
    Calls Tryz.prog 28 #[.string s, .int .i64 a] w fun e w' => ∃ v, e = .returned v ∧ tagV s.data.toList a w.heap.size w' v ∧ Below w.heap.size w w' := by
  obtain ⟨iA, hiA, hA0, hA1, hA2⟩ := info_parts infoAttr
  go_enter Tryz.func28, Tryz.ntmps28
  go_wp2_with fail
  go_loopw [1, 8, 9, 10, 11, 12, 13] (fun vi va vs vn vv vq vb wr => ∃ (k : Nat) (st : U.St), a ≤ k ∧ k ≤ s.size ∧ vi = .int .i64 k ∧ vs = .int .i64 st.state ∧ st.state ≤ 6 ∧ vn = .string ⟨st.name.toArray⟩ ∧ vv = .string ⟨st.value.toArray⟩ ∧ vq = .int .u8 st.quote.toNat ∧ vb = .bool st.slash ∧ TagW w wr va st.tname st.all ∧
      Hid (U.runM st (s.data.toList.drop k) = U.runM U.st0 (s.data.toList.drop a)) ∧ st.name.length ≤ k ∧ st.value.length ≤ k ∧ st.tname.length ≤ k ∧ st.all.length ≤ k) (fun vi _ vs _ _ _ _ _ => 2 * (s.size - (intOf vi).toNat) + (if intOf vs = 4 then 1 else 0))
  case atStart => exact ⟨a, U.st0, Nat.le_refl _, ha, rfl, rfl, by decide, rfl, rfl, rfl, rfl, TagW.start w, rfl, by simp [U.st0], by simp [U.st0], by simp [U.st0], by simp [U.st0]⟩
  case round =>
    obtain ⟨k, st, hak, hk, rfl, rfl, hst, rfl, rfl, rfl, rfl, hW, hrun, l1, l2, l3, l4⟩ := hrel
    by_cases hlt : k < s.size
    · obtain ⟨state, tname, name, value, quote, slash, all⟩ := st
      simp only at *
      match state, hst with
      | 0, _ => exact tag_round0 s a w hs iA hiA hA0 hA1 hA2 _ wr _ _ _ _ _ _ _ _ _ _ _ _ _ _ _ _ _ _ _ _ _ _ _ _ _ _ _ _ _ _ _ _ _ _ _ _ _ _ _ _ _ _ _ _ _ _ _ _ _ _ _ _ _ _ _ _ _ _ _ _ _ _ _ _ _ _ _ _ _ _ _ _ _ _ _ _ _ _ _ _ _ _ _ _ _ _ _ _ _ _ _ _ _ _ _ _ _ _ _ _ _ _ _ _ _ _ _ _ _ _ _ _ _ _ _ _ _ _ _ _ _ _ _ _ _ _ _ _ _ _ _ _ _ _ _ _ _ _ _ _ _ _ _ _ _ _ _ _ _ _ _ _ _ _ _ _ _ _ _ _ _ _ _ _ _ _ _ _ _ _ _ _ _ _ _ _ _ _ _ _ _ _ _ _ _ _ _ _ _ _ _ _ _ _ k tname name value quote slash all hak hlt hW hrun l1 l2 l3 l4
      | 1, _ => exact tag_round1 s a w hs iA hiA hA0 hA1 hA2 _ wr _ _ _ _ _ _ _ _ _ _ _ _ _ _ _ _ _ _ _ _ _ _ _ _ _ _ _ _ _ _ _ _ _ _ _ _ _ _ _ _ _ _ _ _ _ _ _ _ _ _ _ _ _ _ _ _ _ _ _ _ _ _ _ _ _ _ _ _ _ _ _ _ _ _ _ _ _ _ _ _ _ _ _ _ _ _ _ _ _ _ _ _ _ _ _ _ _ _ _ _ _ _ _ _ _ _ _ _ _ _ _ _ _ _ _ _ _ _ _ _ _ _ _ _ _ _ _ _ _ _ _ _ _ _ _ _ _ _ _ _ _ _ _ _ _ _ _ _ _ _ _ _ _ _ _ _ _ _ _ _ _ _ _ _ _ _ _ _ _ _ _ _ _ _ _ _ _ _ _ _ _ _ _ _ _ _ _ _ _ _ _ _ _ _ k tname name value quote slash all hak hlt hW hrun l1 l2 l3 l4
      | 2, _ => exact tag_round2 s a w hs iA hiA hA0 hA1 hA2 _ wr _ _ _ _ _ _ _ _ _ _ _ _ _ _ _ _ _ _ _ _ _ _ _ _ _ _ _ _ _ _ _ _ _ _ _ _ _ _ _ _ _ _ _ _ _ _ _ _ _ _ _ _ _ _ _ _ _ _ _ _ _ _ _ _ _ _ _ _ _ _ _ _ _ _ _ _ _ _ _ _ _ _ _ _ _ _ _ _ _ _ _ _ _ _ _ _ _ _ _ _ _ _ _ _ _ _ _ _ _ _ _ _ _ _ _ _ _ _ _ _ _ _ _ _ _ _ _ _ _ _ _ _ _ _ _ _ _ _ _ _ _ _ _ _ _ _ _ _ _ _ _ _ _ _ _ _ _ _ _ _ _ _ _ _ _ _ _ _ _ _ _ _ _ _ _ _ _ _ _ _ _ _ _ _ _ _ _ _ _ _ _ _ _ _ k tname name value quote slash all hak hlt hW hrun l1 l2 l3 l4
      | 3, _ => exact tag_round3 s a w hs iA hiA hA0 hA1 hA2 _ wr _ _ _ _ _ _ _ _ _ _ _ _ _ _ _ _ _ _ _ _ _ _ _ _ _ _ _ _ _ _ _ _ _ _ _ _ _ _ _ _ _ _ _ _ _ _ _ _ _ _ _ _ _ _ _ _ _ _ _ _ _ _ _ _ _ _ _ _ _ _ _ _ _ _ _ _ _ _ _ _ _ _ _ _ _ _ _ _ _ _ _ _ _ _ _ _ _ _ _ _ _ _ _ _ _ _ _ _ _ _ _ _ _ _ _ _ _ _ _ _ _ _ _ _ _ _ _ _ _ _ _ _ _ _ _ _ _ _ _ _ _ _ _ _ _ _ _ _ _ _ _ _ _ _ _ _ _ _ _ _ _ _ _ _ _ _ _ _ _ _ _ _ _ _ _ _ _ _ _ _ _ _ _ _ _ _ _ _ _ _ _ _ _ _ k tname name value quote slash all hak hlt hW hrun l1 l2 l3 l4
      | 4, _ => exact tag_round4 s a w hs _ wr _ _ _ _ _ _ _ _ _ _ _ _ _ _ _ _ _ _ _ _ _ _ _ _ _ _ _ _ _ _ _ _ _ _ _ _ _ _ _ _ _ _ _ _ _ _ _ _ _ _ _ _ _ _ _ _ _ _ _ _ _ _ _ _ _ _ _ _ _ _ _ _ _ _ _ _ _ _ _ _ _ _ _ _ _ _ _ _ _ _ _ _ _ _ _ _ _ _ _ _ _ _ _ _ _ _ _ _ _ _ _ _ _ _ _ _ _ _ _ _ _ _ _ _ _ _ _ _ _ _ _ _ _ _ _ _ _ _ _ _ _ _ _ _ _ _ _ _ _ _ _ _ _ _ _ _ _ _ _ _ _ _ _ _ _ _ _ _ _ _ _ _ _ _ _ _ _ _ _ _ _ _ _ _ _ _ _ _ _ _ _ _ _ _ k tname name value quote slash all hak hlt hW hrun l1 l2 l3 l4
      | 5, _ => exact tag_round5 s a w hs iA hiA hA0 hA1 hA2 _ wr _ _ _ _ _ _ _ _ _ _ _ _ _ _ _ _ _ _ _ _ _ _ _ _ _ _ _ _ _ _ _ _ _ _ _ _ _ _ _ _ _ _ _ _ _ _ _ _ _ _ _ _ _ _ _ _ _ _ _ _ _ _ _ _ _ _ _ _ _ _ _ _ _ _ _ _ _ _ _ _ _ _ _ _ _ _ _ _ _ _ _ _ _ _ _ _ _ _ _ _ _ _ _ _ _ _ _ _ _ _ _ _ _ _ _ _ _ _ _ _ _ _ _ _ _ _ _ _ _ _ _ _ _ _ _ _ _ _ _ _ _ _ _ _ _ _ _ _ _ _ _ _ _ _ _ _ _ _ _ _ _ _ _ _ _ _ _ _ _ _ _ _ _ _ _ _ _ _ _ _ _ _ _ _ _ _ _ _ _ _ _ _ _ _ k tname name value quote slash all hak hlt hW hrun l1 l2 l3 l4
      | 6, _ => exact tag_round6 s a w hs iA hiA hA0 hA1 hA2 _ wr _ _ _ _ _ _ _ _ _ _ _ _ _ _ _ _ _ _ _ _ _ _ _ _ _ _ _ _ _ _ _ _ _ _ _ _ _ _ _ _ _ _ _ _ _ _ _ _ _ _ _ _ _ _ _ _ _ _ _ _ _ _ _ _ _ _ _ _ _ _ _ _ _ _ _ _ _ _ _ _ _ _ _ _ _ _ _ _ _ _ _ _ _ _ _ _ _ _ _ _ _ _ _ _ _ _ _ _ _ _ _ _ _ _ _ _ _ _ _ _ _ _ _ _ _ _ _ _ _ _ _ _ _ _ _ _ _ _ _ _ _ _ _ _ _ _ _ _ _ _ _ _ _ _ _ _ _ _ _ _ _ _ _ _ _ _ _ _ _ _ _ _ _ _ _ _ _ _ _ _ _ _ _ _ _ _ _ _ _ _ _ _ _ _ k tname name value quote slash all hak hlt hW hrun l1 l2 l3 l4
    · obtain rfl : k = s.size := by omega
      have hrn := hrun.out
      rw [List.drop_of_length_le (by rw [len_list]; exact Nat.le_refl _), U.runM_nil] at hrn
      have HRN := Lib.hid hrn.symm
      have hWs := hW.size
      have hres0 := hW.res
      unfold tokBlock at hres0
      have r0 : wr.cell? ⟨w.heap.size, 0, none⟩ = some (.int .i64 0) := by rw [Lib.cell_of_heap hres0]; rfl
      have r1 : wr.cell? ⟨w.heap.size, 1, none⟩ = some (.string ⟨#[]⟩) := by rw [Lib.cell_of_heap hres0]; rfl
      have r2 : wr.cell? ⟨w.heap.size, 2, none⟩ = some (.slice none 0 0) := by rw [Lib.cell_of_heap hres0]; rfl
      have r3 : wr.cell? ⟨w.heap.size, 3, none⟩ = some (.bool false) := by rw [Lib.cell_of_heap hres0]; rfl
      have r4 : wr.cell? ⟨w.heap.size, 4, none⟩ = some (.string ⟨#[]⟩) := by rw [Lib.cell_of_heap hres0]; rfl
      have g0 := Lib.frozen_of_heap hres0 0
      have g1 := Lib.frozen_of_heap hres0 1
      have g2 := Lib.frozen_of_heap hres0 2
      have g3 := Lib.frozen_of_heap hres0 3
      have g4 := Lib.frozen_of_heap hres0 4
      clear hrn hrun hres0
      obtain ⟨hb9, hw9⟩ := hW.final0
      have x0 : (zeroW wr w.heap.size).cell? ⟨w.heap.size, 0, none⟩ = some (.int .i64 0) := by rw [Lib.cell_of_heap hb9]; rfl
      have x1 : (zeroW wr w.heap.size).cell? ⟨w.heap.size, 1, none⟩ = some (.string ⟨#[]⟩) := by rw [Lib.cell_of_heap hb9]; rfl
      have x2 : (zeroW wr w.heap.size).cell? ⟨w.heap.size, 2, none⟩ = some (.slice none 0 0) := by rw [Lib.cell_of_heap hb9]; rfl
      have x3 : (zeroW wr w.heap.size).cell? ⟨w.heap.size, 3, none⟩ = some (.bool false) := by rw [Lib.cell_of_heap hb9]; rfl
      have x4 : (zeroW wr w.heap.size).cell? ⟨w.heap.size, 4, none⟩ = some (.string ⟨#[]⟩) := by rw [Lib.cell_of_heap hb9]; rfl
      go_wp2_with fail
      generalize hW9 : zeroW wr w.heap.size = W9 at x0 x1 x2 x3 x4 hw9
      unfold zeroW at hW9
      rw [hW9]
      clear hW9 hb9
      refine bodyPost_ret (v := .tuple #[.agg #[.int .i64 0, .string ⟨#[]⟩, .slice none 0 0, .bool false, .string ⟨#[]⟩], .int .i64 0, .bool false]) ?hres rfl ?_
      case hres => simp [results, Tryz.results28, go_sem, x0, x1, x2, x3, x4]
      refine ⟨_, rfl, ?_, hw9⟩
      unfold tagV
      rw [HRN.out]

end Go.Proofs.YtcdgiohogddbkaaGreatDoor

namespace Go.Proofs.YtcdgiohogddbkaaGreatDoor
open Go.RowKit

abbrev tz1 (w : World) (s : ByteArray) : World := w.alloc (.cells #[.string s] 9 (0, 0))
abbrev tz2 (w : World) (s : ByteArray) : World := (tz1 w s).alloc (.cells #[.slice none 0 0] 22 (0, 0))
abbrev tz3 (w : World) (s : ByteArray) : World := (tz2 w s).alloc (.cells #[.string ⟨#[]⟩] 9 (0, 0))
abbrev tz4 (w : World) (s : ByteArray) : World := (tz3 w s).alloc (.cells #[.func (.func 23) #[] #[.pointer (some ⟨w.heap.size + 1 + 1, 0, none⟩), .pointer (some ⟨w.heap.size + 1, 0, none⟩)]] 1 (0, 0))
theorem tz4_size (w : World) (s : ByteArray) : (tz4 w s).heap.size = w.heap.size + 4 := by simp
theorem tz_block (w : World) (s : ByteArray) : (tz4 w s).heap[w.heap.size]? = some (.cells #[.string s] 9 (0, 0)) ∧ (tz4 w s).heap[w.heap.size + 1]? = some (.cells #[.slice none 0 0] 22 (0, 0)) ∧ (tz4 w s).heap[w.heap.size + 2]? = some (.cells #[.string ⟨#[]⟩] 9 (0, 0)) ∧
    (tz4 w s).heap[w.heap.size + 3]? = some (.cells #[.func (.func 23) #[] #[.pointer (some ⟨w.heap.size + 1 + 1, 0, none⟩), .pointer (some ⟨w.heap.size + 1, 0, none⟩)]] 1 (0, 0)) := by
  refine ⟨?_, ?_, ?_, ?_⟩
  · rw [Lib.alloc_old _ _ _ (by simp; omega), Lib.alloc_old _ _ _ (by simp; omega), Lib.alloc_old _ _ _ (by simp)]
    exact heap_alloc_new w _
  · rw [Lib.alloc_old _ _ _ (by simp), Lib.alloc_old _ _ _ (by simp)]
    have := heap_alloc_new (tz1 w s) (.cells #[.slice none 0 0] 22 (0, 0))
    simpa using this
  · rw [Lib.alloc_old _ _ _ (by simp)]
    have := heap_alloc_new (tz2 w s) (.cells #[.string ⟨#[]⟩] 9 (0, 0))
    simpa using this
  · have := heap_alloc_new (tz3 w s) (.cells #[.func (.func 23) #[] #[.pointer (some ⟨w.heap.size + 1 + 1, 0, none⟩), .pointer (some ⟨w.heap.size + 1, 0, none⟩)]] 1 (0, 0))
    simpa using this
theorem tz_start (w : World) (s : ByteArray) : TokW w (tz4 w s) (tz4 w s) (w.heap.size + 4) (w.heap.size + 1 + 1) (w.heap.size + 1) (.slice none 0 0) [] [] := by
  obtain ⟨h0, h1, h2, h3⟩ := tz_block w s
  exact ⟨h2, h1, World.ownsRow_nil _ _ _ _, fun x hx => (by cases hx), ((((Below.refl _ w).alloc (Nat.le_refl _) _).alloc (by simp) _).alloc (by simp; omega) _).alloc (by simp; omega) _, by omega, by omega, by omega, by omega, by omega, by simp, fun _ _ _ _ => rfl⟩
theorem tz_shut (w : World) (s : ByteArray) : Shut s (tz4 w s) (w.heap.size + 4) (w.heap.size + 1 + 1) (w.heap.size + 1) w.heap.size (w.heap.size + 1 + 1 + 1) := by
  obtain ⟨h0, h1, h2, h3⟩ := tz_block w s
  exact ⟨h0, h3, by omega, by omega, by omega, by omega, by omega, by omega⟩

theorem new_cells5 {w : World} {n : Nat} {a b c d e : Value} {t : TypeId} (h : w.heap[n]? = some (.cells #[a, b, c, d, e] t (0, 0))) : ∀ (j : Nat) u, [a, b, c, d, e][j]? = some u → w.cell? ((⟨n, 0, none⟩ : Addr).add j) = some u := by
  intro j u hj
  have e0 : (⟨n, 0, none⟩ : Addr).add j = ⟨n, j, none⟩ := by cases j <;> simp [Addr.add]
  rw [e0, Lib.cell_of_heap h]
  match j, hj with
  | 0, hj => simpa using hj
  | 1, hj => simpa using hj
  | 2, hj => simpa using hj
  | 3, hj => simpa using hj
  | 4, hj => simpa using hj
  | (j + 5), hj => simp at hj
/-- what stands where the loop begins a round -/
def TkR (s : ByteArray) (w z wr : World) (va : Value) : Prop := ∃ (k : Nat) (v : Value) (txt : List UInt8) (l : List (U.Tok × Value)), k ≤ s.size ∧ va = .int .i64 k ∧ TokW w z wr (w.heap.size + 4) (w.heap.size + 1 + 1) (w.heap.size + 1) v txt l ∧
  l.map (·.1) ++ U.toksT txt (s.data.toList.drop k) = U.toks s.data.toList ∧ txt.length ≤ k ∧ l.length ≤ 3 * k

theorem text_more (s : ByteArray) (txt : List UInt8) {k : Nat} (hlt : k < s.size) : (⟨txt.toArray⟩ : ByteArray) ++ s.extract k (k + 1) = ⟨(txt ++ [s[k]'hlt]).toArray⟩ := by
  apply ByteArray.ext
  apply Array.toList_inj.1
  rw [ByteArray.data_append, Array.toList_append, Lib.extract_data, drop_byte (byte_get s hlt)]
  simp
theorem TkR.text {s : ByteArray} {w z wr : World} {k : Nat} {v : Value} {txt : List UInt8} {l : List (U.Tok × Value)} (h : TokW w z wr (w.heap.size + 4) (w.heap.size + 1 + 1) (w.heap.size + 1) v txt l) (hlt : k < s.size)
    (heq : l.map (·.1) ++ U.toksT txt (s.data.toList.drop k) = U.toks s.data.toList) (ht : txt.length ≤ k) (hl : l.length ≤ 3 * k) (hi : U.item (s.data.toList.drop k) = .text) :
    TkR s w z (wr.setCell ⟨w.heap.size + 1 + 1, 0, none⟩ (.string (⟨txt.toArray⟩ ++ s.extract k (k + 1)))).drew (.int .i64 ((k : Int) + 1)) := by
  rw [text_more s txt hlt]
  refine ⟨k + 1, v, _, l, hlt, rfl, (h.setText (txt ++ [s[k]'hlt])).later (below_drewN (Below.refl _ _) 1), ?_, by rw [List.length_append, List.length_singleton]; omega, by omega⟩
  rw [← heq, U.toksT_text txt (drop_byte (byte_get s hlt)) hi]
/-- a round that a comment ends -/
theorem TkR.mark {s : ByteArray} {w z w2 : World} {k q : Nat} {v2 : Value} {txt : List UInt8} {l l2 : List (U.Tok × Value)} {t : U.Tok} {rest : List UInt8} (h2 : TokW w z w2 (w.heap.size + 4) (w.heap.size + 1 + 1) (w.heap.size + 1) v2 [] l2)
    (heq : l.map (·.1) ++ U.toksT txt (s.data.toList.drop k) = U.toks s.data.toList) (hl : l.length ≤ 3 * k) (hi : U.item (s.data.toList.drop k) = .mark t rest) (hq : q ≤ s.size) (hkq : k < q) (hr : s.data.toList.drop q = rest)
    (e2 : l2.map (·.1) = l.map (·.1) ++ (U.chars txt ++ [t])) (n2 : l2.length ≤ l.length + 2) : TkR s w z w2 (.int .i64 q) := by
  refine ⟨q, v2, [], l2, hq, rfl, h2, ?_, Nat.zero_le _, by omega⟩
  rw [← heq, U.toksT_flush txt (.inr (by rw [hi]; simp)), U.toksT_mark hi, e2, hr]
  simp

theorem own_same {w w' : World} {base z n : Nat} {e : TypeId} {v : Value} {xs : List Value} (h : w.ownsRow base e z v n xs) (hk : ∀ g, v.ownBlock = some g → w'.heap[g]? = w.heap[g]?) : w'.ownsRow base e z v n xs := by
  refine ⟨h.1, ?_⟩
  rcases h.2 with h0 | ⟨g, cap, cur, hv, hb, hg, r⟩
  · exact .inl h0
  · exact .inr ⟨g, cap, cur, hv, hb, (hk g (by rw [hv]; rfl)).trans hg, r⟩
/-- a round that ends the text: a tag that does not end -/
theorem TkR.stop {s : ByteArray} {w z w2 : World} {k : Nat} {v2 : Value} {txt : List UInt8} {l l2 : List (U.Tok × Value)} (h2 : TokW w z w2 (w.heap.size + 4) (w.heap.size + 1 + 1) (w.heap.size + 1) v2 [] l2)
    (heq : l.map (·.1) ++ U.toksT txt (s.data.toList.drop k) = U.toks s.data.toList) (hk : k < s.size) (hl : l.length ≤ 3 * k) (hi : U.item (s.data.toList.drop k) = .stop)
    (e2 : l2.map (·.1) = l.map (·.1) ++ U.chars txt) (n2 : l2.length ≤ l.length + 1) : TkR s w z w2 (.int .i64 s.size) := by
  refine ⟨s.size, v2, [], l2, Nat.le_refl _, rfl, h2, ?_, Nat.zero_le _, by omega⟩
  rw [← heq, U.toksT_flush txt (.inr (by rw [hi]; simp)), U.toksT_stop hi, e2, List.drop_of_length_le (by rw [len_list]; exact Nat.le_refl _), U.toksT_nil]
  simp [U.chars]
/-- a round that an end tag ends -/
theorem TkR.close {s : ByteArray} {w z w2 : World} {k p : Nat} {v2 : Value} {txt n rest : List UInt8} {l l2 : List (U.Tok × Value)} (h2 : TokW w z w2 (w.heap.size + 4) (w.heap.size + 1 + 1) (w.heap.size + 1) v2 [] l2)
    (heq : l.map (·.1) ++ U.toksT txt (s.data.toList.drop k) = U.toks s.data.toList) (hl : l.length ≤ 3 * k) (hi : U.item (s.data.toList.drop k) = .close n rest) (hp : p ≤ s.size) (hkp : k < p) (hr : rest = s.data.toList.drop p)
    (e2 : l2.map (·.1) = l.map (·.1) ++ (U.chars txt ++ [⟨2, n, [], false, []⟩])) (n2 : l2.length ≤ l.length + 2) : TkR s w z w2 (.int .i64 p) := by
  refine ⟨p, v2, [], l2, hp, rfl, h2, ?_, Nat.zero_le _, by omega⟩
  rw [← heq, U.toksT_flush txt (.inr (by rw [hi]; simp)), U.toksT_close hi, e2, hr]
  simp

/-- a cell of a variable of the round is written -/
theorem TokW.setOther {w z wr : World} {B bt bo b : Nat} {v : Value} {txt : List UInt8} {l : List (U.Tok × Value)} (h : TokW w z wr B bt bo v txt l) {cs : Array Value} (hb : wr.heap[b]? = some (.cells cs 34 (0, 0))) (hB : B ≤ b) (hne : some b ≠ v.ownBlock) (j : Nat) (x : Value) :
    TokW w z (wr.setCell ⟨b, j, none⟩ x) B bt bo v txt l := by
  have h1 := h.btB
  have h2 := h.boB
  have h3 := h.bt0
  have hk : ∀ k, k ≠ b → (wr.setCell ⟨b, j, none⟩ x).heap[k]? = wr.heap[k]? := fun k hk => Below.heap_setCell _ _ _ _ hk
  refine ⟨(hk _ (by omega)).trans h.text, (hk _ (by omega)).trans h.out, h.row.kept (row := some b) ⟨rfl, rfl, rfl, by simp [World.setCell], fun k _ e => hk k (fun e0 => e (by rw [e0]))⟩ (.inr (fun e => hne e.symm)), fun y hy => ?_, h.below.setCell (p := ⟨b, j, none⟩) (show w.heap.size ≤ b by omega) _, h.bt0, h.bo0, h1, h2, h.apart, by simpa [World.setCell] using h.size, fun k hk2 h5 h6 => (hk k (by omega)).trans (h.fix k hk2 h5 h6)⟩
  refine (h.atts y hy).kept (row := some b) ⟨rfl, rfl, rfl, by simp [World.setCell], fun k _ e => hk k (fun e0 => e (by rw [e0]))⟩ ?_
  rcases (h.atts y hy).2 with ⟨e, _⟩ | ⟨g, cap, cur, e, _, hg, _⟩
  · rw [e]; exact .inl rfl
  · rw [e]
    right
    intro e0
    have : g = b := by simpa [Value.ownBlock] using e0
    subst this
    rw [hb] at hg
    injection hg with hg
    injection hg with _ h5 _
    exact absurd h5 (by decide)
theorem own_setOther {w : World} {base z n b : Nat} {e : TypeId} {v : Value} {xs : List Value} (h : w.ownsRow base e z v n xs) {cs : Array Value} {t : TypeId} (hb : w.heap[b]? = some (.cells cs t (0, 0))) (ht : t ≠ e) (j : Nat) (x : Value) : (w.setCell ⟨b, j, none⟩ x).ownsRow base e z v n xs := by
  refine h.kept (row := some b) ⟨rfl, rfl, rfl, by simp [World.setCell], fun k _ e => Below.heap_setCell _ _ _ _ (fun e0 => e (by rw [e0]))⟩ ?_
  rcases h.2 with ⟨e, _⟩ | ⟨g, cap, cur, e, _, hg, _⟩
  · rw [e]; exact .inl rfl
  · rw [e]
    right
    intro e0
    have : g = b := by simpa [Value.ownBlock] using e0
    subst this
    rw [hb] at hg
    injection hg with hg
    injection hg with _ h5 _
    exact absurd h5 ht
/-- the block of a start tag's variable -/
abbrev tagBlock (n : List UInt8) (av : Value) (sl : Bool) : Obj := .cells #[.int .i64 1, .string ⟨n.toArray⟩, av, .bool sl, .string ⟨#[]⟩] 34 (0, 0)
/-- a round that a start tag ends -/
theorem TkR.open {s : ByteArray} {w z w2 : World} {k p : Nat} {v2 : Value} {txt n rest : List UInt8} {al : List U.Att} {sl : Bool} {l l2 : List (U.Tok × Value)} (h2 : TokW w z w2 (w.heap.size + 4) (w.heap.size + 1 + 1) (w.heap.size + 1) v2 [] l2)
    (heq : l.map (·.1) ++ U.toksT txt (s.data.toList.drop k) = U.toks s.data.toList) (hl : l.length ≤ 3 * k) (hi : U.item (s.data.toList.drop k) = .start n al sl rest) (hn : U.rawName n = false) (hp : p ≤ s.size) (hkp : k < p) (hr : rest = s.data.toList.drop p)
    (e2 : l2.map (·.1) = l.map (·.1) ++ (U.chars txt ++ [⟨1, n, al, sl, []⟩])) (n2 : l2.length ≤ l.length + 2) : TkR s w z w2 (.int .i64 p) := by
  refine ⟨p, v2, [], l2, hp, rfl, h2, ?_, Nat.zero_le _, by omega⟩
  rw [← heq, U.toksT_flush txt (.inr (by rw [hi]; simp)), U.toksT_start hi, if_neg (by rw [hn]; decide), e2, hr]
  simp
theorem TkR.raw {s : ByteArray} {w z w2 : World} {k p q : Nat} {v2 : Value} {txt n rest : List UInt8} {al : List U.Att} {sl : Bool} {l l2 : List (U.Tok × Value)} (h2 : TokW w z w2 (w.heap.size + 4) (w.heap.size + 1 + 1) (w.heap.size + 1) v2 [] l2)
    (heq : l.map (·.1) ++ U.toksT txt (s.data.toList.drop k) = U.toks s.data.toList) (hl : l.length ≤ 3 * k) (hi : U.item (s.data.toList.drop k) = .start n al sl rest) (hn : U.rawName n = true) (hq : q ≤ s.size) (hkq : k < p) (hpq : p ≤ q) (hr : rest = s.data.toList.drop p)
    (hraw : U.rawText n (s.data.toList.drop p) = ((s.data.toList.drop p).take (q - p), (s.data.toList.drop p).drop (q - p)))
    (e2 : l2.map (·.1) = l.map (·.1) ++ (U.chars txt ++ [⟨1, n, al, sl, []⟩]) ++ U.rawToks n ((s.data.toList.drop p).take (q - p))) (n2 : l2.length ≤ l.length + 3) : TkR s w z w2 (.int .i64 q) := by
  refine ⟨q, v2, [], l2, hq, rfl, h2, ?_, Nat.zero_le _, by omega⟩
  rw [← heq, U.toksT_flush txt (.inr (by rw [hi]; simp)), U.toksT_start hi, if_pos hn, e2, hr, hraw]
  simp only
  rw [List.drop_drop, show p + (q - p) = q by omega]
  simp

theorem raw_len {n : List UInt8} (h : U.rawName n = true) : n.length ≤ 8 := by
  unfold U.rawName at h
  simp only [Bool.or_eq_true, beq_iff_eq] at h
  rcases h with ((rfl | rfl) | rfl) | rfl <;> decide
theorem unescF_ne : ∀ (b : UInt8) (r : List UInt8), U.unesc (b :: r) ≠ [] := by
  intro b r
  cases h : U.refAt (b :: r) with
  | none => rw [U.unesc_none h]; simp
  | some x =>
    obtain ⟨n, k⟩ := x
    rw [U.unesc_some h]
    intro e
    have := congrArg List.length e
    rw [List.length_append, List.length_nil] at this
    have h1 := (U.enc_length n).1
    omega
theorem unesc_empty (l : List UInt8) : U.unesc l = [] ↔ l = [] := by
  cases l with
  | nil => simp [U.unesc_nil]
  | cons b r => simp [unescF_ne]
theorem step_call1g (f : FuncId) {ops : Array Oper} {o : Oper} {a : Act} {w : World} {K : Act → World → Prop} {Q : Exit → Act → World → Prop} {E : Prop} (hw : Region.wanted o (yielded ops a.tmps) = true) (x : Tmp) (ty : Array TypeId)
    (ho : o.op = Op.call { callee := Callee.value (Operand.func f), args := #[.tmp x], argTypes := ty }) (u : Value) (hx : a.eval (.tmp x) = u) (hf : ∀ args w, (callFunc f args).run Tryz.prog w = .ok (.enter f args) w)
    (h : Calls Tryz.prog f #[u] w fun e w' => ∃ r, e = .returned r ∧ K (a.put o.dst r) w') :
    if Region.wanted o (yielded ops a.tmps) = true then Oper.wp Tryz.prog o a w K Q else E := by
  rw [if_pos hw]
  obtain ⟨dst, op, type, pos, after, guard⟩ := o
  simp only at ho h ⊢
  subst ho
  unfold Oper.wp execOp
  go_simp
  unfold Act.eval at hx
  simp only [Array.getD_eq_getD_getElem?] at hx
  rw [hx]
  refine h.mono ?_
  rintro e w' ⟨r, rfl, hk⟩
  exact hk

theorem rawEnd_far {s : ByteArray} {q : Nat} {n : List UInt8} (h : ¬ q + 2 + n.length < s.size) : U.rawEnd n (s.data.toList.drop q) = false := by
  unfold U.rawEnd
  rw [List.drop_drop, List.drop_of_length_le (by rw [len_list]; omega)]
theorem rawEnd_at {s : ByteArray} {q : Nat} {n : List UInt8} (h : q + 2 + n.length < s.size) :
    U.rawEnd n (s.data.toList.drop q) = ((s[q]'(by omega) == 60 && s[q + 1]'(by omega) == 47) && U.low (s.extract (q + 2) (q + 2 + n.length)).data.toList == n && (U.isSp (s[q + 2 + n.length]'h) || s[q + 2 + n.length]'h == 47 || s[q + 2 + n.length]'h == 62)) := by
  unfold U.rawEnd
  rw [List.drop_drop, show q + (2 + n.length) = q + 2 + n.length by omega, drop_byte (byte_get s h)]
  simp only
  rw [List.drop_drop, Lib.extract_data, show q + 2 + n.length - (q + 2) = n.length by omega]
  congr 2
  rw [drop_byte (byte_get s (show q < s.size by omega)), drop_byte (byte_get s (show q + 1 < s.size by omega))]
  simp only [List.take_succ_cons, List.take_zero]
  show (_ && (_ && true)) = _
  rw [Bool.and_true]
theorem raw_more {s : ByteArray} {p q : Nat} (hpq : p ≤ q) (hq : q < s.size) : (⟨((s.data.toList.drop p).take (q - p)).toArray⟩ : ByteArray) ++ s.extract q (q + 1) = ⟨((s.data.toList.drop p).take (q + 1 - p)).toArray⟩ := by
  have hl := len_list s
  rw [text_more s _ hq, show q + 1 - p = q - p + 1 by omega, List.take_succ_eq_append_getElem (by rw [List.length_drop]; omega)]
  have e := byte_get s hq
  obtain ⟨h1, h2⟩ := List.getElem?_eq_some_iff.1 e
  have e2 : (s.data.toList.drop p)[q - p]'(by rw [List.length_drop]; omega) = s[q]'hq := by
    rw [List.getElem_drop, ← h2]
    congr 1
    omega
  rw [e2]

/-- a region that draws its order, whose operations are quiet in a class of worlds: a callee may leave any world of the class -/
theorem wp_region_calm {P : Program} {id : Nat} {Q : Exit → Act → World → Prop} {a : Act} {w : World} {l : List Oper} (X : Type) (F : X → World) (hm : P.follows .mixedOrders = true) (hB : Region.lexB .any l.toArray = true) (hC : ∃ x, w.drew = F x)
    (h : wpQuiet P l.toArray (fun w' => ∃ x, w' = F x) (fun a' => ∀ w', (∃ x, w' = F x) → Q .normal a' w') l a) : (Code.region id l.toArray true).wp P Q a w :=
  wp_region_quiet (C := fun w' => ∃ x, w' = F x) hm hB hC (by simpa using h)
theorem held_class {s : ByteArray} {nm : List UInt8} {wr : World} {bs bn : Nat} (c0 : wr.cell? ⟨bs, 0, none⟩ = some (.string s)) (m1 : wr.cell? ⟨bn, 1, none⟩ = some (.string ⟨nm.toArray⟩)) (hbs : bs < wr.heap.size) (hbn : bn < wr.heap.size) :
    ∃ (X : Type) (F : X → World), (∀ x, (F x).cell? ⟨bs, 0, none⟩ = some (.string s)) ∧ (∀ x, (F x).cell? ⟨bn, 1, none⟩ = some (.string ⟨nm.toArray⟩)) ∧ (∀ x, Below wr.heap.size wr (F x)) ∧ (∃ x, wr.drew = F x) ∧ (∀ x w2, Below (F x).heap.size (F x) w2 → ∃ y, w2 = F y) :=
  ⟨{w' // Below wr.heap.size wr w'}, Subtype.val, fun x => (x.2.cell (p := ⟨bs, 0, none⟩) hbs).trans c0, fun x => (x.2.cell (p := ⟨bn, 1, none⟩) hbn).trans m1, fun x => x.2, ⟨⟨wr.drew, below_drewN (Below.refl _ _) 1⟩, rfl⟩, fun x w2 h => ⟨⟨w2, x.2.trans (h.mono x.2.size)⟩, rfl⟩⟩

noncomputable def tokBody : Code := ((Tryz.f12.body.bind loopOf).getD .skip)

set_option maxRecDepth 1000000 in
def TkI (s : ByteArray) (w z : World) (a' : Act) (w' : World) : Prop :=
  ∃ u7 u8 u9 u10 u11 u12 u13 u14 u15 u16 u19 u20 u21 u22 u23 u24 u25 u26 u27 u28 u29 u30 u31 u32 u33 u34 u35 u36 u37 u38 u39 u40 u41 u42 u43 u44 u45 u46 u47 u48 u49 u50 u51 u52 u53 u54 u55
  u56 u57 u58 u59 u60 u61 u62 u63 u64 u65 u66 u67 u68 u69 u70 u71 u72 u73 u74 u75 u76 u77 u78 u79 u80 u81 u82 u83 u84 u85 u86 u87 u88 u89 u90 u91 u92 u93 u94 u95 u96 u97 u98 u99 u100 u101
  u102 u103 u104 u105 u106 u107 u108 u109 u110 u111 u112 u113 u114 u115 u116 u117 u118 u119 u120 u121 u122 u123 u124 u125 u126 u127 u128 u129 u130 u131 u132 u133 u134 u135 u136 u137 u138
  u139 u140 u141 u142 u143 u144 u145 u146 u147 u148 u149 u150 u151 u152 u153 u154 u155 u156 u157 u158 u159 u160 u161 u162 u163 u164 u165 u166 u167 u168 u169 u170 u171 u172 u173 u174 u175
  u176 u177 u178 u179 u180 u181 u182 u183 u184 u185 u186 u187 u188 u189 u190 u191 u192 u193 u194 u195 u196 u197 u198 u199 u200 u201 u202 u203 u204 u205 u206 u207 u208 u209 u210 u211 u212
  u213 u214 u215 u216 u217 u218 u219 u220 u221 u222 u223 u224 u225 u226 u227 u228 u229 u230 u231 u232 u233 u234 u235 u236 u237 u238 u239 u240 u241 u242 u243 u244 u245 u246 u247 u248 u249
  u250 u251 u252 u253 u254 u255 : Value,
    TkR s w z w' u7 ∧
    a' = ⟨#[.string s, .pointer (some ⟨w.heap.size, 0, none⟩), .slice none 0 0, .pointer (some ⟨w.heap.size + 1, 0, none⟩), .pointer (some ⟨w.heap.size + 1 + 1, 0, none⟩), .pointer (some
      ⟨w.heap.size + 1 + 1 + 1, 0, none⟩), .func (.func 25) #[] #[.pointer (some ⟨w.heap.size + 1 + 1 + 1, 0, none⟩), .pointer (some ⟨w.heap.size, 0, none⟩),
      .pointer (some ⟨w.heap.size + 1, 0, none⟩)], u7, u8, u9, u10, u11, u12, u13, u14, u15, u16, .func (.func 23) #[] #[.pointer (some ⟨w.heap.size + 1 + 1,
      0, none⟩), .pointer (some ⟨w.heap.size + 1, 0, none⟩)], .func (.func 25) #[] #[.pointer (some ⟨w.heap.size + 1 + 1 + 1, 0, none⟩), .pointer (some
      ⟨w.heap.size, 0, none⟩), .pointer (some ⟨w.heap.size + 1, 0, none⟩)], u19, u20, u21, u22, u23, u24, u25, u26, u27, u28, u29, u30, u31, u32, u33, u34, u35, u36, u37, u38, u39, u40, u41,
      u42, u43, u44, u45, u46, u47, u48, u49, u50, u51, u52, u53, u54, u55, u56, u57, u58, u59, u60, u61, u62, u63, u64, u65, u66, u67, u68, u69, u70, u71, u72, u73, u74, u75, u76, u77, u78,
      u79, u80, u81, u82, u83, u84, u85, u86, u87, u88, u89, u90, u91, u92, u93, u94, u95, u96, u97, u98, u99, u100, u101, u102, u103, u104, u105, u106, u107, u108, u109, u110, u111, u112,
      u113, u114, u115, u116, u117, u118, u119, u120, u121, u122, u123, u124, u125, u126, u127, u128, u129, u130, u131, u132, u133, u134, u135, u136, u137, u138, u139, u140, u141, u142,
      u143, u144, u145, u146, u147, u148, u149, u150, u151, u152, u153, u154, u155, u156, u157, u158, u159, u160, u161, u162, u163, u164, u165, u166, u167, u168, u169, u170, u171, u172,
      u173, u174, u175, u176, u177, u178, u179, u180, u181, u182, u183, u184, u185, u186, u187, u188, u189, u190, u191, u192, u193, u194, u195, u196, u197, u198, u199, u200, u201, u202,
      u203, u204, u205, u206, u207, u208, u209, u210, u211, u212, u213, u214, u215, u216, u217, u218, u219, u220, u221, u222, u223, u224, u225, u226, u227, u228, u229, u230, u231, u232,
      u233, u234, u235, u236, u237, u238, u239, u240, u241, u242, u243, u244, u245, u246, u247, u248, u249, u250, u251, u252, u253, u254, u255, undef, undef, undef], []⟩
def tkMu (s : ByteArray) (a' : Act) : Nat := s.size - (intOf (a'.tmps.getD 7 undef)).toNat

end Go.Proofs.YtcdgiohogddbkaaGreatDoor

namespace Go.Proofs.YtcdgiohogddbkaaGreatDoor
open Go.RowKit

set_option maxHeartbeats 16000000 in
set_option maxRecDepth 1000000 in
theorem tok_roundA (s : ByteArray) (w z : World) (hs : s.size ≤ 600) (hz : Shut s z (w.heap.size + 4) (w.heap.size + 1 + 1) (w.heap.size + 1) w.heap.size (w.heap.size + 1 + 1 + 1)) (K : Act → World → Prop) (P : Ending → World → Prop) (wr : World)
    (u8 u9 u10 u11 u12 u13 u14 u15 u16 u19 u20 u21 u22 u23 u24 u25 u26 u27 u28 u29 u30 u31 u32 u33 u34 u35 u36 u37 u38 u39 u40 u41 u42 u43 u44 u45 u46 u47 u48 u49 u50 u51 u52 u53 u54 u55 u56
    u57 u58 u59 u60 u61 u62 u63 u64 u65 u66 u67 u68 u69 u70 u71 u72 u73 u74 u75 u76 u77 u78 u79 u80 u81 u82 u83 u84 u85 u86 u87 u88 u89 u90 u91 u92 u93 u94 u95 u96 u97 u98 u99 u100 u101 u102
    u103 u104 u105 u106 u107 u108 u109 u110 u111 u112 u113 u114 u115 u116 u117 u118 u119 u120 u121 u122 u123 u124 u125 u126 u127 u128 u129 u130 u131 u132 u133 u134 u135 u136 u137 u138 u139
    u140 u141 u142 u143 u144 u145 u146 u147 u148 u149 u150 u151 u152 u153 u154 u155 u156 u157 u158 u159 u160 u161 u162 u163 u164 u165 u166 u167 u168 u169 u170 u171 u172 u173 u174 u175 u176
    u177 u178 u179 u180 u181 u182 u183 u184 u185 u186 u187 u188 u189 u190 u191 u192 u193 u194 u195 u196 u197 u198 u199 u200 u201 u202 u203 u204 u205 u206 u207 u208 u209 u210 u211 u212 u213
    u214 u215 u216 u217 u218 u219 u220 u221 u222 u223 u224 u225 u226 u227 u228 u229 u230 u231 u232 u233 u234 u235 u236 u237 u238 u239 u240 u241 u242 u243 u244 u245 u246 u247 u248 u249 u250
    u251 u252 u253 u254 u255 : Value)
    (k : Nat) (v : Value) (txt : List UInt8) (l : List (U.Tok × Value)) (h : TokW w z wr (w.heap.size + 4) (w.heap.size + 1 + 1) (w.heap.size + 1) v txt l)
    (HEQ : Hid (List.map (·.1) l ++ U.toksT txt (s.data.toList.drop k) = U.toks s.data.toList)) (ht : txt.length ≤ k) (hl : l.length ≤ 3 * k) (hlt : k < s.size) (h60 : ¬ ((s[k]'hlt).toNat : Int) = 60) :
    Code.wp Tryz.prog tokBody (Exit.then (fun a' w' => TkI s w z a' w' ∧ tkMu s a' < tkMu s ⟨#[.string s, .pointer (some ⟨w.heap.size, 0, none⟩), .slice none 0 0, .pointer (some ⟨w.heap.size + 1, 0, none⟩), .pointer (some ⟨w.heap.size + 1 + 1, 0, none⟩), .pointer (some
      ⟨w.heap.size + 1 + 1 + 1, 0, none⟩), .func (.func 25) #[] #[.pointer (some ⟨w.heap.size + 1 + 1 + 1, 0, none⟩), .pointer (some ⟨w.heap.size, 0, none⟩),
      .pointer (some ⟨w.heap.size + 1, 0, none⟩)], .int .i64 (k : Nat), u8, u9, u10, u11, u12, u13, u14, u15, u16, .func (.func 23) #[] #[.pointer (some
      ⟨w.heap.size + 1 + 1, 0, none⟩), .pointer (some ⟨w.heap.size + 1, 0, none⟩)], .func (.func 25) #[] #[.pointer (some ⟨w.heap.size + 1 + 1 + 1, 0, none⟩),
      .pointer (some ⟨w.heap.size, 0, none⟩), .pointer (some ⟨w.heap.size + 1, 0, none⟩)], u19, u20, u21, u22, u23, u24, u25, u26, u27, u28, u29, u30, u31, u32, u33, u34, u35, u36, u37, u38,
      u39, u40, u41, u42, u43, u44, u45, u46, u47, u48, u49, u50, u51, u52, u53, u54, u55, u56, u57, u58, u59, u60, u61, u62, u63, u64, u65, u66, u67, u68, u69, u70, u71, u72, u73, u74, u75,
      u76, u77, u78, u79, u80, u81, u82, u83, u84, u85, u86, u87, u88, u89, u90, u91, u92, u93, u94, u95, u96, u97, u98, u99, u100, u101, u102, u103, u104, u105, u106, u107, u108, u109,
      u110, u111, u112, u113, u114, u115, u116, u117, u118, u119, u120, u121, u122, u123, u124, u125, u126, u127, u128, u129, u130, u131, u132, u133, u134, u135, u136, u137, u138, u139,
      u140, u141, u142, u143, u144, u145, u146, u147, u148, u149, u150, u151, u152, u153, u154, u155, u156, u157, u158, u159, u160, u161, u162, u163, u164, u165, u166, u167, u168, u169,
      u170, u171, u172, u173, u174, u175, u176, u177, u178, u179, u180, u181, u182, u183, u184, u185, u186, u187, u188, u189, u190, u191, u192, u193, u194, u195, u196, u197, u198, u199,
      u200, u201, u202, u203, u204, u205, u206, u207, u208, u209, u210, u211, u212, u213, u214, u215, u216, u217, u218, u219, u220, u221, u222, u223, u224, u225, u226, u227, u228, u229,
      u230, u231, u232, u233, u234, u235, u236, u237, u238, u239, u240, u241, u242, u243, u244, u245, u246, u247, u248, u249, u250, u251, u252, u253, u254, u255, undef, undef, undef], []⟩)
      (Exit.inBlock 0 (Exit.then K (bodyPost Tryz.prog Tryz.f12 P)))) ⟨#[.string s, .pointer (some ⟨w.heap.size, 0, none⟩), .slice none 0 0, .pointer (some ⟨w.heap.size + 1, 0, none⟩), .pointer (some ⟨w.heap.size + 1 + 1, 0, none⟩), .pointer (some
      ⟨w.heap.size + 1 + 1 + 1, 0, none⟩), .func (.func 25) #[] #[.pointer (some ⟨w.heap.size + 1 + 1 + 1, 0, none⟩), .pointer (some ⟨w.heap.size, 0, none⟩),
      .pointer (some ⟨w.heap.size + 1, 0, none⟩)], .int .i64 (k : Nat), u8, u9, u10, u11, u12, u13, u14, u15, u16, .func (.func 23) #[] #[.pointer (some
      ⟨w.heap.size + 1 + 1, 0, none⟩), .pointer (some ⟨w.heap.size + 1, 0, none⟩)], .func (.func 25) #[] #[.pointer (some ⟨w.heap.size + 1 + 1 + 1, 0, none⟩),
      .pointer (some ⟨w.heap.size, 0, none⟩), .pointer (some ⟨w.heap.size + 1, 0, none⟩)], u19, u20, u21, u22, u23, u24, u25, u26, u27, u28, u29, u30, u31, u32, u33, u34, u35, u36, u37, u38,
      u39, u40, u41, u42, u43, u44, u45, u46, u47, u48, u49, u50, u51, u52, u53, u54, u55, u56, u57, u58, u59, u60, u61, u62, u63, u64, u65, u66, u67, u68, u69, u70, u71, u72, u73, u74, u75,
      u76, u77, u78, u79, u80, u81, u82, u83, u84, u85, u86, u87, u88, u89, u90, u91, u92, u93, u94, u95, u96, u97, u98, u99, u100, u101, u102, u103, u104, u105, u106, u107, u108, u109,
      u110, u111, u112, u113, u114, u115, u116, u117, u118, u119, u120, u121, u122, u123, u124, u125, u126, u127, u128, u129, u130, u131, u132, u133, u134, u135, u136, u137, u138, u139,
      u140, u141, u142, u143, u144, u145, u146, u147, u148, u149, u150, u151, u152, u153, u154, u155, u156, u157, u158, u159, u160, u161, u162, u163, u164, u165, u166, u167, u168, u169,
      u170, u171, u172, u173, u174, u175, u176, u177, u178, u179, u180, u181, u182, u183, u184, u185, u186, u187, u188, u189, u190, u191, u192, u193, u194, u195, u196, u197, u198, u199,
      u200, u201, u202, u203, u204, u205, u206, u207, u208, u209, u210, u211, u212, u213, u214, u215, u216, u217, u218, u219, u220, u221, u222, u223, u224, u225, u226, u227, u228, u229,
      u230, u231, u232, u233, u234, u235, u236, u237, u238, u239, u240, u241, u242, u243, u244, u245, u246, u247, u248, u249, u250, u251, u252, u253, u254, u255, undef, undef, undef], []⟩ wr := by
  obtain ⟨s0, s1⟩ := h.fixed hz.text hz.s1 hz.s2 hz.s3
  have hbs := h.below.size
  have hBs := h.size
  obtain ⟨t0, t1⟩ := h.textCell
  obtain ⟨o0, o1⟩ := h.outCell
  have hal : ∀ w', Calls Tryz.prog 27 #[.int .u8 0] w' fun e w'' => e = .returned (.bool false) ∧ w' = w'' := fun w' => is_alpha 0 w'
  have HAL := Lib.hid hal
  clear hal
  have hg := drop_byte (byte_get s hlt)
  have hk0 : (0 : Int) ≤ (k : Int) := Int.natCast_nonneg _
  have hk1 : (k : Int) < (s.size : Int) := by omega
  conv => arg 2; whnf
  have b60 := beq_no h60
  have hit : U.item (s.data.toList.drop k) = .text := by
    rw [hg]
    cases s.data.toList.drop (k + 1) with
    | nil => rfl
    | cons c r => rw [U.item_cons, if_pos (fun e => h60 (by rw [e]; rfl))]
  clear hg h60
  have HI := Lib.hid hit
  have hi1 : (k : Int) + 1 ≤ (s.size : Int) := by omega
  clear hit
  go_wp2_with ((go_at_call 27; first | (refine (HAL.out _).mono ?_; rintro e w2 ⟨rfl, rfl⟩)))
  go_region
  all_goals go_wp2_with fail
  all_goals
    refine ⟨?_, by simp [tkMu, intOf] <;> omega⟩
    unfold TkI
    refine ⟨_, _, _, _, _, _, _, _, _, _, _, _, _, _, _, _, _, _, _, _, _, _, _, _, _, _, _, _, _, _, _, _, _, _, _, _, _, _, _, _, _, _, _, _, _, _, _, _, _, _, _, _, _, _, _, _, _, _, _, _, _, _, _,
      _, _, _, _, _, _, _, _, _, _, _, _, _, _, _, _, _, _, _, _, _, _, _, _, _, _, _, _, _, _, _, _, _, _, _, _, _, _, _, _, _, _, _, _, _, _, _, _, _, _, _, _, _, _, _, _, _, _, _, _, _, _, _,
      _, _, _, _, _, _, _, _, _, _, _, _, _, _, _, _, _, _, _, _, _, _, _, _, _, _, _, _, _, _, _, _, _, _, _, _, _, _, _, _, _, _, _, _, _, _, _, _, _, _, _, _, _, _, _, _, _, _, _, _, _, _, _,
      _, _, _, _, _, _, _, _, _, _, _, _, _, _, _, _, _, _, _, _, _, _, _, _, _, _, _, _, _, _, _, _, _, _, _, _, _, _, _, _, _, _, _, _, _, _, _, _, _, _, _, _, _, _, _, _, _, _, ?_, rfl⟩
    exact TkR.text h hlt HEQ.out ht hl HI.out

end Go.Proofs.YtcdgiohogddbkaaGreatDoor

namespace Go.Proofs.YtcdgiohogddbkaaGreatDoor
open Go.RowKit

set_option maxHeartbeats 16000000 in
set_option maxRecDepth 1000000 in
theorem tok_roundB (s : ByteArray) (w z : World) (hs : s.size ≤ 600) (hz : Shut s z (w.heap.size + 4) (w.heap.size + 1 + 1) (w.heap.size + 1) w.heap.size (w.heap.size + 1 + 1 + 1)) (K : Act → World → Prop) (P : Ending → World → Prop) (wr : World)
    (u8 u9 u10 u11 u12 u13 u14 u15 u16 u19 u20 u21 u22 u23 u24 u25 u26 u27 u28 u29 u30 u31 u32 u33 u34 u35 u36 u37 u38 u39 u40 u41 u42 u43 u44 u45 u46 u47 u48 u49 u50 u51 u52 u53 u54 u55 u56
    u57 u58 u59 u60 u61 u62 u63 u64 u65 u66 u67 u68 u69 u70 u71 u72 u73 u74 u75 u76 u77 u78 u79 u80 u81 u82 u83 u84 u85 u86 u87 u88 u89 u90 u91 u92 u93 u94 u95 u96 u97 u98 u99 u100 u101 u102
    u103 u104 u105 u106 u107 u108 u109 u110 u111 u112 u113 u114 u115 u116 u117 u118 u119 u120 u121 u122 u123 u124 u125 u126 u127 u128 u129 u130 u131 u132 u133 u134 u135 u136 u137 u138 u139
    u140 u141 u142 u143 u144 u145 u146 u147 u148 u149 u150 u151 u152 u153 u154 u155 u156 u157 u158 u159 u160 u161 u162 u163 u164 u165 u166 u167 u168 u169 u170 u171 u172 u173 u174 u175 u176
    u177 u178 u179 u180 u181 u182 u183 u184 u185 u186 u187 u188 u189 u190 u191 u192 u193 u194 u195 u196 u197 u198 u199 u200 u201 u202 u203 u204 u205 u206 u207 u208 u209 u210 u211 u212 u213
    u214 u215 u216 u217 u218 u219 u220 u221 u222 u223 u224 u225 u226 u227 u228 u229 u230 u231 u232 u233 u234 u235 u236 u237 u238 u239 u240 u241 u242 u243 u244 u245 u246 u247 u248 u249 u250
    u251 u252 u253 u254 u255 : Value)
    (k : Nat) (v : Value) (txt : List UInt8) (l : List (U.Tok × Value)) (h : TokW w z wr (w.heap.size + 4) (w.heap.size + 1 + 1) (w.heap.size + 1) v txt l)
    (HEQ : Hid (List.map (·.1) l ++ U.toksT txt (s.data.toList.drop k) = U.toks s.data.toList)) (ht : txt.length ≤ k) (hl : l.length ≤ 3 * k) (hlt : k < s.size) (h60 : ((s[k]'hlt).toNat : Int) = 60) (h1 : ¬ k + 1 < s.size) :
    Code.wp Tryz.prog tokBody (Exit.then (fun a' w' => TkI s w z a' w' ∧ tkMu s a' < tkMu s ⟨#[.string s, .pointer (some ⟨w.heap.size, 0, none⟩), .slice none 0 0, .pointer (some ⟨w.heap.size + 1, 0, none⟩), .pointer (some ⟨w.heap.size + 1 + 1, 0, none⟩), .pointer (some
      ⟨w.heap.size + 1 + 1 + 1, 0, none⟩), .func (.func 25) #[] #[.pointer (some ⟨w.heap.size + 1 + 1 + 1, 0, none⟩), .pointer (some ⟨w.heap.size, 0, none⟩),
      .pointer (some ⟨w.heap.size + 1, 0, none⟩)], .int .i64 (k : Nat), u8, u9, u10, u11, u12, u13, u14, u15, u16, .func (.func 23) #[] #[.pointer (some
      ⟨w.heap.size + 1 + 1, 0, none⟩), .pointer (some ⟨w.heap.size + 1, 0, none⟩)], .func (.func 25) #[] #[.pointer (some ⟨w.heap.size + 1 + 1 + 1, 0, none⟩),
      .pointer (some ⟨w.heap.size, 0, none⟩), .pointer (some ⟨w.heap.size + 1, 0, none⟩)], u19, u20, u21, u22, u23, u24, u25, u26, u27, u28, u29, u30, u31, u32, u33, u34, u35, u36, u37, u38,
      u39, u40, u41, u42, u43, u44, u45, u46, u47, u48, u49, u50, u51, u52, u53, u54, u55, u56, u57, u58, u59, u60, u61, u62, u63, u64, u65, u66, u67, u68, u69, u70, u71, u72, u73, u74, u75,
      u76, u77, u78, u79, u80, u81, u82, u83, u84, u85, u86, u87, u88, u89, u90, u91, u92, u93, u94, u95, u96, u97, u98, u99, u100, u101, u102, u103, u104, u105, u106, u107, u108, u109,
      u110, u111, u112, u113, u114, u115, u116, u117, u118, u119, u120, u121, u122, u123, u124, u125, u126, u127, u128, u129, u130, u131, u132, u133, u134, u135, u136, u137, u138, u139,
      u140, u141, u142, u143, u144, u145, u146, u147, u148, u149, u150, u151, u152, u153, u154, u155, u156, u157, u158, u159, u160, u161, u162, u163, u164, u165, u166, u167, u168, u169,
      u170, u171, u172, u173, u174, u175, u176, u177, u178, u179, u180, u181, u182, u183, u184, u185, u186, u187, u188, u189, u190, u191, u192, u193, u194, u195, u196, u197, u198, u199,
      u200, u201, u202, u203, u204, u205, u206, u207, u208, u209, u210, u211, u212, u213, u214, u215, u216, u217, u218, u219, u220, u221, u222, u223, u224, u225, u226, u227, u228, u229,
      u230, u231, u232, u233, u234, u235, u236, u237, u238, u239, u240, u241, u242, u243, u244, u245, u246, u247, u248, u249, u250, u251, u252, u253, u254, u255, undef, undef, undef], []⟩)
      (Exit.inBlock 0 (Exit.then K (bodyPost Tryz.prog Tryz.f12 P)))) ⟨#[.string s, .pointer (some ⟨w.heap.size, 0, none⟩), .slice none 0 0, .pointer (some ⟨w.heap.size + 1, 0, none⟩), .pointer (some ⟨w.heap.size + 1 + 1, 0, none⟩), .pointer (some
      ⟨w.heap.size + 1 + 1 + 1, 0, none⟩), .func (.func 25) #[] #[.pointer (some ⟨w.heap.size + 1 + 1 + 1, 0, none⟩), .pointer (some ⟨w.heap.size, 0, none⟩),
      .pointer (some ⟨w.heap.size + 1, 0, none⟩)], .int .i64 (k : Nat), u8, u9, u10, u11, u12, u13, u14, u15, u16, .func (.func 23) #[] #[.pointer (some
      ⟨w.heap.size + 1 + 1, 0, none⟩), .pointer (some ⟨w.heap.size + 1, 0, none⟩)], .func (.func 25) #[] #[.pointer (some ⟨w.heap.size + 1 + 1 + 1, 0, none⟩),
      .pointer (some ⟨w.heap.size, 0, none⟩), .pointer (some ⟨w.heap.size + 1, 0, none⟩)], u19, u20, u21, u22, u23, u24, u25, u26, u27, u28, u29, u30, u31, u32, u33, u34, u35, u36, u37, u38,
      u39, u40, u41, u42, u43, u44, u45, u46, u47, u48, u49, u50, u51, u52, u53, u54, u55, u56, u57, u58, u59, u60, u61, u62, u63, u64, u65, u66, u67, u68, u69, u70, u71, u72, u73, u74, u75,
      u76, u77, u78, u79, u80, u81, u82, u83, u84, u85, u86, u87, u88, u89, u90, u91, u92, u93, u94, u95, u96, u97, u98, u99, u100, u101, u102, u103, u104, u105, u106, u107, u108, u109,
      u110, u111, u112, u113, u114, u115, u116, u117, u118, u119, u120, u121, u122, u123, u124, u125, u126, u127, u128, u129, u130, u131, u132, u133, u134, u135, u136, u137, u138, u139,
      u140, u141, u142, u143, u144, u145, u146, u147, u148, u149, u150, u151, u152, u153, u154, u155, u156, u157, u158, u159, u160, u161, u162, u163, u164, u165, u166, u167, u168, u169,
      u170, u171, u172, u173, u174, u175, u176, u177, u178, u179, u180, u181, u182, u183, u184, u185, u186, u187, u188, u189, u190, u191, u192, u193, u194, u195, u196, u197, u198, u199,
      u200, u201, u202, u203, u204, u205, u206, u207, u208, u209, u210, u211, u212, u213, u214, u215, u216, u217, u218, u219, u220, u221, u222, u223, u224, u225, u226, u227, u228, u229,
      u230, u231, u232, u233, u234, u235, u236, u237, u238, u239, u240, u241, u242, u243, u244, u245, u246, u247, u248, u249, u250, u251, u252, u253, u254, u255, undef, undef, undef], []⟩ wr := by
  obtain ⟨s0, s1⟩ := h.fixed hz.text hz.s1 hz.s2 hz.s3
  have hbs := h.below.size
  have hBs := h.size
  obtain ⟨t0, t1⟩ := h.textCell
  obtain ⟨o0, o1⟩ := h.outCell
  have hal : ∀ w', Calls Tryz.prog 27 #[.int .u8 0] w' fun e w'' => e = .returned (.bool false) ∧ w' = w'' := fun w' => is_alpha 0 w'
  have HAL := Lib.hid hal
  clear hal
  have hg := drop_byte (byte_get s hlt)
  have hk0 : (0 : Int) ≤ (k : Int) := Int.natCast_nonneg _
  have hk1 : (k : Int) < (s.size : Int) := by omega
  conv => arg 2; whnf
  have b60 := beq_yes h60
  have e60 : s[k]'hlt = 60 := (byte_eq (k := 60) (by decide)).1 (by omega)
  rw [e60] at hg
  have hi3 : ¬ (k : Int) + 1 < (s.size : Int) := by omega
  have hit : U.item (s.data.toList.drop k) = .text := by
    rw [hg, List.drop_of_length_le (by rw [len_list]; omega)]
    rfl
  clear hg e60 h60
  have HI := Lib.hid hit
  have hi1 : (k : Int) + 1 ≤ (s.size : Int) := by omega
  clear hit
  go_wp2_with ((go_at_call 27; first | (refine (HAL.out _).mono ?_; rintro e w2 ⟨rfl, rfl⟩)))
  go_region
  all_goals go_wp2_with fail
  all_goals
    refine ⟨?_, by simp [tkMu, intOf] <;> omega⟩
    unfold TkI
    refine ⟨_, _, _, _, _, _, _, _, _, _, _, _, _, _, _, _, _, _, _, _, _, _, _, _, _, _, _, _, _, _, _, _, _, _, _, _, _, _, _, _, _, _, _, _, _, _, _, _, _, _, _, _, _, _, _, _, _, _, _, _, _, _, _,
      _, _, _, _, _, _, _, _, _, _, _, _, _, _, _, _, _, _, _, _, _, _, _, _, _, _, _, _, _, _, _, _, _, _, _, _, _, _, _, _, _, _, _, _, _, _, _, _, _, _, _, _, _, _, _, _, _, _, _, _, _, _, _,
      _, _, _, _, _, _, _, _, _, _, _, _, _, _, _, _, _, _, _, _, _, _, _, _, _, _, _, _, _, _, _, _, _, _, _, _, _, _, _, _, _, _, _, _, _, _, _, _, _, _, _, _, _, _, _, _, _, _, _, _, _, _, _,
      _, _, _, _, _, _, _, _, _, _, _, _, _, _, _, _, _, _, _, _, _, _, _, _, _, _, _, _, _, _, _, _, _, _, _, _, _, _, _, _, _, _, _, _, _, _, _, _, _, _, _, _, _, _, _, _, _, _, ?_, rfl⟩
    exact TkR.text h hlt HEQ.out ht hl HI.out

end Go.Proofs.YtcdgiohogddbkaaGreatDoor

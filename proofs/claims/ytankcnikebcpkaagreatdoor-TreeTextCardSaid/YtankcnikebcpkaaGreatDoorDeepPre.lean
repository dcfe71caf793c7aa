/- What TreeDeep wants beside TreeClosed's chain. -/
import Derived.Test.YtankcnikebcpkaaGreatDoorZTree
import Derived.WalkKit
import Derived.Below
import Derived.Deep.LoopGhost
import Derived.Deep.AppendLies
import Derived.OwnWalk
import Derived.Outline
import Derived.Deep.DeepCutAuto
import Derived.Deep.RegionHeld3
import Derived.Handy
import Derived.StillTactics
import Derived.StillTailTactics
import Derived.Deep.RegionWith

/- What the rows of texts hold that a literal makes. -/
namespace Go.Proofs.YtankcnikebcpkaaGreatDoor
open Go.RowKit

def pm (j : Nat) : ByteArray := match j with
  | 0 => ⟨#[97]⟩
  | 1 => ⟨#[98, 32]⟩
  | 2 => ⟨#[60, 112, 62]⟩
  | 3 => ⟨#[60, 47, 112, 62]⟩
  | 4 => ⟨#[60, 98, 62]⟩
  | 5 => ⟨#[60, 47, 98, 62]⟩
  | 6 => ⟨#[60, 98, 114, 47, 62]⟩
  | 7 => ⟨#[60, 33, 45, 45, 120, 45, 45, 62]⟩
  | 8 => ⟨#[60, 105, 32, 99, 108, 97, 115, 115, 61, 120, 62]⟩
  | 9 => ⟨#[60, 47, 105, 62]⟩
  | 10 => ⟨#[38, 97, 109, 112, 59]⟩
  | 11 => ⟨#[60]⟩
  | 12 => ⟨#[60, 117, 108, 62]⟩
  | 13 => ⟨#[60, 108, 105, 62]⟩
  | 14 => ⟨#[60, 47, 117, 108, 62]⟩
  | 15 => ⟨#[38]⟩
  | 16 => ⟨#[62]⟩
  | 17 => ⟨#[60, 115, 99, 114, 105, 112, 116, 62]⟩
  | 18 => ⟨#[60, 47, 115, 99, 114, 105, 112, 116, 62]⟩
  | 19 => ⟨#[10]⟩
  | 20 => ⟨#[60, 105, 109, 103, 32, 115, 114, 99, 61, 39, 120, 46, 112, 110, 103, 39, 62]⟩
  | 21 => ⟨#[60, 97, 32, 104, 114, 101, 102, 61, 34, 104, 116, 116, 112, 58, 47, 47, 120, 34, 62]⟩
  | 22 => ⟨#[60, 47, 97, 62]⟩
  | 23 => ⟨#[60, 63, 120, 62]⟩
  | _ => ⟨#[60, 47, 62]⟩
theorem pm_size (j : Nat) : (pm j).size ≤ 19 := by
  unfold pm
  split <;> decide
theorem pm_cell (j : Nat) (hj : j < 25) (W : World) (T : TypeId) (s : Nat × Nat) :
    (W.alloc (.cells #[.string ⟨#[97]⟩, .string ⟨#[98, 32]⟩, .string ⟨#[60, 112, 62]⟩, .string ⟨#[60, 47, 112, 62]⟩, .string ⟨#[60, 98, 62]⟩, .string ⟨#[60, 47, 98, 62]⟩, .string ⟨#[60, 98, 114, 47, 62]⟩, .string ⟨#[60, 33, 45, 45, 120, 45, 45, 62]⟩, .string ⟨#[60, 105, 32, 99, 108, 97, 115, 115, 61, 120, 62]⟩, .string ⟨#[60, 47, 105, 62]⟩, .string ⟨#[38, 97, 109, 112, 59]⟩, .string ⟨#[60]⟩, .string ⟨#[60, 117, 108, 62]⟩, .string ⟨#[60, 108, 105, 62]⟩, .string ⟨#[60, 47, 117, 108, 62]⟩, .string ⟨#[38]⟩, .string ⟨#[62]⟩, .string ⟨#[60, 115, 99, 114, 105, 112, 116, 62]⟩, .string ⟨#[60, 47, 115, 99, 114, 105, 112, 116, 62]⟩, .string ⟨#[10]⟩, .string ⟨#[60, 105, 109, 103, 32, 115, 114, 99, 61, 39, 120, 46, 112, 110, 103, 39, 62]⟩, .string ⟨#[60, 97, 32, 104, 114, 101, 102, 61, 34, 104, 116, 116, 112, 58, 47, 47, 120, 34, 62]⟩, .string ⟨#[60, 47, 97, 62]⟩, .string ⟨#[60, 63, 120, 62]⟩, .string ⟨#[60, 47, 62]⟩] T s)).cell? ⟨W.heap.size, j, none⟩ = some (.string (pm j)) := by
  match j, hj with
  | 0, _ => rw [Lib.cell_of_heap (heap_alloc_new W _)]; rfl
  | 1, _ => rw [Lib.cell_of_heap (heap_alloc_new W _)]; rfl
  | 2, _ => rw [Lib.cell_of_heap (heap_alloc_new W _)]; rfl
  | 3, _ => rw [Lib.cell_of_heap (heap_alloc_new W _)]; rfl
  | 4, _ => rw [Lib.cell_of_heap (heap_alloc_new W _)]; rfl
  | 5, _ => rw [Lib.cell_of_heap (heap_alloc_new W _)]; rfl
  | 6, _ => rw [Lib.cell_of_heap (heap_alloc_new W _)]; rfl
  | 7, _ => rw [Lib.cell_of_heap (heap_alloc_new W _)]; rfl
  | 8, _ => rw [Lib.cell_of_heap (heap_alloc_new W _)]; rfl
  | 9, _ => rw [Lib.cell_of_heap (heap_alloc_new W _)]; rfl
  | 10, _ => rw [Lib.cell_of_heap (heap_alloc_new W _)]; rfl
  | 11, _ => rw [Lib.cell_of_heap (heap_alloc_new W _)]; rfl
  | 12, _ => rw [Lib.cell_of_heap (heap_alloc_new W _)]; rfl
  | 13, _ => rw [Lib.cell_of_heap (heap_alloc_new W _)]; rfl
  | 14, _ => rw [Lib.cell_of_heap (heap_alloc_new W _)]; rfl
  | 15, _ => rw [Lib.cell_of_heap (heap_alloc_new W _)]; rfl
  | 16, _ => rw [Lib.cell_of_heap (heap_alloc_new W _)]; rfl
  | 17, _ => rw [Lib.cell_of_heap (heap_alloc_new W _)]; rfl
  | 18, _ => rw [Lib.cell_of_heap (heap_alloc_new W _)]; rfl
  | 19, _ => rw [Lib.cell_of_heap (heap_alloc_new W _)]; rfl
  | 20, _ => rw [Lib.cell_of_heap (heap_alloc_new W _)]; rfl
  | 21, _ => rw [Lib.cell_of_heap (heap_alloc_new W _)]; rfl
  | 22, _ => rw [Lib.cell_of_heap (heap_alloc_new W _)]; rfl
  | 23, _ => rw [Lib.cell_of_heap (heap_alloc_new W _)]; rfl
  | 24, _ => rw [Lib.cell_of_heap (heap_alloc_new W _)]; rfl
  | j + 25, h => exact absurd h (by omega)
theorem pm_get (j : Nat) (h : j < ([.string ⟨#[97]⟩, .string ⟨#[98, 32]⟩, .string ⟨#[60, 112, 62]⟩, .string ⟨#[60, 47, 112, 62]⟩, .string ⟨#[60, 98, 62]⟩, .string ⟨#[60, 47, 98, 62]⟩, .string ⟨#[60, 98, 114, 47, 62]⟩, .string ⟨#[60, 33, 45, 45, 120, 45, 45, 62]⟩, .string ⟨#[60, 105, 32, 99, 108, 97, 115, 115, 61, 120, 62]⟩, .string ⟨#[60, 47, 105, 62]⟩, .string ⟨#[38, 97, 109, 112, 59]⟩, .string ⟨#[60]⟩, .string ⟨#[60, 117, 108, 62]⟩, .string ⟨#[60, 108, 105, 62]⟩, .string ⟨#[60, 47, 117, 108, 62]⟩, .string ⟨#[38]⟩, .string ⟨#[62]⟩, .string ⟨#[60, 115, 99, 114, 105, 112, 116, 62]⟩, .string ⟨#[60, 47, 115, 99, 114, 105, 112, 116, 62]⟩, .string ⟨#[10]⟩, .string ⟨#[60, 105, 109, 103, 32, 115, 114, 99, 61, 39, 120, 46, 112, 110, 103, 39, 62]⟩, .string ⟨#[60, 97, 32, 104, 114, 101, 102, 61, 34, 104, 116, 116, 112, 58, 47, 47, 120, 34, 62]⟩, .string ⟨#[60, 47, 97, 62]⟩, .string ⟨#[60, 63, 120, 62]⟩, .string ⟨#[60, 47, 62]⟩] : List Value).length) : ([.string ⟨#[97]⟩, .string ⟨#[98, 32]⟩, .string ⟨#[60, 112, 62]⟩, .string ⟨#[60, 47, 112, 62]⟩, .string ⟨#[60, 98, 62]⟩, .string ⟨#[60, 47, 98, 62]⟩, .string ⟨#[60, 98, 114, 47, 62]⟩, .string ⟨#[60, 33, 45, 45, 120, 45, 45, 62]⟩, .string ⟨#[60, 105, 32, 99, 108, 97, 115, 115, 61, 120, 62]⟩, .string ⟨#[60, 47, 105, 62]⟩, .string ⟨#[38, 97, 109, 112, 59]⟩, .string ⟨#[60]⟩, .string ⟨#[60, 117, 108, 62]⟩, .string ⟨#[60, 108, 105, 62]⟩, .string ⟨#[60, 47, 117, 108, 62]⟩, .string ⟨#[38]⟩, .string ⟨#[62]⟩, .string ⟨#[60, 115, 99, 114, 105, 112, 116, 62]⟩, .string ⟨#[60, 47, 115, 99, 114, 105, 112, 116, 62]⟩, .string ⟨#[10]⟩, .string ⟨#[60, 105, 109, 103, 32, 115, 114, 99, 61, 39, 120, 46, 112, 110, 103, 39, 62]⟩, .string ⟨#[60, 97, 32, 104, 114, 101, 102, 61, 34, 104, 116, 116, 112, 58, 47, 47, 120, 34, 62]⟩, .string ⟨#[60, 47, 97, 62]⟩, .string ⟨#[60, 63, 120, 62]⟩, .string ⟨#[60, 47, 62]⟩] : List Value)[j]'h = .string (pm j) := by
  match j, h with
  | 0, _ => rfl
  | 1, _ => rfl
  | 2, _ => rfl
  | 3, _ => rfl
  | 4, _ => rfl
  | 5, _ => rfl
  | 6, _ => rfl
  | 7, _ => rfl
  | 8, _ => rfl
  | 9, _ => rfl
  | 10, _ => rfl
  | 11, _ => rfl
  | 12, _ => rfl
  | 13, _ => rfl
  | 14, _ => rfl
  | 15, _ => rfl
  | 16, _ => rfl
  | 17, _ => rfl
  | 18, _ => rfl
  | 19, _ => rfl
  | 20, _ => rfl
  | 21, _ => rfl
  | 22, _ => rfl
  | 23, _ => rfl
  | 24, _ => rfl
  | j + 25, h => exact absurd h (by simp)

def pp (j : Nat) : ByteArray := match j with
  | 0 => ⟨#[120]⟩
  | 1 => ⟨#[60, 112, 62]⟩
  | 2 => ⟨#[60, 47, 112, 62]⟩
  | 3 => ⟨#[60, 105, 32, 97, 61, 98, 62]⟩
  | 4 => ⟨#[60, 33, 45, 45, 120, 45, 45, 62]⟩
  | _ => ⟨#[121, 32]⟩
theorem pp_size (j : Nat) : (pp j).size ≤ 8 := by
  unfold pp
  split <;> decide
theorem pp_cell (j : Nat) (hj : j < 6) (W : World) (T : TypeId) (s : Nat × Nat) :
    (W.alloc (.cells #[.string ⟨#[120]⟩, .string ⟨#[60, 112, 62]⟩, .string ⟨#[60, 47, 112, 62]⟩, .string ⟨#[60, 105, 32, 97, 61, 98, 62]⟩, .string ⟨#[60, 33, 45, 45, 120, 45, 45, 62]⟩, .string ⟨#[121, 32]⟩] T s)).cell? ⟨W.heap.size, j, none⟩ = some (.string (pp j)) := by
  match j, hj with
  | 0, _ => rw [Lib.cell_of_heap (heap_alloc_new W _)]; rfl
  | 1, _ => rw [Lib.cell_of_heap (heap_alloc_new W _)]; rfl
  | 2, _ => rw [Lib.cell_of_heap (heap_alloc_new W _)]; rfl
  | 3, _ => rw [Lib.cell_of_heap (heap_alloc_new W _)]; rfl
  | 4, _ => rw [Lib.cell_of_heap (heap_alloc_new W _)]; rfl
  | 5, _ => rw [Lib.cell_of_heap (heap_alloc_new W _)]; rfl
  | j + 6, h => exact absurd h (by omega)
theorem pp_get (j : Nat) (h : j < ([.string ⟨#[120]⟩, .string ⟨#[60, 112, 62]⟩, .string ⟨#[60, 47, 112, 62]⟩, .string ⟨#[60, 105, 32, 97, 61, 98, 62]⟩, .string ⟨#[60, 33, 45, 45, 120, 45, 45, 62]⟩, .string ⟨#[121, 32]⟩] : List Value).length) : ([.string ⟨#[120]⟩, .string ⟨#[60, 112, 62]⟩, .string ⟨#[60, 47, 112, 62]⟩, .string ⟨#[60, 105, 32, 97, 61, 98, 62]⟩, .string ⟨#[60, 33, 45, 45, 120, 45, 45, 62]⟩, .string ⟨#[121, 32]⟩] : List Value)[j]'h = .string (pp j) := by
  match j, h with
  | 0, _ => rfl
  | 1, _ => rfl
  | 2, _ => rfl
  | 3, _ => rfl
  | 4, _ => rfl
  | 5, _ => rfl
  | j + 6, h => exact absurd h (by simp)

def pg (j : Nat) : ByteArray := match j with
  | 0 => ⟨#[]⟩
  | 1 => ⟨#[32]⟩
  | 2 => ⟨#[10, 32]⟩
  | _ => ⟨#[9]⟩
theorem pg_size (j : Nat) : (pg j).size ≤ 2 := by
  unfold pg
  split <;> decide
theorem pg_cell (j : Nat) (hj : j < 4) (W : World) (T : TypeId) (s : Nat × Nat) :
    (W.alloc (.cells #[.string ⟨#[]⟩, .string ⟨#[32]⟩, .string ⟨#[10, 32]⟩, .string ⟨#[9]⟩] T s)).cell? ⟨W.heap.size, j, none⟩ = some (.string (pg j)) := by
  match j, hj with
  | 0, _ => rw [Lib.cell_of_heap (heap_alloc_new W _)]; rfl
  | 1, _ => rw [Lib.cell_of_heap (heap_alloc_new W _)]; rfl
  | 2, _ => rw [Lib.cell_of_heap (heap_alloc_new W _)]; rfl
  | 3, _ => rw [Lib.cell_of_heap (heap_alloc_new W _)]; rfl
  | j + 4, h => exact absurd h (by omega)
theorem pg_get (j : Nat) (h : j < ([.string ⟨#[]⟩, .string ⟨#[32]⟩, .string ⟨#[10, 32]⟩, .string ⟨#[9]⟩] : List Value).length) : ([.string ⟨#[]⟩, .string ⟨#[32]⟩, .string ⟨#[10, 32]⟩, .string ⟨#[9]⟩] : List Value)[j]'h = .string (pg j) := by
  match j, h with
  | 0, _ => rfl
  | 1, _ => rfl
  | 2, _ => rfl
  | 3, _ => rfl
  | j + 4, h => exact absurd h (by simp)

end Go.Proofs.YtankcnikebcpkaaGreatDoor

/- tree.Count, and how the document counts. -/
namespace Go.Proofs.YtankcnikebcpkaaGreatDoor
open Go.RowKit

theorem take_drop_get {α : Type} {l : List α} {i : Nat} {x : α} (h : l[i]? = some x) : i < l.length := (List.getElem?_eq_some_iff.1 h).1

set_option maxHeartbeats 8000000 in
set_option maxRecDepth 1000000 in
theorem count_walk (c : Nat) : ∀ (l : List U.Nd), U.cntL l ≤ c → U.cntL l ≤ 1048576 → ∀ (v : Value) (w : World), RdNs w (· < w.heap.size) v l →
    Calls Tryz.prog 17 #[v] w fun e w' => e = .returned (.tuple #[.int .i64 (U.cntL l : Nat), .int .i64 (U.depL l : Nat)]) ∧ Below w.heap.size w w' := by
  induction c using Nat.strongRecOn with
  | _ c ih =>
  intro l hlc hlM v w hR
  have hR0 := hR
  obtain ⟨ao, cap, rfl, hcl, hcm, _⟩ := hR0
  have HR := Lib.hid hR
  have IH := Lib.hid ih
  have hll := U.len_cnt l
  have hdl := U.dep_cnt _ l (Nat.le_refl _)
  clear ih hR hcl hcm
  go_enter Tryz.func17, Tryz.ntmps17
  go_wp2_with fail
  go_loopw [2, 3, 10] (fun nn dd i wr => ∃ k : Nat, k ≤ l.length ∧ i = .int .i64 k ∧ nn = .int .i64 (U.cntL (l.take k) : Nat) ∧ dd = .int .i64 (U.depL (l.take k) : Nat) ∧ Below w.heap.size w wr) (fun _ _ i _ => l.length - (intOf i).toNat)
  case atStart => exact ⟨0, Nat.zero_le _, rfl, by rw [List.take_zero, U.cntL_nil]; rfl, by rw [List.take_zero, U.depL_nil]; rfl, Below.refl _ _⟩
  case round =>
    obtain ⟨k, hk, rfl, rfl, rfl, hbw⟩ := hrel
    by_cases hlt : k < l.length
    · have hx := List.getElem?_eq_getElem hlt
      generalize l[k]'hlt = n at hx
      obtain ⟨g, o, cap2, e0, hg, hn⟩ := HR.out.get hx
      injection e0 with e1 e2 e3
      subst e1
      obtain ⟨av, pv, c0, c1, c2, c3, hA, hP⟩ := (rdNd_iff n g _).1 hn
      obtain ⟨aa, acap, rfl⟩ : ∃ aa acap, av = .slice aa n.attrs.length acap := by obtain ⟨a, b, e, _⟩ := hA; exact ⟨a, b, e⟩
      obtain ⟨pa, pcap, rfl⟩ : ∃ pa pcap, pv = .slice pa n.parts.length pcap := by obtain ⟨a, b, e, _⟩ := hP; exact ⟨a, b, e⟩
      have d0 := (hbw.cell (p := ⟨g, o + k * 4, none⟩) hg).trans c0
      have d1 := (hbw.cell (p := ⟨g, o + k * 4 + 1, none⟩) hg).trans c1
      have d2 := (hbw.cell (p := ⟨g, o + k * 4 + 2, none⟩) hg).trans c2
      have d3 := (hbw.cell (p := ⟨g, o + k * 4 + 3, none⟩) hg).trans c3
      have hge := U.cntL_get hx
      have hne := U.cntN_eq n
      have hct := U.cntL_take hx
      have hdt := U.depL_take hx
      have hdn := U.depN_eq n
      have hdp := U.dep_cnt _ n.parts (Nat.le_refl _)
      have hdk := U.dep_cnt _ (l.take k) (Nat.le_refl _)
      have hbO := fun O => hbw.alloc hbw.size O
      have HC := Lib.hid (fun O => IH.out (U.cntL n.parts) (by omega) n.parts (Nat.le_refl _) (by omega) (.slice pa n.parts.length pcap) (wr.alloc O) (hP.below (hbO O) (by have := (hbO O).size; exact this)))
      have HCT := Lib.hid (And.intro hct (And.intro hdt (And.intro hne hdn)))
      have hlz : (k : Int) < (l.length : Int) := by omega
      have s1 : U.cntL n.parts ≤ 1048576 := by omega
      have s2 : U.cntL (l.take k) ≤ 1048576 := by omega
      have s3 : U.depL n.parts ≤ 1048576 := by omega
      have s4 : U.depL (l.take k) ≤ 1048576 := by omega
      clear c0 c1 c2 c3 hn hA hP hct hdt hne hdn hge hdp hdk e2 e3 hx
      go_wp2_with fail
      refine (HC.out _).mono ?_
      rintro e w2 ⟨rfl, hb2⟩
      have HB := Lib.hid ((hbO _).trans (hb2.mono (hbO _).size))
      clear hbO hb2
      go_wp2_with fail
      go_roundw
      case rel =>
        obtain ⟨h1, h2, h3, h4⟩ := HCT.out
        refine ⟨k + 1, by omega, by go_num, ?_, ?_, HB.out⟩
        · rw [h1, h3]; congr 1; try (push_cast; omega)
        · rw [h2, h4]; congr 1; try (push_cast; omega)
      case measure => simp [intOf]; omega
    · obtain rfl : k = l.length := by omega
      have hz : ¬ (l.length : Int) < (l.length : Int) := by omega
      rw [List.take_length]
      have HB := Lib.hid hbw
      clear hbw
      go_wp2_with fail
      go_ret2
      exact ⟨rfl, HB.out⟩

/-- nodes of a slice, with the cells that they lie in -/
theorem rdNs_row {w : World} {S : Nat → Prop} {g o n cap : Nat} {l : List U.Nd} (h : RdNs w S (.slice (some ⟨g, o, none⟩) n cap) l) : ∃ xs : List NV, xs.map (·.1) = l ∧ (∀ x ∈ xs, Done w S x) ∧ ∀ (j : Nat) u, (ndCells xs)[j]? = some u → w.cell? ((⟨g, o, none⟩ : Addr).add j) = some u := by
  obtain ⟨ao, cap', e, _, _, h⟩ := h
  injection e with e1 _ _
  subst e1
  have ea : ∀ j, (⟨g, o, none⟩ : Addr).add j = ⟨g, o + j, none⟩ := fun j => by cases j <;> simp [Addr.add]
  rcases h with rfl | ⟨g2, o2, e, _, hr⟩
  · exact ⟨[], rfl, (fun x hx => by cases hx), fun j u hu => by cases hu⟩
  · injection e with e
    injection e with e3 e4 _
    subst e3
    subst e4
    have hrow : ∀ (l : List U.Nd) (o : Nat), RdRow w S l g o → ∃ xs : List NV, xs.map (·.1) = l ∧ (∀ x ∈ xs, Done w S x) ∧ ∀ (j : Nat) u, (ndCells xs)[j]? = some u → w.cell? ⟨g, o + j, none⟩ = some u := by
      intro l
      induction l with
      | nil => intro o _; exact ⟨[], rfl, (fun x hx => by cases hx), fun j u hu => by cases hu⟩
      | cons n r ih =>
        intro o hr
        rw [RdRow] at hr
        obtain ⟨av, pv, c0, c1, c2, c3, hA, hP⟩ := (rdNd_iff n g o).1 hr.1
        obtain ⟨xs, h1, h2, h3⟩ := ih (o + 4) hr.2
        refine ⟨(n, av, pv) :: xs, by rw [List.map_cons, h1], fun x hx => ?_, fun j u hu => ?_⟩
        · rcases List.mem_cons.1 hx with rfl | hx
          · exact ⟨hA, hP⟩
          · exact h2 x hx
        · have e : ndCells ((n, av, pv) :: xs) = .string ⟨n.name.toArray⟩ :: av :: .string ⟨n.text.toArray⟩ :: pv :: ndCells xs := rfl
          rw [e] at hu
          match j, hu with
          | 0, hu => simp at hu; subst hu; exact c0
          | 1, hu => simp at hu; subst hu; exact c1
          | 2, hu => simp at hu; subst hu; exact c2
          | 3, hu => simp at hu; subst hu; exact c3
          | j + 4, hu =>
            have := h3 j u (by simpa using hu)
            rwa [show o + 4 + j = o + (j + 4) by omega] at this
    obtain ⟨xs, h1, h2, h3⟩ := hrow l o hr
    exact ⟨xs, h1, h2, fun j u hu => by rw [ea]; exact h3 j u hu⟩
theorem done_one {w : World} {S : Nat → Prop} {xs : List NV} (h : ∀ x ∈ xs, Done w S x) : ∀ u ∈ ndCells xs, u.oneCell' = true := by
  intro u hu
  obtain ⟨x, hx, hu⟩ := List.mem_flatMap.1 hu
  obtain ⟨⟨a, b, e1, _⟩, ⟨c, d, e2, _⟩⟩ := h x hx
  simp only [List.mem_cons, List.not_mem_nil, or_false] at hu
  rcases hu with rfl | rfl | rfl | rfl
  · rfl
  · rw [e1]; rfl
  · rfl
  · rw [e2]; rfl

theorem infoNode2 : (Tryz.prog.info? 48).map (fun i => (i.zero, i.size, i.bytes)) = some (some (.agg #[.string .empty, .slice none 0 0, .string .empty, .slice none 0 0]), 4, 80) := by kernel_rfl
/-- an append of nodes that lie elsewhere -/
theorem app_nodes (W : World) (N : Nat) (v : Value) (xs : List NV) (hown : W.ownsRow N 48 4 v xs.length (ndCells xs)) (hN : N ≤ W.heap.size) (ao : Option Addr) (cap : Nat) (l : List U.Nd) (S : Nat → Prop) (hR : RdNs W S (.slice ao l.length cap) l) (hl : xs.length + l.length ≤ 1048576) :
    ∃ (v' : Value) (w' : World) (ys : List NV), (Builtin.append_ #[40, 40] 40 #[v, .slice ao l.length cap]).run Tryz.prog W = .ok v' w' ∧ w'.ownsRow N 48 4 v' (xs ++ ys).length (ndCells (xs ++ ys)) ∧ W.grownBy w' v.ownBlock ∧ ys.map (·.1) = l ∧ ∀ y ∈ ys, Done W S y := by
  obtain ⟨iT, hiT, hT0, hT1, hT2⟩ := info_parts infoNode2
  cases hl0 : l with
  | nil =>
    refine ⟨v, W, [], ?_, by rw [List.append_nil]; exact hown, World.grownBy.refl _ _, rfl, (fun y hy => by cases hy)⟩
    show (Builtin.append_ #[40, 40] 40 #[v, .slice ao 0 cap]).run Tryz.prog W = .ok v W
    obtain ⟨vo, vc, rfl, hvc, _⟩ := own_cap hown
    cases vo with
    | none =>
      have hx : xs.length = 0 ∧ vc = 0 := by
        rcases hown.2 with ⟨e, h0⟩ | ⟨g, c, cur, e, _⟩
        · injection e with _ _ e3; exact ⟨h0, e3⟩
        · cases e
      rw [hx.1, hx.2]
      cases ao with
      | none => simp [Builtin.append_, run_underlying Tryz.underlying40, sizeOf, typeInfo, hiT, Builtin.lenOf, Builtin.firstCells]
      | some a => simp [Builtin.append_, run_underlying Tryz.underlying40, sizeOf, typeInfo, hiT, Builtin.lenOf, Builtin.firstCells, loadCells, loadCellsFrom]
    | some b =>
      cases ao with
      | none => simp [Builtin.append_, run_underlying Tryz.underlying40, sizeOf, typeInfo, hiT, Builtin.lenOf, Builtin.firstCells, hvc, storeCells]
      | some a => simp [Builtin.append_, run_underlying Tryz.underlying40, sizeOf, typeInfo, hiT, Builtin.lenOf, Builtin.firstCells, loadCells, loadCellsFrom, hvc, storeCells]
  | cons a r =>
    rw [← hl0]
    obtain ⟨g, o, e⟩ : ∃ g o, ao = some ⟨g, o, none⟩ := by
      obtain ⟨_, _, _, e, _⟩ := hR.get (i := 0) (n := a) (by rw [hl0]; rfl)
      injection e with e _ _
      exact ⟨_, _, e⟩
    subst e
    obtain ⟨ys, h1, h2, h3⟩ := rdNs_row hR
    have hyl : ys.length = l.length := by rw [← h1, List.length_map]
    obtain ⟨v', w', r1, r2, r3, _⟩ := run_append_own (P := Tryz.prog) W N 40 40 48 iT _ 4 80 Tryz.underlying40 hiT hT0 hT1 hT2 rfl (by decide) v xs.length (ndCells xs) hown ⟨g, o, none⟩ l.length cap (ndCells ys) (by rw [ndCells_length, hyl]) h3 (done_one h2) (by unfold maxLen; omega) (by omega) hN
    refine ⟨v', w', ys, r1, ?_, r3, h1, h2⟩
    rw [List.length_append, hyl, ndCells_append]
    exact r2

end Go.Proofs.YtankcnikebcpkaaGreatDoor

/- Plain mathematics: how many tokens there are, by how many signs that open a tag. -/
namespace Go.Proofs.YtankcnikebcpkaaGreatDoor
namespace U

/-- how many signs '<' there are -/
def lts (l : List UInt8) : Nat := (l.filter (· == 60)).length
theorem lts_append (a b : List UInt8) : lts (a ++ b) = lts a + lts b := by simp [lts]
theorem lts_suffix {a b : List UInt8} (h : a <:+ b) : lts a ≤ lts b := by
  obtain ⟨c, rfl⟩ := h
  rw [lts_append]
  omega
theorem lts_cons (r : List UInt8) : lts (60 :: r) = lts r + 1 := by simp [lts]
theorem runM_suffix : ∀ (l : List UInt8) (st : St) {st' : St} {r : List UInt8}, runM st l = some (st', r) → r <:+ l
  | [], st, st', r, h => by cases h
  | b :: l, st, st', r, h => by
    rw [runM] at h
    split at h
    · exact (runM_suffix l _ h).trans (List.suffix_cons b l)
    · injection h with h; injection h with _ h; subst h; exact List.suffix_cons b l
    · split at h
      · exact (runM_suffix l _ h).trans (List.suffix_cons b l)
      · injection h with h; injection h with _ h; subst h; exact List.suffix_cons b l
      · cases h
theorem rawText_suffix (n l : List UInt8) : (rawText n l).2 <:+ l := ⟨(rawText n l).1, rawText_both n l⟩
theorem remark_suffix (find l : List UInt8) : (remark find l).2 <:+ l := by
  unfold remark
  split
  · exact List.nil_suffix
  · exact List.drop_suffix _ _
theorem toksT_lt : ∀ (m : Nat) (l txt : List UInt8), l.length ≤ m → (toksT txt l).length ≤ 2 * lts l + 1 ∧ (txt = [] → kindOf l ≠ 3 → (toksT txt l).length ≤ 2 * lts l)
  | 0, l, txt, hm => by
    obtain rfl : l = [] := List.eq_nil_of_length_eq_zero (by omega)
    rw [toksT_nil]
    refine ⟨?_, fun _ h => absurd rfl h⟩
    have := chars_le txt
    omega
  | m + 1, [], txt, hm => by
    rw [toksT_nil]
    refine ⟨?_, fun _ h => absurd rfl h⟩
    have := chars_le txt
    omega
  | m + 1, b :: r, txt, hm => by
    have hr : r.length ≤ m := by simpa using hm
    by_cases h3 : kindOf (b :: r) = 3
    · rw [toksT_text txt rfl (item_text h3)]
      have g := (toksT_lt m r (txt ++ [b]) hr).1
      have hs := lts_suffix (List.suffix_cons b r)
      exact ⟨by omega, fun _ h => absurd h3 h⟩
    · have key : (toksT [] (b :: r)).length ≤ 2 * lts (b :: r) := by
        have one : ∀ (t : Tok) (rest : List UInt8), rest.length < (b :: r).length → lts rest + 1 ≤ lts (b :: r) → (t :: toksT [] rest).length ≤ 2 * lts (b :: r) := by
          intro t rest h h2
          rw [List.length_cons]
          have g := (toksT_lt m rest [] (by rw [List.length_cons] at h; omega)).1
          omega
        rcases kindOf_cases (b :: r) with h | h | h | h
        · obtain ⟨c, u, e1, ha, he⟩ := item_start h
          unfold startI at he
          cases hru : runM st0 (c :: u) with
          | none => rw [hru] at he; rw [toksT_stop he]; simp
          | some x =>
            obtain ⟨st, t⟩ := x
            rw [hru] at he
            have hsh := item_shorter.2.2 _ _ _ _ he
            have hlt : lts t + 1 ≤ lts (b :: r) := by
              rw [e1, lts_cons]
              have := lts_suffix (runM_suffix _ _ hru)
              omega
            rw [toksT_start he]
            by_cases hn : rawName (low st.tname) = true
            · rw [if_pos hn]
              have hraw := rawToks_le (low st.tname) (rawText (low st.tname) t).1
              have hle := rawText_le (low st.tname) t
              have hs2 := lts_suffix (rawText_suffix (low st.tname) t)
              rw [List.length_cons, List.length_append]
              by_cases hz : (rawText (low st.tname) t).2 = []
              · rw [hz, toksT_nil]
                show _ + 0 + 1 ≤ _
                omega
              · have g := (toksT_lt m (rawText (low st.tname) t).2 [] (by rw [List.length_cons] at hsh; omega)).2 rfl (by rw [raw_rest_kind (rawName_al hn) hz]; decide)
                omega
            · rw [if_neg hn]
              exact one _ t hsh hlt
        · obtain ⟨c, u, e1, ha, he⟩ := item_end h
          unfold closeI at he
          cases hru : runM st0 (c :: u) with
          | none => rw [hru] at he; rw [toksT_stop he]; simp
          | some x =>
            obtain ⟨st, t⟩ := x
            rw [hru] at he
            have hsh := item_shorter.2.1 _ _ he
            rw [toksT_close he]
            refine one _ t hsh ?_
            rw [e1, lts_cons]
            have h1 := lts_suffix (runM_suffix _ _ hru)
            have h2 := lts_suffix (List.suffix_cons 47 (c :: u))
            omega
        · exact absurd h h3
        · obtain ⟨find, u, he, hu⟩ : ∃ find u, item (b :: r) = markI find u ∧ lts u + 1 ≤ lts (b :: r) := by
            have hb : b = 60 := by
              have hk : kindOf (b :: r) ≠ 3 := h3
              cases r with
              | nil => exact absurd rfl hk
              | cons c r =>
                rw [kindOf_cons] at hk
                by_cases h6 : b = 60
                · exact h6
                · rw [if_pos h6] at hk; exact absurd rfl hk
            have hd : ∀ k, 1 ≤ k → lts ((b :: r).drop k) + 1 ≤ lts (b :: r) := fun k hk => by
              obtain ⟨j, rfl⟩ : ∃ j, k = j + 1 := ⟨k - 1, by omega⟩
              rw [hb, lts_cons, List.drop_succ_cons]
              have := lts_suffix (List.drop_suffix j r)
              omega
            rcases item_mark h with ⟨_, e⟩ | ⟨_, _, e⟩ | ⟨_, _, e⟩
            · exact ⟨_, _, e, hd 4 (by omega)⟩
            · exact ⟨_, _, e, hd 1 (by omega)⟩
            · exact ⟨_, _, e, hd 2 (by omega)⟩
          have hsh := item_shorter.1 _ _ he
          rw [toksT_mark he]
          refine one _ _ hsh ?_
          have := lts_suffix (remark_suffix find u)
          omega
      refine ⟨?_, fun hx _ => by subst hx; exact key⟩
      rw [toksT_flush txt (.inr (item_notext h3)), List.length_append]
      have := chars_le txt
      omega
theorem toks_lt (l : List UInt8) : (toks l).length ≤ 2 * lts l + 1 := (toksT_lt l.length l [] (Nat.le_refl _)).1

end U
end Go.Proofs.YtankcnikebcpkaaGreatDoor

/- Plain mathematics: what is built is not too deep; its texts are not side by side, not empty, and have nothing in them. -/
namespace Go.Proofs.YtankcnikebcpkaaGreatDoor
namespace U

def isTx (n : Nd) : Bool := n.name == []
mutual
def apN : Nd → Bool | .mk n a t p => if n = [] then !(t == []) && (p.length == 0) && (a.length == 0) else (t == []) && apL false p
/-- is all right, behind a text or not -/
def apL : Bool → List Nd → Bool | _, [] => true | prev, n :: r => !(prev && n.name == []) && apN n && apL (n.name == []) r
end
theorem apL_nil (b : Bool) : apL b [] = true := by rw [apL]
/-- is the last one a text -/
def endsTx : Bool → List Nd → Bool | b, [] => b | _, n :: r => endsTx (n.name == []) r
theorem apL_snoc : ∀ (l : List Nd) (b : Bool) (n : Nd), apL b (l ++ [n]) = (apL b l && !(endsTx b l && n.name == []) && apN n)
  | [], b, n => by
    have e : apL b [n] = (!(b && n.name == []) && apN n && apL (n.name == []) []) := by conv => lhs; rw [apL]
    rw [List.nil_append, e, apL_nil, apL_nil]
    simp [endsTx]
  | m :: r, b, n => by
    rw [List.cons_append, apL, apL, apL_snoc r, endsTx]
    simp only [Bool.and_assoc]
theorem endsTx_snoc : ∀ (l : List Nd) (b : Bool) (n : Nd), endsTx b (l ++ [n]) = (n.name == [])
  | [], b, n => rfl
  | m :: r, b, n => by rw [List.cons_append, endsTx, endsTx_snoc r]
/-- the current place -/
def Bst.cur (s : Bst) : List Nd := match s.op with
  | [] => s.out
  | a :: _ => a.parts
structure ApOk (s : Bst) : Prop where
  out : apL false s.out = true
  op : ∀ a ∈ s.op, a.name ≠ [] ∧ a.text = [] ∧ apL false a.parts = true
  tx : ∀ t ∈ s.tx, t ≠ []
theorem ApOk.add {s : Bst} (h : ApOk s) {n : Nd} (hn : apN n = true) (he : (endsTx false s.cur && n.name == []) = false) : ApOk (s.add n) ∧ endsTx false (s.add n).cur = (n.name == []) := by
  unfold Bst.add
  cases hs : s.op with
  | nil =>
    have hc : s.cur = s.out := by unfold Bst.cur; rw [hs]
    rw [hc] at he
    refine ⟨⟨?_, (fun a ha => by cases ha), h.tx⟩, ?_⟩
    · show apL false (s.out ++ [n]) = true
      rw [apL_snoc, h.out, hn, he]; rfl
    · show endsTx false (s.out ++ [n]) = _
      exact endsTx_snoc _ _ _
  | cons a r =>
    have hc : s.cur = a.parts := by unfold Bst.cur; rw [hs]
    rw [hc] at he
    have hop := h.op
    rw [hs] at hop
    obtain ⟨a1, a2, a3⟩ := hop a (List.mem_cons_self ..)
    refine ⟨⟨h.out, fun b hb => ?_, h.tx⟩, ?_⟩
    · rcases List.mem_cons.1 hb with rfl | hb
      · refine ⟨by rw [Nd.push_name]; exact a1, by rw [Nd.push_text]; exact a2, ?_⟩
        rw [Nd.push_parts, apL_snoc, a3, hn, he]; rfl
      · exact hop b (List.mem_cons_of_mem _ hb)
    · show endsTx false (a.push n).parts = _
      rw [Nd.push_parts]
      exact endsTx_snoc _ _ _
theorem flat_ne : ∀ (l : List (List UInt8)), l ≠ [] → (∀ t ∈ l, t ≠ []) → l.flatten ≠ []
  | [], h, _ => absurd rfl h
  | a :: r, _, h => fun e => h a (List.mem_cons_self ..) (by
      rw [List.flatten_cons] at e
      exact (List.append_eq_nil_iff.1 e).1)
theorem ApOk.endText {s : Bst} (h : ApOk s) (he : endsTx false s.cur = false) : ApOk s.endText := by
  unfold Bst.endText
  split
  · exact h
  · rename_i hne
    have hf := flat_ne s.tx hne h.tx
    have := (h.add (n := .mk [] [] s.tx.flatten []) (by rw [apN, if_pos rfl]; simp [hf]) (by rw [he]; rfl)).1
    exact ⟨this.out, this.op, fun t ht => by cases ht⟩
theorem ApOk.pop {s : Bst} (h : ApOk s) (he : endsTx false s.cur = false) : ApOk s.pop ∧ (s.op ≠ [] → endsTx false s.pop.cur = false) := by
  have h1 := h.endText he
  have hl := Bst.endText_op s
  unfold Bst.pop
  split
  · rename_i hs
    rw [hs] at hl
    refine ⟨h1, fun e => ?_⟩
    exact absurd (List.eq_nil_of_length_eq_zero (by simpa using hl.symm)) e
  · rename_i a r hs
    have hop := h1.op
    rw [hs] at hop
    obtain ⟨a1, a2, a3⟩ := hop a (List.mem_cons_self ..)
    have hna : (a.name == []) = false := by simpa using a1
    have hap : apN a = true := by
      have e := Nd.eta a
      rw [← e, apN, if_neg a1, a2, a3]
      rfl
    obtain ⟨g1, g2⟩ := ApOk.add (s := s.endText.withOp r) ⟨h1.out, fun b hb => hop b (List.mem_cons_of_mem _ hb), h1.tx⟩ hap (by rw [hna, Bool.and_false])
    exact ⟨g1, fun _ => by rw [g2, hna]⟩
theorem ApOk.popN {s : Bst} (h : ApOk s) (he : endsTx false s.cur = false) : ∀ n, n ≤ s.op.length → ApOk (Bst.popN n s) ∧ endsTx false (Bst.popN n s).cur = false
  | 0, _ => ⟨h, he⟩
  | n + 1, hn => by
    obtain ⟨h1, h2⟩ := h.popN he n (by omega)
    rw [Bst.popN_succ]
    obtain ⟨h3, h4⟩ := h1.pop h2
    refine ⟨h3, h4 fun e => ?_⟩
    have := Bst.popN_op n s
    rw [e] at this
    simp at this
    omega
theorem ApOk.closeLast {s : Bst} (h : ApOk s) (he : endsTx false s.cur = false) (name : List UInt8) : ApOk (s.closeLast name) ∧ endsTx false (s.closeLast name).cur = false := by
  unfold Bst.closeLast
  split
  · exact ⟨h, he⟩
  · exact h.popN he _ (by omega)
theorem ApOk.closeBefore {s : Bst} (h : ApOk s) (he : endsTx false s.cur = false) (name : List UInt8) : ApOk (s.closeBefore name) ∧ endsTx false (s.closeBefore name).cur = false := by
  have hp : ApOk (s.closePar name) ∧ endsTx false (s.closePar name).cur = false := by
    unfold Bst.closePar
    split
    · exact h.closeLast he _
    · exact ⟨h, he⟩
  unfold Bst.closeBefore
  split
  · exact hp.1.closeLast hp.2 _
  · exact hp
theorem ApOk.step {s : Bst} (h : ApOk s) (he : endsTx false s.cur = false) (t : Tk) (hn : t.kind = 1 → t.name ≠ []) : ApOk (s.step t) ∧ endsTx false (s.step t).cur = false := by
  unfold Bst.step
  split
  · rename_i hk
    have hnm := hn hk
    obtain ⟨b1, b2⟩ := ApOk.closeBefore (s := ⟨s.out, s.op, s.tx, s.cnt, []⟩) ⟨h.out, h.op, h.tx⟩ he t.name
    unfold Bst.start Bst.start1
    split
    · split
      · exact ⟨⟨b1.out, b1.op, b1.tx⟩, b2⟩
      · exact ⟨b1, b2⟩
    · have e1 := b1.endText b2
      have hap : apN (.mk t.name t.attrs [] []) = true := by rw [apN, if_neg hnm, apL_nil]; rfl
      have hnb : (t.name == []) = false := by simpa using hnm
      unfold Bst.start2
      split
      · obtain ⟨g1, g2⟩ := ApOk.add (s := (Bst.closeBefore ⟨s.out, s.op, s.tx, s.cnt, []⟩ t.name).endText.more) ⟨e1.out, e1.op, e1.tx⟩ hap (by show (_ && (t.name == [])) = false; rw [hnb, Bool.and_false])
        exact ⟨g1, by rw [g2]; exact hnb⟩
      · refine ⟨⟨e1.out, fun a ha => ?_, e1.tx⟩, rfl⟩
        rcases List.mem_cons.1 ha with rfl | ha
        · exact ⟨hnm, rfl, apL_nil _⟩
        · exact e1.op a ha
  split
  · unfold Bst.ends
    refine ApOk.closeLast ?_ ?_ _
    · split
      · exact ⟨h.out, h.op, h.tx⟩
      · exact h
    · split
      · exact he
      · exact he
  split
  · unfold Bst.chars
    split
    · exact ⟨h, he⟩
    · rename_i hno
      refine ⟨⟨h.out, h.op, fun x hx => ?_⟩, he⟩
      rcases List.mem_append.1 hx with hx | hx
      · exact h.tx x hx
      · obtain rfl := List.mem_singleton.1 hx
        exact fun e => hno (.inl e)
  · exact ⟨h, he⟩
theorem ApOk.run : ∀ (l : List Tk) (s : Bst), ApOk s → endsTx false s.cur = false → (∀ t ∈ l, t.kind = 1 → t.name ≠ []) → apL false (s.run l).1 = true
  | [], s, h, he, _ => by
    obtain ⟨h1, h2⟩ := h.popN he (s.op.length - 0) (by omega)
    exact (h1.endText h2).out
  | t :: r, s, h, he, hn => by
    rw [Bst.run]
    split
    · have hs : ApOk (s.stepE t).1 ∧ endsTx false (s.stepE t).1.cur = false := by
        unfold Bst.stepE
        split
        · exact h.step he t (hn t (List.mem_cons_self ..))
        · exact ⟨h, he⟩
      exact ApOk.run r _ hs.1 hs.2 fun x hx => hn x (List.mem_cons_of_mem _ hx)
    · exact apL_nil _
theorem build_apart (l : List Tk) (hn : ∀ t ∈ l, t.kind = 1 → t.name ≠ []) : apL false (build l).1 = true := by
  unfold build
  split
  · exact apL_nil _
  · exact ApOk.run l _ ⟨apL_nil _, (fun a ha => by cases ha), (fun t ht => by cases ht)⟩ rfl hn

/-! ### how deep -/
def StkDp : List Nd → Prop
  | [] => True
  | a :: r => depL a.parts + (r.length + 1) ≤ 11 ∧ StkDp r
structure DpOk (s : Bst) : Prop where
  out : depL s.out ≤ 11
  op : StkDp s.op
  deep : s.op.length ≤ 10
theorem DpOk.add {s : Bst} (h : DpOk s) {n : Nd} (hn : depN n + s.op.length ≤ 11) : DpOk (s.add n) := by
  unfold Bst.add
  cases hs : s.op with
  | nil =>
    rw [hs] at hn
    refine ⟨?_, by show StkDp ([] : List Nd); trivial, Nat.zero_le _⟩
    show depL (s.out ++ [n]) ≤ 11
    have := h.out
    rw [depL_append, depL_cons, depL_nil]
    simp at hn
    omega
  | cons a r =>
    have h0 := h.op
    have h1 := h.deep
    rw [hs] at h0 hn h1
    rw [List.length_cons] at hn
    refine ⟨h.out, ⟨?_, h0.2⟩, by simpa using h1⟩
    have := h0.1
    rw [Nd.push_parts, depL_append, depL_cons, depL_nil]
    omega
theorem DpOk.endText {s : Bst} (h : DpOk s) : DpOk s.endText := by
  unfold Bst.endText
  split
  · exact h
  · have h1 := h.deep
    have := h.add (n := .mk [] [] s.tx.flatten []) (by rw [depN, depL_nil]; omega)
    exact ⟨this.out, this.op, this.deep⟩
theorem DpOk.pop {s : Bst} (h : DpOk s) : DpOk s.pop := by
  have h1 := h.endText
  unfold Bst.pop
  split
  · exact h1
  · rename_i a r hs
    have h2 := h1.op
    have h3 := h1.deep
    rw [hs] at h2 h3
    rw [List.length_cons] at h3
    refine DpOk.add (s := s.endText.withOp r) ⟨h1.out, h2.2, by show r.length ≤ 10; omega⟩ ?_
    show depN a + r.length ≤ 11
    have := h2.1
    rw [depN_eq]
    omega
theorem DpOk.popN {s : Bst} (h : DpOk s) : ∀ n, DpOk (Bst.popN n s)
  | 0 => h
  | n + 1 => by rw [Bst.popN_succ]; exact (h.popN n).pop
theorem DpOk.closeLast {s : Bst} (h : DpOk s) (name : List UInt8) : DpOk (s.closeLast name) := by
  unfold Bst.closeLast
  split
  · exact h
  · exact h.popN _
theorem DpOk.step {s : Bst} (h : DpOk s) (t : Tk) : DpOk (s.step t) := by
  unfold Bst.step
  split
  · have b1 : DpOk (Bst.closeBefore ⟨s.out, s.op, s.tx, s.cnt, []⟩ t.name) := by
      have hp : DpOk (Bst.closePar ⟨s.out, s.op, s.tx, s.cnt, []⟩ t.name) := by
        unfold Bst.closePar
        split
        · exact DpOk.closeLast (s := ⟨s.out, s.op, s.tx, s.cnt, []⟩) ⟨h.out, h.op, h.deep⟩ _
        · exact ⟨h.out, h.op, h.deep⟩
      unfold Bst.closeBefore
      split
      · exact hp.closeLast _
      · exact hp
    unfold Bst.start Bst.start1
    split
    · split
      · exact ⟨b1.out, b1.op, b1.deep⟩
      · exact b1
    · rename_i hlen
      have e1 := b1.endText
      have e2 := Bst.endText_op (Bst.closeBefore ⟨s.out, s.op, s.tx, s.cnt, []⟩ t.name)
      have e3 := b1.deep
      unfold Bst.start2
      split
      · refine DpOk.add (s := (Bst.closeBefore ⟨s.out, s.op, s.tx, s.cnt, []⟩ t.name).endText.more) ⟨e1.out, e1.op, e1.deep⟩ ?_
        show depN _ + (Bst.closeBefore ⟨s.out, s.op, s.tx, s.cnt, []⟩ t.name).endText.op.length ≤ 11
        rw [depN, depL_nil]
        omega
      · refine ⟨e1.out, ⟨?_, e1.op⟩, ?_⟩
        · show depL [] + ((Bst.closeBefore ⟨s.out, s.op, s.tx, s.cnt, []⟩ t.name).endText.op.length + 1) ≤ 11
          rw [depL_nil]
          omega
        · show (Bst.closeBefore ⟨s.out, s.op, s.tx, s.cnt, []⟩ t.name).endText.op.length + 1 ≤ 10
          omega
  split
  · unfold Bst.ends
    refine DpOk.closeLast ?_ _
    split
    · exact ⟨h.out, h.op, h.deep⟩
    · exact h
  split
  · unfold Bst.chars
    split
    · exact h
    · exact ⟨h.out, h.op, h.deep⟩
  · exact h
theorem DpOk.run : ∀ (l : List Tk) (s : Bst), DpOk s → depL (s.run l).1 ≤ 11
  | [], s, h => ((h.popN _).endText).out
  | t :: r, s, h => by
    rw [Bst.run]
    split
    · refine DpOk.run r _ ?_
      unfold Bst.stepE
      split
      · exact h.step t
      · exact h
    · show depL [] ≤ 11
      rw [depL_nil]; omega
theorem build_deep (l : List Tk) : depL (build l).1 ≤ 11 := by
  unfold build
  split
  · show depL [] ≤ 11
    rw [depL_nil]; omega
  · exact DpOk.run l _ ⟨by show depL [] ≤ 11; rw [depL_nil]; omega, trivial, Nat.zero_le _⟩

end U
end Go.Proofs.YtankcnikebcpkaaGreatDoor

/- Plain mathematics: a tree has no more nodes than there were tokens. -/
namespace Go.Proofs.YtankcnikebcpkaaGreatDoor
namespace U

def Bst.all (s : Bst) : Nat := cntL s.out + (s.op.map cntN).sum + (if s.tx = [] then 0 else 1)
theorem cntL_one (n : Nd) : cntL [n] = cntN n := by rw [cntL_cons, cntL_nil]; rfl
theorem Bst.add_all (s : Bst) (n : Nd) : (s.add n).all = s.all + cntN n := by
  unfold Bst.add Bst.all
  cases h : s.op with
  | nil =>
    simp only [cntL_append, cntL_one, List.map_nil, List.sum_nil]
    omega
  | cons a r =>
    simp only [List.map_cons, List.sum_cons, cntN_eq (a.push n), cntN_eq a, Nd.push_parts, cntL_append, cntL_one]
    omega
theorem Bst.endText_all (s : Bst) : s.endText.all = s.all := by
  unfold Bst.endText
  split
  · rfl
  · rename_i h
    have h1 := Bst.add_all s (.mk [] [] s.tx.flatten [])
    have h2 := Bst.add_tx s (.mk [] [] s.tx.flatten [])
    have h3 : (s.add (.mk [] [] s.tx.flatten [])).all = (s.add (.mk [] [] s.tx.flatten [])).noText.all + 1 := by
      unfold Bst.all
      rw [h2, if_neg h]
      rfl
    have h4 : cntN (.mk [] [] s.tx.flatten []) = 1 := by rw [cntN_eq]; show 1 + cntL [] = 1; rw [cntL_nil]
    omega
theorem Bst.pop_all (s : Bst) : s.pop.all = s.all := by
  unfold Bst.pop
  have h0 := Bst.endText_all s
  split
  · exact h0
  · rename_i a r h
    rw [Bst.add_all]
    have h1 : s.endText.all = cntL s.endText.out + (s.endText.op.map cntN).sum + (if s.endText.tx = [] then 0 else 1) := rfl
    rw [h, List.map_cons, List.sum_cons] at h1
    have h2 : (s.endText.withOp r).all = cntL s.endText.out + (r.map cntN).sum + (if s.endText.tx = [] then 0 else 1) := rfl
    omega
theorem Bst.popN_all (s : Bst) : ∀ n, (Bst.popN n s).all = s.all
  | 0 => rfl
  | n + 1 => by rw [Bst.popN_succ, Bst.pop_all, Bst.popN_all s n]
theorem Bst.closeLast_all (s : Bst) (name : List UInt8) : (s.closeLast name).all = s.all := by
  unfold Bst.closeLast
  split
  · rfl
  · exact Bst.popN_all _ _
theorem Bst.closeBefore_all (s : Bst) (name : List UInt8) : (s.closeBefore name).all = s.all := by
  have hp : (s.closePar name).all = s.all := by
    unfold Bst.closePar
    split
    · exact Bst.closeLast_all _ _
    · rfl
  unfold Bst.closeBefore
  split
  · rw [Bst.closeLast_all, hp]
  · exact hp
theorem Bst.step_all (s : Bst) (t : Tk) : (s.step t).all ≤ s.all + 1 := by
  unfold Bst.step
  split
  · have b1 : (Bst.closeBefore ⟨s.out, s.op, s.tx, s.cnt, []⟩ t.name).all = s.all := Bst.closeBefore_all _ _
    have e1 := Bst.endText_all (Bst.closeBefore ⟨s.out, s.op, s.tx, s.cnt, []⟩ t.name)
    have hc : cntN (.mk t.name t.attrs [] []) = 1 := by rw [cntN_eq]; show 1 + cntL [] = 1; rw [cntL_nil]
    unfold Bst.start Bst.start1
    split
    · split
      · show (Bst.closeBefore ⟨s.out, s.op, s.tx, s.cnt, []⟩ t.name).all ≤ _
        omega
      · show (Bst.closeBefore ⟨s.out, s.op, s.tx, s.cnt, []⟩ t.name).all ≤ _
        omega
    · unfold Bst.start2
      split
      · rw [Bst.add_all, hc]
        show (Bst.closeBefore ⟨s.out, s.op, s.tx, s.cnt, []⟩ t.name).endText.all + 1 ≤ _
        omega
      · have h1 : (Bst.closeBefore ⟨s.out, s.op, s.tx, s.cnt, []⟩ t.name).endText.all = cntL (Bst.closeBefore ⟨s.out, s.op, s.tx, s.cnt, []⟩ t.name).endText.out + ((Bst.closeBefore ⟨s.out, s.op, s.tx, s.cnt, []⟩ t.name).endText.op.map cntN).sum + (if (Bst.closeBefore ⟨s.out, s.op, s.tx, s.cnt, []⟩ t.name).endText.tx = [] then 0 else 1) := rfl
        show cntL (Bst.closeBefore ⟨s.out, s.op, s.tx, s.cnt, []⟩ t.name).endText.out + (cntN (.mk t.name t.attrs [] []) + ((Bst.closeBefore ⟨s.out, s.op, s.tx, s.cnt, []⟩ t.name).endText.op.map cntN).sum) + (if (Bst.closeBefore ⟨s.out, s.op, s.tx, s.cnt, []⟩ t.name).endText.tx = [] then 0 else 1) ≤ _
        omega
  split
  · unfold Bst.ends
    rw [Bst.closeLast_all]
    split
    · exact Nat.le_succ _
    · exact Nat.le_succ _
  split
  · unfold Bst.chars
    split
    · exact Nat.le_succ _
    · show cntL s.out + (s.op.map cntN).sum + (if s.tx ++ [t.text] = [] then 0 else 1) ≤ cntL s.out + (s.op.map cntN).sum + (if s.tx = [] then 0 else 1) + 1
      rw [if_neg (by simp)]
      split <;> omega
  · exact Nat.le_succ _
theorem Bst.run_all : ∀ (l : List Tk) (s : Bst), cntL (s.run l).1 ≤ s.all + l.length
  | [], s => by
    have h : (s.closeFrom 0).endText.all = s.all := (Bst.endText_all _).trans (Bst.popN_all _ _)
    show cntL (s.closeFrom 0).endText.out ≤ _
    unfold Bst.all at h ⊢
    simp only [List.length_nil]
    omega
  | t :: r, s => by
    rw [Bst.run]
    have hs : (s.stepE t).1.all ≤ s.all + 1 := by
      unfold Bst.stepE
      split
      · exact Bst.step_all _ _
      · exact Nat.le_succ _
    split
    · have := Bst.run_all r (s.stepE t).1
      simp only [List.length_cons]
      omega
    · show cntL [] ≤ _
      rw [cntL_nil]; exact Nat.zero_le _
theorem build_all (l : List Tk) : cntL (build l).1 ≤ l.length := by
  unfold build
  split
  · show cntL [] ≤ _
    rw [cntL_nil]; exact Nat.zero_le _
  · have := Bst.run_all l Bst.new
    have h0 : Bst.new.all = 0 := by show cntL [] + (([] : List Nd).map cntN).sum + _ = 0; rw [cntL_nil]; rfl
    omega

end U
end Go.Proofs.YtankcnikebcpkaaGreatDoor

/- Markup: raw numbers made into pieces of markup: how many signs of it open a tag. -/
namespace Go.Proofs.YtankcnikebcpkaaGreatDoor
open Go.RowKit

theorem pm_lt (j : Nat) : U.lts (pm j).data.toList ≤ 1 := by
  unfold pm
  split <;> decide

set_option maxHeartbeats 4000000 in
set_option maxRecDepth 1000000 in
theorem markup_lt (ao : Option Addr) (cap : Nat) (zs : List Int) (n : Nat) (w : World) (hr : Rd w w.heap.size ao zs) (hn : n ≤ 30) :
    Calls Tryz.prog 16 #[.slice ao zs.length cap, .int .i64 n] w fun e w' => ∃ T : ByteArray, e = .returned (.string T) ∧ T.size ≤ 20 * n ∧ U.lts T.data.toList ≤ n ∧ Below w.heap.size w w' := by
  have HR := Lib.hid hr
  clear hr
  go_enter Tryz.func16, Tryz.ntmps16
  go_wp2_with fail
  go_loopw [5, 6] (fun t i wr => ∃ (k : Nat) (T : ByteArray), k ≤ zs.length ∧ k ≤ n ∧ i = .int .i64 k ∧ t = .string T ∧ Below w.heap.size w wr ∧ T.size ≤ 20 * k ∧ U.lts T.data.toList ≤ k) (fun _ i _ => zs.length - (intOf i).toNat)
  case atStart => exact ⟨0, ⟨#[]⟩, Nat.zero_le _, Nat.zero_le _, rfl, rfl, Below.refl _ _, Nat.le_refl _, Nat.le_refl _⟩
  case round =>
    obtain ⟨k, T, hk, hkn, rfl, rfl, hbw, hT, hL⟩ := hrel
    have hbs := hbw.size
    by_cases hlt : k < zs.length
    · by_cases hlt2 : k < n
      · obtain ⟨ad, rfl, hb, hc⟩ := (HR.out.below hbw) k zs[k] (List.getElem?_eq_getElem hlt)
        generalize zs[k] = z at *
        have hc2 : ∀ o, (wr.alloc o).cell? (ad.add k) = some (.int .i64 z) := fun o => by
          rw [World.cell?_alloc_lt wr o (ad.add k) (by rw [add_block]; omega)]
          exact hc
        have hk0 : (0 : Int) ≤ (k : Int) := Int.natCast_nonneg _
        have hk1 : (k : Int) < (zs.length : Int) := by omega
        have hj0 := Int.emod_nonneg z (b := 25) (by omega)
        have hj1 := Int.emod_lt_of_pos z (b := 25) (by omega)
        obtain ⟨j, hj, ej⟩ : ∃ j : Nat, j < 25 ∧ z % 25 = (j : Int) := ⟨(z % 25).toNat, by omega, by omega⟩
        clear hj0 hj1
        have EJ := Lib.hid ej
        clear ej
        have hlc := pm_cell j hj
        have hlg := pm_get j
        have hsz := pm_size j
        have hlt3 := pm_lt j
        have hj0 : (0 : Int) ≤ (j : Int) := Int.natCast_nonneg _
        have hj1 : (j : Int) < 25 := by omega
        go_wp2_with ((go_at_call_of 12 (Value.int IntKind.i64 z); refine (picked_walk _ _ _ (by omega) (by omega)).mono ?_; rintro e w' ⟨rfl, rfl⟩; rw [EJ.out]))
        go_roundw
        case rel => exact ⟨k + 1, _, by omega, by omega, by go_num, rfl, by go_grown, by rw [ByteArray.size_append]; omega, by rw [ByteArray.data_append, Array.toList_append, U.lts_append]; omega⟩
        case measure => simp [intOf]; omega
      · go_wp2_with fail
        go_ret
        exact ⟨T, rfl, by omega, by omega, hbw⟩
    · go_wp2_with fail
      go_ret
      exact ⟨T, rfl, by omega, by omega, hbw⟩

end Go.Proofs.YtankcnikebcpkaaGreatDoor

/- apartTexts: no two texts side by side, none empty, none that holds something. -/
namespace Go.Proofs.YtankcnikebcpkaaGreatDoor
open Go.RowKit

theorem ap_get : ∀ (l : List U.Nd) (b : Bool) (k : Nat) (n : U.Nd), U.apL b l = true → l[k]? = some n → U.apN n = true ∧ ∀ m p, k = m + 1 → l[m]? = some p → p.name = [] → n.name ≠ []
  | [], _, _, _, _, h => by cases h
  | a :: r, b, 0, n, h, hx => by
    rw [U.apL, Bool.and_eq_true, Bool.and_eq_true] at h
    simp only [List.getElem?_cons_zero, Option.some.injEq] at hx
    subst hx
    exact ⟨h.1.2, fun m p e => by omega⟩
  | a :: r, b, 1, n, h, hx => by
    rw [U.apL, Bool.and_eq_true, Bool.and_eq_true] at h
    have hx' : r[0]? = some n := hx
    refine ⟨(ap_get r _ 0 n h.2 hx').1, fun m p e hp hpn => ?_⟩
    obtain rfl : m = 0 := by omega
    simp only [List.getElem?_cons_zero, Option.some.injEq] at hp
    subst hp
    cases r with
    | nil => cases hx'
    | cons c r =>
      simp only [List.getElem?_cons_zero, Option.some.injEq] at hx'
      subst hx'
      have h2 := h.2
      rw [U.apL, hpn] at h2
      intro e
      rw [e] at h2
      simp at h2
  | a :: r, b, k + 2, n, h, hx => by
    rw [U.apL, Bool.and_eq_true, Bool.and_eq_true] at h
    have hx' : r[k + 1]? = some n := hx
    obtain ⟨h1, h2⟩ := ap_get r _ (k + 1) n h.2 hx'
    refine ⟨h1, fun m p e hp => ?_⟩
    obtain rfl : m = k + 1 := by omega
    exact h2 k p rfl hp
theorem ap_text {n : U.Nd} (h : U.apN n = true) (hn : n.name = []) : (n.text == []) = false ∧ n.parts = [] ∧ n.attrs = [] := by
  have e := U.Nd.eta n
  rw [← e, U.apN, if_pos hn] at h
  simpa [List.length_eq_zero_iff, and_assoc] using h
theorem ap_elem {n : U.Nd} (h : U.apN n = true) (hn : n.name ≠ []) : n.text = [] ∧ U.apL false n.parts = true := by
  have e := U.Nd.eta n
  rw [← e, U.apN, if_neg hn] at h
  simpa using h

set_option maxHeartbeats 8000000 in
set_option maxRecDepth 1000000 in
theorem apart_walk (c : Nat) : ∀ (l : List U.Nd), U.cntL l ≤ c → U.apL false l = true → ∀ (v : Value) (w : World), RdNs w (· < w.heap.size) v l →
    Calls Tryz.prog 18 #[v] w fun e w' => e = .returned (.bool true) ∧ w = w' := by
  induction c using Nat.strongRecOn with
  | _ c ih =>
  intro l hlc hap v w hR
  have hR0 := hR
  obtain ⟨ao, cap, rfl, hcl, hcm, _⟩ := hR0
  have hlm : l.length ≤ 9223372036854775807 := Nat.le_trans (Nat.le_trans hcl hcm) (by decide)
  have HR := Lib.hid hR
  have IH := Lib.hid ih
  have HAP := Lib.hid hap
  clear ih hR hcl hcm hap
  go_enter Tryz.func18, Tryz.ntmps18
  go_wp2_with fail
  go_loopw [3] (fun i wr => ∃ k : Nat, k ≤ l.length ∧ i = .int .i64 k ∧ w = wr) (fun i _ => l.length - (intOf i).toNat)
  case atStart => exact ⟨0, Nat.zero_le _, rfl, rfl⟩
  case round =>
    obtain ⟨k, hk, rfl, rfl⟩ := hrel
    by_cases hlt : k < l.length
    · have hx := List.getElem?_eq_getElem hlt
      generalize l[k]'hlt = n at hx
      obtain ⟨ha, hprev⟩ := ap_get l false k n HAP.out hx
      obtain ⟨g, o, cap2, e0, hg, hn⟩ := HR.out.get hx
      injection e0 with e1 e2 e3
      subst e1
      obtain ⟨av, pv, c0, c1, c2, c3, hA, hP⟩ := (rdNd_iff n g _).1 hn
      have hk1 : (k : Int) < (l.length : Int) := by omega
      by_cases h1 : n.name = []
      · obtain ⟨t1, t2, t3⟩ := ap_text ha h1
        obtain ⟨pa, pcap, rfl⟩ : ∃ pa pcap, pv = .slice pa 0 pcap := by
          obtain ⟨a, b, e, _⟩ := hP
          rw [t2] at e
          exact ⟨a, b, e⟩
        obtain ⟨aa, acap, rfl⟩ : ∃ aa acap, av = .slice aa 0 acap := by
          obtain ⟨a, b, e, _⟩ := hA
          rw [t3] at e
          exact ⟨a, b, e⟩
        rw [h1] at c0
        cases k with
        | zero =>
          simp only [Nat.zero_mul, Nat.add_zero] at c0 c1 c2 c3
          clear ha hprev hx hn hA hP t2 t3 h1 e2 e3
          go_wp2_with fail
          go_roundw
          case rel => exact ⟨1, by omega, by go_num, trivial⟩
          case measure => simp [intOf]; omega
        | succ m =>
          have hm : m < l.length := by omega
          have hy := List.getElem?_eq_getElem hm
          generalize l[m]'hm = p at hy
          have hpn : p.name ≠ [] := fun e => hprev m p rfl hy e h1
          have hpb : (p.name == []) = false := by simpa using hpn
          obtain ⟨g2, o2, cap3, f0, hg2, hn2⟩ := HR.out.get hy
          injection f0 with f1 f2 f3
          injection f1 with f1
          injection f1 with f1 f4
          subst f1
          subst f4
          obtain ⟨av2, pv2, d0, _⟩ := (rdNd_iff p g _).1 hn2
          have hm0 : (0 : Int) ≤ (m : Int) := by omega
          have hm1 : (m : Int) < (l.length : Int) := by omega
          have hmk : ((m + 1 : Nat) : Int) - 1 = (m : Int) := by omega
          clear ha hprev hx hn hA hP t2 t3 h1 e2 e3 hy hn2 hpn
          go_wp2_with fail
          go_roundw
          case rel => exact ⟨m + 2, by omega, by go_num, trivial⟩
          case measure => simp [intOf]; omega
      · obtain ⟨t1, t2⟩ := ap_elem ha h1
        obtain ⟨pa, pcap, rfl⟩ : ∃ pa pcap, pv = .slice pa n.parts.length pcap := by obtain ⟨a, b, e, _⟩ := hP; exact ⟨a, b, e⟩
        have hge := U.cntL_get hx
        have hne := U.cntN_eq n
        have HC := Lib.hid (IH.out (U.cntL n.parts) (by omega) n.parts (Nat.le_refl _) t2 _ w hP)
        have hb : (n.name == []) = false := by simpa using h1
        have hk0 : (0 : Int) ≤ (k : Int) := by omega
        rw [t1] at c2
        clear ha hprev hx hn hA hP t1 t2 h1 e2 e3 hge hne
        go_wp2_with fail
        refine HC.out.mono ?_
        rintro e w1 ⟨rfl, rfl⟩
        go_wp2_with fail
        go_roundw
        case rel => exact ⟨k + 1, by omega, by go_num, trivial⟩
        case measure => simp [intOf]; omega
    · obtain rfl : k = l.length := by omega
      have hz : ¬ (l.length : Int) < (l.length : Int) := by omega
      go_wp2_with fail
      go_ret
      exact ⟨rfl, rfl⟩

end Go.Proofs.YtankcnikebcpkaaGreatDoor

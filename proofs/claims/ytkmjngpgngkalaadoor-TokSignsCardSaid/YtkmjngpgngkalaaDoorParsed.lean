/- tok.Parse. -/
import Derived.Test.YtkmjngpgngkalaaDoorEnds
import Derived.Test.YtkmjngpgngkalaaDoorComment
import Derived.Outline
namespace Go.Proofs.YtkmjngpgngkalaaDoor
open Go.RowKit

/-- tokens in a row of the call's own, with their attributes -/
def Toks (w w' : World) (v : Value) (l : List (U.Tok × Value)) : Prop :=
  w'.ownsRow w.heap.size 27 5 v l.length (tokCells l) ∧ (∀ x ∈ l, w'.ownsRow w.heap.size 42 2 x.2 x.1.attrs.length (attCells x.1.attrs)) ∧ Below w.heap.size w w' ∧ ∀ x ∈ l, x.1.attrs.length ≤ 1048576

set_option maxHeartbeats 4000000 in
set_option maxRecDepth 1000000 in
theorem parse_walk (s : ByteArray) (w : World) (hG : Glob w) :
    Calls Tryd.prog 13 #[.string s] w fun e w' => ∃ v l, Toks w w' v l ∧
      (s.size ≤ 600 → e = .returned (.tuple #[v, .int .i64 0]) ∧ l.map (·.1) = U.toks s.data.toList) ∧ (600 < s.size → ∃ c, e = .returned (.tuple #[.slice none 0 0, .int .i64 c]) ∧ l = []) := by
  obtain ⟨m, hm⟩ := hG.max
  obtain ⟨te, pe, he⟩ := hG.err
  have hF : Far w.heap.size := ⟨Nat.ne_of_lt (World.block_lt_of_cell? w _ hm), Nat.ne_of_lt (World.block_lt_of_cell? w _ he)⟩
  clear hm he
  go_enter Tryd.func13, Tryd.ntmps13
  by_cases hz : s.size ≤ 600
  · have hP0 : ParW w (w.alloc (parBlock s (.slice none 0 0))) w.heap.size s (.slice none 0 0) [] := ⟨heap_alloc_new w _, World.ownsRow_nil _ _ _ _, (fun x hx => by cases hx), (Below.refl _ w).alloc (Nat.le_refl _) _, Nat.le_refl _, (fun x hx => by cases hx)⟩
    go_wp2_with fail
    go_loopw [15] (fun _ wr => ∃ (r : ByteArray) (v : Value) (l : List (U.Tok × Value)), ParW w wr w.heap.size r v l ∧ Hid (l.map (·.1) ++ U.toksT [] r.data.toList = U.toks s.data.toList) ∧ l.length + 2 * r.size ≤ 2 * s.size) (fun _ wr => strSize ((wr.cell? ⟨w.heap.size, 0, none⟩).getD undef))
    case atStart => exact ⟨s, _, [], hP0, Lib.hid rfl, by simp⟩
    case round =>
      obtain ⟨r, v, l, hP, htoks, hlen⟩ := hrel
      have hGr := hG.below hP.below
      obtain ⟨c0, c1, f0, f1⟩ := par_cells hP.par
      rcases Nat.eq_zero_or_pos r.size with h0 | h0
      · have hem := empty_of h0
        have hfin : l.map (·.1) = U.toks s.data.toList := by
          have := htoks.out
          rw [show r.data.toList = [] from List.eq_nil_of_length_eq_zero (by rw [len_list]; exact h0)] at this
          rw [← this]
          simp [U.toksT_nil, U.chars]
        have HFI := Lib.hid hfin
        obtain ⟨ao, cap, rfl⟩ := own_form hP.row
        clear hfin htoks h0
        go_wp2_with fail
        go_ret2
        exact ⟨_, l, ⟨own_base hP.row (Nat.le_succ _), hP.atts, hP.below, hP.lens⟩, fun _ => ⟨rfl, HFI.out⟩, fun h => absurd h (by omega)⟩
      · have hem := empty_not h0
        have hka := fun w3 => kind_at r w3
        have hlb : l.length ≤ 1048575 := by omega
        rcases U.kindOf_cases r.data.toList with hk | hk | hk | hk
        all_goals
          have HK := Lib.hid hk
          rw [hk] at hka
          have HX := Lib.hid hka
          clear hka hk
          go_wp2_with (first
            | (go_at_call 14; refine (HX.out _).mono ?_; rintro e w3 ⟨rfl, rfl⟩)
            | (go_at_call 15; refine (read_start w _ _ r v l hP hG hGr hF (by omega) hlb HK.out).mono ?_; rintro e w4 ⟨rfl, hA⟩)
            | (go_at_call 16; refine (read_end w _ _ r v l hP hGr hF (by omega) (by omega) HK.out).mono ?_; rintro e w4 ⟨rfl, hA⟩)
            | (go_at_call 17; refine (read_comment w _ _ r v l hP hGr (by omega) (by omega) HK.out).mono ?_; rintro e w4 ⟨rfl, hA⟩)
            | (go_at_call 18; refine (read_chars w _ _ r v l hP hGr hF (by omega) h0 (by omega) HK.out).mono ?_; rintro e w4 ⟨rfl, hA⟩))
          obtain ⟨r', v', l', hP', ht, hs1, hl'⟩ := hA
          have c1 := (par_cells hP'.par).1
          refine ⟨⟨r', v', l', hP', Lib.hid (ht.trans htoks.out), by omega⟩, ?_⟩
          rw [c1, c0]
          exact hs1
  · go_wp2_with fail
    go_ret2
    exact ⟨.slice none 0 0, [], ⟨World.ownsRow_nil _ _ _ _, (fun x hx => by cases hx), Below.refl _ w, (fun x hx => by cases hx)⟩, fun h => absurd h hz, fun _ => ⟨_, rfl, rfl⟩⟩

end Go.Proofs.YtkmjngpgngkalaaDoor

/- The reference: UtfRunes. -/
import Derived.Test.YtmfbabbjcjdhbaaFirst
import Derived.Test.YtmfbabbjcjdhbaaRows2
import Derived.Outline
namespace Go.Proofs.Ytmfbabbjcjdhbaa
open Go.RowKit

def strLen : Value → Nat
  | .string s => s.size
  | _ => 0

theorem toList_length (s : ByteArray) : s.data.toList.length = s.size := by rw [Array.length_toList]; rfl
theorem toList_ne {s : ByteArray} (h : 0 < s.size) : s.data.toList ≠ [] := by
  intro e
  have h1 : s.data.toList.length = 0 := by rw [e]; rfl
  rw [toList_length] at h1
  omega

set_option maxHeartbeats 1000000 in
set_option maxRecDepth 100000 in
theorem ref_runes (s : ByteArray) (w : World) (hs : s.size ≤ 16777216) :
    Calls Try.prog 14 #[.string s] w fun e w' => ∃ v, e = .returned v ∧ w'.ownsRow w.heap.size 3 1 v (U.runes s.data.toList).length (ints (U.runes s.data.toList)) ∧ Below w.heap.size w w' := by
  obtain ⟨i0, hi, hz0, hz1, hz2⟩ := info_parts info3
  go_enter Try.func14, Try.ntmps14
  go_wp2_with fail
  go_loopw [0, 3] (fun t v wr => ∃ (r : ByteArray) (acc : List Nat), t = .string r ∧ wr.ownsRow w.heap.size 3 1 v acc.length (ints acc) ∧ Below w.heap.size w wr ∧ Hid (acc ++ U.runes r.data.toList = U.runes s.data.toList) ∧ acc.length + r.size ≤ s.size) (fun t _ _ => strLen t)
  case atStart => exact ⟨s, [], rfl, World.ownsRow_nil _ _ _ _, Below.refl _ _, rfl, by simp⟩
  case round =>
    obtain ⟨r, acc, rfl, hown, hbw, hacc, hal⟩ := hrel
    have hbs := hbw.size
    by_cases hp : 0 < r.size
    · have hne := toList_ne hp
      have hw := U.dec_width _ hne
      have hrc := U.runes_cons hne
      rw [toList_length] at hw
      have hex : (r.extract (U.dec r.data.toList).2 r.size).data.toList = r.data.toList.drop (U.dec r.data.toList).2 := by
        rw [Lib.extract_data]
        exact List.take_of_length_le (by simp)
      have r1 := first_walk r
      rw [← hex] at hrc
      have hsz : (r.extract (U.dec r.data.toList).2 r.size).size = r.size - (U.dec r.data.toList).2 := by
        rw [ByteArray.size_extract]; omega
      have Hrc := Lib.hid hrc
      have Hex := Lib.hid hex
      have Hsz := Lib.hid hsz
      clear hrc hex hsz hne
      generalize U.dec r.data.toList = d at *
      obtain ⟨c, wd⟩ := d
      go_wp2_with fail
      refine (r1 _ hp (by omega)).mono ?_
      rintro e w1 ⟨rfl, b1⟩
      have hown1 := own_below hown b1
      have hbw1 : Below w.heap.size w w1 := hbw.trans (b1.mono hbs)
      have hbs1 := hbw1.size
      go_wp2_with (at_builtin; refine wpList_append_own _ rfl _ _ 23 rfl w.heap.size 3 i0 (.int .i64 0) 1 8 Try.underlying23 hi hz0 hz1 hz2 rfl (by decide) _ _ _ rfl (hown1.alloc _) ⟨w1.heap.size, 0, none⟩ 1 1 [.int .i64 c] rfl rfl ?c1 ?c2 ?c3 ?c4 ?c5 ?_)
      case c1 =>
        intro j u hj
        match j, hj with
        | 0, hj => simp at hj; subst hj; simp [Addr.add]
        | (j + 1), hj => simp at hj
      case c2 => first | rfl | (intro u hu; simp at hu; subst hu; rfl)
      case c3 => unfold maxLen; omega
      case c4 => omega
      case c5 => first | omega | (simp; omega)
      intro v' w2 hown' hgrow _
      have hbw2 : Below w.heap.size w w2 := (hbw1.alloc hbs1 _).grown hgrow (by simp; omega) (fun k hk => (hown1.lt k hk).1)
      go_wp2_with fail
      go_roundw
      case rel =>
        refine ⟨_, acc ++ [c], rfl, by simpa [ints_append, ints_one] using hown', hbw2, ?_, ?_⟩
        · show _ = _
          rw [← hacc.out, Hrc.out]
          simp
        · rw [Hsz.out, List.length_append, List.length_cons, List.length_nil]
          have := hw.1
          have := hw.2.2
          omega
      case measure =>
        simp only [strLen]
        rw [Hsz.out]
        have := hw.1
        omega
    · have h0 : r.size = 0 := by omega
      have he : r.data.toList = [] := List.length_eq_zero_iff.1 (by rw [toList_length]; exact h0)
      have hfin : acc = U.runes s.data.toList := by
        have h1 := hacc.out
        rwa [he, U.runes_nil, List.append_nil] at h1
      subst hfin
      clear h0 he
      go_wp2_with fail
      go_ret
      exact ⟨_, rfl, hown, hbw⟩

end Go.Proofs.Ytmfbabbjcjdhbaa

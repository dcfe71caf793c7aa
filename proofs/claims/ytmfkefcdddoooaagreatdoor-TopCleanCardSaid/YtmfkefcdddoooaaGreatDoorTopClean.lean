/- TopClean: the mathematics, the walk. -/
import Derived.Test.YtmfkefcdddoooaaGreatDoorZTop
namespace Go.Proofs.YtmfkefcdddoooaaGreatDoor
open Go.RowKit

namespace U
theorem enc_some (n : Nat) : enc n ≠ [] := by
  unfold enc
  repeat' split
  all_goals simp
theorem clean1_some (n : Nat) : clean1 n false ≠ [] := by
  unfold clean1
  split
  · exact enc_some _
  · split
    · show (if false = true then ([] : List UInt8) else enc 10) ≠ []
      rw [if_neg (by decide)]
      exact enc_some 10
    · exact enc_some _
theorem clean_some : ∀ (l : List UInt8), l ≠ [] → clean l ≠ [] := by
  refine rec_runes (fun h => absurd rfl h) ?_
  intro l hl ih _ hc
  rw [clean_cons hl] at hc
  obtain ⟨h1, h2⟩ := List.append_eq_nil_iff.1 hc
  by_cases hr : l.drop (dec l).2 = []
  · rw [hr, runes_nil] at h1
    exact clean1_some _ h1
  · exact ih hr h2
theorem esc_five : ∀ (l : List UInt8), (esc false l).length ≤ 5 * l.length
  | [] => Nat.le_refl _
  | b :: l => by
    rw [esc_cons, List.length_append, List.length_cons]
    have h1 : (esc1 false b).length ≤ 5 := by
      unfold esc1
      split
      · decide
      split
      · decide
      split
      · decide
      split
      · rename_i h; simp at h
      · show 1 ≤ 5
        decide
    have h2 := esc_five l
    omega
theorem clean_five : ∀ (l : List UInt8), (esc false (clean l)).length ≤ 5 * l.length := by
  refine rec_runes (Nat.le_refl _) ?_
  intro l hl ih
  have hw := dec_width l hl
  rw [clean_cons hl, esc_append, List.length_append]
  rw [List.length_drop] at ih
  have h1 : (esc false (clean1 (dec l).1 ((runes (l.drop (dec l).2)).head? == some 10))).length ≤ 5 * (dec l).2 := by
    generalize ((runes (l.drop (dec l).2)).head? == some 10) = f
    unfold clean1
    split
    · have : (esc false (enc 65533)).length = 3 := by decide
      omega
    split
    · cases f
      · have : (esc false (enc 10)).length = 1 := by decide
        show (esc false (enc 10)).length ≤ _
        omega
      · show 0 ≤ _
        exact Nat.zero_le _
    · rcases dec_spec l hl with e | ⟨n, r, hn, e, e2⟩
      · rw [e]
        decide
      · rw [e2]
        exact esc_five _
  omega
/-- one text -/
theorem one_fault {c : List UInt8} (hc : c ≠ []) : showFault [.mk [] [] c []] = 0 := by
  have h : lFault false 0 [.mk [] [] c []] = 0 := by
    rw [lFault_cons, ndFault_eq]
    have h1 : nodeFault false 0 (.mk [] [] c []) = 0 := by
      unfold nodeFault
      rw [if_neg (by decide), if_pos (show (Nd.mk [] [] c []).name = [] from rfl), if_neg]
      rintro (h | h | h | h)
      · exact h rfl
      · exact h rfl
      · exact hc h
      · cases h
    rw [h1, if_pos rfl]
    show (if lFault false (0 + 1) [] = 0 then _ else _) = 0
    rw [lFault_nil, if_pos rfl, lFault_nil]
  unfold showFault
  rw [if_pos h, cntL_cons, cntN_eq, cntL_nil]
  show (if 150 < 1 + cntL [] + 0 then 1 else 0) = 0
  rw [cntL_nil]
  rfl
theorem one_toks (c : List UInt8) : lToks [.mk [] [] c []] = [⟨3, [], [], false, c⟩] := by
  rw [lToks_cons, lToks_nil, ndToks_eq]
  rfl
theorem one_emit (c : List UInt8) : emit [⟨3, [], [], false, c⟩] = esc false c := by simp [emit, tokE]
theorem one_back {c : List UInt8} (hc : c ≠ []) : toks (esc false c) = [⟨3, [], [], false, c⟩] := by
  rw [← one_emit]
  exact toks_emits ⟨.inl ⟨rfl, hc, rfl, rfl, rfl, rfl⟩, trivial⟩
theorem one_build {c : List UInt8} (hc : c ≠ []) : build [Tok.tk ⟨3, [], [], false, c⟩] = ([.mk [] [] c []], 0) := by
  have h := build_toks (one_fault hc) (show freeL [.mk [] [] c []] from by rw [freeL]; exact ⟨by rw [freeN]; exact ⟨by decide, by decide, by rw [freeL]; trivial⟩, by rw [freeL]; trivial⟩)
  rw [one_toks] at h
  exact h
theorem one_text {c : List UInt8} (hc : c ≠ []) (hl : (esc false c).length ≤ 600) : showText [.mk [] [] c []] = (esc false c, 0) := by
  unfold showText
  rw [if_pos (one_fault hc), one_toks, one_emit, if_neg (by omega)]
end U

theorem RdTk.rdK {w : World} {T : Nat} {v : Value} {ts : List U.Tok} (h : RdTk w T v ts) : RdK w T v (ts.map U.Tok.tk) := by
  obtain ⟨ao, cap, rfl, _, hc⟩ := h
  refine ⟨ao, cap, by rw [List.length_map], fun i t ht => ?_⟩
  rw [List.getElem?_map] at ht
  cases hx : ts[i]? with
  | none => rw [hx] at ht; cases ht
  | some x =>
    rw [hx] at ht
    obtain rfl : x.tk = t := by simpa using ht
    obtain ⟨g, o, av, e, hb, c0, c1, c2, c3, c4, hA⟩ := hc i x hx
    exact ⟨g, o, av, e, hb, c0, c1, c2, c3, c4, hA.lt fun b hb => hb⟩

set_option maxHeartbeats 8000000 in
set_option maxRecDepth 1000000 in
theorem topclean_walk (s : ByteArray) (w : World) (hG : Glob w) :
    Calls Tryz.prog 8 #[.string s] w fun e w' => e = .returned (.bool true) ∧ Below w.heap.size w w' := by
  have hsl := len_list s
  have hz : (s.extract 0 (min (s.size : Int) 60).toNat).size ≤ 60 := by rw [ByteArray.size_extract]; omega
  have hcl := fun W => clean_walk (s.extract 0 (min (s.size : Int) 60).toNat) W (by omega)
  have hco := fun W => clean_walk ⟨#[97, 13]⟩ W (by decide)
  have hemp : (s.extract 0 (min (s.size : Int) 60).toNat).data.toList = [] → s.size = 0 := fun h => by
    have h1 : (s.extract 0 (min (s.size : Int) 60).toNat).size = 0 := by rw [← len_list, h]; rfl
    rw [ByteArray.size_extract] at h1
    omega
  have h5 := U.clean_five (s.extract 0 (min (s.size : Int) 60).toNat).data.toList
  have h6 := U.clean_some (s.extract 0 (min (s.size : Int) 60).toNat).data.toList
  rw [len_list] at h5
  generalize hc : U.clean (s.extract 0 (min (s.size : Int) 60).toNat).data.toList = c at hcl h5 h6
  have h7 : (U.esc false c).length ≤ 300 := by omega
  have h8 := (U.esc_length false c).1
  have hnn : (0 : Int) ≤ min (s.size : Int) 60 := by omega
  have hmm : min (s.size : Int) 60 ≤ (s.size : Int) := by omega
  by_cases hc0 : c = []
  · have he : s.size = 0 := hemp (by
      refine Classical.byContradiction fun h => ?_
      exact h6 h hc0)
    have hs0 : s = ⟨#[]⟩ := by
      apply ByteArray.ext
      apply Array.ext'
      have : s.data.toList = [] := List.eq_nil_of_length_eq_zero (by omega)
      rw [this]
    have hcl0 : U.clean [97, 13] = [97, 10] := by decide
    rw [show (ByteArray.mk #[97, 13]).data.toList = [97, 13] from rfl, hcl0] at hco
    have HCO := Lib.hid hco
    have HCL := Lib.hid hcl
    subst hs0
    rw [hc0] at HCL
    clear hcl hco hemp h5 h6 h7 h8 hc he hsl hz hc0
    go_enter Tryz.func8, Tryz.ntmps8
    go_wp2_with fail
    refine (HCL.out _).mono ?_
    rintro e w2 ⟨rfl, hb2⟩
    clear HCL
    go_wp2_with fail
    refine (HCO.out _).mono ?_
    rintro e w3 ⟨rfl, hb3⟩
    clear HCO
    go_wp2_with fail
    go_ret
    exact ⟨by simp, hb2.trans (hb3.mono hb2.size)⟩
  · have HCL := Lib.hid hcl
    have hescz : (ByteArray.mk c.toArray).size = c.length := size_of_mk _
    have hesc := fun W => escape_walk ⟨c.toArray⟩ false W (by omega)
    rw [list_of_mk] at hesc
    have HES := Lib.hid hesc
    have hE : (ByteArray.mk (U.esc false c).toArray).size = (U.esc false c).length := size_of_mk _
    have hpt := fun W (hB : Below w.heap.size w W) => parse_tk ⟨(U.esc false c).toArray⟩ W (by omega) (hG.below hB)
    rw [list_of_mk, U.one_back hc0] at hpt
    have HPT := Lib.hid hpt
    have hbd := fun W v (h : RdTk W W.heap.size v [⟨3, [], [], false, c⟩]) => tree_build W v _ h.rdK (by show 1 ≤ 9223372036854775807; decide) (fun t ht => by
      obtain rfl := List.mem_singleton.1 ht
      exact ⟨by show c.length ≤ 1048576; omega, by show 0 ≤ 1048576; omega⟩)
    rw [show ([⟨3, [], [], false, c⟩] : List U.Tok).map U.Tok.tk = [U.Tok.tk ⟨3, [], [], false, c⟩] from rfl, U.one_build hc0] at hbd
    have HBD := Lib.hid hbd
    have htx := fun W v (h : RdNs W (· < W.heap.size) v [.mk [] [] c []]) => show_text v _ W h (by rw [U.cntL_cons, U.cntN_eq, U.cntL_nil]; show 1 + U.cntL [] + 0 ≤ _; rw [U.cntL_nil]; decide)
    rw [U.one_text hc0 (by omega)] at htx
    have HTX := Lib.hid htx
    have hcb : (c == []) = false := beq_eq_false_iff_ne.2 hc0
    clear hcl hco hemp h5 h6 h7 h8 hc hsl hz hc0 hesc hpt hbd htx
    go_enter Tryz.func8, Tryz.ntmps8
    go_wp2_with fail
    refine (HCL.out _).mono ?_
    rintro e w2 ⟨rfl, hb2⟩
    clear HCL
    go_wp2_with fail
    refine (HES.out _).mono ?_
    rintro e w3 ⟨rfl, hb3⟩
    have t3 := hb2.trans (hb3.mono hb2.size)
    clear HES hb2 hb3
    go_wp2_with fail
    refine (HPT.out _ t3).mono ?_
    rintro e w4 ⟨v, rfl, hv, hb4⟩
    obtain ⟨va, vc, rfl, -⟩ := id hv
    have t4 := t3.trans (hb4.mono t3.size)
    have HB := Lib.hid (HBD.out _ _ hv)
    clear HPT HBD hv hb4 t3
    go_wp2_with fail
    refine HB.out.mono ?_
    rintro e w5 ⟨nv, rfl, hb5, hn⟩
    obtain ⟨na, nc, rfl, -⟩ := id hn
    have t5 := t4.trans (hb5.mono t4.size)
    have HT := Lib.hid (HTX.out _ _ hn)
    obtain ⟨g, o, cap, e0, hg, hnd⟩ := hn.get (i := 0) (n := .mk [] [] c []) rfl
    injection e0 with e1 _ e3
    subst e1
    subst e3
    obtain ⟨av, pv, c0, c1, c2, c3, hA, hP⟩ := (rdNd_iff _ g _).1 hnd
    obtain ⟨aa, ac, rfl, -⟩ := id hA
    obtain ⟨pa, pc, rfl, -⟩ := id hP
    have c2' : w5.cell? ⟨g, o + 2, none⟩ = some (.string ⟨c.toArray⟩) := by
      rw [Nat.zero_mul, Nat.add_zero] at c2
      exact c2
    have HC2 := Lib.hid (And.intro hg c2')
    clear HTX HB hn hnd hA hP c0 c1 c2 c3 c2' hb5 t4 hg
    go_wp2_with fail
    refine HT.out.mono ?_
    rintro e w6 ⟨rfl, hb6⟩
    have t6 := t5.trans (hb6.mono t5.size)
    have d2 := (hb6.cell (p := ⟨g, o + 2, none⟩) HC2.out.1).trans HC2.out.2
    clear HT hb6 t5 HC2
    go_wp2_with fail
    go_ret
    exact ⟨by simp, t6⟩

end Go.Proofs.YtmfkefcdddoooaaGreatDoor

/- Several texts in one: Atts, IndexAny, IndexAny2, Parser. -/
import Derived.Test.YtmfkefcdddoooaaGreatDoorProg
import Derived.WalkKit
import Derived.BigCall
import Derived.Below
import Derived.Laws.OwnMore
import Derived.Lib.Builder
import Derived.Outline
import Derived.Test.YtmfkefcdddoooaaGreatDoorShelf
import Derived.Lib.OthersKept
import Derived.Shelf.Strings.SlTrimAscii
import Derived.WalkMore
import Derived.Deep.QuietTactic
import Derived.Deep.RegionWith
import Derived.OwnWalk
import Derived.Lib.FrozenHead2
import Derived.Test.YtmfkefcdddoooaaGreatDoorP00
import Derived.Test.YtmfkefcdddoooaaGreatDoorP06
namespace Go.Proofs.YtmfkefcdddoooaaGreatDoor
open Go.RowKit

/-- bytes as a string value -/
def str (l : List UInt8) : Value := .string ⟨l.toArray⟩
/-- attributes as cells -/
def attCells (l : List U.Att) : List Value := l.flatMap fun a => [str a.1, str a.2]
theorem attCells_length (l : List U.Att) : (attCells l).length = l.length * 2 := by
  induction l with
  | nil => rfl
  | cons a l ih =>
    have : attCells (a :: l) = str a.1 :: str a.2 :: attCells l := rfl
    rw [this, List.length_cons, List.length_cons, List.length_cons, ih]
    omega
theorem attCells_append (a b : List U.Att) : attCells (a ++ b) = attCells a ++ attCells b := by simp [attCells]
theorem infoAttr : (Tryz.prog.info? 54).map (fun i => (i.zero, i.size, i.bytes)) = some (some (.agg #[.string .empty, .string .empty]), 2, 32) := by kernel_rfl
theorem infoTok : (Tryz.prog.info? 33).map (fun i => (i.zero, i.size, i.bytes)) = some (some (.agg #[.int .i64 0, .string .empty, .slice none 0 0, .bool false, .string .empty]), 5, 72) := by kernel_rfl

/-- a token's five cells -/
def tokBlock (n : List UInt8) : Obj := .cells #[.int .i64 0, str n, .slice none 0 0, .bool false, .string ⟨#[]⟩] 33 (0, 0)
theorem own_keep {w w' : World} {base : Nat} {e : TypeId} {size n : Nat} {v : Value} {xs : List Value} (h : w.ownsRow base e size v n xs) (hb : Below w.heap.size w w') : w'.ownsRow base e size v n xs :=
  h.kept (row := none) ⟨hb.os, hb.tape, hb.output, hb.size, fun i hi _ => hb.block i hi⟩ (by
    rcases v.ownBlock with _ | b
    · exact .inl rfl
    · right; simp)
theorem str_push (a b : List UInt8) : ByteArray.mk a.toArray ++ ByteArray.mk b.toArray = ByteArray.mk (a ++ b).toArray := by
  apply ByteArray.ext
  simp
theorem str_size (a : List UInt8) : (ByteArray.mk a.toArray).size = a.length := size_of_mk a
theorem cell_alloc_old (w : World) (o : Obj) (p : Addr) (h : p.block < w.heap.size) : (w.alloc o).cell? p = w.cell? p := ((Below.refl w.heap.size w).alloc (Nat.le_refl _) o).cell h
theorem firsts_le : ∀ (l acc : List U.Att), (U.firsts acc l).length ≤ acc.length + l.length
  | [], acc => by simp [U.firsts]
  | a :: l, acc => by
    rw [U.firsts]
    have := firsts_le l (if acc.all (fun c => c.1 != a.1) = true then acc ++ [a] else acc)
    rw [List.length_cons]
    split at this
    · rw [if_pos (by assumption)]; rw [List.length_append, List.length_cons, List.length_nil] at this; omega
    · rw [if_neg (by assumption)]; omega
theorem firsts_append : ∀ (l m acc : List U.Att), U.firsts acc (l ++ m) = U.firsts (U.firsts acc l) m
  | [], m, acc => rfl
  | a :: l, m, acc => by rw [List.cons_append, U.firsts, U.firsts, firsts_append l m]
theorem firsts_one (acc : List U.Att) (a : U.Att) : U.firsts acc [a] = if acc.all (fun c => c.1 != a.1) = true then acc ++ [a] else acc := by simp [U.firsts]
theorem firsts_take {l : List U.Att} {i : Nat} {x : U.Att} (h : l[i]? = some x) : U.firsts [] (l.take (i + 1)) = if (U.firsts [] (l.take i)).all (fun c => c.1 != x.1) = true then U.firsts [] (l.take i) ++ [x] else U.firsts [] (l.take i) := by
  obtain ⟨hk, e⟩ := List.getElem?_eq_some_iff.1 h
  rw [List.take_succ_eq_append_getElem hk, e, firsts_append, firsts_one]
theorem all_take {l : List U.Att} {j : Nat} {x : U.Att} (p : U.Att → Bool) (h : l[j]? = some x) : (l.take (j + 1)).all p = ((l.take j).all p && p x) := by
  obtain ⟨hk, e⟩ := List.getElem?_eq_some_iff.1 h
  rw [List.take_succ_eq_append_getElem hk, e, List.all_append]
  simp
/-- the cells of an attribute in a row -/
theorem row_att {w : World} {B n : Nat} {v : Value} {l : List U.Att} (h : w.ownsRow B 54 2 v n (attCells l)) {i : Nat} {x : U.Att} (hx : l[i]? = some x) :
    ∃ g cap, v = .slice (some ⟨g, 0, none⟩) n cap ∧ w.cell? ⟨g, i * 2, none⟩ = some (.string ⟨x.1.toArray⟩) ∧ w.cell? ⟨g, i * 2 + 1, none⟩ = some (.string ⟨x.2.toArray⟩) := by
  have hg : ∀ (l : List U.Att) (i : Nat), l[i]? = some x → (attCells l)[i * 2]? = some (str x.1) ∧ (attCells l)[i * 2 + 1]? = some (str x.2) := by
    intro l
    induction l with
    | nil => intro i hi; simp at hi
    | cons a l ih =>
      intro i hi
      have e : attCells (a :: l) = str a.1 :: str a.2 :: attCells l := rfl
      cases i with
      | zero => simp at hi; subst hi; rw [e]; exact ⟨rfl, rfl⟩
      | succ i =>
        have := ih i (by simpa using hi)
        rw [e]
        rw [show (i + 1) * 2 = i * 2 + 1 + 1 by omega]
        simpa using this
  obtain ⟨h0, h1⟩ := hg l i hx
  rcases h.2 with ⟨rfl, hn⟩ | ⟨g, cap, cur, rfl, _⟩
  · have h2 := h.1
    rw [hn] at h2
    have : (attCells l) = [] := List.length_eq_zero_iff.1 (by omega)
    rw [this] at h0
    simp at h0
  · have c0 := h.cells (g := g) rfl _ _ h0
    have c1 := h.cells (g := g) rfl _ _ h1
    have ea : ∀ j, (⟨g, 0, none⟩ : Addr).add j = ⟨g, j, none⟩ := fun j => by unfold Addr.add; split <;> simp_all
    rw [ea] at c0 c1
    exact ⟨g, cap, rfl, c0, c1⟩

theorem own_base {w : World} {B B' : Nat} {e : TypeId} {size n : Nat} {v : Value} {xs : List Value} (h : w.ownsRow B e size v n xs) (hB : B' ≤ B) : w.ownsRow B' e size v n xs := by
  refine ⟨h.1, ?_⟩
  rcases h.2 with h0 | ⟨g, cap, cur, hv, hb, r⟩
  · exact .inl h0
  · exact .inr ⟨g, cap, cur, hv, Nat.le_trans hB hb, r⟩
/-- tokens as cells, each with the value of its attributes' slice -/
def tokCells (l : List (U.Tok × Value)) : List Value := l.flatMap fun x => [.int .i64 (x.1.kind : Nat), .string ⟨x.1.name.toArray⟩, x.2, .bool x.1.self, .string ⟨x.1.text.toArray⟩]
theorem tokCells_length (l : List (U.Tok × Value)) : (tokCells l).length = l.length * 5 := by
  induction l with
  | nil => rfl
  | cons a l ih =>
    have : tokCells (a :: l) = .int .i64 (a.1.kind : Nat) :: .string ⟨a.1.name.toArray⟩ :: a.2 :: .bool a.1.self :: .string ⟨a.1.text.toArray⟩ :: tokCells l := rfl
    rw [this]
    simp only [List.length_cons]
    omega
theorem tokCells_append (a b : List (U.Tok × Value)) : tokCells (a ++ b) = tokCells a ++ tokCells b := by simp [tokCells]

/-- rows of different types lie in different blocks -/
theorem own_apart {w : World} {B B' : Nat} {e e' : TypeId} {n n' z z' : Nat} {v v' : Value} {xs xs' : List Value} (h : w.ownsRow B e z v n xs) (h' : w.ownsRow B' e' z' v' n' xs') (hne : e ≠ e') : v.ownBlock = none ∨ v.ownBlock ≠ v'.ownBlock := by
  rcases h.2 with ⟨rfl, _⟩ | ⟨g, cap, cur, rfl, _, hg, _⟩
  · exact .inl rfl
  right
  rcases h'.2 with ⟨rfl, _⟩ | ⟨g', cap', cur', rfl, _, hg', _⟩
  · simp [Value.ownBlock]
  · intro e0
    have : g = g' := by simpa [Value.ownBlock] using e0
    subst this
    rw [hg] at hg'
    injection hg' with hg'
    injection hg' with _ h2 _
    exact hne h2

theorem below_drewN {B : Nat} {a w : World} (h : Below B a w) (n : Nat) : Below B a (w.drewN n) := ⟨h.os, h.tape, h.output, h.size, h.block⟩

end Go.Proofs.YtmfkefcdddoooaaGreatDoor

namespace Go.Proofs.YtmfkefcdddoooaaGreatDoor
open Go.RowKit

namespace U
theorem enc_high {n : Nat} (h : 128 ≤ n) (hL : isL n = true) : ∀ b ∈ enc n, 128 ≤ b.toNat := by
  have hL2 := (isL_iff.1 hL).1
  intro b hb
  by_cases h2 : n < 2048
  · rw [enc_two h h2] at hb
    simp only [List.mem_cons, List.not_mem_nil, or_false] at hb
    rcases hb with rfl | rfl <;> simp only [UInt8.toNat_ofNat'] <;> omega
  by_cases h3 : n < 65536
  · rw [enc_three (by omega) h3] at hb
    simp only [List.mem_cons, List.not_mem_nil, or_false] at hb
    rcases hb with rfl | rfl | rfl <;> simp only [UInt8.toNat_ofNat'] <;> omega
  · rw [enc_four (by omega)] at hb
    simp only [List.mem_cons, List.not_mem_nil, or_false] at hb
    rcases hb with rfl | rfl | rfl | rfl <;> simp only [UInt8.toNat_ofNat'] <;> omega
/-- at a byte that is no ASCII: the code point is none, and so is each of its bytes -/
theorem dec_high {l : List UInt8} {b : UInt8} {r : List UInt8} (hl : l = b :: r) (hb : 128 ≤ b.toNat) : 128 ≤ (dec l).1 ∧ isL (dec l).1 = true ∧ ∀ (j : Nat) c, j < (dec l).2 → l[j]? = some c → 128 ≤ c.toNat := by
  have hne : l ≠ [] := by rw [hl]; simp
  refine ⟨?_, dec_isL l hne, ?_⟩
  · rcases dec_spec l hne with h | ⟨n, u, h1, h2, h3⟩
    · rw [h]; decide
    · rw [h3]
      rcases Nat.lt_or_ge n 128 with h4 | h4
      · exfalso
        rw [hl, enc_one h4] at h2
        injection h2 with h2 _
        rw [h2] at hb
        simp only [UInt8.toNat_ofNat'] at hb
        omega
      · exact h4
  · intro j c hj hc
    rcases dec_spec l hne with h | ⟨n, u, h1, h2, h3⟩
    · rw [h] at hj
      obtain rfl : j = 0 := by simp only [bad] at hj; omega
      rw [hl] at hc
      simp only [List.getElem?_cons_zero, Option.some.injEq] at hc
      rwa [← hc]
    · rw [h3] at hj
      simp only at hj
      rw [h2, List.getElem?_append_left hj] at hc
      rcases Nat.lt_or_ge n 128 with h4 | h4
      · exfalso
        rw [hl, enc_one h4] at h2
        injection h2 with h2 _
        rw [h2] at hb
        simp only [UInt8.toNat_ofNat'] at hb
        omega
      · exact enc_high h4 h1 c (List.mem_of_getElem? hc)
end U

theorem asc_contains {chars : List UInt8} (ha : ∀ b ∈ chars, b.toNat < 128) {c : UInt8} (hc : 128 ≤ c.toNat) : chars.contains c = false := by
  cases h : chars.contains c with
  | false => rfl
  | true =>
    have := ha c (by simpa using h)
    omega

set_option maxHeartbeats 4000000 in
set_option maxRecDepth 1000000 in
/-- the mark of a bad byte is not among ASCII bytes -/
theorem index_rune_bad (chars : ByteArray) (w : World) (ha : ∀ b ∈ chars.data.toList, b.toNat < 128) :
    Calls Tryz.prog 134 #[.string chars, .int .i32 65533] w fun e w' => e = .returned (.int .i64 (-1)) ∧ Below w.heap.size w w' := by
  have HA := Lib.hid ha
  clear ha
  go_enter Tryz.func134, Tryz.ntmps134
  go_wp2_with fail
  go_loopw [4] (fun v wr => ∃ pos : Nat, v = .int .i64 0 ∧ wr = w.iter chars pos ∧ pos ≤ chars.size) (fun _ wr => chars.size - wr.iterPos w.heap.size)
  case atStart => exact ⟨0, rfl, rfl, Nat.zero_le _⟩
  case round =>
    obtain ⟨pos, rfl, rfl, hp⟩ := hrel
    by_cases hlt : pos < chars.size
    · have hx := HA.out _ (List.mem_of_getElem? (byte_get chars hlt))
      have hnx := fun ty => run_next_ascii (P := Tryz.prog) w chars pos ty hlt hx
      have hbe : (((chars[pos]'hlt).toNat : Int) == 65533) = false := by rw [beq_eq_false_iff_ne]; omega
      go_wp2_with fail
      go_roundw
      case rel => exact ⟨pos + 1, rfl, rfl, by omega⟩
      case measure => simp; omega
    · obtain rfl : pos = chars.size := by omega
      have hnx := run_next_end (P := Tryz.prog) w chars chars.size
      go_wp2_with fail
      go_ret
      exact ⟨rfl, (Below.refl _ _).alloc (Nat.le_refl _) _⟩

theorem last_high {rs : ByteArray} {m : Nat} (hm : rs.size = m + 1) (h : ∀ h : rs.size - 1 < rs.size, 128 ≤ (rs[rs.size - 1]'h).toNat) (hlt : m < rs.size) : 128 ≤ (rs[m]'hlt).toNat := by
  have e : rs.size - 1 = m := by omega
  have h2 := h (by omega)
  simp only [e] at h2
  exact h2
theorem index_none {chars : ByteArray} (ha : ∀ b ∈ chars.data.toList, b.toNat < 128) (a e : Nat) (b : UInt8) (hb : 128 ≤ b.toNat) : Lib.indexByte (chars.extract a e).data.toList b = -1 := by
  have h1 : (chars.extract a e).data.toList.contains b = false := asc_contains (fun x hx => ha x (mem_extract hx)) hb
  rw [Lib.contains_iff_indexByte] at h1
  have h2 := of_decide_eq_false h1
  have h3 := Lib.indexByte_ge (chars.extract a e).data.toList b
  omega

set_option maxHeartbeats 4000000 in
set_option maxRecDepth 1000000 in
theorem index_rune_high (chars : ByteArray) (c : Nat) (w : World) (hc : 128 ≤ c) (hL : U.isL c = true) (hn : c ≠ 65533) (h5 : 5 ≤ chars.size) (hcs : chars.size ≤ 100) (ha : ∀ b ∈ chars.data.toList, b.toNat < 128) :
    Calls Tryz.prog 134 #[.string chars, .int .i32 c] w fun e w' => e = .returned (.int .i64 (-1)) ∧ Below w.heap.size w w' := by
  have hL2 := U.isL_iff.1 hL
  have hv : Lib.validRune (c : Int) = true := by unfold Lib.validRune; rw [decide_eq_true_iff]; omega
  have hv2 : Utf8.valid (c : Int) = true := by rw [validRune_eq]; unfold Go.validRune; rw [decide_eq_true_iff]; omega
  obtain ⟨e1, e2, e3⟩ := encode_facts (c : Int) hv2 (by omega)
  have hb : ((c : Int) == 65533) = false := by rw [beq_eq_false_iff_ne]; omega
  have hix := fun a e b hb => index_none ha a e b hb
  obtain ⟨rs, hrs⟩ : ∃ rs, rs = Utf8.encode (c : Int) := ⟨_, rfl⟩
  rw [← hrs] at e1 e2 e3
  go_enter Tryz.func134, Tryz.ntmps134
  go_wp2_with (refine (Tryz.utf8_ValidRune _ _).mono ?_; rintro e w' ⟨rfl, rfl⟩; rw [hv])
  go_step3
  go_wp2_with fail
  rw [← hrs]
  clear hrs hv hv2 hL2 hL
  obtain ⟨m, hm⟩ : ∃ m, rs.size = m + 1 := ⟨rs.size - 1, by omega⟩
  have hlt : m < rs.size := by omega
  have hltc : m < chars.size := by omega
  have hz := last_high hm e3 hlt
  have hx : (chars[m]'hltc).toNat < 128 := ha _ (List.mem_of_getElem? (byte_get chars hltc))
  have hm1 : wrap64 ((rs.size : Int) - 1) = (m : Int) := by
    unfold wrap64
    omega
  rw [hm1]
  clear e3 ha hm1
  have hne : (((chars[m]'hltc).toNat : Int) != ((rs[m]'hlt).toNat : Int)) = true := by rw [bne_iff_ne]; omega
  have hix2 := fun a e => hix a e _ hz
  have hbk : (((rs[m]'hlt).toNat : Int)).toNat.toUInt8 = rs[m]'hlt := by simp
  have hIB : ∀ a e w, Calls Tryz.prog 93 #[.string (chars.extract a e), .int .u8 (rs[m]'hlt).toNat] w fun r w' => r = .returned (.int .i64 (-1)) ∧ w' = w := fun a e w => by
    have h := Tryz.strings_IndexByte (chars.extract a e) ((rs[m]'hlt).toNat : Int) w
    rw [hbk, hix2] at h
    exact h
  clear hix hz hx hm e1 e2 h5 hix2 hbk
  go_loopw [9] (fun v wr => v = .int .i64 m ∧ wr = w') (fun _ _ => 0)
  case atStart => exact ⟨rfl, rfl⟩
  case round =>
    obtain ⟨rfl, rfl⟩ := hrel
    go_wp2_with fail
    go_step3
    have hi0 : (0 : Int) ≤ (m : Int) := Int.natCast_nonneg _
    have hi1 : (m : Int) < (chars.size : Int) := by omega
    have hi2 : (m : Int) < (rs.size : Int) := by omega
    have hi3 : IntKind.i64.wrap ((m : Int) + 1) = (m : Int) + 1 := wrap_small _ (by omega) (by omega)
    have hi4 : (m : Int) + 1 ≤ (chars.size : Int) := by omega
    have hi5 : (0 : Int) ≤ (m : Int) + 1 := by omega
    go_wp2_with fail
    go_region
    go_wp2_with fail
    go_region_with (refine (hIB _ _ _).mono ?_; rintro e w2 ⟨rfl, rfl⟩)
    all_goals go_wp2_with fail
    change bodyPost Tryz.prog Tryz.f134 (fun e w'_1 => e = .returned (.int .i64 (-1)) ∧ Below wr.heap.size wr w'_1) Exit.ret _ _
    go_ret
    exact ⟨rfl, below_drewN (below_drewN (Below.refl _ _) 1) 1⟩

end Go.Proofs.YtmfkefcdddoooaaGreatDoor

namespace Go.Proofs.YtmfkefcdddoooaaGreatDoor
open Go.RowKit

theorem no_any_more {s chars : List UInt8} {i n : Nat} (h : Lib.NoAny s chars i) (h2 : ∀ (j : Nat) c, i ≤ j → j < i + n → s[j]? = some c → chars.contains c = false) : Lib.NoAny s chars (i + n) := by
  intro j b hj hb
  by_cases e : j < i
  · exact h j b e hb
  · exact h2 j b (by omega) hj hb

set_option maxHeartbeats 8000000 in
set_option maxRecDepth 1000000 in
theorem index_any_short (s chars : ByteArray) (w : World) (h5 : 5 ≤ chars.size) (hcs : chars.size ≤ 100) (h8 : s.size ≤ 8) (ha : ∀ b ∈ chars.data.toList, b.toNat < 128) :
    Calls Tryz.prog 117 #[.string s, .string chars] w fun e w' => e = .returned (.int .i64 (Lib.indexAny s.data.toList chars.data.toList)) ∧ Below w.heap.size w w' := by
  have hemp : chars.toList.isEmpty = false := by
    rw [Lib.toList_data]
    cases h : chars.data.toList with
    | nil => have := Lib.size_eq chars; rw [h, List.length_nil] at this; omega
    | cons _ _ => rfl
  have hn1 : ((chars.size : Int) == 1) = false := beq_eq_false_iff_ne.2 (by omega)
  have h8z : decide ((8 : Int) < (s.size : Int)) = false := decide_eq_false (by omega)
  have HA := Lib.hid ha
  clear ha
  go_enter Tryz.func117, Tryz.ntmps117
  go_wp2_with (refine (Tryz.strings_shouldUseASCIISet _ _).mono ?_; rintro e w' ⟨rfl, rfl⟩; rw [h8z])
  go_loopw [4] (fun v wr => ∃ pos : Nat, v = .int .i64 0 ∧ wr.heap[w'.heap.size]? = some (.stringIter s pos) ∧ pos ≤ s.size ∧ Below w'.heap.size w' wr ∧ Hid (Lib.NoAny s.data.toList chars.data.toList pos)) (fun _ wr => s.size - wr.iterPos w'.heap.size)
  case atStart => exact ⟨0, rfl, World.iter_heap _ _ _, Nat.zero_le _, (Below.refl _ _).alloc (Nat.le_refl _) _, Lib.NoAny.zero _ _⟩
  case round =>
    obtain ⟨pos, rfl, hit, hp, hbw, hno⟩ := hrel
    have hlk := iter_lt hit
    by_cases hlt : pos < s.size
    · have hxl := byte_get s hlt
      by_cases hb : (s[pos]'hlt).toNat < 128
      · have hnx : ∀ ty, (Instr.next (.pointer (some ⟨w'.heap.size, 0, none⟩)) true ty).run Tryz.prog wr = _ := fun ty => Lib.run_next_ascii_at wr w'.heap.size s pos ty hit hlt hb
        have hit2 := Lib.iterAt_heap wr w'.heap.size s pos (pos + 1) hit
        have hbw2 := Lib.below_iterAt hbw (k := w'.heap.size) (Nat.le_refl _) s (pos + 1)
        have hIR := fun w2 => Tryz.strings_IndexRune_ascii chars ((s[pos]'hlt).toNat : Int) w2 (by omega) (by omega)
        have hbk : (((s[pos]'hlt).toNat : Int)).toNat.toUInt8 = s[pos]'hlt := by simp
        rw [hbk] at hIR
        have hcon := Lib.contains_iff_indexByte chars.data.toList (s[pos]'hlt)
        cases hin : chars.data.toList.contains (s[pos]'hlt) with
        | false =>
          rw [hin] at hcon
          have hneg : ¬ ((0 : Int) ≤ Lib.indexByte chars.data.toList (s[pos]'hlt)) := of_decide_eq_false hcon.symm
          have HN := Lib.hid (hno.out.succ hxl hin)
          clear hcon hno hxl
          generalize Lib.indexByte chars.data.toList (s[pos]'hlt) = ix at *
          go_wp2_with (refine (hIR _).mono ?_; rintro e w2 ⟨rfl, rfl⟩)
          go_roundw
          case rel => exact ⟨pos + 1, rfl, hit2, by omega, hbw2, HN.out⟩
          case measure => simp only [World.iterPos, hit, hit2]; omega
        | true =>
          rw [hin] at hcon
          have hge : (0 : Int) ≤ Lib.indexByte chars.data.toList (s[pos]'hlt) := of_decide_eq_true hcon.symm
          have HN := Lib.hid (Lib.indexAny_hit hno.out hxl hin)
          clear hcon hno hxl
          generalize Lib.indexByte chars.data.toList (s[pos]'hlt) = ix at *
          go_wp2_with (refine (hIR _).mono ?_; rintro e w2 ⟨rfl, rfl⟩)
          go_ret
          exact ⟨by rw [HN.out]; rfl, hbw2⟩
      · have hnx : ∀ ty, (Instr.next (.pointer (some ⟨w'.heap.size, 0, none⟩)) true ty).run Tryz.prog wr = _ := fun ty => Lib.run_next_any_at wr w'.heap.size s pos ty hit hlt
        have hd := U.decode_eq s pos hlt
        have hdr := drop_byte hxl
        obtain ⟨g1, g2, g3⟩ := U.dec_high hdr (by omega)
        have hne : s.data.toList.drop pos ≠ [] := by rw [hdr]; simp
        have hw := U.dec_width _ hne
        rw [← hd] at g1 g2 g3 hw
        have hwl : pos + (Utf8.decode s pos).2 ≤ s.size := by
          have := hw.2.2
          simp at this
          omega
        have HN := Lib.hid (no_any_more (n := (Utf8.decode s pos).2) hno.out (fun j c h1 h2 h3 => asc_contains HA.out (g3 (j - pos) c (by omega) (by rw [List.getElem?_drop, show pos + (j - pos) = j by omega]; exact h3))))
        have hw1 := hw.1
        clear hd hdr g3 hne hw hno hxl
        generalize Utf8.decode s pos = d at *
        obtain ⟨c, n⟩ := d
        simp only at *
        have hit2 := Lib.iterAt_heap wr w'.heap.size s pos (pos + n) hit
        have hbw2 := Lib.below_iterAt hbw (k := w'.heap.size) (Nat.le_refl _) s (pos + n)
        have hIR : ∀ w2, Calls Tryz.prog 134 #[.string chars, .int .i32 c] w2 fun e w3 => e = .returned (.int .i64 (-1)) ∧ Below w2.heap.size w2 w3 := by
          intro w2
          by_cases hc : c = 65533
          · subst hc; exact index_rune_bad chars w2 HA.out
          · exact index_rune_high chars c w2 g1 g2 hc h5 hcs HA.out
        clear g1 g2
        have hz2 := Lib.iterAt_size wr w'.heap.size s (pos + n)
        go_wp2_with (refine (hIR _).mono ?_; rintro e w2 ⟨rfl, b2⟩)
        have hit3 := (b2.block _ (by rw [hz2]; exact hlk)).trans hit2
        have hbw3 := hbw2.trans (b2.mono (by rw [hz2]; omega))
        go_roundw
        case rel => exact ⟨pos + n, rfl, hit3, by omega, hbw3, HN.out⟩
        case measure => simp only [World.iterPos, hit, hit3]; omega
    · have hnx : ∀ ty, (Instr.next (.pointer (some ⟨w'.heap.size, 0, none⟩)) true ty).run Tryz.prog wr = _ := fun ty => Lib.run_next_end_at wr w'.heap.size s pos ty hit hlt
      obtain rfl : pos = s.size := by omega
      have HN := Lib.hid (Lib.indexAny_none (by rw [← Lib.size_eq]; exact hno.out))
      clear hno
      go_wp2_with fail
      go_ret
      exact ⟨by rw [HN.out]; rfl, hbw⟩

theorem index_any (s chars : ByteArray) (w : World) (h5 : 5 ≤ chars.size) (hcs : chars.size ≤ 100) (hs : s.size ≤ 1048576) (ha : ∀ b ∈ chars.data.toList, b.toNat < 128) :
    Calls Tryz.prog 117 #[.string s, .string chars] w fun e w' => e = .returned (.int .i64 (Lib.indexAny s.data.toList chars.data.toList)) ∧ Below w.heap.size w w' := by
  rcases Nat.lt_or_ge 8 s.size with h8 | h8
  · refine (Tryz.strings_IndexAny_long (zero_of_info (n := 256) (by kernel_rfl)).1 s chars w (by omega) h8 (by omega) (by omega) (fun j b hb => ha b (List.mem_of_getElem? hb))).mono ?_
    rintro e w' ⟨rfl, rfl⟩
    exact ⟨rfl, ((Below.refl _ _).alloc (Nat.le_refl _) _).alloc (by simp) _⟩
  · exact index_any_short s chars w h5 hcs h8 ha

end Go.Proofs.YtmfkefcdddoooaaGreatDoor

namespace Go.Proofs.YtmfkefcdddoooaaGreatDoor
open Go.RowKit

/-- the parser's block: what is not read yet, and the slice of tokens -/
def parBlock (r : ByteArray) (v : Value) : Obj := .cells #[.string r, v] 64 (0, 0)
theorem grown_trans {a b c : World} {row : Option Nat} (h1 : a.grownBy b row) (h2 : b.grownBy c row) : a.grownBy c row :=
  ⟨h2.os.trans h1.os, h2.tape.trans h1.tape, h2.output.trans h1.output, Nat.le_trans h1.size h2.size, fun k hk hne => (h2.block k (Nat.lt_of_lt_of_le hk h1.size) hne).trans (h1.block k hk hne)⟩
theorem grown_below {w w' : World} (hb : Below w.heap.size w w') (row : Option Nat) : w.grownBy w' row :=
  ⟨hb.os, hb.tape, hb.output, hb.size, fun k hk _ => hb.block k hk⟩
/-- from world z to world w nothing old but the parser's block has changed -/
structure Reads (z w : World) (bp : Nat) (r : ByteArray) (v : Value) : Prop where
  par : w.heap[bp]? = some (parBlock r v)
  grown : z.grownBy w (some bp)
theorem Reads.start {w : World} {bp : Nat} {r : ByteArray} {v : Value} (h : w.heap[bp]? = some (parBlock r v)) : Reads w w bp r v := ⟨h, World.grownBy.refl _ _⟩
theorem lt_of_heap {w : World} {b : Nat} {o : Obj} (h : w.heap[b]? = some o) : b < w.heap.size := (Array.getElem?_eq_some_iff.1 h).1
theorem Reads.later {z w w2 : World} {bp : Nat} {r : ByteArray} {v : Value} (h : Reads z w bp r v) (hb : Below w.heap.size w w2) : Reads z w2 bp r v :=
  ⟨(hb.block _ (lt_of_heap h.par)).trans h.par, grown_trans h.grown (grown_below hb _)⟩
theorem Reads.trans {z w w2 : World} {bp : Nat} {r r2 : ByteArray} {v v2 : Value} (h : Reads z w bp r v) (h2 : Reads w w2 bp r2 v2) : Reads z w2 bp r2 v2 := ⟨h2.par, grown_trans h.grown h2.grown⟩
theorem Reads.alloc {z w : World} {bp : Nat} {r : ByteArray} {v : Value} (h : Reads z w bp r v) (o : Obj) : Reads z (w.alloc o) bp r v := h.later ((Below.refl _ _).alloc (Nat.le_refl _) _)
theorem Reads.box {z w : World} {bp k : Nat} {r : ByteArray} {v : Value} {o : Obj} (h : Reads z w bp r v) (hk : z.heap[k]? = some o) (hne : k ≠ bp) : w.heap[k]? = some o := (h.grown.block k (lt_of_heap hk) (by simpa using hne)).trans hk
theorem box_below {z w : World} {k : Nat} {o : Obj} (hk : z.heap[k]? = some o) (hb : Below z.heap.size z w) : w.heap[k]? = some o := (hb.block k (lt_of_heap hk)).trans hk
/-- a block of the call's own is written -/
theorem Reads.other {z w : World} {bp k : Nat} {r : ByteArray} {v : Value} (h : Reads z w bp r v) (hz : z.heap.size ≤ k) (hne : k ≠ bp) (o : Nat) (u : Value) : Reads z (w.setCell ⟨k, o, none⟩ u) bp r v := by
  refine ⟨(Below.heap_setCell _ _ _ _ (fun e => hne e.symm)).trans h.par, ?_⟩
  have hg := h.grown
  exact ⟨hg.os, hg.tape, hg.output, by simpa [World.setCell] using hg.size, fun j hj hj2 => (Below.heap_setCell _ _ _ _ (by show j ≠ k; omega)).trans (hg.block j hj hj2)⟩
theorem par_cells {w : World} {bp : Nat} {r : ByteArray} {v : Value} (h : w.heap[bp]? = some (parBlock r v)) : w.cell? ⟨bp, 0, none⟩ = some (.string r) ∧ w.cell? ⟨bp, 1, none⟩ = some v ∧ w.frozen? ⟨bp, 0, none⟩ = false ∧ w.frozen? ⟨bp, 1, none⟩ = false := by
  unfold parBlock at h
  exact ⟨by rw [Lib.cell_of_heap h]; rfl, by rw [Lib.cell_of_heap h]; rfl, Lib.frozen_of_heap h 0, Lib.frozen_of_heap h 1⟩
theorem grown_setCell (w : World) (b o : Nat) (v : Value) : w.grownBy (w.setCell ⟨b, o, none⟩ v) (some b) :=
  ⟨rfl, rfl, rfl, by simp [World.setCell], fun k _ hk => Below.heap_setCell _ _ _ _ (fun e => hk (by simp [e]))⟩
theorem Reads.setRest {z w : World} {bp : Nat} {r : ByteArray} {v : Value} (h : Reads z w bp r v) (r' : ByteArray) : Reads z (w.setCell ⟨bp, 0, none⟩ (.string r')) bp r' v := by
  have hp := h.par
  unfold parBlock at hp
  refine ⟨?_, grown_trans h.grown (grown_setCell _ _ _ _)⟩
  simp [World.setCell, Array.getElem?_modify, hp, parBlock]

set_option maxHeartbeats 1000000 in
set_option maxRecDepth 100000 in
theorem take_walk (w : World) (bp n : Nat) (r : ByteArray) (v : Value) (h : w.heap[bp]? = some (parBlock r v)) (hn : n ≤ r.size) :
    Calls Tryz.prog 54 #[.pointer (some ⟨bp, 0, none⟩), .int .i64 n] w fun e w' => e = .returned (.string (r.extract 0 n)) ∧ Reads w w' bp (r.extract n r.size) v := by
  obtain ⟨c0, c1, f0, f1⟩ := par_cells h
  have HR := (Reads.start h).setRest (r.extract n r.size)
  go_enter Tryz.func54, Tryz.ntmps54
  go_wp2_with fail
  go_ret
  exact ⟨rfl, HR⟩

end Go.Proofs.YtmfkefcdddoooaaGreatDoor

/- Letters: raw numbers made into code points. -/
import Derived.Test.YtpgffcfffpmahaaDoorTextMath
import Derived.Test.YtpgffcfffpmahaaDoorPicked
import Derived.Deep.RegionHeld3
import Derived.Deep.DeepCutAuto
import Derived.Handy
import Derived.StillTactics
import Derived.StillTailTactics
import Derived.Deep.RegionWith
import Derived.Outline
namespace Go.Proofs.YtpgffcfffpmahaaDoor
open Go.RowKit

def limit (j : Nat) : Int := if j = 0 then 128 else if j = 1 then 300 else if j = 2 then 3000 else if j = 3 then 70000 else 1114112
theorem limit_bd (j : Nat) : 0 < limit j ∧ limit j ≤ 1114112 := by
  unfold limit
  repeat' split
  all_goals decide
theorem limit_cell (j : Nat) (hj : j < 5) (W : World) (T : TypeId) :
    (W.alloc (.cells #[.int .i64 128, .int .i64 300, .int .i64 3000, .int .i64 70000, .int .i64 1114112] T)).cell? ⟨W.heap.size, j, none⟩ = some (.int .i64 (limit j)) := by
  match j, hj with
  | 0, _ => simp [limit]
  | 1, _ => simp [limit]
  | 2, _ => simp [limit]
  | 3, _ => simp [limit]
  | 4, _ => simp [limit]
theorem limit_get (j : Nat) (h : j < ([.int .i64 128, .int .i64 300, .int .i64 3000, .int .i64 70000, .int .i64 1114112] : List Value).length) :
    ([.int .i64 128, .int .i64 300, .int .i64 3000, .int .i64 70000, .int .i64 1114112] : List Value)[j]'h = .int .i64 (limit j) := by
  match j, h with
  | 0, _ => rfl
  | 1, _ => rfl
  | 2, _ => rfl
  | 3, _ => rfl
  | 4, _ => rfl

/-- the number behind 'Picked' twice, and behind the surrogates -/
def rawZ (z : Int) : Int := z % limit ((IntKind.i64.wrap (z.tdiv 7)) % 5).toNat
def letN (z : Int) : Nat := if 55296 ≤ rawZ z ∧ rawZ z ≤ 57343 then 65 else (rawZ z).toNat
theorem rawZ_bd (z : Int) : 0 ≤ rawZ z ∧ rawZ z < 1114112 := by
  unfold rawZ
  have h := limit_bd ((IntKind.i64.wrap (z.tdiv 7)) % 5).toNat
  have h1 := Int.emod_nonneg z (b := limit ((IntKind.i64.wrap (z.tdiv 7)) % 5).toNat) (by omega)
  have h2 := Int.emod_lt_of_pos z h.1
  omega
theorem letN_isL (z : Int) : U.isL (letN z) = true := by
  have h := rawZ_bd z
  rw [U.isL_iff]
  unfold letN
  split <;> omega
def lets (n : Nat) (zs : List Int) : List Nat := (zs.take n).map letN
theorem lets_isL (n : Nat) (zs : List Int) : ∀ m ∈ lets n zs, U.isL m = true := by
  intro m hm
  obtain ⟨z, _, rfl⟩ := List.mem_map.1 hm
  exact letN_isL z
theorem lets_length (n : Nat) (zs : List Int) : (lets n zs).length ≤ n := by
  unfold lets
  rw [List.length_map, List.length_take]
  omega

set_option maxHeartbeats 2000000 in
set_option maxRecDepth 100000 in
theorem letters_walk (ao : Option Addr) (cap : Nat) (zs : List Int) (n : Nat) (w : World) (hr : Rd w w.heap.size ao zs) (hn : n ≤ 60) :
    Calls Tryd.prog 12 #[.slice ao zs.length cap, .int .i64 n] w fun e w' => ∃ v, e = .returned v ∧ w'.ownsRow w.heap.size 3 1 v (lets n zs).length (ints (lets n zs)) ∧ Below w.heap.size w w' := by
  obtain ⟨i0, hi, hz0, hz1, hz2⟩ := info_parts info3
  have HR := Lib.hid hr
  clear hr
  go_enter Tryd.func12, Tryd.ntmps12
  go_wp2
  go_loopw [5, 6] (fun v i wr => ∃ k : Nat, k ≤ zs.length ∧ k ≤ n ∧ i = .int .i64 k ∧ wr.ownsRow w.heap.size 3 1 v (lets k zs).length (ints (lets k zs)) ∧ Below w.heap.size w wr) (fun _ i _ => zs.length - (intOf i).toNat)
  case atStart => exact ⟨0, Nat.zero_le _, Nat.zero_le _, rfl, by exact World.ownsRow_nil _ _ _ _, Below.refl _ _⟩
  case round =>
    obtain ⟨k, hk, hkn, rfl, hown, hbw⟩ := hrel
    have hbs := hbw.size
    by_cases hlt : k < zs.length
    · by_cases hlt2 : k < n
      · obtain ⟨ad, rfl, hb, hc⟩ := (HR.out.below hbw) k zs[k] (List.getElem?_eq_getElem hlt)
        have Hz := Lib.hid (List.getElem?_eq_getElem hlt)
        have hraw := rawZ_bd zs[k]
        have hrd : ∃ j : Nat, j < 5 ∧ IntKind.i64.wrap (zs[k].tdiv 7) % 5 = (j : Int) ∧ rawZ zs[k] = zs[k] % limit j := ⟨(IntKind.i64.wrap (zs[k].tdiv 7) % 5).toNat, by omega, by omega, rfl⟩
        generalize zs[k] = z at *
        obtain ⟨j, hj, ej, er⟩ := hrd
        have hlb := limit_bd j
        have hlc := limit_cell j hj
        have hlg := limit_get j
        have hc2 : ∀ o, (wr.alloc o).cell? (ad.add k) = some (.int .i64 z) := fun o => by
          rw [World.cell?_alloc_lt wr o (ad.add k) (by rw [add_block]; omega)]
          exact hc
        have ER := Lib.hid er
        have EJ := Lib.hid ej
        clear er ej
        obtain ⟨q, hq⟩ : ∃ q, IntKind.i64.wrap (z.tdiv 7) = q := ⟨_, rfl⟩
        rw [hq] at EJ
        have hk0 : (0 : Int) ≤ (k : Int) := Int.natCast_nonneg _
        have hk1 : (k : Int) < (zs.length : Int) := by omega
        have hj0 : (0 : Int) ≤ (j : Int) := Int.natCast_nonneg _
        have hj1 : (j : Int) < 5 := by omega
        go_upto_region 5 with fail
        go_cut [7] (fun s7 wx => s7 = .int .i64 (rawZ z) ∧ Below wr.heap.size wr wx)
        case first =>
          go_region_with (first
            | (go_at_call_of 21 (Value.int IntKind.i64 q); refine (picked_walk _ _ _ (by omega) (by omega)).mono ?_; rintro e w' ⟨rfl, rfl⟩; rw [EJ.out])
            | (go_at_call_of 21 (Value.int IntKind.i64 z); refine (picked_walk _ _ _ (by omega) (by omega)).mono ?_; rintro e w' ⟨rfl, rfl⟩; rw [← ER.out]))
          all_goals (go_wp2_with fail; go_meet; exact ⟨rfl, by go_grown⟩)
        case rest =>
          obtain ⟨rfl, hbx⟩ := hcut
          have hownx : wc.ownsRow w.heap.size 3 1 u5 (lets k zs).length (ints (lets k zs)) := hown.kept (row := none) ⟨hbx.os, hbx.tape, hbx.output, hbx.size, fun i hi _ => hbx.block i hi⟩ (by
            rcases h : u5.ownBlock with _ | b
            · exact .inl rfl
            · right; simp)
          have hbwx : Below w.heap.size w wc := hbw.trans (hbx.mono hbs)
          have hbsx := hbwx.size
          have hl : (lets k zs).length = k := by unfold lets; rw [List.length_map, List.length_take]; omega
          have hstep : ints (lets (k + 1) zs) = ints (lets k zs) ++ [.int .i64 (letN z)] ∧ (lets (k + 1) zs).length = (lets k zs).length + 1 := by
            unfold lets
            rw [U.take_snoc Hz.out, List.map_append, ints_append, List.length_append]
            exact ⟨rfl, rfl⟩
          have HS := Lib.hid hstep
          have HL := Lib.hid hl
          have hlk : (lets k zs).length ≤ 60 := by omega
          clear hstep hl
          have hN : ∀ x : Int, (x = if 55296 ≤ rawZ z ∧ rawZ z ≤ 57343 then 65 else rawZ z) → x = (letN z : Int) := by
            intro x hx
            rw [hx]
            unfold letN
            split <;> omega
          have HN := Lib.hid hN
          clear hN
          generalize rawZ z = x at *
          have hfin : ∀ (v2 : Value) (w2 : World), w2.ownsRow w.heap.size 3 1 v2 ((lets k zs).length + 1) (ints (lets k zs) ++ [.int .i64 (letN z)]) → w2.ownsRow w.heap.size 3 1 v2 (lets (k + 1) zs).length (ints (lets (k + 1) zs)) := fun v2 w2 h => by
            rw [HS.out.1, HS.out.2]; exact h
          by_cases hsur : 55296 ≤ x ∧ x ≤ 57343
          · have hx : (65 : Int) = (letN z : Int) := HN.out 65 (by rw [if_pos hsur])
            have HX := Lib.hid hx
            clear hx
            go_wp2_with (at_builtin; refine wpList_append_own _ rfl _ _ 28 rfl w.heap.size 3 i0 (.int .i64 0) 1 8 Tryd.underlying28 hi hz0 hz1 hz2 rfl (by decide) _ _ _ rfl (hownx.alloc _) ⟨wc.heap.size, 0, none⟩ 1 1 [.int .i64 65] rfl rfl ?c1 ?c2 ?c3 ?c4 ?c5 ?_)
            case c1 =>
              intro j u hj
              match j, hj with
              | 0, hj => simp at hj; subst hj; simp [Addr.add]
              | (j + 1), hj => simp at hj
            case c2 => intro u hu; simp at hu; subst hu; rfl
            case c3 => unfold maxLen; omega
            case c4 => omega
            case c5 => simp; omega
            intro v' w2 hown' hgrow _
            have hbw2 : Below w.heap.size w w2 := (hbwx.alloc hbsx _).grown hgrow (by simp; omega) (fun k hk => (hownx.lt k hk).1)
            rw [HX.out] at hown'
            have hown3 := hfin _ _ hown'
            go_wp2_with fail
            go_roundw
            case rel => exact ⟨k + 1, by omega, by omega, by go_num, hown3, hbw2⟩
            case measure => simp [intOf]; omega
          · have hx : x = (letN z : Int) := HN.out x (by rw [if_neg hsur])
            have HX := Lib.hid hx
            clear hx
            have hcase : x < 55296 ∨ 57343 < x := by omega
            clear hsur
            rcases hcase with hsur | hsur
            all_goals
              go_wp2_with (at_builtin; refine wpList_append_own _ rfl _ _ 28 rfl w.heap.size 3 i0 (.int .i64 0) 1 8 Tryd.underlying28 hi hz0 hz1 hz2 rfl (by decide) _ _ _ rfl (hownx.alloc _) ⟨wc.heap.size, 0, none⟩ 1 1 [.int .i64 x] rfl rfl ?c1 ?c2 ?c3 ?c4 ?c5 ?_)
              try (case c1 =>
                intro j u hj
                match j, hj with
                | 0, hj => simp at hj; subst hj; simp [Addr.add]
                | (j + 1), hj => simp at hj)
              case c2 => first | rfl | (intro u hu; simp at hu; subst hu; rfl)
              case c3 => unfold maxLen; omega
              case c4 => omega
              case c5 => first | omega | (simp; omega)
              intro v' w2 hown' hgrow _
              have hbw2 : Below w.heap.size w w2 := (hbwx.alloc hbsx _).grown hgrow (by simp; omega) (fun k hk => (hownx.lt k hk).1)
              rw [HX.out] at hown'
              have hown3 := hfin _ _ hown'
              go_wp2_with fail
              go_roundw
              case rel => exact ⟨k + 1, by omega, by omega, by go_num, hown3, hbw2⟩
              case measure => simp [intOf]; omega
      · have hgo : ¬ (k : Int) < (n : Int) := by omega
        obtain rfl : k = n := by omega
        clear hlt2
        go_wp2_with fail
        go_ret
        exact ⟨_, rfl, hown, hbw⟩
    · obtain rfl : k = zs.length := by omega
      have e : lets n zs = lets zs.length zs := by unfold lets; rw [List.take_length, List.take_of_length_le hkn]
      have E := Lib.hid e
      clear e
      go_wp2_with fail
      go_ret
      rw [E.out]
      exact ⟨_, rfl, hown, hbw⟩

end Go.Proofs.YtpgffcfffpmahaaDoor

/- expr.appendText, expr.appendPart. -/
import Derived.Test.YtfloeijklogcfaaExForm
import Derived.Deep.AppendLies
import Derived.Lib.UnsafeStr
namespace Go.Proofs.Ytfloeijklogcfaa
open Go.RowKit

theorem info_partsE {t : TypeId} {z : Option Value} {n m : Nat} (h : (Try.prog.info? t).map (fun i => (i.zero, i.size, i.bytes)) = some (z, n, m)) : ∃ i, Try.prog.info? t = some i ∧ i.zero = z ∧ i.size = n ∧ i.bytes = m := by
  cases hi : Try.prog.info? t with
  | none => rw [hi] at h; cases h
  | some i => rw [hi] at h; simp at h; exact ⟨i, rfl, h.1, h.2.1, h.2.2⟩
theorem own_keepE {w w' : World} {B : Nat} {e : TypeId} {size n : Nat} {v : Value} {xs : List Value} (h : w.ownsRow B e size v n xs) (hb : Below w.heap.size w w') : w'.ownsRow B e size v n xs := by
  refine ⟨h.1, ?_⟩
  rcases h.2 with h0 | ⟨g, cap, cur, hv, hB, hg, r⟩
  · exact .inl h0
  · exact .inr ⟨g, cap, cur, hv, hB, (hb.block g (Array.getElem?_eq_some_iff.1 hg).1).trans hg, r⟩
/-- a row of bytes that has grown from v with t, in w, to v' with t and u, in w' -/
structure BR (N : Nat) (w : World) (v : Value) (t : List UInt8) (w' : World) (v' : Value) (u : List UInt8) : Prop where
  own : w'.ownsRow N 5 1 v' (t ++ u).length (Lib.byteCells (t ++ u))
  grown : w.grownBy w' v.ownBlock
  lies : ∀ j, v'.ownBlock = some j → w.heap.size ≤ j ∨ v.ownBlock = some j
  base : N ≤ w.heap.size
  orig : ∀ j, v.ownBlock = some j → N ≤ j
theorem BR.below {N : Nat} {w w' : World} {v v' : Value} {t u : List UInt8} (h : BR N w v t w' v' u) : Below N w w' := (Below.refl N w).grown h.grown h.base h.orig
theorem BR.start {N : Nat} {w : World} {v : Value} {t : List UInt8} (h : w.ownsRow N 5 1 v t.length (Lib.byteCells t)) (hN : N ≤ w.heap.size) : BR N w v t w v [] :=
  ⟨by rw [List.append_nil]; exact h, World.grownBy.refl _ _, fun j hj => .inr hj, hN, fun j hj => (h.lt j hj).1⟩
theorem BR.later {N : Nat} {w w' w2 : World} {v v' : Value} {t u : List UInt8} (h : BR N w v t w' v' u) (hb : Below w'.heap.size w' w2) : BR N w v t w2 v' u :=
  ⟨own_keepE h.own hb, h.grown.andThen (row' := none) ⟨hb.os, hb.tape, hb.output, hb.size, fun i hi _ => hb.block i hi⟩ (fun j hj => by cases hj), h.lies, h.base, h.orig⟩
theorem BR.alloc {N : Nat} {w w' : World} {v v' : Value} {t u : List UInt8} (h : BR N w v t w' v' u) (o : Obj) : BR N w v t (w'.alloc o) v' u := h.later ((Below.refl _ w').alloc (Nat.le_refl _) o)
theorem BR.trans {N : Nat} {w w' w2 : World} {v v' v2 : Value} {t u s : List UInt8} (h : BR N w v t w' v' u) (k : BR N w' v' (t ++ u) w2 v2 s) : BR N w v t w2 v2 (u ++ s) := by
  have hs := h.grown.size
  refine ⟨by rw [← List.append_assoc]; exact k.own, h.grown.andThen k.grown (fun j hj => h.lies j hj), fun j hj => ?_, h.base, h.orig⟩
  rcases k.lies j hj with h1 | h1
  · exact .inl (by omega)
  · exact h.lies j h1
theorem BR.put {N : Nat} {w w1 w2 : World} {v v1 : Value} {g cap n : Nat} {t u : List UInt8} (h : BR N w v t w1 v1 u) (c : UInt8)
    (ho : w2.ownsRow N 5 1 (.slice (some ⟨g, 0, none⟩) n cap) ((t ++ u).length + 1) (Lib.byteCells (t ++ u) ++ [.int .u8 (c.toNat : Nat)])) (hg : w1.grownBy w2 v1.ownBlock) (hat : v1.ownBlock = some g ∨ w1.heap.size ≤ g) :
    BR N w v t w2 (.slice (some ⟨g, 0, none⟩) n cap) (u ++ [c]) := by
  have hs := h.grown.size
  refine ⟨?_, h.grown.andThen hg (fun j hj => h.lies j hj), fun j hj => ?_, h.base, h.orig⟩
  · rw [← List.append_assoc, List.length_append]
    have : Lib.byteCells (t ++ u ++ [c]) = Lib.byteCells (t ++ u) ++ [.int .u8 (c.toNat : Nat)] := by simp [Lib.byteCells]
    rw [this]
    exact ho
  · have e2 : g = j := by simpa [Value.ownBlock] using hj
    subst e2
    rcases hat with e | e
    · exact h.lies g e
    · exact .inl (by omega)
theorem BR.form {N : Nat} {w w' : World} {v v' : Value} {t u : List UInt8} (h : BR N w v t w' v' u) : ∃ ao cap, v' = .slice ao (t ++ u).length cap := own_form h.own
theorem BR.form2 {N : Nat} {w w' : World} {v v' : Value} {t u : List UInt8} (h : BR N w v t w' v' u) : ∃ ao n cap, v' = .slice ao n cap ∧ Hid (n = (t ++ u).length) := by
  obtain ⟨ao, cap, rfl⟩ := own_form h.own
  exact ⟨ao, _, cap, rfl, rfl⟩
/-- a block that is no row's -/
theorem BR.block {N : Nat} {w w' : World} {v v' : Value} {t u : List UInt8} (h : BR N w v t w' v' u) {b : Nat} (hb : b < w.heap.size) (hne : v.ownBlock ≠ some b) : w'.heap[b]? = w.heap[b]? := h.grown.block b hb (fun e => hne e.symm)

theorem cells1 {w : World} {b : Nat} {x0 : Value} {T : TypeId} {f : Nat × Nat} (h : w.heap[b]? = some (.cells #[x0] T f)) : ∀ (j : Nat) (u : Value), [x0][j]? = some u → w.cell? ((⟨b, 0, none⟩ : Addr).add j) = some u := by
  intro j u hu
  cases j with
  | zero => simp at hu; subst hu; simp [Addr.add]; rw [Lib.cell_of_heap h]; rfl
  | succ j => simp at hu
theorem cell_alloc_oldT (w : World) (o : Obj) (p : Addr) (h : p.block < w.heap.size) : (w.alloc o).cell? p = w.cell? p := ((Below.refl w.heap.size w).alloc (Nat.le_refl _) o).cell h
theorem alloc_sizeE (w : World) (o : Obj) : (w.alloc o).heap.size = w.heap.size + 1 := by simp
theorem exT_one (x : U.Ex) : U.exT 1 x = U.encl (x.kind == 3) (U.exT 0 x) := by
  rw [U.exT_eq, U.exT_eq]
  by_cases h1 : x.kind = 1
  · rw [if_pos h1, if_pos h1, h1]; rfl
  by_cases h2 : x.kind = 2
  · rw [if_neg h1, if_neg h1, if_pos h2, if_pos h2, h2]; rfl
  by_cases h3 : x.kind = 3
  · rw [if_neg h1, if_neg h1, if_neg h2, if_neg h2, if_pos h3, if_pos h3, h3]; rfl
  · rw [if_neg h1, if_neg h1, if_neg h2, if_neg h2, if_neg h3, if_neg h3, beq_eq_false_iff_ne.2 h3]; rfl
theorem exT_two (x : U.Ex) : U.exT 2 x = U.encl (x.kind == 2 || x.kind == 3) (U.exT 0 x) := by
  rw [U.exT_eq, U.exT_eq]
  by_cases h1 : x.kind = 1
  · rw [if_pos h1, if_pos h1, h1]; rfl
  by_cases h2 : x.kind = 2
  · rw [if_neg h1, if_neg h1, if_pos h2, if_pos h2, h2]; rfl
  by_cases h3 : x.kind = 3
  · rw [if_neg h1, if_neg h1, if_neg h2, if_neg h2, if_pos h3, if_pos h3, h3]; rfl
  · rw [if_neg h1, if_neg h1, if_neg h2, if_neg h2, if_neg h3, if_neg h3, beq_eq_false_iff_ne.2 h2, beq_eq_false_iff_ne.2 h3]; rfl

/-- appendText's contract at an expression -/
def TextAt (N : Nat) (x : U.Ex) (pv : Value) (v : Value) (t : List UInt8) (w : World) : Prop :=
  Calls Try.prog 19 #[v, exVal x pv] w fun e w' => ∃ v', e = .returned v' ∧ BR N w v t w' v' (U.exT 0 x)

set_option maxHeartbeats 4000000 in
set_option maxRecDepth 1000000 in
theorem append_part (N : Nat) (x : U.Ex) (pa : Option Addr) (pcap : Nat) (b : Bool) (v : Value) (t : List UInt8) (w : World) (hown : w.ownsRow N 5 1 v t.length (Lib.byteCells t)) (hN : N ≤ w.heap.size) (hsz : t.length + 3 * U.cntE x ≤ 8388608)
    (H : ∀ v' t' w', w'.ownsRow N 5 1 v' t'.length (Lib.byteCells t') → w.heap.size ≤ w'.heap.size → Below N w w' → t'.length ≤ t.length + 1 → TextAt N x (.slice pa x.parts.length pcap) v' t' w') :
    Calls Try.prog 26 #[v, exVal x (.slice pa x.parts.length pcap), .bool b] w fun e w' => ∃ v', e = .returned v' ∧ BR N w v t w' v' (U.encl b (U.exT 0 x)) := by
  obtain ⟨iT, hiT, hT0, hT1, hT2⟩ := info_partsE info5
  have HT := Lib.hid (BR.start hown hN)
  obtain ⟨vo, vcap, rfl⟩ := own_form hown
  have htl := U.exT_len 0 x
  have HH := Lib.hid H
  clear H
  cases b with
  | false =>
    have HC := Lib.hid (HH.out _ _ _ (HT.out.alloc (exObj x (.slice pa x.parts.length pcap))).own (by simp) (HT.out.alloc (exObj x (.slice pa x.parts.length pcap))).below (by simp))
    have HT2 := Lib.hid (HT.out.alloc (exObj x (.slice pa x.parts.length pcap)))
    unfold TextAt exVal exObj at HC
    unfold exObj at HT2
    rw [List.append_nil] at HC
    clear HH
    unfold exVal
    go_enter Try.func26, Try.ntmps26
    go_wp2_with fail
    refine HC.out.mono ?_
    rintro e w3 ⟨v3, rfl, h3⟩
    have HR := Lib.hid (HT2.out.trans (by rw [List.append_nil]; exact h3))
    clear HC h3 HT HT2
    go_wp2_with fail
    go_ret
    exact ⟨v3, rfl, HR.out⟩
  | true =>
    have HT2 := Lib.hid (HT.out.alloc (exObj x (.slice pa x.parts.length pcap)))
    have HQ := Lib.hid (heap_alloc_new w (exObj x (.slice pa x.parts.length pcap)))
    have hne0 : (Value.slice vo t.length vcap).ownBlock ≠ some w.heap.size := fun e => by have := (hown.lt _ e).2; omega
    unfold exVal
    unfold exObj at HT2 HQ
    go_enter Try.func26, Try.ntmps26
    have HTX := Lib.hid (fun O => (HT2.out.alloc O).own)
    simp only [List.append_nil] at HTX
    have HNE := Lib.hid hne0
    clear hown hne0 HT
    go_wp2_with (at_builtin; refine wpList_append_lies _ rfl _ _ 41 rfl N 5 iT _ 1 1 Try.underlying41 hiT hT0 hT1 hT2 rfl (by decide) _ t.length _ rfl (HTX.out (.cells #[.int .u8 40] 5 (0, 0))) ⟨_, 0, none⟩ 1 1 [.int .u8 40] rfl rfl ?a1 ?a2 (by decide) ?a3 ?a4 ?a5 _ rfl ?_)
    case a1 => exact cells1 (f := (0, 0)) (by have h := heap_alloc_new (w.alloc (.cells #[.int .i64 x.kind, .int .i64 x.type, .slice pa x.parts.length pcap] 24 (0, 0))) (.cells #[.int .u8 40] 5 (0, 0)); rw [alloc_sizeE] at h; exact h)
    case a2 => intro u hu; simp at hu; subst hu; rfl
    case a3 => unfold maxLen; omega
    case a4 => omega
    case a5 => simp; omega
    intro g7 cap7 w7 hown7 hgrow7 hat7 _
    have HP7 := Lib.hid ((HT2.out.alloc (.cells #[.int .u8 40] 5 (0, 0))).put 40 (by rw [List.append_nil]; exact hown7) hgrow7 (hat7.imp id (fun e => by simp; omega)))
    have Q7 := Lib.hid ((hgrow7.block w.heap.size (by simp; omega) (fun e => HNE.out e.symm)).trans ((Lib.alloc_old _ _ w.heap.size (by simp)).trans HQ.out))
    have HC := Lib.hid (HH.out _ (t ++ [40]) w7 HP7.out.own (by have h := HP7.out.grown.size; exact h) HP7.out.below (by simp))
    have u70 := (ex_cells Q7.out).1
    have u71 := (ex_cells Q7.out).2.1
    have u72 := (ex_cells Q7.out).2.2
    unfold TextAt exVal at HC
    clear hown7 hgrow7 hat7 HTX HH HT2 HQ Q7
    go_wp2_with fail
    refine HC.out.mono ?_
    rintro e w8 ⟨v8, rfl, h8⟩
    obtain ⟨ao8, cap8, rfl⟩ := h8.form
    have h9 := HP7.out.trans (by rw [List.nil_append]; exact h8)
    rw [List.nil_append] at h9
    have hl9 : (t ++ [40] ++ U.exT 0 x).length = t.length + 1 + (U.exT 0 x).length := by simp; omega
    rw [hl9] at h9 ⊢
    have HT9 := Lib.hid h9
    have hown9 := fun O => (HT9.out.alloc O).own
    have hl10 : (t ++ ([40] ++ U.exT 0 x)).length = t.length + 1 + (U.exT 0 x).length := by simp; omega
    rw [hl10] at hown9
    have HTX := Lib.hid hown9
    have hL : t.length + 1 + (U.exT 0 x).length ≤ 8388608 := by omega
    have hsz9 : N ≤ w8.heap.size := Nat.le_trans h9.base h9.grown.size
    clear HC h8 HP7 u70 u71 u72 h9 hl9 hown9 hl10 htl
    go_wp2_with (at_builtin; refine wpList_append_lies _ rfl _ _ 41 rfl N 5 iT _ 1 1 Try.underlying41 hiT hT0 hT1 hT2 rfl (by decide) _ (t.length + 1 + (U.exT 0 x).length) _ rfl (HTX.out (.cells #[.int .u8 41] 5 (0, 0))) ⟨_, 0, none⟩ 1 1 [.int .u8 41] rfl rfl ?b1 ?b2 (by decide) ?b3 ?b4 ?b5 _ rfl ?_)
    case b1 => exact cells1 (heap_alloc_new w8 (.cells #[.int .u8 41] 5 (0, 0)))
    case b2 => intro u hu; simp at hu; subst hu; rfl
    case b3 => unfold maxLen; omega
    case b4 => omega
    case b5 => simp; omega
    intro g10 cap10 w10 hown10 hgrow10 hat10 _
    have hl10 : (t ++ ([40] ++ U.exT 0 x)).length = t.length + 1 + (U.exT 0 x).length := by simp; omega
    have HP10 := Lib.hid ((HT9.out.alloc (.cells #[.int .u8 41] 5 (0, 0))).put 41 (by rw [hl10]; exact hown10) hgrow10 (hat10.imp id (fun e => by simp; omega)))
    clear hown10 hgrow10 hat10 HTX HT9
    go_wp2_with fail
    go_ret
    refine ⟨_, rfl, ?_⟩
    have h := HP10.out
    rw [show [40] ++ U.exT 0 x ++ [41] = U.encl true (U.exT 0 x) from by simp [U.encl]] at h
    exact h

end Go.Proofs.Ytfloeijklogcfaa

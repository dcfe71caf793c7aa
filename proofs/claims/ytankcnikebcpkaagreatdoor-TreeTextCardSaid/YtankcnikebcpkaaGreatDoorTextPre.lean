/- What TreeText wants beside TreeDeep's. -/
import Derived.Test.YtankcnikebcpkaaGreatDoorDeepPre
import Derived.Outline

/- Plain mathematics: the words of what is built are the texts of the tokens, where nothing hides them. -/
namespace Go.Proofs.YtankcnikebcpkaaGreatDoor
namespace U

mutual
def wdN : Nd → List UInt8 | .mk _ _ t p => t ++ wdL p
/-- the texts of nodes, one behind the other -/
def wdL : List Nd → List UInt8 | [] => [] | n :: r => wdN n ++ wdL r
end
theorem wdN_eq : ∀ (n : Nd), wdN n = n.text ++ wdL n.parts | .mk _ _ _ _ => by rw [wdN]; rfl
theorem wdL_nil : wdL [] = [] := by rw [wdL]
theorem wdL_cons (n : Nd) (r : List Nd) : wdL (n :: r) = wdN n ++ wdL r := by rw [wdL]
theorem wdL_append : ∀ (a b : List Nd), wdL (a ++ b) = wdL a ++ wdL b
  | [], b => by rw [wdL_nil]; rfl
  | n :: r, b => by rw [List.cons_append, wdL_cons, wdL_cons, wdL_append r b, List.append_assoc]
theorem wdL_one (n : Nd) : wdL [n] = wdN n := by rw [wdL_cons, wdL_nil, List.append_nil]
/-- the words of what is open, from the outside in -/
def opW : List Nd → List UInt8 | [] => [] | a :: r => opW r ++ wdN a
def Bst.body (s : Bst) : List UInt8 := wdL s.out ++ opW s.op
def Bst.told (s : Bst) : List UInt8 := s.body ++ s.tx.flatten
theorem Bst.add_body (s : Bst) (n : Nd) : (s.add n).body = s.body ++ wdN n := by
  unfold Bst.add Bst.body
  cases h : s.op with
  | nil => simp only [wdL_append, wdL_one, opW, List.append_nil]
  | cons a r => simp only [opW, wdN_eq (a.push n), wdN_eq a, Nd.push_parts, Nd.push_text, wdL_append, wdL_one, List.append_assoc]
theorem Bst.endText_told (s : Bst) : s.endText.told = s.told ∧ s.endText.body = s.told := by
  have h2 := Bst.add_body s (.mk [] [] s.tx.flatten [])
  have h4 : wdN (.mk [] [] s.tx.flatten []) = s.tx.flatten := by rw [wdN_eq]; show s.tx.flatten ++ wdL [] = _; rw [wdL_nil, List.append_nil]
  rw [h4] at h2
  unfold Bst.endText
  split
  · rename_i h
    unfold Bst.told
    rw [h]
    exact ⟨rfl, (List.append_nil _).symm⟩
  · refine ⟨?_, h2⟩
    show (s.add (.mk [] [] s.tx.flatten [])).body ++ [] = _
    rw [List.append_nil]
    exact h2
theorem Bst.pop_told (s : Bst) : s.pop.told = s.told := by
  obtain ⟨h0, h1⟩ := Bst.endText_told s
  have ht := Bst.endText_tx s
  unfold Bst.pop
  split
  · exact h0
  · rename_i a r h
    unfold Bst.told
    rw [Bst.add_body, Bst.add_tx]
    have e : (s.endText.withOp r).body ++ wdN a = s.endText.body := by
      unfold Bst.body
      rw [h]
      show wdL s.endText.out ++ opW r ++ wdN a = wdL s.endText.out ++ (opW r ++ wdN a)
      rw [List.append_assoc]
    rw [e, h1]
    show _ ++ s.endText.tx.flatten = _
    rw [ht]
    exact List.append_nil _
structure WdOk (s : Bst) : Prop where
  hid : s.hid = []
  op : ∀ a ∈ s.op, hides a.name = false
theorem WdOk.add {s : Bst} (h : WdOk s) (n : Nd) : WdOk (s.add n) := by
  refine ⟨by rw [Bst.add_hid]; exact h.hid, ?_⟩
  have ho := h.op
  unfold Bst.add
  cases hs : s.op with
  | nil => intro a ha; cases (show a ∈ ([] : List Nd) from ha)
  | cons a r =>
    rw [hs] at ho
    intro b hb
    rcases List.mem_cons.1 (show b ∈ a.push n :: r from hb) with rfl | hb
    · rw [Nd.push_name]; exact ho a (List.mem_cons_self ..)
    · exact ho b (List.mem_cons_of_mem _ hb)
theorem WdOk.endText {s : Bst} (h : WdOk s) : WdOk s.endText := by
  unfold Bst.endText
  split
  · exact h
  · have := h.add (.mk [] [] s.tx.flatten [])
    exact ⟨this.hid, this.op⟩
theorem WdOk.pop {s : Bst} (h : WdOk s) : WdOk s.pop := by
  have h1 := h.endText
  unfold Bst.pop
  split
  · exact h1
  · rename_i a r hs
    refine WdOk.add (s := s.endText.withOp r) ⟨h1.hid, fun b hb => h1.op b ?_⟩ a
    rw [hs]
    exact List.mem_cons_of_mem _ hb
theorem WdOk.popN {s : Bst} (h : WdOk s) : ∀ n, WdOk (Bst.popN n s) ∧ (Bst.popN n s).told = s.told
  | 0 => ⟨h, rfl⟩
  | n + 1 => by
    obtain ⟨h1, h2⟩ := h.popN n
    rw [Bst.popN_succ]
    exact ⟨h1.pop, by rw [Bst.pop_told, h2]⟩
theorem WdOk.closeLast {s : Bst} (h : WdOk s) (name : List UInt8) : WdOk (s.closeLast name) ∧ (s.closeLast name).told = s.told := by
  unfold Bst.closeLast
  split
  · exact ⟨h, rfl⟩
  · exact h.popN _
theorem WdOk.closeBefore {s : Bst} (h : WdOk s) (name : List UInt8) : WdOk (s.closeBefore name) ∧ (s.closeBefore name).told = s.told := by
  have hp : WdOk (s.closePar name) ∧ (s.closePar name).told = s.told := by
    unfold Bst.closePar
    split
    · exact h.closeLast _
    · exact ⟨h, rfl⟩
  unfold Bst.closeBefore
  split
  · obtain ⟨h1, h2⟩ := hp.1.closeLast [108, 105]
    exact ⟨h1, h2.trans hp.2⟩
  · exact hp
def Tk.say (t : Tk) : List UInt8 := if t.kind = 3 then t.text else []
theorem WdOk.step {s : Bst} (h : WdOk s) (t : Tk) (hn : t.kind = 1 → hides t.name = false) : WdOk (s.step t) ∧ (s.step t).told = s.told ++ t.say := by
  have hw : wdN (.mk t.name t.attrs [] []) = [] := by rw [wdN_eq]; show [] ++ wdL [] = []; rw [wdL_nil]; rfl
  unfold Bst.step Tk.say
  split
  · rename_i hk
    have hh := hn hk
    rw [if_neg (by omega), List.append_nil]
    obtain ⟨b1, b2⟩ := WdOk.closeBefore (s := ⟨s.out, s.op, s.tx, s.cnt, []⟩) ⟨rfl, h.op⟩ t.name
    have b3 : (Bst.closeBefore ⟨s.out, s.op, s.tx, s.cnt, []⟩ t.name).told = s.told := b2
    unfold Bst.start Bst.start1
    split
    · rw [if_neg (by rw [hh]; simp)]
      exact ⟨b1, b3⟩
    · have e1 := b1.endText
      obtain ⟨e2, e3⟩ := Bst.endText_told (Bst.closeBefore ⟨s.out, s.op, s.tx, s.cnt, []⟩ t.name)
      have e4 := Bst.endText_tx (Bst.closeBefore ⟨s.out, s.op, s.tx, s.cnt, []⟩ t.name)
      unfold Bst.start2
      split
      · refine ⟨WdOk.add (s := (Bst.closeBefore ⟨s.out, s.op, s.tx, s.cnt, []⟩ t.name).endText.more) ⟨e1.hid, e1.op⟩ _, ?_⟩
        unfold Bst.told
        rw [Bst.add_body, Bst.add_tx, hw, List.append_nil]
        show (Bst.closeBefore ⟨s.out, s.op, s.tx, s.cnt, []⟩ t.name).endText.told = _
        exact e2.trans b3
      · refine ⟨⟨e1.hid, fun a ha => ?_⟩, ?_⟩
        · rcases List.mem_cons.1 ha with rfl | ha
          · exact hh
          · exact e1.op a ha
        · show wdL (Bst.closeBefore ⟨s.out, s.op, s.tx, s.cnt, []⟩ t.name).endText.out ++ (opW (Bst.closeBefore ⟨s.out, s.op, s.tx, s.cnt, []⟩ t.name).endText.op ++ wdN (.mk t.name t.attrs [] [])) ++ (Bst.closeBefore ⟨s.out, s.op, s.tx, s.cnt, []⟩ t.name).endText.tx.flatten = _
          rw [hw, List.append_nil]
          exact e2.trans b3
  split
  · rw [if_neg (by omega), List.append_nil]
    unfold Bst.ends
    rw [h.hid]
    split
    · obtain ⟨h1, h2⟩ := WdOk.closeLast (s := ⟨s.out, s.op, s.tx, s.cnt, []⟩) ⟨rfl, h.op⟩ t.name
      exact ⟨h1, h2⟩
    · exact h.closeLast _
  split
  · have hm : s.muted = false := by
      unfold Bst.muted
      split
      · rfl
      · rename_i a r hs
        exact h.op a (by rw [hs]; exact List.mem_cons_self ..)
    unfold Bst.chars
    split
    · rename_i hc
      rcases hc with hc | hc | hc
      · rw [hc, List.append_nil]; exact ⟨h, rfl⟩
      · exact absurd h.hid hc
      · rw [hm] at hc; cases hc
    · refine ⟨⟨h.hid, h.op⟩, ?_⟩
      show s.body ++ (s.tx ++ [t.text]).flatten = s.body ++ s.tx.flatten ++ t.text
      simp
  · rw [List.append_nil]
    exact ⟨h, rfl⟩
theorem WdOk.run : ∀ (l : List Tk) (s : Bst), WdOk s → (∀ t ∈ l, t.kind = 1 → hides t.name = false) → (s.run l).2 = 0 → wdL (s.run l).1 = s.told ++ (l.map Tk.say).flatten
  | [], s, h, _, _ => by
    obtain ⟨h1, h2⟩ := h.popN (s.op.length - 0)
    have h3 := (Bst.endText_told (s.closeFrom 0)).2
    have h4 : (s.closeFrom 0).endText.op = [] := by
      have e := Bst.endText_op (s.closeFrom 0)
      have e2 : (s.closeFrom 0).op.length = s.op.length - (s.op.length - 0) := Bst.popN_op _ _
      exact List.eq_nil_of_length_eq_zero (by omega)
    show wdL (s.closeFrom 0).endText.out = _
    unfold Bst.body at h3
    rw [h4] at h3
    have h5 : (s.closeFrom 0).told = s.told := h2
    simp only [opW, List.append_nil] at h3
    rw [h3, h5]
    simp
  | t :: r, s, h, hn, h0 => by
    rw [Bst.run] at h0 ⊢
    split at h0
    · rename_i he
      rw [if_pos he]
      have hs : WdOk (s.stepE t).1 ∧ (s.stepE t).1.told = s.told ++ t.say := by
        unfold Bst.stepE at he ⊢
        split at he
        · rename_i hk
          rw [if_pos hk]
          exact h.step t (hn t (List.mem_cons_self ..))
        · cases he
      rw [WdOk.run r _ hs.1 (fun x hx => hn x (List.mem_cons_of_mem _ hx)) h0, hs.2]
      simp
    · rename_i he
      exact absurd h0 he
theorem build_words (l : List Tk) (hn : ∀ t ∈ l, t.kind = 1 → hides t.name = false) (h0 : (build l).2 = 0) : wdL (build l).1 = (l.map Tk.say).flatten := by
  unfold build at h0 ⊢
  split at h0
  · cases h0
  · rename_i h
    rw [if_neg h, WdOk.run l Bst.new ⟨rfl, fun a ha => by cases ha⟩ hn h0]
    show wdL [] ++ opW [] ++ [] ++ _ = _
    rw [wdL_nil]
    rfl

end U
end Go.Proofs.YtankcnikebcpkaaGreatDoor

/- Plain mathematics: a text with no t in it has no script and no style. -/
namespace Go.Proofs.YtankcnikebcpkaaGreatDoor
namespace U

/-- no t, no T -/
def noT (l : List UInt8) : Prop := ∀ b ∈ l, b ≠ 116 ∧ b ≠ 84
theorem noT_suffix {a b : List UInt8} (h : a <:+ b) (hb : noT b) : noT a := fun x hx => hb x (h.subset hx)
theorem noT_low {l : List UInt8} (h : noT l) : 116 ∉ low l := by
  intro hm
  obtain ⟨b, hb, e⟩ := List.mem_map.1 hm
  obtain ⟨h1, h2⟩ := h b hb
  unfold low1 at e
  split at e
  · rename_i hc
    have e2 := congrArg UInt8.toNat e
    rw [UInt8.toNat_ofNat'] at e2
    have : b.toNat = 84 := by
      have h3 : (116 : UInt8).toNat = 116 := rfl
      rw [h3] at e2
      omega
    exact h2 (UInt8.toNat_inj.1 this)
  · exact h1 e
theorem tname_in {c : UInt8} {r t : List UInt8} {s : St} (h : runM st0 (c :: r) = some (s, t)) : ∀ b ∈ s.tname, b ∈ c :: r := by
  unfold st0 at h
  rw [run_name] at h
  have e := runM_tname _ _ (by simp) h
  rw [e]
  intro b hb
  exact (List.takeWhile_prefix (p := nameB) (l := c :: r)).subset (by simpa using hb)
def calm (t : Tok) : Prop := t.kind = 1 → 116 ∉ t.name
theorem calm_chars (txt : List UInt8) : ∀ t ∈ chars txt, calm t := by
  intro t ht
  unfold chars at ht
  split at ht
  · cases ht
  · obtain rfl := List.mem_singleton.1 ht; exact fun hk => absurd (show (3 : Nat) = 1 from hk) (by decide)
theorem calm_raw (n raw : List UInt8) : ∀ t ∈ rawToks n raw, calm t := by
  intro t ht
  unfold rawToks at ht
  split at ht
  · cases ht
  · obtain rfl := List.mem_singleton.1 ht; exact fun hk => absurd (show (3 : Nat) = 1 from hk) (by decide)
theorem toksT_calm : ∀ (m : Nat) (l txt : List UInt8), l.length ≤ m → noT l → ∀ t ∈ toksT txt l, calm t
  | 0, l, txt, hm, hno => by
    obtain rfl : l = [] := List.eq_nil_of_length_eq_zero (by omega)
    intro t ht
    rw [toksT_nil] at ht
    exact calm_chars _ t ht
  | m + 1, [], txt, hm, hno => by
    intro t ht
    rw [toksT_nil] at ht
    exact calm_chars _ t ht
  | m + 1, b :: r, txt, hm, hno => by
    have hr : r.length ≤ m := by simpa using hm
    by_cases h3 : kindOf (b :: r) = 3
    · rw [toksT_text txt rfl (item_text h3)]
      exact toksT_calm m r _ hr (noT_suffix (List.suffix_cons b r) hno)
    · rw [toksT_flush txt (.inr (item_notext h3))]
      intro t ht
      rcases List.mem_append.1 ht with ht | ht
      · exact calm_chars _ t ht
      have one : ∀ rest : List UInt8, rest.length < (b :: r).length → rest <:+ b :: r → t ∈ toksT [] rest → calm t := by
        intro rest hl hs h
        exact toksT_calm m rest [] (by rw [List.length_cons] at hl; omega) (noT_suffix hs hno) t h
      rcases kindOf_cases (b :: r) with h | h | h | h
      · obtain ⟨c, u, e1, ha, he⟩ := item_start h
        unfold startI at he
        cases hru : runM st0 (c :: u) with
        | none => rw [hru] at he; rw [toksT_stop he] at ht; cases ht
        | some x =>
          obtain ⟨st, rest⟩ := x
          rw [hru] at he
          have hsh := item_shorter.2.2 _ _ _ _ he
          have hle := rawText_le (low st.tname) rest
          have hsf : rest <:+ b :: r := by
            rw [e1]
            exact (runM_suffix _ _ hru).trans (List.suffix_cons _ _)
          have hnu : noT (c :: u) := noT_suffix (by rw [e1]; exact List.suffix_cons _ _) hno
          rw [toksT_start he] at ht
          rcases List.mem_cons.1 ht with rfl | ht
          · exact fun _ => noT_low fun x hx => hnu x (tname_in hru x hx)
          · split at ht
            · rcases List.mem_append.1 ht with ht | ht
              · exact calm_raw _ _ t ht
              · exact one _ (by omega) ((rawText_suffix _ _).trans hsf) ht
            · exact one _ hsh hsf ht
      · obtain ⟨c, u, e1, ha, he⟩ := item_end h
        unfold closeI at he
        cases hru : runM st0 (c :: u) with
        | none => rw [hru] at he; rw [toksT_stop he] at ht; cases ht
        | some x =>
          obtain ⟨st, rest⟩ := x
          rw [hru] at he
          have hsh := item_shorter.2.1 _ _ he
          rw [toksT_close he] at ht
          rcases List.mem_cons.1 ht with rfl | ht
          · exact fun hk => absurd (show (2 : Nat) = 1 from hk) (by decide)
          · refine one _ hsh ?_ ht
            rw [e1]
            exact (runM_suffix _ _ hru).trans ((List.suffix_cons _ _).trans (List.suffix_cons _ _))
      · exact absurd h h3
      · obtain ⟨find, u, he, hu⟩ : ∃ find u, item (b :: r) = markI find u ∧ u <:+ b :: r := by
          rcases item_mark h with ⟨_, e⟩ | ⟨_, _, e⟩ | ⟨_, _, e⟩ <;> exact ⟨_, _, e, List.drop_suffix _ _⟩
        have hsh := item_shorter.1 _ _ he
        rw [toksT_mark he] at ht
        rcases List.mem_cons.1 ht with rfl | ht
        · intro hk
          rw [mark_kind] at hk
          cases hk
        · exact one _ hsh ((remark_suffix find u).trans hu) ht
theorem toks_calm {l : List UInt8} (h : noT l) : ∀ t ∈ toks l, t.kind = 1 → hides t.name = false := by
  intro t ht hk
  have hn := toksT_calm l.length l [] (Nat.le_refl _) h t ht hk
  cases hh : hides t.name with
  | false => rfl
  | true =>
    exfalso
    unfold hides at hh
    simp only [Bool.or_eq_true, beq_iff_eq] at hh
    rcases hh with e | e <;> rw [e] at hn <;> exact hn (by decide)

end U
end Go.Proofs.YtankcnikebcpkaaGreatDoor

/- words: the texts of nodes, one behind the other. -/
namespace Go.Proofs.YtankcnikebcpkaaGreatDoor
open Go.RowKit

theorem wdL_take {l : List U.Nd} {k : Nat} {n : U.Nd} (h : l[k]? = some n) : U.wdL (l.take (k + 1)) = U.wdL (l.take k) ++ U.wdN n := by
  obtain ⟨hi, e⟩ := List.getElem?_eq_some_iff.1 h
  rw [List.take_succ_eq_append_getElem hi, e, U.wdL_append, U.wdL_one]

theorem wdL_parts {l : List U.Nd} {k : Nat} {n : U.Nd} (h : l[k]? = some n) : (U.wdL (l.take k)).length + n.text.length + (U.wdL n.parts).length ≤ (U.wdL l).length := by
  have h1 := wdL_take h
  have h2 : U.wdL l = U.wdL (l.take (k + 1)) ++ U.wdL (l.drop (k + 1)) := by rw [← U.wdL_append, List.take_append_drop]
  rw [h2, h1, U.wdN_eq]
  simp only [List.length_append]
  omega

set_option maxHeartbeats 8000000 in
set_option maxRecDepth 1000000 in
theorem words_walk (c : Nat) : ∀ (l : List U.Nd), U.cntL l ≤ c → (U.wdL l).length ≤ 1048576 → ∀ (v : Value) (w : World), RdNs w (· < w.heap.size) v l →
    Calls Tryz.prog 15 #[v] w fun e w' => ∃ X : ByteArray, e = .returned (.string X) ∧ X.data.toList = U.wdL l ∧ Below w.heap.size w w' := by
  induction c using Nat.strongRecOn with
  | _ c ih =>
  intro l hlc hlw v w hR
  have hR0 := hR
  obtain ⟨ao, cap, rfl, hcl, hcm, _⟩ := hR0
  have hlm : l.length ≤ 9223372036854775807 := Nat.le_trans (Nat.le_trans hcl hcm) (by decide)
  have HR := Lib.hid hR
  have IH := Lib.hid ih
  clear ih hR hcl hcm
  go_enter Tryz.func15, Tryz.ntmps15
  go_wp2_with fail
  go_loopw [3, 4] (fun t i wr => ∃ (k : Nat) (T : ByteArray), k ≤ l.length ∧ i = .int .i64 k ∧ t = .string T ∧ Hid (T.data.toList = U.wdL (l.take k)) ∧ Below w.heap.size w wr) (fun _ i _ => l.length - (intOf i).toNat)
  case atStart => exact ⟨0, ⟨#[]⟩, Nat.zero_le _, rfl, rfl, by rw [List.take_zero, U.wdL_nil]; exact Lib.hid rfl, Below.refl _ _⟩
  case round =>
    obtain ⟨k, T, hk, rfl, rfl, HT, hbw⟩ := hrel
    have hbs := hbw.size
    by_cases hlt : k < l.length
    · have hx := List.getElem?_eq_getElem hlt
      generalize l[k]'hlt = n at hx
      obtain ⟨g, o, cap2, e0, hg, hn⟩ := (RdNs.below HR.out hbw hbs).get hx
      injection e0 with e1 e2 e3
      subst e1
      obtain ⟨av, pv, c0, c1, c2, c3, hA, hP⟩ := (rdNd_iff n g _).1 hn
      obtain ⟨pa, pcap, rfl⟩ : ∃ pa pcap, pv = .slice pa n.parts.length pcap := by obtain ⟨a, b, e, _⟩ := hP; exact ⟨a, b, e⟩
      have hge := U.cntL_get hx
      have hne := U.cntN_eq n
      have hwp := wdL_parts hx
      have hts : T.size = (U.wdL (l.take k)).length := by rw [← HT.out, Array.length_toList]; rfl
      have HC := Lib.hid (fun (W : World) (hb : Below wr.heap.size wr W) => IH.out (U.cntL n.parts) (by omega) n.parts (Nat.le_refl _) (by omega) _ W (RdNs.below hP hb hb.size))
      have HTK := Lib.hid (wdL_take hx)
      have HN := Lib.hid (U.wdN_eq n)
      have HCC := Lib.hid (fun (W : World) (hb : Below wr.heap.size wr W) => (hb.cell (p := ⟨g, o + k * 4 + 2, none⟩) hg).trans c2)
      have hk0 : (0 : Int) ≤ (k : Int) := by omega
      have hk1 : (k : Int) < (l.length : Int) := by omega
      clear c0 c1 hn hA hP hge hne e2 e3 hx
      go_wp2_with fail
      go_region_with (go_at_call 15; refine (HC.out _ (Below.refl _ wr).drew).mono ?_; rintro e w5 ⟨X, rfl, hX, hb5⟩; have HX := Lib.hid hX; have hxs : X.size = (U.wdL n.parts).length := (by rw [← hX, Array.length_toList]; rfl); clear hX; have v0 := HCC.out w5 ((Below.refl _ wr).drew.trans hb5); have n1 : ¬ 9223372036854775807 < n.text.length + X.size := (by omega); have n2 : ¬ 9223372036854775807 < T.size + (n.text.length + X.size) := (by omega))
      all_goals
        have hb7 : Below w.heap.size w w5 := hbw.drew.trans (hb5.mono hbs)
        have hT2 : Hid ((T ++ (ByteArray.mk n.text.toArray ++ X)).data.toList = U.wdL (l.take (k + 1))) := Lib.hid (by rw [HTK.out, HN.out, ← HX.out, ← HT.out]; simp [ByteArray.data_append, Array.toList_append])
        clear hb5
        go_wp2_with fail
        go_roundw
        case rel => exact ⟨k + 1, _, by omega, by go_num, rfl, hT2, hb7⟩
        case measure => simp [intOf]; omega
    · obtain rfl : k = l.length := by omega
      have HZ := Lib.hid (show T.data.toList = U.wdL l by have := HT.out; rwa [List.take_length] at this)
      have hz : ¬ (l.length : Int) < (l.length : Int) := by omega
      go_wp2_with fail
      go_ret
      exact ⟨T, rfl, HZ.out, hbw⟩

end Go.Proofs.YtankcnikebcpkaaGreatDoor

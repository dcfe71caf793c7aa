/- Several texts in one: Tag, ParW, Chars. -/
import Derived.Outline
import Derived.Deep.AppendLies
import Derived.Handy
import Derived.Test.YtankcnikebcpkaaGreatDoorP23
namespace Go.Proofs.YtankcnikebcpkaaGreatDoor
open Go.RowKit

theorem name_set : (fun b => !([32, 9, 10, 12, 47, 62] : List UInt8).contains b) = U.nameB := by
  funext b
  rw [Bool.eq_iff_iff]
  simp [U.nameB, U.endsName, U.isSp, and_assoc]
theorem gap_set : (fun b => ([32, 9, 10, 12, 47] : List UInt8).contains b) = U.gapB := by
  funext b
  rw [Bool.eq_iff_iff]
  simp [U.gapB, U.isSp, or_assoc]
theorem Took.name {w w' : World} {bp : Nat} {r : ByteArray} {v : Value} {e : Ending} (h : Took w w' bp r v (fun b => !([32, 9, 10, 12, 47, 62] : List UInt8).contains b) e) : Took w w' bp r v U.nameB e := by rw [← name_set]; exact h
theorem Took.gap {w w' : World} {bp : Nat} {r : ByteArray} {v : Value} {e : Ending} (h : Took w w' bp r v (fun b => ([32, 9, 10, 12, 47] : List UInt8).contains b) e) : Took w w' bp r v U.gapB e := by rw [← gap_set]; exact h
theorem until_name (w : World) (bp : Nat) (r : ByteArray) (v : Value) (h : w.heap[bp]? = some (parBlock r v)) (hr : r.size ≤ 1048576) :
    Calls Tryz.prog 57 #[.pointer (some ⟨bp, 0, none⟩), .string ⟨#[32, 9, 10, 12, 47, 62]⟩] w fun e w' => Took w w' bp r v U.nameB e :=
  (until_walk ⟨#[32, 9, 10, 12, 47, 62]⟩ w bp r v h hr (by decide) (by decide) (by decide)).mono fun _ _ h => Took.name h
theorem skip_gap (w : World) (bp : Nat) (r : ByteArray) (v : Value) (h : w.heap[bp]? = some (parBlock r v)) (hr : r.size ≤ 1048576) :
    Calls Tryz.prog 58 #[.pointer (some ⟨bp, 0, none⟩), .string ⟨#[32, 9, 10, 12, 47]⟩] w fun e w' => Took w w' bp r v U.gapB e :=
  (skip_walk ⟨#[32, 9, 10, 12, 47]⟩ w bp r v h hr (by decide) (by decide)).mono fun _ _ h => Took.gap h

/-- a token's block -/
abbrev tokCells5 (n : List UInt8) (av : Value) (sl : Bool) : Obj := .cells #[.int .i64 0, .string ⟨n.toArray⟩, av, .bool sl, .string ⟨#[]⟩] 33 (0, 0)
/-- a tag is read, or it does not end -/
def Tagged (w w' : World) (bp : Nat) (r : ByteArray) (v : Value) (e : Ending) : Prop := match U.runM U.st0 r.data.toList with
  | none => ∃ r' : ByteArray, e = .returned (.tuple #[.agg #[.int .i64 0, .string ⟨#[]⟩, .slice none 0 0, .bool false, .string ⟨#[]⟩], .bool false]) ∧ Reads w w' bp r' v ∧ r'.size = 0
  | some (s, t) => ∃ (av : Value) (r' : ByteArray), e = .returned (.tuple #[.agg #[.int .i64 0, .string ⟨(U.low s.tname).toArray⟩, av, .bool s.slash, .string ⟨#[]⟩], .bool true]) ∧ Reads w w' bp r' v ∧ r'.data.toList = t ∧
      w'.ownsRow w.heap.size 52 2 av (U.firsts [] s.all).length (attCells (U.firsts [] s.all)) ∧ (U.firsts [] s.all).length ≤ r.size

/-- while the tag is read -/
structure TagL (w wr : World) (bp q : Nat) (r1 : ByteArray) (v : Value) (N : List UInt8) (av : Value) (al : List U.Att) : Prop where
  reads : Reads w wr bp r1 v
  tok : wr.heap[q]? = some (tokCells5 N av false)
  res : wr.heap[w.heap.size]? = some (tokCells5 [] (.slice none 0 0) false)
  row : wr.ownsRow (q + 1) 52 2 av al.length (attCells al)
  q0 : w.heap.size < q
  bp0 : bp < w.heap.size
  size : q + 1 ≤ wr.heap.size
theorem TagL.step {w wr w2 : World} {bp q : Nat} {r1 r2 : ByteArray} {v : Value} {N : List UInt8} {av : Value} {al : List U.Att} (h : TagL w wr bp q r1 v N av al) (hR : Reads wr w2 bp r2 v) : TagL w w2 bp q r2 v N av al := by
  have h1 := h.q0
  have h2 := h.bp0
  refine ⟨h.reads.trans hR, hR.box h.tok (by omega), hR.box h.res (by omega), h.row.kept (row := some bp) hR.grown ?_, h1, h2, Nat.le_trans h.size hR.grown.size⟩
  cases hv : av.ownBlock with
  | none => exact .inl rfl
  | some g =>
    right
    intro e
    have := (h.row.lt g hv).1
    injection e with e
    omega
theorem TagL.later {w wr w2 : World} {bp q : Nat} {r1 : ByteArray} {v : Value} {N : List UInt8} {av : Value} {al : List U.Att} (h : TagL w wr bp q r1 v N av al) (hb : Below wr.heap.size wr w2) : TagL w w2 bp q r1 v N av al :=
  h.step ((Reads.start h.reads.par).later hb)
theorem TagL.cells {w wr : World} {bp q : Nat} {r1 : ByteArray} {v : Value} {N : List UInt8} {av : Value} {al : List U.Att} (h : TagL w wr bp q r1 v N av al) :
    wr.cell? ⟨q, 0, none⟩ = some (.int .i64 0) ∧ wr.cell? ⟨q, 1, none⟩ = some (.string ⟨N.toArray⟩) ∧ wr.cell? ⟨q, 2, none⟩ = some av ∧ wr.cell? ⟨q, 3, none⟩ = some (.bool false) ∧ wr.cell? ⟨q, 4, none⟩ = some (.string ⟨#[]⟩) ∧ wr.frozen? ⟨q, 2, none⟩ = false ∧ wr.frozen? ⟨q, 3, none⟩ = false :=
  ⟨by rw [Lib.cell_of_heap h.tok]; rfl, by rw [Lib.cell_of_heap h.tok]; rfl, by rw [Lib.cell_of_heap h.tok]; rfl, by rw [Lib.cell_of_heap h.tok]; rfl, by rw [Lib.cell_of_heap h.tok]; rfl, Lib.frozen_of_heap h.tok 2, Lib.frozen_of_heap h.tok 3⟩
theorem res_cells {w : World} {n : Nat} {N : List UInt8} {av : Value} {sl : Bool} (h : w.heap[n]? = some (tokCells5 N av sl)) :
    w.cell? ⟨n, 0, none⟩ = some (.int .i64 0) ∧ w.cell? ⟨n, 1, none⟩ = some (.string ⟨N.toArray⟩) ∧ w.cell? ⟨n, 2, none⟩ = some av ∧ w.cell? ⟨n, 3, none⟩ = some (.bool sl) ∧ w.cell? ⟨n, 4, none⟩ = some (.string ⟨#[]⟩) ∧
      w.frozen? ⟨n, 0, none⟩ = false ∧ w.frozen? ⟨n, 1, none⟩ = false ∧ w.frozen? ⟨n, 2, none⟩ = false ∧ w.frozen? ⟨n, 3, none⟩ = false ∧ w.frozen? ⟨n, 4, none⟩ = false :=
  ⟨by rw [Lib.cell_of_heap h]; rfl, by rw [Lib.cell_of_heap h]; rfl, by rw [Lib.cell_of_heap h]; rfl, by rw [Lib.cell_of_heap h]; rfl, by rw [Lib.cell_of_heap h]; rfl, Lib.frozen_of_heap h 0, Lib.frozen_of_heap h 1, Lib.frozen_of_heap h 2, Lib.frozen_of_heap h 3, Lib.frozen_of_heap h 4⟩
/-- a token is laid into a variable -/
abbrev fill5 (w : World) (n : Nat) (N : List UInt8) (av : Value) (sl : Bool) : World := ((((w.setCell ⟨n, 0, none⟩ (.int .i64 0)).setCell ⟨n, 1, none⟩ (.string ⟨N.toArray⟩)).setCell ⟨n, 2, none⟩ av).setCell ⟨n, 3, none⟩ (.bool sl)).setCell ⟨n, 4, none⟩ (.string ⟨#[]⟩)
theorem fill5_heap {w : World} {n : Nat} {N0 : List UInt8} {av0 : Value} {sl0 : Bool} (h : w.heap[n]? = some (tokCells5 N0 av0 sl0)) (N : List UInt8) (av : Value) (sl : Bool) : (fill5 w n N av sl).heap[n]? = some (tokCells5 N av sl) := by
  simp [fill5, World.setCell, Array.getElem?_modify, h, tokCells5]
theorem fill5_reads {z w : World} {bp n : Nat} {r : ByteArray} {v : Value} (h : Reads z w bp r v) (hz : z.heap.size ≤ n) (hne : n ≠ bp) (N : List UInt8) (av : Value) (sl : Bool) : Reads z (fill5 w n N av sl) bp r v :=
  ((((h.other hz hne 0 _).other hz hne 1 _).other hz hne 2 _).other hz hne 3 _).other hz hne 4 _
theorem fill5_row {w : World} {B n : Nat} {e : TypeId} {z k : Nat} {u : Value} {xs : List Value} (h : w.ownsRow B e z u k xs) (hn : n < B) (N : List UInt8) (av : Value) (sl : Bool) : (fill5 w n N av sl).ownsRow B e z u k xs :=
  ownsRow_setCell_below (ownsRow_setCell_below (ownsRow_setCell_below (ownsRow_setCell_below (ownsRow_setCell_below h (a := ⟨n, 0, none⟩) hn _) (a := ⟨n, 1, none⟩) hn _) (a := ⟨n, 2, none⟩) hn _) (a := ⟨n, 3, none⟩) hn _) (a := ⟨n, 4, none⟩) hn _
/-- an attribute more -/
theorem TagL.put {w wr w2 : World} {bp q : Nat} {r1 : ByteArray} {v : Value} {N : List UInt8} {av v2 : Value} {al al2 : List U.Att} (h : TagL w wr bp q r1 v N av al) (ho : w2.ownsRow (q + 1) 52 2 v2 al2.length (attCells al2)) (hg : wr.grownBy w2 av.ownBlock) :
    TagL w (w2.setCell ⟨q, 2, none⟩ v2) bp q r1 v N v2 al2 ∧ w2.cell? ⟨q, 2, none⟩ = some av ∧ w2.frozen? ⟨q, 2, none⟩ = false := by
  have h1 := h.q0
  have h2 := h.bp0
  have h3 := h.size
  have hlt : ∀ k, av.ownBlock = some k → q + 1 ≤ k := fun k hk => (h.row.lt k hk).1
  have hR := h.reads
  have hpar := (hg.block bp (lt_of_heap hR.par) (fun e => by have := hlt _ e.symm; omega)).trans hR.par
  have htok := (hg.block q (lt_of_heap h.tok) (fun e => by have := hlt _ e.symm; omega)).trans h.tok
  have hres := (hg.block w.heap.size (lt_of_heap h.res) (fun e => by have := hlt _ e.symm; omega)).trans h.res
  refine ⟨⟨⟨(Below.heap_setCell _ _ _ _ (by show bp ≠ q; omega)).trans hpar, ?_⟩, ?_, (Below.heap_setCell _ _ _ _ (by show w.heap.size ≠ q; omega)).trans hres, ownsRow_setCell_below ho (a := ⟨q, 2, none⟩) (Nat.lt_succ_self _) _, h1, h2, ?_⟩, by rw [Lib.cell_of_heap htok]; rfl, Lib.frozen_of_heap htok 2⟩
  · have hq := hR.grown
    have hs := hg.size
    have hs2 := hq.size
    exact ⟨hg.os.trans hq.os, hg.tape.trans hq.tape, hg.output.trans hq.output, by simp [World.setCell]; omega, fun j hj hj2 => (Below.heap_setCell _ _ _ _ (by show j ≠ q; omega)).trans ((hg.block j (by omega) (fun e => by have := hlt _ e.symm; omega)).trans (hq.block j hj hj2))⟩
  · simp [World.setCell, Array.getElem?_modify, htok]
  · have := hg.size
    simp [World.setCell]
    omega

set_option maxHeartbeats 8000000 in
set_option maxRecDepth 100000 in
theorem read_tag (w : World) (bp : Nat) (r : ByteArray) (v : Value) (h : w.heap[bp]? = some (parBlock r v)) (hr : r.size ≤ 1048576) (hG : Glob w) (hF : Far bp) :
    Calls Tryz.prog 37 #[.pointer (some ⟨bp, 0, none⟩)] w fun e w' => Tagged w w' bp r v e := by
  obtain ⟨c0, c1, f0, f1⟩ := par_cells h
  have hRa := (Reads.start h).alloc (tokCells5 [] (.slice none 0 0) false)
  have hba : (w.alloc (tokCells5 [] (.slice none 0 0) false)).heap[w.heap.size]? = _ := heap_alloc_new w _
  have hne : w.heap.size ≠ bp := Nat.ne_of_gt (lt_of_heap h)
  go_enter Tryz.func37, Tryz.ntmps37
  go_wp2_with (first
    | (refine (until_name _ bp _ v hRa.par (by omega)).mono ?_; rintro e w3 ⟨n2, r2, rfl, hR2, hn2, hr2, hs2⟩; have hb2 := hR2.box hba hne; have Hn2 := Lib.hid hn2; have Hr2 := Lib.hid hr2; clear hn2 hr2)
    | (refine (lower_walk _ _ (by omega)).mono ?_; rintro e w4 ⟨rfl, b4⟩; have hb4 := box_below hb2 b4; have hR4 := ((hRa.trans hR2).later b4); generalize hN : U.low n2.data.toList = N; have HN := Lib.hid hN; clear hN))
  have hT0 : TagL w (w4.alloc (tokCells5 N (.slice none 0 0) false)) bp w4.heap.size r2 v N (.slice none 0 0) [] := by
    have hlw := lt_of_heap hb4
    exact ⟨hR4.alloc _, heap_alloc_new w4 _, (Lib.alloc_old _ _ _ hlw).trans hb4, World.ownsRow_nil _ _ _ _, hlw, lt_of_heap h, by simp⟩
  have hq0 := hT0.q0
  generalize w4.alloc (tokCells5 N (.slice none 0 0) false) = w5 at *
  generalize w4.heap.size = q at *
  have hrun0 : U.runM U.st0 r.data.toList = U.runM ⟨1, n2.data.toList, [], [], 0, false, []⟩ r2.data.toList := by
    rw [Hr2.out, Hn2.out]
    exact U.run_name _ _ _ _ _ _ _
  have HR0 := Lib.hid hrun0
  clear hrun0 hb2 hb4 hR2 hRa hba hR4 b4
  go_loopw [5] (fun _ wr => ∃ (r1 : ByteArray) (av : Value) (all : List U.Att) (nm vl : List UInt8) (qu : UInt8), TagL w wr bp q r1 v N av (U.firsts [] all) ∧ Hid (U.runM U.st0 r.data.toList = U.runM ⟨1, n2.data.toList, nm, vl, qu, false, all⟩ r1.data.toList) ∧ all.length + r1.size ≤ r.size) (fun _ wr => strSize ((wr.cell? ⟨bp, 0, none⟩).getD undef))
  case atStart => exact ⟨r2, _, [], [], [], 0, hT0, HR0.out, by simp; omega⟩
  case round =>
    obtain ⟨r1, av, all, nm, vl, qu, hT, hrun, hlen⟩ := hrel
    have hfl := firsts_le all []
    rw [List.length_nil, Nat.zero_add] at hfl
    obtain ⟨ao, cap, rfl⟩ := own_form hT.row
    cases hd : r1.data.toList.dropWhile U.gapB with
    | nil =>
      have HD := Lib.hid hd
      clear hd
      have hnone : U.runM U.st0 r.data.toList = none := by rw [hrun.out, U.run_gap, HD.out]; rfl
      have HNO := Lib.hid hnone
      clear hnone hrun HR0
      go_wp2_with (refine (skip_gap _ bp _ v hT.reads.par (by omega)).mono ?_; rintro e w6 ⟨n6, r6, rfl, hR6, hn6, hr6, hs6⟩; have hT6 := hT.step hR6; have h60 : r6.size = 0 := (by rw [← len_list, hr6, HD.out]; rfl); clear hn6 hr6; obtain ⟨k0, k1, k2, k3⟩ := par_cells hT6.reads.par; have hem := empty_of h60; have hr0 := res_cells hT6.res; obtain ⟨x0, x1, x2, x3, x4, y0, y1, y2, y3, y4⟩ := hr0)
      have hff := fill5_heap hT6.res [] (.slice none 0 0) false
      have hRf := fill5_reads hT6.reads (Nat.le_refl _) hne [] (.slice none 0 0) false
      obtain ⟨z0, z1, z2, z3, z4, _⟩ := res_cells hff
      change bodyPost _ _ _ _ _ (fill5 w6 w.heap.size [] (.slice none 0 0) false)
      generalize fill5 w6 w.heap.size [] (.slice none 0 0) false = wf at *
      refine bodyPost_ret (v := .tuple #[.agg #[.int .i64 0, .string ⟨#[]⟩, .slice none 0 0, .bool false, .string ⟨#[]⟩], .bool false]) (by simp [results, Tryz.results37, go_sem, z0, z1, z2, z3, z4]) rfl ?_
      unfold Tagged
      rw [HNO.out]
      exact ⟨r6, rfl, hRf, h60⟩
    | cons b l =>
      have hg := U.drop_not _ _ hd
      by_cases h62 : b = 62
      · subst h62
        have HD := Lib.hid hd
        clear hd
        have hsome : U.runM U.st0 r.data.toList = some (⟨1, n2.data.toList, nm, vl, qu, U.slashOf false (r1.data.toList.takeWhile U.gapB), all⟩, l) := by rw [hrun.out, U.run_gap, HD.out, U.run_close]
        have HSO := Lib.hid hsome
        clear hsome hrun HR0 hg
        go_wp2_with (first
          | (refine (skip_gap _ bp _ v hT.reads.par (by omega)).mono ?_; rintro e w6 ⟨n6, r6, rfl, hR6, hn6, hr6, hs6⟩; have hT6 := hT.step hR6; have Hn6 := Lib.hid hn6; have Hr6 := Lib.hid (hr6.trans HD.out); clear hn6 hr6; have h60 : 0 < r6.size := (by rw [← len_list, Hr6.out, List.length_cons]; omega); obtain ⟨k0, k1, k2, k3⟩ := par_cells hT6.reads.par; have hem := empty_not h60; have e62 : (((r6[0]'h60).toNat : Int) == 62) = true := beq_yes (by have := list_one h60; rw [Hr6.out] at this; injection this with this _; rw [← this]; rfl))
          | (refine (take_walk _ bp 1 r6 v hT6.reads.par h60).mono ?_; rintro e w7 ⟨rfl, hR7⟩; have hT7 := hT6.step hR7; obtain ⟨t0, t1, t2, t3, t4, t5, t6⟩ := hT7.cells; obtain ⟨x0, x1, x2, x3, x4, y0, y1, y2, y3, y4⟩ := res_cells hT7.res)
          | (refine (Tryz.strings_HasSuffix _ _ _ (by omega)).mono ?_; rintro e w8 ⟨rfl, rfl⟩))
        have HQ : w8.heap[q]? = some (tokCells5 N (.slice ao (U.firsts [] all).length cap) false) := hT7.tok
        have hSl : (Lib.hasSuffix n6.data.toList [47]) = U.slashOf false (r1.data.toList.takeWhile U.gapB) := by rw [Hn6.out, U.slashOf_suffix]; rfl
        have HSL := Lib.hid hSl
        clear hSl
        generalize Lib.hasSuffix n6.data.toList [47] = sl at *
        have hqn : q ≠ w.heap.size := Nat.ne_of_gt hq0
        have hres9 : (w8.setCell ⟨q, 3, none⟩ (.bool sl)).heap[w.heap.size]? = some (tokCells5 [] (.slice none 0 0) false) := (Below.heap_setCell _ _ _ _ (by show w.heap.size ≠ q; omega)).trans hT7.res
        have hff := fill5_heap hres9 N (.slice ao (U.firsts [] all).length cap) sl
        have hRf := fill5_reads (hT7.reads.other (Nat.le_of_lt hq0) (by have := hT7.bp0; omega) 3 (.bool sl)) (Nat.le_refl _) hne N (.slice ao (U.firsts [] all).length cap) sl
        have hrow := fill5_row (ownsRow_setCell_below hT7.row (a := ⟨q, 3, none⟩) (Nat.lt_succ_self _) (.bool sl)) (Nat.lt_succ_of_lt hq0) N (.slice ao (U.firsts [] all).length cap) sl
        obtain ⟨z0, z1, z2, z3, z4, _⟩ := res_cells hff
        change bodyPost _ _ _ _ _ (fill5 (w8.setCell ⟨q, 3, none⟩ (.bool sl)) w.heap.size N (.slice ao (U.firsts [] all).length cap) sl)
        generalize fill5 (w8.setCell ⟨q, 3, none⟩ (.bool sl)) w.heap.size N (.slice ao (U.firsts [] all).length cap) sl = wf at *
        refine bodyPost_ret (v := .tuple #[.agg #[.int .i64 0, .string ⟨N.toArray⟩, .slice ao (U.firsts [] all).length cap, .bool sl, .string ⟨#[]⟩], .bool true]) (by simp [results, Tryz.results37, go_sem, z0, z1, z2, z3, z4]) rfl ?_
        unfold Tagged
        rw [HSO.out]
        exact ⟨_, _, by rw [← HN.out, ← HSL.out], hRf, by rw [list_drop, Hr6.out]; rfl, own_base hrow (Nat.le_succ_of_le (Nat.le_of_lt hq0)), Nat.le_trans hfl (by omega)⟩
      · obtain ⟨nm2, vl2, qu2, hra⟩ := U.run_readAtt b l n2.data.toList nm vl qu (U.slashOf false (r1.data.toList.takeWhile U.gapB)) all hg h62
        have hrun2 : U.runM U.st0 r.data.toList = U.runM ⟨1, n2.data.toList, nm2, vl2, qu2, false, all ++ [(U.readAtt b l).1]⟩ (U.readAtt b l).2 := by rw [hrun.out, U.run_gap, hd, hra]
        have HRU := Lib.hid hrun2
        have hf2 := firsts_append all [(U.readAtt b l).1] []
        have hf3 : U.firsts [] (all ++ [(U.readAtt b l).1]) = U.withAtt (U.firsts [] all) (U.readAtt b l).1 := U.firsts_snoc all [] _
        have HF3 := Lib.hid hf3
        have HD := Lib.hid hd
        have hb62 : ∀ c : UInt8, c = b → ((c.toNat : Int) == 62) = false := fun c hc => beq_no (fun e => h62 (by rw [← hc]; exact (byte_eq (k := 62) (by decide)).1 (by omega)))
        clear hd hrun HR0 hg hra hrun2 hf2 hf3
        go_wp2_with (refine (skip_gap _ bp _ v hT.reads.par (by omega)).mono ?_; rintro e w6 ⟨n6, r6, rfl, hR6, hn6, hr6, hs6⟩; have hT6 := hT.step hR6; have hl6 := hr6.trans HD.out; have Hl6 := Lib.hid hl6; clear hn6 hr6; have h60 : 0 < r6.size := (by rw [← len_list, hl6, List.length_cons]; omega); obtain ⟨k0, k1, k2, k3⟩ := par_cells hT6.reads.par; have hem := empty_not h60; have e62 : (((r6[0]'h60).toNat : Int) == 62) = false := hb62 _ (by have := list_one h60; rw [hl6] at this; injection this with this _; exact this.symm); clear hl6; obtain ⟨t0, t1, t2, t3, t4, t5, t6⟩ := hT6.cells)
        have hTd := hT6.later (below_drewN (Below.refl w6.heap.size w6) 1)
        have hGd : Glob (w6.drewN 1) := hG.grown hF hTd.reads.grown
        go_region_law (first
          | (refine step_call1 61 rfl _ _ rfl (.pointer (some ⟨bp, 0, none⟩)) (by rfl) (enters_of Tryz.func61 (by kernel_rfl) rfl) ((read_attr _ bp r6 v b l Hl6.out hTd.reads.par (by omega) hGd hF).mono ?_); rintro e w7 ⟨r7, rfl, hR7, hr7, hs7⟩; refine ⟨_, rfl, ?_⟩; have hT7 := hTd.step hR7; have Hr7 := Lib.hid hr7; clear hr7; obtain ⟨i0, i1, i2, i3, i4, i5, i6⟩ := hT7.cells; generalize hX : (U.readAtt b l).1 = X)
          | (refine step_call2 60 rfl _ _ _ rfl (.slice ao (U.firsts [] all).length cap) (.agg #[.string ⟨X.1.toArray⟩, .string ⟨X.2.toArray⟩]) (by rfl) (by rfl) (enters_of Tryz.func60 (by kernel_rfl) rfl) ((with_attr _ (q + 1) (.slice ao (U.firsts [] all).length cap) (U.firsts [] all) X hT7.row hT7.size (by omega)).mono ?_); rintro e w8 ⟨v8, rfl, hown8, hg8⟩; refine ⟨_, rfl, ?_⟩; obtain ⟨hTput, p1, p2⟩ := hT7.put hown8 hg8; obtain ⟨ao8, cap8, rfl⟩ := own_form hown8))
        all_goals
          have hc7 := (par_cells hTput.reads.par).1
          have hc1 := (par_cells hT.reads.par).1
          go_wp2_with fail
          go_roundw
          case rel => exact ⟨r7, _, all ++ [X], nm2, vl2, qu2, by rw [← hX, HF3.out, hX]; exact hTput, Lib.hid (by rw [HRU.out, Hr7.out, hX]), by rw [List.length_append, List.length_singleton]; omega⟩
          case measure => rw [hc7, hc1]; show r7.size < r1.size; omega

end Go.Proofs.YtankcnikebcpkaaGreatDoor

namespace Go.Proofs.YtankcnikebcpkaaGreatDoor
open Go.RowKit

/-- the parser and the tokens that it has -/
structure ParW (w wr : World) (bp : Nat) (r : ByteArray) (v : Value) (l : List (U.Tok × Value)) : Prop where
  par : wr.heap[bp]? = some (parBlock r v)
  row : wr.ownsRow (bp + 1) 33 5 v l.length (tokCells l)
  atts : ∀ x ∈ l, wr.ownsRow w.heap.size 52 2 x.2 x.1.attrs.length (attCells x.1.attrs)
  below : Below w.heap.size w wr
  bp0 : w.heap.size ≤ bp
  lens : ∀ x ∈ l, x.1.attrs.length ≤ 1048576
theorem att_far {w : World} {B n bp : Nat} {u v : Value} {xs : List Value} {r : ByteArray} (h : w.ownsRow B 52 2 u n xs) (hp : w.heap[bp]? = some (parBlock r v)) : u.ownBlock = none ∨ u.ownBlock ≠ some bp := by
  rcases h.2 with ⟨e, _⟩ | ⟨g, cap, cur, e, _, hg, _⟩
  · rw [e]; exact .inl rfl
  · rw [e]
    right
    intro e0
    have : g = bp := by simpa [Value.ownBlock] using e0
    subst this
    rw [hp] at hg
    unfold parBlock at hg
    injection hg with hg
    injection hg with _ h5 _
    exact absurd h5 (by decide)
theorem row_far {w : World} {B n bp : Nat} {v : Value} {xs : List Value} (h : w.ownsRow (bp + 1) 33 B v n xs) : v.ownBlock = none ∨ v.ownBlock ≠ some bp := by
  cases hv : v.ownBlock with
  | none => exact .inl rfl
  | some g =>
    right
    intro e
    have := (h.lt g hv).1
    injection e with e
    omega
theorem ParW.step {w wr w2 : World} {bp : Nat} {r r2 : ByteArray} {v : Value} {l : List (U.Tok × Value)} (h : ParW w wr bp r v l) (hR : Reads wr w2 bp r2 v) : ParW w w2 bp r2 v l :=
  ⟨hR.par, h.row.kept (row := some bp) hR.grown (row_far h.row), fun x hx => (h.atts x hx).kept (row := some bp) hR.grown (att_far (h.atts x hx) h.par),
    h.below.grown hR.grown h.below.size (fun k hk => by injection hk with hk; have := h.bp0; omega), h.bp0, h.lens⟩
theorem ParW.later {w wr w2 : World} {bp : Nat} {r : ByteArray} {v : Value} {l : List (U.Tok × Value)} (h : ParW w wr bp r v l) (hb : Below wr.heap.size wr w2) : ParW w w2 bp r v l :=
  h.step ((Reads.start h.par).later hb)
theorem ParW.alloc {w wr : World} {bp : Nat} {r : ByteArray} {v : Value} {l : List (U.Tok × Value)} (h : ParW w wr bp r v l) (o : Obj) : ParW w (wr.alloc o) bp r v l := h.later ((Below.refl _ _).alloc (Nat.le_refl _) _)
/-- the parser's block behind an append -/
theorem ParW.grown {w wr w2 : World} {bp : Nat} {r : ByteArray} {v : Value} {l : List (U.Tok × Value)} (h : ParW w wr bp r v l) (hg : wr.grownBy w2 v.ownBlock) : w2.heap[bp]? = some (parBlock r v) :=
  (hg.block _ (lt_of_heap h.par) (fun e => by have := (h.row.lt _ e.symm).1; omega)).trans h.par
theorem ParW.put {w wr w2 : World} {bp : Nat} {r : ByteArray} {v v2 : Value} {l : List (U.Tok × Value)} (h : ParW w wr bp r v l) (x : U.Tok) (av : Value) (hx : wr.ownsRow w.heap.size 52 2 av x.attrs.length (attCells x.attrs)) (hxl : x.attrs.length ≤ 1048576)
    (ho : w2.ownsRow (bp + 1) 33 5 v2 (l.length + 1) (tokCells l ++ [.int .i64 (x.kind : Nat), .string ⟨x.name.toArray⟩, av, .bool x.self, .string ⟨x.text.toArray⟩])) (hg : wr.grownBy w2 v.ownBlock) :
    ParW w (w2.setCell ⟨bp, 1, none⟩ v2) bp r v2 (l ++ [(x, av)]) := by
  have h4 := h.bp0
  have hb := lt_of_heap h.par
  have hlt : ∀ k, v.ownBlock = some k → bp + 1 ≤ k := fun k hk => (h.row.lt k hk).1
  have hpar := h.grown hg
  have hatt : ∀ (y : Value) (al : List U.Att), wr.ownsRow w.heap.size 52 2 y al.length (attCells al) → (w2.setCell ⟨bp, 1, none⟩ v2).ownsRow w.heap.size 52 2 y al.length (attCells al) := by
    intro y al hy
    have hy2 : w2.ownsRow w.heap.size 52 2 y al.length (attCells al) := hy.kept (row := v.ownBlock) hg (own_apart hy h.row (by decide))
    exact hy2.kept (row := some bp) (grown_setCell _ _ _ _) (att_far hy2 hpar)
  refine ⟨?_, ?_, ?_, ((h.below.grown hg h.below.size (fun k hk => by have := hlt k hk; omega)).setCell (p := ⟨bp, 1, none⟩) h4 _), h4, fun y hy => ?_⟩
  · unfold parBlock at hpar ⊢
    simp [World.setCell, Array.getElem?_modify, hpar]
  · rw [List.length_append, tokCells_append]
    exact ownsRow_setCell_below ho (a := ⟨bp, 1, none⟩) (Nat.lt_succ_self _) _
  · intro y hy
    rcases List.mem_append.1 hy with hy | hy
    · exact hatt _ _ (h.atts y hy)
    · obtain rfl := List.mem_singleton.1 hy
      exact hatt _ _ hx
  · rcases List.mem_append.1 hy with hy | hy
    · exact h.lens y hy
    · obtain rfl := List.mem_singleton.1 hy
      exact hxl

theorem new_cells {w : World} {n : Nat} {a b c d e : Value} {t : TypeId} (h : w.heap[n]? = some (.cells #[a, b, c, d, e] t (0, 0))) : ∀ (j : Nat) u, [a, b, c, d, e][j]? = some u → w.cell? ((⟨n, 0, none⟩ : Addr).add j) = some u := by
  intro j u hj
  have e0 : (⟨n, 0, none⟩ : Addr).add j = ⟨n, j, none⟩ := by cases j <;> simp [Addr.add]
  rw [e0, Lib.cell_of_heap h]
  match j, hj with
  | 0, hj => simpa using hj
  | 1, hj => simpa using hj
  | 2, hj => simpa using hj
  | 3, hj => simpa using hj
  | 4, hj => simpa using hj
  | (j + 5), hj => simp at hj

set_option maxHeartbeats 4000000 in
set_option maxRecDepth 1000000 in
theorem add_text (w wr : World) (bp : Nat) (r : ByteArray) (v : Value) (l : List (U.Tok × Value)) (k : Nat) (txt : List UInt8) (h : ParW w wr bp r v l) (hl : l.length ≤ 1048576) :
    Calls Tryz.prog 43 #[.pointer (some ⟨bp, 0, none⟩), .int .i64 k, .string ⟨txt.toArray⟩] wr fun e w' => e = .returned (.tuple #[]) ∧ ∃ v2, ParW w w' bp r v2 (l ++ [(⟨k, [], [], false, txt⟩, .slice none 0 0)]) := by
  obtain ⟨iT, hiT, hT0, hT1, hT2⟩ := info_parts infoTok
  obtain ⟨c0, c1, f0, f1⟩ := par_cells h.par
  have hbp := lt_of_heap h.par
  obtain ⟨ao, cap, rfl⟩ := own_form h.row
  have hN := h.alloc (.cells #[.int .i64 k, .string ⟨#[]⟩, .slice none 0 0, .bool false, .string ⟨txt.toArray⟩] 33 (0, 0))
  have hnew := heap_alloc_new wr (.cells #[.int .i64 k, .string ⟨#[]⟩, .slice none 0 0, .bool false, .string ⟨txt.toArray⟩] 33 (0, 0))
  have hcells := new_cells hnew
  go_enter Tryz.func43, Tryz.ntmps43
  go_wp2_with (at_builtin; refine wpList_append_own _ rfl _ _ 23 rfl (bp + 1) 33 iT _ 5 72 Tryz.underlying23 hiT hT0 hT1 hT2 rfl (by decide) _ _ _ rfl hN.row ⟨_, 0, none⟩ 1 1 [.int .i64 k, .string ⟨#[]⟩, .slice none 0 0, .bool false, .string ⟨txt.toArray⟩] rfl rfl ?c1 ?c2 ?c3 ?c4 ?c5 ?_)
  case c1 => exact hcells
  case c2 => first | exact ⟨rfl, rfl, rfl, rfl, rfl⟩ | (intro u hu; simp at hu; rcases hu with rfl | rfl | rfl | rfl | rfl <;> rfl)
  case c3 => unfold maxLen; omega
  case c4 => omega
  case c5 => simp; omega
  intro v7 w7 hown7 hgrow7 _
  obtain ⟨ao7, cap7, rfl⟩ := own_form hown7
  obtain ⟨q0, q1, q2, q3⟩ := par_cells (hN.grown hgrow7)
  have HP := hN.put ⟨k, [], [], false, txt⟩ (.slice none 0 0) (World.ownsRow_nil _ _ _ _) (Nat.zero_le _) hown7 hgrow7
  go_wp2_with fail
  go_end0
  exact ⟨rfl, _, HP⟩

end Go.Proofs.YtankcnikebcpkaaGreatDoor

namespace Go.Proofs.YtankcnikebcpkaaGreatDoor
open Go.RowKit

/-- one round of Parse: what the tokens are, what is left -/
def Ate (w w' : World) (bp : Nat) (r : ByteArray) (l : List (U.Tok × Value)) : Prop :=
  ∃ (r' : ByteArray) (v' : Value) (l' : List (U.Tok × Value)), ParW w w' bp r' v' l' ∧ l'.map (·.1) ++ U.toksT [] r'.data.toList = l.map (·.1) ++ U.toksT [] r.data.toList ∧ r'.size < r.size ∧ l'.length + 2 * r'.size ≤ l.length + 2 * r.size

theorem ate_chars {w w' : World} {bp n : Nat} {r : ByteArray} {v6 : Value} {l : List (U.Tok × Value)} (h1 : 1 ≤ n) (h2 : n ≤ r.size) (hall : ∀ i, i < n → U.kindOf (r.data.toList.drop i) = 3) (he : n = r.size ∨ U.kindOf (r.data.toList.drop n) ≠ 3)
    (h : ParW w w' bp (r.extract n r.size) v6 (l ++ [(⟨3, [], [], false, U.unesc (r.data.toList.take n)⟩, .slice none 0 0)])) : Ate w w' bp r l := by
  refine ⟨_, _, _, h, ?_, by rw [size_drop]; omega, by rw [size_drop, List.length_append, List.length_singleton]; omega⟩
  rw [U.toks_chars (n := n) (l := r.data.toList) (by omega) (by rw [len_list]; exact h2) hall (by rw [len_list]; exact he), list_drop]
  simp

set_option maxHeartbeats 4000000 in
set_option maxRecDepth 1000000 in
theorem read_chars (w wr : World) (bp : Nat) (r : ByteArray) (v : Value) (l : List (U.Tok × Value)) (h : ParW w wr bp r v l) (hG : Glob wr) (hF : Far bp) (hr : r.size ≤ 1048576) (h0 : 0 < r.size) (hl : l.length ≤ 1048576) (hk : U.kindOf r.data.toList = 3) :
    Calls Tryz.prog 28 #[.pointer (some ⟨bp, 0, none⟩)] wr fun e w' => e = .returned (.tuple #[]) ∧ Ate w w' bp r l := by
  have HK := Lib.hid hk
  clear hk
  go_enter Tryz.func28, Tryz.ntmps28
  go_wp2_with fail
  go_loopw [2] (fun s w2 => ∃ n : Nat, 1 ≤ n ∧ n ≤ r.size ∧ s = .int .i64 n ∧ Below wr.heap.size wr w2 ∧ Hid (∀ i, i < n → U.kindOf (r.data.toList.drop i) = 3)) (fun s _ => r.size - (intOf s).toNat)
  case atStart => exact ⟨1, Nat.le_refl _, h0, rfl, Below.refl _ _, Lib.hid (fun i hi => by obtain rfl : i = 0 := (by omega); rw [List.drop_zero]; exact HK.out)⟩
  case round =>
    obtain ⟨n, hn1, hn2, rfl, hb, hall⟩ := hrel
    have hP := h.later hb
    obtain ⟨c0, c1, f0, f1⟩ := par_cells hP.par
    by_cases hlt : n < r.size
    · have hi0 : (0 : Int) ≤ (n : Int) := Int.natCast_nonneg _
      have hi1 : (n : Int) ≤ (r.size : Int) := by omega
      have hka := fun w3 => kind_at (r.extract n r.size) w3
      rw [list_drop] at hka
      by_cases h3 : U.kindOf (r.data.toList.drop n) = 3
      · have HN : Hid (∀ i, i < n + 1 → U.kindOf (r.data.toList.drop i) = 3) := by
          intro i hi
          by_cases e : i = n
          · rw [e]; exact h3
          · exact hall.out i (by omega)
        rw [h3] at hka
        clear h3
        go_wp2_with (refine (hka _).mono ?_; rintro e w3 ⟨rfl, rfl⟩)
        go_roundw
        case rel => exact ⟨n + 1, by omega, by omega, by go_num, hb, HN⟩
        case measure => simp [intOf]; omega
      · have HE : Hid (n = r.size ∨ U.kindOf (r.data.toList.drop n) ≠ 3) := Or.inr h3
        have hk3 : (((U.kindOf (r.data.toList.drop n) : Nat) : Int) == 3) = false := by rw [beq_eq_false_iff_ne]; omega
        generalize U.kindOf (r.data.toList.drop n) = kk at hka hk3
        clear h3
        go_wp2_with (first
          | (refine (hka _).mono ?_; rintro e w3 ⟨rfl, rfl⟩)
          | (refine (take_walk _ bp n r v hP.par hn2).mono ?_; rintro e w4 ⟨rfl, hR4⟩; have hG4 := (hG.below hb).grown hF hR4.grown)
          | (refine (unescape_walk (r.extract 0 n) (by rw [size_take _ _ hn2]; omega) _ hG4.err).mono ?_; rintro e w5 ⟨rfl, b5⟩; have hP5 := (hP.step hR4).later b5)
          | (refine (add_text w _ bp _ v l 3 _ hP5 hl).mono ?_; rintro e w6 ⟨rfl, v6, hP6⟩))
        go_end0
        exact ⟨rfl, ate_chars hn1 hn2 hall.out HE.out hP6⟩
    · have HE : Hid (n = r.size ∨ U.kindOf (r.data.toList.drop n) ≠ 3) := Or.inl (by omega)
      go_wp2_with (first
        | (refine (take_walk _ bp n r v hP.par hn2).mono ?_; rintro e w4 ⟨rfl, hR4⟩; have hG4 := (hG.below hb).grown hF hR4.grown)
        | (refine (unescape_walk (r.extract 0 n) (by rw [size_take _ _ hn2]; omega) _ hG4.err).mono ?_; rintro e w5 ⟨rfl, b5⟩; have hP5 := (hP.step hR4).later b5)
        | (refine (add_text w _ bp _ v l 3 _ hP5 hl).mono ?_; rintro e w6 ⟨rfl, v6, hP6⟩))
      go_end0
      exact ⟨rfl, ate_chars hn1 hn2 hall.out HE.out hP6⟩

end Go.Proofs.YtankcnikebcpkaaGreatDoor

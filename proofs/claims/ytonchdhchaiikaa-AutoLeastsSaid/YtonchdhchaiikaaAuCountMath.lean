/- Count as plain data: forward from the first state, backward from the final ones. -/
import Derived.Test.YtonchdhchaiikaaAuRunMath
namespace Go.Proofs.Ytonchdhchaiikaa

def U.addAt (v : List Int) (j n : Int) : List Int := if 0 ≤ j then v.set j.toNat (v[j.toNat]?.getD 0 + n) else v
def U.rowAdd (n : Int) : List Int → List Int → List Int
  | [], v => v
  | j :: r, v => U.rowAdd n r (U.addAt v j n)
def U.fw : List (List Int) → List Int → List Int → List Int
  | r :: rs, n :: ns, v => U.fw rs ns (U.rowAdd n r v)
  | _, _, v => v
def U.fwN (next : List (List Int)) : Nat → List Int → List Int
  | 0, w => w
  | k + 1, w => U.fwN next k (U.fw next w (List.replicate next.length 0))
def U.rs (e : List Int) : List Int → Int
  | [] => 0
  | j :: r => (if 0 ≤ j then e[j.toNat]?.getD 0 else 0) + U.rs e r
def U.bk (next : List (List Int)) (e : List Int) : List Int := next.map (U.rs e)
def U.bkN (next : List (List Int)) : Nat → List Int → List Int
  | 0, e => e
  | k + 1, e => U.bkN next k (U.bk next e)
def U.dot : List Int → List Int → Int
  | a :: as, b :: bs => a * b + U.dot as bs
  | _, _ => 0
def U.one (b : Bool) : Int := if b then 1 else 0
def U.fs : List Int → List Bool → Int
  | n :: ns, b :: bs => (if b then n else 0) + U.fs ns bs
  | _, _ => 0
def U.Au.count (a : U.Au) (n : Int) : Int × Nat :=
  if a.may = false then (0, 4) else if n < 0 ∨ 12 < n then (0, 2) else ((U.bkN a.next n.toNat (a.final.map U.one))[0]?.getD 0, 0)

theorem U.addAt_length (v : List Int) (j n : Int) : (U.addAt v j n).length = v.length := by
  unfold U.addAt
  split <;> simp
theorem U.rowAdd_length (n : Int) : ∀ (r v : List Int), (U.rowAdd n r v).length = v.length
  | [], v => rfl
  | j :: r, v => by rw [U.rowAdd, U.rowAdd_length n r, U.addAt_length]
theorem U.fw_length : ∀ (rs : List (List Int)) (ns v : List Int), (U.fw rs ns v).length = v.length
  | [], ns, v => by cases ns <;> rfl
  | r :: rs, [], v => rfl
  | r :: rs, n :: ns, v => by rw [U.fw, U.fw_length rs ns, U.rowAdd_length]
theorem U.bk_length (next : List (List Int)) (e : List Int) : (U.bk next e).length = next.length := by simp [U.bk]
theorem U.dot_set : ∀ (v e : List Int) (j : Nat) (n : Int), j < v.length → v.length = e.length → U.dot (v.set j (v[j]?.getD 0 + n)) e = U.dot v e + n * e[j]?.getD 0
  | [], e, j, n, h, _ => by simp at h
  | a :: v, [], j, n, _, h => by simp at h
  | a :: v, b :: e, 0, n, _, _ => by
    simp only [List.set_cons_zero, List.getElem?_cons_zero, Option.getD_some, U.dot, Int.add_mul]
    omega
  | a :: v, b :: e, j + 1, n, h, h2 => by
    have := U.dot_set v e j n (by simpa using h) (by simpa using h2)
    simp only [List.set_cons_succ, List.getElem?_cons_succ, U.dot, this]
    omega
theorem U.dot_addAt (v e : List Int) (j n : Int) (hj : j < (v.length : Int)) (hl : v.length = e.length) : U.dot (U.addAt v j n) e = U.dot v e + n * (if 0 ≤ j then e[j.toNat]?.getD 0 else 0) := by
  unfold U.addAt
  by_cases h : 0 ≤ j
  · rw [if_pos h, if_pos h, U.dot_set v e j.toNat n (by omega) hl]
  · rw [if_neg h, if_neg h]
    omega
theorem U.dot_rowAdd (e : List Int) (n : Int) : ∀ (r v : List Int), (∀ j ∈ r, j < (e.length : Int)) → v.length = e.length → U.dot (U.rowAdd n r v) e = U.dot v e + n * U.rs e r
  | [], v, _, _ => by rw [U.rowAdd, U.rs]; omega
  | j :: r, v, h, hl => by
    rw [U.rowAdd, U.dot_rowAdd e n r _ (fun x hx => h x (List.mem_cons_of_mem _ hx)) (by rw [U.addAt_length]; exact hl), U.dot_addAt v e j n (by rw [hl]; exact h j (List.mem_cons_self ..)) hl, U.rs, Int.mul_add]
    omega
theorem U.dot_fw (e : List Int) : ∀ (rs : List (List Int)) (ns v : List Int), (∀ r ∈ rs, ∀ j ∈ r, j < (e.length : Int)) → v.length = e.length → rs.length = ns.length → U.dot (U.fw rs ns v) e = U.dot v e + U.dot ns (rs.map (U.rs e))
  | [], [], v, _, _, _ => by simp [U.fw, U.dot]
  | [], n :: ns, v, _, _, h => by simp at h
  | r :: rs, [], v, _, _, h => by simp at h
  | r :: rs, n :: ns, v, h, hl, hn => by
    rw [U.fw, U.dot_fw e rs ns _ (fun x hx => h x (List.mem_cons_of_mem _ hx)) (by rw [U.rowAdd_length]; exact hl) (by simpa using hn), U.dot_rowAdd e n r v (h r (List.mem_cons_self ..)) hl, List.map_cons, U.dot]
    omega
theorem U.dot_zero : ∀ (k : Nat) (e : List Int), U.dot (List.replicate k 0) e = 0
  | 0, e => by simp [U.dot]
  | k + 1, [] => by simp [List.replicate_succ, U.dot]
  | k + 1, b :: e => by rw [List.replicate_succ, U.dot, U.dot_zero k e]; omega
theorem U.bkN_bk (next : List (List Int)) : ∀ (k : Nat) (e : List Int), U.bk next (U.bkN next k e) = U.bkN next (k + 1) e
  | 0, e => rfl
  | k + 1, e => by rw [U.bkN, U.bkN_bk next k (U.bk next e), U.bkN, U.bkN, U.bkN]
theorem U.bkN_length (next : List (List Int)) : ∀ (k : Nat) (e : List Int), e.length = next.length → (U.bkN next k e).length = next.length
  | 0, e, h => h
  | k + 1, e, _ => by rw [U.bkN]; exact U.bkN_length next k _ (U.bk_length next e)
theorem U.dot_fwN (next : List (List Int)) (hr : ∀ r ∈ next, ∀ j ∈ r, j < (next.length : Int)) : ∀ (k : Nat) (w e : List Int), w.length = next.length → e.length = next.length → U.dot (U.fwN next k w) e = U.dot w (U.bkN next k e)
  | 0, w, e, _, _ => rfl
  | k + 1, w, e, hw, he => by
    rw [U.fwN, U.dot_fwN next hr k _ e (by rw [U.fw_length, List.length_replicate]) he, ← U.bkN_bk]
    have hb := U.bkN_length next k e he
    rw [U.dot_fw (U.bkN next k e) next w _ (by rw [hb]; exact hr) (by rw [List.length_replicate, hb]) hw.symm, U.dot_zero]
    unfold U.bk
    omega
theorem U.fs_dot : ∀ (ns : List Int) (bs : List Bool), U.fs ns bs = U.dot ns (bs.map U.one)
  | [], bs => by simp [U.fs, U.dot]
  | n :: ns, [] => by simp [U.fs, U.dot]
  | n :: ns, b :: bs => by
    rw [U.fs, List.map_cons, U.dot, U.fs_dot ns bs]
    cases b <;> simp [U.one]
theorem U.fwN_length (next : List (List Int)) : ∀ (k : Nat) (w : List Int), w.length = next.length → (U.fwN next k w).length = next.length
  | 0, w, h => h
  | k + 1, w, _ => by rw [U.fwN]; exact U.fwN_length next k _ (by rw [U.fw_length, List.length_replicate])
/-- the program's count is the document's -/
theorem U.Au.Ok.count_eq {a : U.Au} (h : a.Ok) (k : Nat) : U.fs (U.fwN a.next k ((List.replicate a.next.length 0).set 0 1)) a.final = (U.bkN a.next k (a.final.map U.one))[0]?.getD 0 := by
  have he : (a.final.map U.one).length = a.next.length := by rw [List.length_map, h.fin]
  rw [U.fs_dot, U.dot_fwN a.next (fun r hr j hj => ((h.row r hr).2 j hj).2) k _ _ (by simp) he]
  have hb := U.bkN_length a.next k _ he
  have h1 := h.one
  generalize U.bkN a.next k (a.final.map U.one) = e at hb
  obtain ⟨n, hn⟩ : ∃ n, a.next.length = n + 1 := ⟨a.next.length - 1, by omega⟩
  rw [hn, List.replicate_succ, List.set_cons_zero]
  cases e with
  | nil => rw [hn] at hb; simp at hb
  | cons b e => rw [U.dot, U.dot_zero]; simp

/-! how great the numbers may be -/
def U.P : Nat → Int
  | 0 => 1
  | t + 1 => 8 * U.P t
theorem U.P_pos : ∀ t, 1 ≤ U.P t
  | 0 => by rw [U.P]; omega
  | t + 1 => by have := U.P_pos t; rw [U.P]; omega
theorem U.P_le : ∀ {t k : Nat}, t ≤ k → U.P t ≤ U.P k
  | t, 0, h => by obtain rfl : t = 0 := by omega
                  exact Int.le_refl _
  | t, k + 1, h => by
    by_cases e : t = k + 1
    · subst e; exact Int.le_refl _
    · have := U.P_le (t := t) (k := k) (by omega)
      have := U.P_pos k
      rw [U.P]
      omega
theorem U.P12 : U.P 12 = 68719476736 := by decide
theorem U.P_small {t : Nat} (h : t ≤ 12) : U.P t ≤ 68719476736 := by
  have := U.P_le h
  rw [U.P12] at this
  exact this
theorem U.sum_set : ∀ (v : List Int) (j : Nat) (n : Int), j < v.length → (v.set j (v[j]?.getD 0 + n)).sum = v.sum + n
  | [], j, n, h => by simp at h
  | a :: v, 0, n, _ => by simp [List.sum_cons]; omega
  | a :: v, j + 1, n, h => by
    have := U.sum_set v j n (by simpa using h)
    simp only [List.set_cons_succ, List.getElem?_cons_succ, List.sum_cons, this]
    omega
def U.Nn (v : List Int) : Prop := ∀ x ∈ v, 0 ≤ x
theorem U.Nn.sum : ∀ {v : List Int}, U.Nn v → 0 ≤ v.sum
  | [], _ => by simp
  | a :: v, h => by
    rw [List.sum_cons]
    have := h a (List.mem_cons_self ..)
    have := U.Nn.sum (v := v) (fun x hx => h x (List.mem_cons_of_mem _ hx))
    omega
theorem U.Nn.le_sum : ∀ {v : List Int}, U.Nn v → ∀ x ∈ v, x ≤ v.sum
  | [], _, x, hx => by cases hx
  | a :: v, h, x, hx => by
    rw [List.sum_cons]
    have ha := h a (List.mem_cons_self ..)
    have hv : U.Nn v := fun x hx => h x (List.mem_cons_of_mem _ hx)
    rcases List.mem_cons.1 hx with rfl | hx
    · have := hv.sum; omega
    · have := U.Nn.le_sum hv x hx; omega
theorem U.Nn.set {v : List Int} (h : U.Nn v) (j : Nat) {x : Int} (hx : 0 ≤ x) : U.Nn (v.set j x) := by
  intro y hy
  rcases List.mem_or_eq_of_mem_set hy with hy | rfl
  · exact h y hy
  · exact hx
theorem U.Nn.drop {v : List Int} (h : U.Nn v) (k : Nat) : U.Nn (v.drop k) := fun x hx => h x (List.mem_of_mem_drop hx)
theorem U.Nn.zeros (n : Nat) : U.Nn (List.replicate n 0) := fun x hx => by rw [List.eq_of_mem_replicate hx]; exact Int.le_refl _
theorem U.sum_zeros : ∀ (n : Nat), (List.replicate n (0 : Int)).sum = 0
  | 0 => rfl
  | n + 1 => by rw [List.replicate_succ, List.sum_cons, U.sum_zeros n]; rfl
/-- all numbers between 0 and m -/
def U.Upto (m : Int) (v : List Int) : Prop := ∀ x ∈ v, 0 ≤ x ∧ x ≤ m
theorem U.rs_upto {m : Int} {e : List Int} (h : U.Upto m e) (hm : 0 ≤ m) : ∀ (r : List Int), 0 ≤ U.rs e r ∧ U.rs e r ≤ m * r.length
  | [] => by rw [U.rs]; simp
  | j :: r => by
    have ih := U.rs_upto h hm r
    rw [U.rs, List.length_cons, Int.natCast_add, Int.mul_add]
    have : 0 ≤ (if 0 ≤ j then e[j.toNat]?.getD 0 else 0) ∧ (if 0 ≤ j then e[j.toNat]?.getD 0 else 0) ≤ m := by
      split
      · cases hx : e[j.toNat]? with
        | none => simp [hm]
        | some x => exact h x (List.mem_of_getElem? hx)
      · exact ⟨Int.le_refl _, hm⟩
    constructor
    · omega
    · simp; omega
theorem U.Au.Ok.bk_upto {a : U.Au} (h : a.Ok) {m : Int} {e : List Int} (he : U.Upto m e) (hm : 0 ≤ m) : U.Upto (8 * m) (U.bk a.next e) := by
  intro x hx
  obtain ⟨r, hr, rfl⟩ := List.mem_map.1 hx
  have := U.rs_upto he hm r
  rw [(h.row r hr).1] at this
  omega

end Go.Proofs.Ytonchdhchaiikaa

/- Plain mathematics: the machine that reads a tag, way by way. -/
import Derived.Test.YtkmjngpgngkalaaDoorTokMath
namespace Go.Proofs.YtkmjngpgngkalaaDoor
namespace U

theorem isSp_ne {b : UInt8} (h : isSp b = true) : b ≠ 47 ∧ b ≠ 62 ∧ b ≠ 61 ∧ b ≠ 34 ∧ b ≠ 39 := by
  refine ⟨?_, ?_, ?_, ?_, ?_⟩ <;> rintro rfl <;> exact absurd h (by decide)
variable {t n v : List UInt8} {q b : UInt8} {sl : Bool} {al : List Att}
theorem step_N1 (hs : isSp b = true) : step ⟨0, t, n, v, q, sl, al⟩ b = .go ⟨1, t, n, v, q, false, al⟩ := by
  obtain ⟨h47, h62, h61, h34, h39⟩ := isSp_ne hs
  simp [step, pre0, pre2, pre6, pre3, post, endsName, hs, h47, h62]
theorem step_N2 (h47 : b = 47) : step ⟨0, t, n, v, q, sl, al⟩ b = .go ⟨1, t, n, v, q, true, al⟩ := by
  subst h47
  have hs : isSp 47 = false := by decide
  simp [step, pre0, pre2, pre6, pre3, post, endsName, hs]
theorem step_N3 (h62 : b = 62) : step ⟨0, t, n, v, q, sl, al⟩ b = .fin ⟨1, t, n, v, q, false, al⟩ := by
  subst h62
  have hs : isSp 62 = false := by decide
  simp [step, pre0, pre2, pre6, pre3, post, endsName, hs]
theorem step_N4 (hs : isSp b = false) (h47 : b ≠ 47) (h62 : b ≠ 62) : step ⟨0, t, n, v, q, sl, al⟩ b = .go ⟨0, (t ++ [b]), n, v, q, sl, al⟩ := by
  simp [step, endsName, hs, h47, h62]
theorem step_A1 (h62 : b = 62) : step ⟨1, t, n, v, q, sl, al⟩ b = .fin ⟨1, t, n, v, q, sl, al⟩ := by
  subst h62
  have hs : isSp 62 = false := by decide
  simp [step, pre0, pre2, pre6, pre3, post, endsName, hs]
theorem step_A2 (h47 : b = 47) : step ⟨1, t, n, v, q, sl, al⟩ b = .go ⟨1, t, n, v, q, true, al⟩ := by
  subst h47
  have hs : isSp 47 = false := by decide
  simp [step, pre0, pre2, pre6, pre3, post, endsName, hs]
theorem step_A3 (hs : isSp b = true) : step ⟨1, t, n, v, q, sl, al⟩ b = .go ⟨1, t, n, v, q, false, al⟩ := by
  obtain ⟨h47, h62, h61, h34, h39⟩ := isSp_ne hs
  simp [step, pre0, pre2, pre6, pre3, post, endsName, hs, h47, h62]
theorem step_A4 (hs : isSp b = false) (h47 : b ≠ 47) (h62 : b ≠ 62) : step ⟨1, t, n, v, q, sl, al⟩ b = .go ⟨2, t, [b], v, q, sl, al⟩ := by
  simp [step, pre0, pre2, pre6, pre3, post, endsName, hs, h47, h62]
theorem step_B1 (hs : isSp b = true) : step ⟨2, t, n, v, q, sl, al⟩ b = .go ⟨3, t, n, v, q, sl, al⟩ := by
  obtain ⟨h47, h62, h61, h34, h39⟩ := isSp_ne hs
  simp [step, pre0, pre2, pre6, pre3, post, endsName, hs, h61]
theorem step_B2 (h47 : b = 47) : step ⟨2, t, n, v, q, sl, al⟩ b = .go ⟨1, t, n, v, q, true, (al ++ [(low n, [])])⟩ := by
  subst h47
  have hs : isSp 47 = false := by decide
  simp [step, pre0, pre2, pre6, pre3, post, endsName, hs]
theorem step_B3 (h62 : b = 62) : step ⟨2, t, n, v, q, sl, al⟩ b = .fin ⟨1, t, n, v, q, false, (al ++ [(low n, [])])⟩ := by
  subst h62
  have hs : isSp 62 = false := by decide
  simp [step, pre0, pre2, pre6, pre3, post, endsName, hs]
theorem step_B4 (h61 : b = 61) : step ⟨2, t, n, v, q, sl, al⟩ b = .go ⟨4, t, n, v, q, sl, al⟩ := by
  subst h61
  have hs : isSp 61 = false := by decide
  simp [step, pre0, pre2, pre6, pre3, post, endsName, hs]
theorem step_B5 (hs : isSp b = false) (h47 : b ≠ 47) (h62 : b ≠ 62) (h61 : b ≠ 61) : step ⟨2, t, n, v, q, sl, al⟩ b = .go ⟨2, t, (n ++ [b]), v, q, sl, al⟩ := by
  simp [step, pre0, pre2, pre6, pre3, post, endsName, hs, h47, h62, h61]
theorem step_C1 (hs : isSp b = true) : step ⟨3, t, n, v, q, sl, al⟩ b = .go ⟨3, t, n, v, q, sl, al⟩ := by
  obtain ⟨h47, h62, h61, h34, h39⟩ := isSp_ne hs
  simp [step, pre0, pre2, pre6, pre3, post, endsName, hs, h61]
theorem step_C2 (h61 : b = 61) : step ⟨3, t, n, v, q, sl, al⟩ b = .go ⟨4, t, n, v, q, sl, al⟩ := by
  subst h61
  have hs : isSp 61 = false := by decide
  simp [step, pre0, pre2, pre6, pre3, post, endsName, hs]
theorem step_C3 (h47 : b = 47) : step ⟨3, t, n, v, q, sl, al⟩ b = .go ⟨1, t, n, v, q, true, (al ++ [(low n, [])])⟩ := by
  subst h47
  have hs : isSp 47 = false := by decide
  simp [step, pre0, pre2, pre6, pre3, post, endsName, hs]
theorem step_C4 (h62 : b = 62) : step ⟨3, t, n, v, q, sl, al⟩ b = .fin ⟨1, t, n, v, q, false, (al ++ [(low n, [])])⟩ := by
  subst h62
  have hs : isSp 62 = false := by decide
  simp [step, pre0, pre2, pre6, pre3, post, endsName, hs]
theorem step_C5 (hs : isSp b = false) (h47 : b ≠ 47) (h62 : b ≠ 62) (h61 : b ≠ 61) : step ⟨3, t, n, v, q, sl, al⟩ b = .go ⟨2, t, [b], v, q, false, (al ++ [(low n, [])])⟩ := by
  simp [step, pre0, pre2, pre6, pre3, post, endsName, hs, h47, h62, h61]
theorem step_D1 (hs : isSp b = true) : step ⟨4, t, n, v, q, sl, al⟩ b = .go ⟨4, t, n, v, q, sl, al⟩ := by
  obtain ⟨h47, h62, h61, h34, h39⟩ := isSp_ne hs
  simp [step, pre0, pre2, pre6, pre3, post, endsName, hs]
theorem step_D2 (hs : isSp b = false) (hq : b = 34 ∨ b = 39) : step ⟨4, t, n, v, q, sl, al⟩ b = .go ⟨5, t, n, [], b, sl, al⟩ := by
  simp [step, pre0, pre2, pre6, pre3, post, endsName, hs, hq]
theorem step_D3 (hs : isSp b = false) (hq : ¬ (b = 34 ∨ b = 39)) : step ⟨4, t, n, v, q, sl, al⟩ b = .again ⟨6, t, n, [], q, sl, al⟩ := by
  simp [step, pre0, pre2, pre6, pre3, post, endsName, hs, hq]
theorem step_E1 (hq : b = q) : step ⟨5, t, n, v, q, sl, al⟩ b = .go ⟨1, t, n, v, q, false, (al ++ [(low n, unesc v)])⟩ := by
  subst hq
  simp [step, pre0, pre2, pre6, pre3, post, endsName]
theorem step_E2 (hq : b ≠ q) : step ⟨5, t, n, v, q, sl, al⟩ b = .go ⟨5, t, n, (v ++ [b]), q, sl, al⟩ := by
  simp [step, pre0, pre2, pre6, pre3, post, endsName, hq]
theorem step_F1 (hs : isSp b = true) : step ⟨6, t, n, v, q, sl, al⟩ b = .go ⟨1, t, n, v, q, false, (al ++ [(low n, unesc v)])⟩ := by
  obtain ⟨h47, h62, h61, h34, h39⟩ := isSp_ne hs
  simp [step, pre0, pre2, pre6, pre3, post, endsName, hs, h47, h62]
theorem step_F2 (h62 : b = 62) : step ⟨6, t, n, v, q, sl, al⟩ b = .fin ⟨1, t, n, v, q, false, (al ++ [(low n, unesc v)])⟩ := by
  subst h62
  have hs : isSp 62 = false := by decide
  simp [step, pre0, pre2, pre6, pre3, post, endsName, hs]
theorem step_F3 (hs : isSp b = false) (h62 : b ≠ 62) : step ⟨6, t, n, v, q, sl, al⟩ b = .go ⟨6, t, n, (v ++ [b]), q, sl, al⟩ := by
  simp [step, pre0, pre2, pre6, pre3, post, endsName, hs, h62]

end U
end Go.Proofs.YtkmjngpgngkalaaDoor

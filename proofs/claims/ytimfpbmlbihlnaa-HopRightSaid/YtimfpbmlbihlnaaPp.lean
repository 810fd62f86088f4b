/- plain facts: the document's Le, by parts, is leH -/
import Derived.Test.YtimfpbmlbihlnaaPcp
import Derived.Test.YtimfpbmlbihlnaaH5b
namespace Go.Proofs.Ytimfpbmlbihlnaa
open Go.RowKit
set_option linter.unusedVariables false
set_option linter.unusedSimpArgs false

theorem nlt (x y : Int) : decide (x < y) = !decide (y ≤ x) := by
  by_cases h : x < y
  · rw [decide_eq_true h, decide_eq_false (by omega)]; rfl
  · rw [decide_eq_false h, decide_eq_true (by omega)]; rfl
theorem rleB_is (a b : HV) : rleB a b = leH a b := by
  unfold rleB leH
  cases ha : a.rightB
  · rfl
  cases hb : b.rightB
  · simp
  have na := partsP_num ha
  have nb := partsP_num hb
  by_cases hf : a.f = b.f
  · have hfb : (a.f == b.f) = true := by simpa using hf
    rw [decide_eq_true hf, hfb]
    by_cases hl : (partsP a).length = (partsP b).length
    · have hlb : (a.k + a.t == b.k + b.t) = true := by simp; omega
      rw [decide_eq_true hl, hlb]
      simp only [Bool.true_and]
      have qa : a.right := of_decide_eq_true ha
      have qb : b.right := of_decide_eq_true hb
      obtain ⟨f, k, t, a0, a1, a2, a3, b0, b1, b2, b3⟩ := a
      obtain ⟨g, l, u, d0, d1, d2, d3, e0, e1, e2, e3⟩ := b
      obtain ⟨⟨s1, s2, s3, s4, s5, s6⟩, g1, g2, _, _⟩ := qa
      obtain ⟨⟨r1, r2, r3, r4, r5, r6⟩, h1, h2, _, _⟩ := qb
      simp only at s1 s2 s3 s4 s5 s6 g1 g2 r1 r2 r3 r4 r5 r6 h1 h2 na nb
      clear ha hb hfb hlb
      have hkt : k + t = l + u := by omega
      clear na nb hl hf
      have hk : k = 0 ∨ k = 1 ∨ k = 2 ∨ k = 3 ∨ k = 4 := by omega
      have hu : t = 0 ∨ t = 1 ∨ t = 2 ∨ t = 3 ∨ t = 4 := by omega
      have hkl : l = 0 ∨ l = 1 ∨ l = 2 ∨ l = 3 ∨ l = 4 := by omega
      have huu : u = k + t - l := by omega
      subst huu
      rcases hk with rfl | rfl | rfl | rfl | rfl <;> rcases hu with rfl | rfl | rfl | rfl | rfl
      all_goals first | (exfalso; omega) | skip
      all_goals
        rcases hkl with rfl | rfl | rfl | rfl | rfl
        all_goals first | (exfalso; omega) | skip
        all_goals
          simp [partsP, keptP, tailP, leL, leC, HV.at, HV.add, HV.tl, min40, min41, min42, min43, min44, nlt]
    · have hlb : (a.k + a.t == b.k + b.t) = false := by simp; omega
      rw [decide_eq_false hl, hlb]
      rfl
  · have hfb : (a.f == b.f) = false := by simpa using hf
    rw [decide_eq_false hf, hfb]
    rfl
end Go.Proofs.Ytimfpbmlbihlnaa

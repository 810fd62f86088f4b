import Derived.Test.YtimfpbmlbihlnaaH4
import Derived.Test.YtimfpbmlbihlnaaH5b
import Derived.Test.YtimfpbmlbihlnaaH6p
namespace Go.Proofs.Ytimfpbmlbihlnaa
open Go.RowKit
set_option linter.unusedVariables false
set_option linter.unusedSimpArgs false

/-- two steps put together -/
def thenH (a b : HV) : HV := thenR a.f (imin a.k b.k) (b.k + b.t) b.k (a.at 0) (a.at 1) (a.at 2) (a.at 3) (b.at 0) (b.at 1) (b.at 2) (b.at 3)
def thenOk (a b : HV) : Bool := a.rightB && b.rightB && (a.k + a.t == b.f) && (thenH a b).rightB
def thenV (a b : HV) : HV := HV.gate (thenOk a b) (thenH a b)
def leT (t u : TV) : Bool := leB t.d t.c0 t.c1 t.c2 t.c3 u.d u.c0 u.c1 u.c2 u.c3

theorem leT_eq (t u : TV) : leT t u = decide (t.d = u.d ∧ t.rightB = true ∧ u.rightB = true ∧ t.c0 ≤ u.c0 ∧ t.c1 ≤ u.c1 ∧ t.c2 ≤ u.c2 ∧ t.c3 ≤ u.c3) := by
  rw [Bool.eq_iff_iff]; simp [leT, leB, pairedB, TV.rightB, and_assoc]
  exact decide_eq_true_iff.symm
theorem at_bound {h : HV} (r : h.right) (i : Int) : 0 ≤ h.at i ∧ h.at i ≤ 1048576 := by
  obtain ⟨_, _, _, ⟨⟨_, _, _⟩, ⟨_, _, _⟩, ⟨_, _, _⟩, ⟨_, _, _⟩⟩, ⟨⟨_, _, _⟩, ⟨_, _, _⟩, ⟨_, _, _⟩, ⟨_, _, _⟩⟩⟩ := r
  unfold HV.at HV.add HV.tl
  constructor <;> (split <;> (split <;> (try split) <;> (try split) <;> assumption))
theorem right_size {h : HV} (r : h.right) : 1 ≤ h.f ∧ h.f ≤ 4 ∧ 0 ≤ h.k ∧ h.k ≤ h.f ∧ 0 ≤ h.t ∧ h.t ≤ 4 ∧ 1 ≤ h.k + h.t ∧ h.k + h.t ≤ 4 := by
  have := r.1; unfold HV.shape at this; have := r.2.1; have := r.2.2.1; omega
theorem outC_at (h : HV) (t : TV) (i : Int) : outC h t i = if i < h.k then h.at i + t.coord i else if i < h.k + h.t then h.at i else 0 := by
  unfold outC HV.at
  by_cases hk : i < h.k
  · simp only [if_pos hk]
  · simp only [if_neg hk]
theorem imin_eq (x y : Int) : imin x y = if y < x then y else x := rfl

/-- what stands at each place of two steps put together -/
theorem at_then (f m g pk A0 A1 A2 A3 B0 B1 B2 B3 : Int) (hm : 0 ≤ m) (hm4 : m ≤ 4) (hg : m ≤ g) (hg4 : g ≤ 4) :
    (0 < g → (thenR f m g pk A0 A1 A2 A3 B0 B1 B2 B3).at 0 = cmb 0 pk A0 B0) ∧ (1 < g → (thenR f m g pk A0 A1 A2 A3 B0 B1 B2 B3).at 1 = cmb 1 pk A1 B1) ∧
    (2 < g → (thenR f m g pk A0 A1 A2 A3 B0 B1 B2 B3).at 2 = cmb 2 pk A2 B2) ∧ (3 < g → (thenR f m g pk A0 A1 A2 A3 B0 B1 B2 B3).at 3 = cmb 3 pk A3 B3) := by
  generalize hc0 : cmb 0 pk A0 B0 = c0
  generalize hc1 : cmb 1 pk A1 B1 = c1
  generalize hc2 : cmb 2 pk A2 B2 = c2
  generalize hc3 : cmb 3 pk A3 B3 = c3
  have h5 : m = 0 ∨ m = 1 ∨ m = 2 ∨ m = 3 ∨ m = 4 := by omega
  simp only [thenR, HV.at, HV.add, HV.tl, hc0, hc1, hc2, hc3, pick]
  rcases h5 with rfl | rfl | rfl | rfl | rfl <;> (refine ⟨?_, ?_, ?_, ?_⟩ <;> intro hi <;> simp <;> omega)

/-- two right steps of one shape with the same numbers are one -/
theorem hv_ext {x y : HV} (hx : x.right) (hy : y.right) (hf : x.f = y.f) (hk : x.k = y.k) (ht : x.t = y.t)
    (h0 : 0 < x.k + x.t → x.at 0 = y.at 0) (h1 : 1 < x.k + x.t → x.at 1 = y.at 1) (h2 : 2 < x.k + x.t → x.at 2 = y.at 2) (h3 : 3 < x.k + x.t → x.at 3 = y.at 3) : x = y := by
  have s := right_size hx
  obtain ⟨f, k, t, a0, a1, a2, a3, b0, b1, b2, b3⟩ := x
  obtain ⟨f', k', t', x0, x1, x2, x3, y0, y1, y2, y3⟩ := y
  simp only at hf hk ht s h0 h1 h2 h3
  subst hf; subst hk; subst ht
  have p := hx.2.2.2; have q := hy.2.2.2
  unfold fitsP at p q
  simp only at p q
  have hs : (k = 0 ∨ k = 1 ∨ k = 2 ∨ k = 3 ∨ k = 4) ∧ (t = 0 ∨ t = 1 ∨ t = 2 ∨ t = 3 ∨ t = 4) := by omega
  clear hx hy
  simp only [HV.at, HV.add, HV.tl] at h0 h1 h2 h3
  obtain ⟨rfl | rfl | rfl | rfl | rfl, rfl | rfl | rfl | rfl | rfl⟩ := hs
  all_goals first | (exfalso; omega) | skip
  all_goals
    simp at h0 h1 h2 h3
    congr 1 <;> omega

theorem leH_eq (a b : HV) : leH a b = decide (a.rightB = true ∧ b.rightB = true ∧ a.f = b.f ∧ a.k + a.t = b.k + b.t ∧
    (0 < a.k + a.t → a.at 0 ≤ b.at 0 ∧ (a.k ≤ 0 ∨ 0 < b.k)) ∧ (1 < a.k + a.t → a.at 1 ≤ b.at 1 ∧ (a.k ≤ 1 ∨ 1 < b.k)) ∧
    (2 < a.k + a.t → a.at 2 ≤ b.at 2 ∧ (a.k ≤ 2 ∨ 2 < b.k)) ∧ (3 < a.k + a.t → a.at 3 ≤ b.at 3 ∧ (a.k ≤ 3 ∨ 3 < b.k))) := by
  rw [Bool.eq_iff_iff]
  simp only [leH, leC, Bool.and_eq_true, beq_iff_eq, decide_eq_true_eq, and_assoc]
end Go.Proofs.Ytimfpbmlbihlnaa

/- plain: the document's Then, by parts, is thenH -/
import Derived.Test.YtacmdkbmakfdkaaPe
import Derived.Test.YtacmdkbmakfdkaaG08
import Derived.Test.YtacmdkbmakfdkaaG03
namespace Go.Proofs.Ytacmdkbmakfdkaa
open Go.RowKit
set_option linter.unusedVariables false
set_option linter.unusedSimpArgs false

set_option maxHeartbeats 8000000 in
theorem ofL_is {a b : HV} (ha : a.right) (hb : b.right) (hg : a.k + a.t = b.f) : ofL a.f (cmbP (partsP b) (partsP a)) = thenH a b := by
  obtain ⟨f, k, t, a0, a1, a2, a3, b0, b1, b2, b3⟩ := a
  obtain ⟨g, l, u, d0, d1, d2, d3, e0, e1, e2, e3⟩ := b
  obtain ⟨⟨s1, s2, s3, s4, s5, s6⟩, g1, g2, _, _⟩ := ha
  obtain ⟨⟨r1, r2, r3, r4, r5, r6⟩, h1, h2, _, _⟩ := hb
  simp only at s1 s2 s3 s4 s5 s6 g1 g2 r1 r2 r3 r4 r5 r6 h1 h2 hg
  subst hg
  have hk : k = 0 ∨ k = 1 ∨ k = 2 ∨ k = 3 ∨ k = 4 := by omega
  have hu : t = 0 ∨ t = 1 ∨ t = 2 ∨ t = 3 ∨ t = 4 := by omega
  have hkl : l = 0 ∨ l = 1 ∨ l = 2 ∨ l = 3 ∨ l = 4 := by omega
  have hul : u = 0 ∨ u = 1 ∨ u = 2 ∨ u = 3 ∨ u = 4 := by omega
  rcases hk with rfl | rfl | rfl | rfl | rfl <;> rcases hu with rfl | rfl | rfl | rfl | rfl
  all_goals first | (exfalso; omega) | skip
  all_goals
    rcases hkl with rfl | rfl | rfl | rfl | rfl
    all_goals first | (exfalso; omega) | skip
    all_goals
      rcases hul with rfl | rfl | rfl | rfl | rfl
      all_goals first | (exfalso; omega) | skip
      all_goals
        simp [ofL, stepO, cmbP, partsP, keptP, tailP, thenH, thenR, cmb, pick, imin, HV.at, HV.add, HV.tl, min40, min41, min42, min43, min44, Int.add_comm]
theorem rthen_is (a b : HV) : rthenOk a b = thenOk a b ∧ rthenV a b = thenV a b := by
  have key : rthenOk a b = thenOk a b ∧ (thenOk a b = true → ofL a.f (cmbP (partsP b) (partsP a)) = thenH a b) := by
    unfold rthenOk thenOk
    cases ha : a.rightB
    · simp
    cases hb : b.rightB
    · simp
    have na := partsP_num ha
    by_cases hg : a.k + a.t = b.f
    · have e := ofL_is (of_decide_eq_true ha) (of_decide_eq_true hb) hg
      have hgb : (a.k + a.t == b.f) = true := by simpa using hg
      rw [e, hgb, decide_eq_true (by omega)]
      exact ⟨rfl, fun _ => rfl⟩
    · have hgb : (a.k + a.t == b.f) = false := by simpa using hg
      rw [hgb, decide_eq_false (by omega)]
      exact ⟨rfl, fun h => by simp at h⟩
  refine ⟨key.1, ?_⟩
  unfold rthenV thenV
  rw [key.1]
  cases h : thenOk a b
  · rfl
  · rw [key.2 h]
/-- the document's Then is the program's -/
theorem docThen (a b : HV) (w : World) : Calls Try.prog 19 #[a.val, b.val] w (Ret (.tuple #[(thenV a b).val, .bool (thenOk a b)]) w) := by
  have q := rthen_any a b (fun h p hp => by rcases parts_ok h p hp with k | k; exact k.1; exact k.1) (fun h1 h2 h3 p hp => by
    have hb : b.right := of_decide_eq_true h2
    have := hb.1.2.2.2.1
    rcases parts_ok h2 p hp with k | k
    · exact ⟨k.1.1, k.1.2, fun _ => by omega⟩
    · exact ⟨k.1.1, k.1.2, fun _ => by omega⟩) w
  rw [(rthen_is a b).1, (rthen_is a b).2] at q
  exact q
end Go.Proofs.Ytacmdkbmakfdkaa

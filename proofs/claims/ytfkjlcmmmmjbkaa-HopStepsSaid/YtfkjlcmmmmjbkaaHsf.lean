import Derived.Test.YtfkjlcmmmmjbkaaH8
import Derived.Test.YtfkjlcmmmmjbkaaTs4
namespace Go.Proofs.Ytfkjlcmmmmjbkaa
open Go.RowKit
set_option linter.unusedVariables false
set_option linter.unusedSimpArgs false

theorem right_no' {d c0 c1 c2 c3 : Int} (h : ¬ rightP d c0 c1 c2 c3) : rightB d c0 c1 c2 c3 = false := decide_eq_false h
theorem right_yes' {d c0 c1 c2 c3 : Int} (h : rightP d c0 c1 c2 c3) : rightB d c0 c1 c2 c3 = true := decide_eq_true h

/-- what the step that leaves all as it is does -/
theorem same_does (d c0 c1 c2 c3 : Int) (hd : 1 ≤ d ∧ d ≤ 4) :
    applyOk (sameH d) ⟨d, c0, c1, c2, c3⟩ = rightB d c0 c1 c2 c3 ∧ (rightB d c0 c1 c2 c3 = true → applyT (sameH d) ⟨d, c0, c1, c2, c3⟩ = ⟨d, c0, c1, c2, c3⟩) := by
  have hr : (sameH d).rightB = true := by rw [same_right]; exact decide_eq_true hd
  have ho : rightB d c0 c1 c2 c3 = true → outT (sameH d) ⟨d, c0, c1, c2, c3⟩ = ⟨d, c0, c1, c2, c3⟩ := by
    intro h
    have p := right_of' h
    unfold rightP greatestS at p
    have h4 : d = 1 ∨ d = 2 ∨ d = 3 ∨ d = 4 := by omega
    rcases h4 with rfl | rfl | rfl | rfl <;> simp [outT, outC, sameH, HV.add, HV.tl, TV.coord] at * <;> omega
  have e : applyOk (sameH d) ⟨d, c0, c1, c2, c3⟩ = rightB d c0 c1 c2 c3 := by
    unfold applyOk
    rw [hr]
    cases h : rightB d c0 c1 c2 c3
    · simp [TV.rightB, h]
    · rw [ho h]; simp [TV.rightB, h, sameH]
  exact ⟨e, fun h => by unfold applyT; rw [e, h, ho h]; rfl⟩
theorem enter_does (d c0 c1 c2 c3 : Int) (hd : 1 ≤ d ∧ d ≤ 3) :
    applyOk (enterH d) ⟨d, c0, c1, c2, c3⟩ = rightB d c0 c1 c2 c3 ∧ (rightB d c0 c1 c2 c3 = true → applyT (enterH d) ⟨d, c0, c1, c2, c3⟩ = ⟨d + 1, c0, c1, c2, c3⟩) := by
  have hr : (enterH d).rightB = true := by rw [enter_right]; exact decide_eq_true hd
  have ho : rightB d c0 c1 c2 c3 = true → outT (enterH d) ⟨d, c0, c1, c2, c3⟩ = ⟨d + 1, c0, c1, c2, c3⟩ ∧ rightB (d + 1) c0 c1 c2 c3 = true := by
    intro h
    have p := right_of' h
    unfold rightP greatestS at p
    have h4 : d = 1 ∨ d = 2 ∨ d = 3 := by omega
    constructor
    · rcases h4 with rfl | rfl | rfl <;> simp [outT, outC, enterH, HV.add, HV.tl, TV.coord] at * <;> omega
    · apply right_yes'; unfold rightP greatestS; omega
  have e : applyOk (enterH d) ⟨d, c0, c1, c2, c3⟩ = rightB d c0 c1 c2 c3 := by
    unfold applyOk
    rw [hr]
    cases h : rightB d c0 c1 c2 c3
    · simp [TV.rightB, h]
    · rw [(ho h).1]; simp [TV.rightB, h, enterH, (ho h).2]
  exact ⟨e, fun h => by unfold applyT; rw [e, h, (ho h).1]; rfl⟩
theorem leave_does (d c0 c1 c2 c3 : Int) (hd : 2 ≤ d ∧ d ≤ 4) :
    applyOk (leaveH d) ⟨d, c0, c1, c2, c3⟩ = rightB d c0 c1 c2 c3 ∧ (rightB d c0 c1 c2 c3 = true →
      applyT (leaveH d) ⟨d, c0, c1, c2, c3⟩ = ⟨d - 1, if d = 1 then 0 else c0, if d = 2 then 0 else c1, if d = 3 then 0 else c2, if d = 4 then 0 else c3⟩) := by
  have hr : (leaveH d).rightB = true := by rw [leave_right]; exact decide_eq_true hd
  have ho : rightB d c0 c1 c2 c3 = true → outT (leaveH d) ⟨d, c0, c1, c2, c3⟩ = ⟨d - 1, if d = 1 then 0 else c0, if d = 2 then 0 else c1, if d = 3 then 0 else c2, if d = 4 then 0 else c3⟩ ∧
      rightB (d - 1) (if d = 1 then 0 else c0) (if d = 2 then 0 else c1) (if d = 3 then 0 else c2) (if d = 4 then 0 else c3) = true := by
    intro h
    have p := right_of' h
    unfold rightP greatestS at p
    have h4 : d = 2 ∨ d = 3 ∨ d = 4 := by omega
    constructor
    · rcases h4 with rfl | rfl | rfl <;> simp [outT, outC, leaveH, HV.add, HV.tl, TV.coord] at * <;> omega
    · apply right_yes'; unfold rightP greatestS; rcases h4 with rfl | rfl | rfl <;> simp at * <;> omega
  have e : applyOk (leaveH d) ⟨d, c0, c1, c2, c3⟩ = rightB d c0 c1 c2 c3 := by
    unfold applyOk
    rw [hr]
    cases h : rightB d c0 c1 c2 c3
    · simp [TV.rightB, h]
    · rw [(ho h).1]; simp [TV.rightB, h, leaveH, (ho h).2]
  exact ⟨e, fun h => by unfold applyT; rw [e, h, (ho h).1]; rfl⟩
theorem next_does (d c0 c1 c2 c3 : Int) (hd : 1 ≤ d ∧ d ≤ 4) :
    applyOk (nextH d) ⟨d, c0, c1, c2, c3⟩ = nextB d c0 c1 c2 c3 ∧ (nextB d c0 c1 c2 c3 = true →
      applyT (nextH d) ⟨d, c0, c1, c2, c3⟩ = ⟨d, if d = 1 then c0 + 1 else c0, if d = 2 then c1 + 1 else c1, if d = 3 then c2 + 1 else c2, if d = 4 then c3 + 1 else c3⟩) := by
  have hr : (nextH d).rightB = true := by rw [next_right]; exact decide_eq_true hd
  have h4 : d = 1 ∨ d = 2 ∨ d = 3 ∨ d = 4 := by omega
  have ho : rightB d c0 c1 c2 c3 = true → outT (nextH d) ⟨d, c0, c1, c2, c3⟩ = ⟨d, if d = 1 then c0 + 1 else c0, if d = 2 then c1 + 1 else c1, if d = 3 then c2 + 1 else c2, if d = 4 then c3 + 1 else c3⟩ ∧
      rightB d (if d = 1 then c0 + 1 else c0) (if d = 2 then c1 + 1 else c1) (if d = 3 then c2 + 1 else c2) (if d = 4 then c3 + 1 else c3) = !(lastOf d c0 c1 c2 c3 == greatestS d (d - 1)) := by
    intro h
    have p := right_of' h
    unfold rightP greatestS at p
    constructor
    · rcases h4 with rfl | rfl | rfl | rfl <;> simp [outT, outC, nextH, HV.add, HV.tl, TV.coord] at * <;> omega
    · cases hl : (lastOf d c0 c1 c2 c3 == greatestS d (d - 1))
      · have hl' := beq_eq_false_iff_ne.1 hl
        apply right_yes'; unfold rightP greatestS; unfold lastOf greatestS at hl'
        clear hl h
        rcases h4 with rfl | rfl | rfl | rfl <;> simp at * <;> omega
      · have hl' := eq_of_beq hl
        apply right_no'; unfold rightP greatestS; unfold lastOf greatestS at hl'
        clear hl h
        rcases h4 with rfl | rfl | rfl | rfl <;> simp at * <;> omega
  have e : applyOk (nextH d) ⟨d, c0, c1, c2, c3⟩ = nextB d c0 c1 c2 c3 := by
    unfold applyOk nextB
    rw [hr]
    cases h : rightB d c0 c1 c2 c3
    · simp [TV.rightB, h]
    · rw [(ho h).1]; simp only [TV.rightB, h, nextH, (ho h).2, Bool.true_and, beq_self_eq_true]
  refine ⟨e, fun h => ?_⟩
  have h' : rightB d c0 c1 c2 c3 = true := by unfold nextB at h; simp only [Bool.and_eq_true] at h; exact h.1
  unfold applyT; rw [e, h, (ho h').1]; rfl
end Go.Proofs.Ytfkjlcmmmmjbkaa

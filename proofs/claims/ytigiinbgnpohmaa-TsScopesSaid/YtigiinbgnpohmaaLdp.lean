import Derived.Test.YtigiinbgnpohmaaLa
import Derived.Test.YtigiinbgnpohmaaTs5
namespace Go.Proofs.Ytigiinbgnpohmaa
open Go.RowKit
set_option linter.unusedVariables false
set_option linter.unusedSimpArgs false
attribute [local go_sem] eqArr4

theorem le_is {d c0 c1 c2 c3 e0 x0 x1 x2 x3 : Int} {b : Bool} (h : leB d c0 c1 c2 c3 e0 x0 x1 x2 x3 = b) (W : World) : Calls Try.prog 13 #[.agg #[.int .i64 d, .int .i64 c0, .int .i64 c1, .int .i64 c2, .int .i64 c3], .agg #[.int .i64 e0, .int .i64 x0, .int .i64 x1, .int .i64 x2, .int .i64 x3]] W (Ret (.bool b) W) := by
  rw [← h]; exact le_any _ _ _ _ _ _ _ _ _ _ _
theorem paired_of {d c0 c1 c2 c3 e0 x0 x1 x2 x3 : Int} (h : pairedB d c0 c1 c2 c3 e0 x0 x1 x2 x3 = true) : d = e0 ∧ rightP d c0 c1 c2 c3 ∧ rightP e0 x0 x1 x2 x3 := by
  simp only [pairedB, Bool.and_eq_true, beq_iff_eq] at h
  exact ⟨h.1.1, right_of h.1.2, right_of h.2⟩
theorem leB_eq (d c0 c1 c2 c3 e0 x0 x1 x2 x3 : Int) : leB d c0 c1 c2 c3 e0 x0 x1 x2 x3 = decide (d = e0 ∧ rightP d c0 c1 c2 c3 ∧ rightP e0 x0 x1 x2 x3 ∧ c0 ≤ x0 ∧ c1 ≤ x1 ∧ c2 ≤ x2 ∧ c3 ≤ x3) := by
  rw [Bool.eq_iff_iff]; simp [leB, pairedB, rightB, and_assoc]
theorem imax_le (x y z : Int) : imax x y ≤ z ↔ x ≤ z ∧ y ≤ z := by unfold imax; split <;> omega
theorem le_imax (x y : Int) : x ≤ imax x y ∧ y ≤ imax x y := by unfold imax; split <;> omega
theorem le_imin (x y z : Int) : z ≤ imin x y ↔ z ≤ x ∧ z ≤ y := by unfold imin; split <;> omega
theorem imin_le2 (x y : Int) : imin x y ≤ x ∧ imin x y ≤ y := by unfold imin; split <;> omega
theorem right_max {d c0 c1 c2 c3 x0 x1 x2 x3 : Int} (h : rightP d c0 c1 c2 c3) (k : rightP d x0 x1 x2 x3) : rightP d (imax c0 x0) (imax c1 x1) (imax c2 x2) (imax c3 x3) := by
  unfold rightP at *
  have := imax_le c0 x0 (greatestS d 0); have := imax_le c1 x1 (greatestS d 1); have := imax_le c2 x2 (greatestS d 2); have := imax_le c3 x3 (greatestS d 3)
  have := le_imax c0 x0; have := le_imax c1 x1; have := le_imax c2 x2; have := le_imax c3 x3
  omega
theorem right_min {d c0 c1 c2 c3 x0 x1 x2 x3 : Int} (h : rightP d c0 c1 c2 c3) (k : rightP d x0 x1 x2 x3) : rightP d (imin c0 x0) (imin c1 x1) (imin c2 x2) (imin c3 x3) := by
  unfold rightP at *
  have := le_imin c0 x0 0; have := le_imin c1 x1 0; have := le_imin c2 x2 0; have := le_imin c3 x3 0
  have := imin_le2 c0 x0; have := imin_le2 c1 x1; have := imin_le2 c2 x2; have := imin_le2 c3 x3
  omega
theorem join_facts {d c0 c1 c2 c3 x0 x1 x2 x3 : Int} (h : rightP d c0 c1 c2 c3) (k : rightP d x0 x1 x2 x3) :
    leB d c0 c1 c2 c3 d (imax c0 x0) (imax c1 x1) (imax c2 x2) (imax c3 x3) = true ∧ leB d x0 x1 x2 x3 d (imax c0 x0) (imax c1 x1) (imax c2 x2) (imax c3 x3) = true ∧ leB d (imin c0 x0) (imin c1 x1) (imin c2 x2) (imin c3 x3) d c0 c1 c2 c3 = true ∧ leB d (imin c0 x0) (imin c1 x1) (imin c2 x2) (imin c3 x3) d x0 x1 x2 x3 = true := by
  have := le_imax c0 x0; have := le_imax c1 x1; have := le_imax c2 x2; have := le_imax c3 x3
  have := imin_le2 c0 x0; have := imin_le2 c1 x1; have := imin_le2 c2 x2; have := imin_le2 c3 x3
  have hj := right_max h k
  have hm := right_min h k
  refine ⟨?_, ?_, ?_, ?_⟩ <;> rw [leB_eq] <;> apply decide_eq_true
  · exact ⟨rfl, h, hj, by omega⟩
  · exact ⟨rfl, k, hj, by omega⟩
  · exact ⟨rfl, hm, h, by omega⟩
  · exact ⟨rfl, hm, k, by omega⟩
theorem join_least {d c0 c1 c2 c3 x0 x1 x2 x3 : Int} (h : rightP d c0 c1 c2 c3) (k : rightP d x0 x1 x2 x3) (f y0 y1 y2 y3 : Int) :
    leB d (imax c0 x0) (imax c1 x1) (imax c2 x2) (imax c3 x3) f y0 y1 y2 y3 = (leB d c0 c1 c2 c3 f y0 y1 y2 y3 && leB d x0 x1 x2 x3 f y0 y1 y2 y3) ∧ leB f y0 y1 y2 y3 d (imin c0 x0) (imin c1 x1) (imin c2 x2) (imin c3 x3) = (leB f y0 y1 y2 y3 d c0 c1 c2 c3 && leB f y0 y1 y2 y3 d x0 x1 x2 x3) := by
  have hj := right_max h k
  have hm := right_min h k
  have := imax_le c0 x0 y0; have := imax_le c1 x1 y1; have := imax_le c2 x2 y2; have := imax_le c3 x3 y3
  have := le_imin c0 x0 y0; have := le_imin c1 x1 y1; have := le_imin c2 x2 y2; have := le_imin c3 x3 y3
  simp only [leB_eq]
  constructor <;> rw [Bool.eq_iff_iff] <;> simp only [decide_eq_true_eq, Bool.and_eq_true]
  · constructor
    · rintro ⟨h1, _, h3, h4⟩; exact ⟨⟨h1, h, h3, by omega⟩, ⟨h1, k, h3, by omega⟩⟩
    · rintro ⟨⟨h1, _, h3, h4⟩, ⟨_, _, _, h5⟩⟩; exact ⟨h1, hj, h3, by omega⟩
  · constructor
    · rintro ⟨h1, h2, _, h4⟩; exact ⟨⟨h1, h2, h, by omega⟩, ⟨h1, h2, k, by omega⟩⟩
    · rintro ⟨⟨h1, h2, _, h4⟩, ⟨_, _, _, h5⟩⟩; exact ⟨h1, h2, hm, by omega⟩

end Go.Proofs.Ytigiinbgnpohmaa

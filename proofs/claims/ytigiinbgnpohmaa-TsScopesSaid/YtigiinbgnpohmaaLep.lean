import Derived.Test.YtigiinbgnpohmaaLdp
namespace Go.Proofs.Ytigiinbgnpohmaa
open Go.RowKit
set_option linter.unusedVariables false
set_option linter.unusedSimpArgs false

/-- both are right, and the one is at or before the other -/
theorem le_facts {d c0 c1 c2 c3 e0 x0 x1 x2 x3 : Int} (h : leB d c0 c1 c2 c3 e0 x0 x1 x2 x3 = true) : d = e0 ∧ rightP d c0 c1 c2 c3 ∧ rightP e0 x0 x1 x2 x3 ∧ c0 ≤ x0 ∧ c1 ≤ x1 ∧ c2 ≤ x2 ∧ c3 ≤ x3 := by
  rw [leB_eq] at h; exact of_decide_eq_true h
/-- two steps: both can be done, and are in order; or only the first one can; or neither -/
def Steps2 (V W : Value) (d c0 c1 c2 c3 : Int) : Prop :=
  ∃ p0 p1 p2 p3 : Int, V = .tuple #[.agg #[.int .i64 d, .int .i64 p0, .int .i64 p1, .int .i64 p2, .int .i64 p3], .bool true] ∧ (p0 == c0 && (p1 == c1 && (p2 == c2 && p3 == c3))) = false ∧
    ((∃ q q0 q1 q2 q3 : Int, W = .tuple #[.agg #[.int .i64 q, .int .i64 q0, .int .i64 q1, .int .i64 q2, .int .i64 q3], .bool true] ∧ leB d p0 p1 p2 p3 q q0 q1 q2 q3 = true) ∨ W = stepV false 0 0 0 0 0)
def StepsOr (V W : Value) : Prop :=
  (∃ p p0 p1 p2 p3 q q0 q1 q2 q3 : Int, V = .tuple #[.agg #[.int .i64 p, .int .i64 p0, .int .i64 p1, .int .i64 p2, .int .i64 p3], .bool true] ∧ W = .tuple #[.agg #[.int .i64 q, .int .i64 q0, .int .i64 q1, .int .i64 q2, .int .i64 q3], .bool true] ∧ leB p p0 p1 p2 p3 q q0 q1 q2 q3 = true) ∨ (V = stepV false 0 0 0 0 0 ∧ W = stepV false 0 0 0 0 0)

theorem next_two {d c0 c1 c2 c3 x0 x1 x2 x3 : Int} (h : leB d c0 c1 c2 c3 d x0 x1 x2 x3 = true) :
    Steps2 (nextV d c0 c1 c2 c3) (nextV d x0 x1 x2 x3) d c0 c1 c2 c3 ∨ (nextV d c0 c1 c2 c3 = stepV false 0 0 0 0 0 ∧ nextV d x0 x1 x2 x3 = stepV false 0 0 0 0 0) := by
  obtain ⟨_, ha, hb, l0, l1, l2, l3⟩ := le_facts h
  have hd : d = 1 ∨ d = 2 ∨ d = 3 ∨ d = 4 := by have := ha.2.1; have := ha.1; omega
  have ra : rightB d c0 c1 c2 c3 = true := decide_eq_true ha
  have rb : rightB d x0 x1 x2 x3 = true := decide_eq_true hb
  rcases hd with rfl | rfl | rfl | rfl
  · simp [rightP, greatestS] at ha hb
    by_cases hc : c0 = 1048576
    · have hx : x0 = 1048576 := by omega
      exact .inr ⟨by simp [nextV, nextB, lastOf, greatestS, stepV, gate, ra, hc], by simp [nextV, nextB, lastOf, greatestS, stepV, gate, rb, hx]⟩
    · have e1 : nextV 1 c0 c1 c2 c3 = .tuple #[.agg #[.int .i64 1, .int .i64 (c0 + 1), .int .i64 c1, .int .i64 c2, .int .i64 c3], .bool true] := by simp [nextV, nextB, lastOf, greatestS, stepV, gate, ra, hc]
      refine .inl ⟨c0 + 1, c1, c2, c3, e1, by simp; omega, ?_⟩
      by_cases hx : x0 = 1048576
      · exact .inr (by simp [nextV, nextB, lastOf, greatestS, stepV, gate, rb, hx])
      · exact .inl ⟨1, x0 + 1, x1, x2, x3, by simp [nextV, nextB, lastOf, greatestS, stepV, gate, rb, hx], by rw [leB_eq]; apply decide_eq_true; simp [rightP, greatestS]; omega⟩
  · simp [rightP, greatestS] at ha hb
    by_cases hc : c1 = 64
    · have hx : x1 = 64 := by omega
      exact .inr ⟨by simp [nextV, nextB, lastOf, greatestS, stepV, gate, ra, hc], by simp [nextV, nextB, lastOf, greatestS, stepV, gate, rb, hx]⟩
    · have e1 : nextV 2 c0 c1 c2 c3 = .tuple #[.agg #[.int .i64 2, .int .i64 c0, .int .i64 (c1 + 1), .int .i64 c2, .int .i64 c3], .bool true] := by simp [nextV, nextB, lastOf, greatestS, stepV, gate, ra, hc]
      refine .inl ⟨c0, c1 + 1, c2, c3, e1, by simp; omega, ?_⟩
      by_cases hx : x1 = 64
      · exact .inr (by simp [nextV, nextB, lastOf, greatestS, stepV, gate, rb, hx])
      · exact .inl ⟨2, x0, x1 + 1, x2, x3, by simp [nextV, nextB, lastOf, greatestS, stepV, gate, rb, hx], by rw [leB_eq]; apply decide_eq_true; simp [rightP, greatestS]; omega⟩
  · simp [rightP, greatestS] at ha hb
    by_cases hc : c2 = 64
    · have hx : x2 = 64 := by omega
      exact .inr ⟨by simp [nextV, nextB, lastOf, greatestS, stepV, gate, ra, hc], by simp [nextV, nextB, lastOf, greatestS, stepV, gate, rb, hx]⟩
    · have e1 : nextV 3 c0 c1 c2 c3 = .tuple #[.agg #[.int .i64 3, .int .i64 c0, .int .i64 c1, .int .i64 (c2 + 1), .int .i64 c3], .bool true] := by simp [nextV, nextB, lastOf, greatestS, stepV, gate, ra, hc]
      refine .inl ⟨c0, c1, c2 + 1, c3, e1, by simp; omega, ?_⟩
      by_cases hx : x2 = 64
      · exact .inr (by simp [nextV, nextB, lastOf, greatestS, stepV, gate, rb, hx])
      · exact .inl ⟨3, x0, x1, x2 + 1, x3, by simp [nextV, nextB, lastOf, greatestS, stepV, gate, rb, hx], by rw [leB_eq]; apply decide_eq_true; simp [rightP, greatestS]; omega⟩
  · simp [rightP, greatestS] at ha hb
    by_cases hc : c3 = 64
    · have hx : x3 = 64 := by omega
      exact .inr ⟨by simp [nextV, nextB, lastOf, greatestS, stepV, gate, ra, hc], by simp [nextV, nextB, lastOf, greatestS, stepV, gate, rb, hx]⟩
    · have e1 : nextV 4 c0 c1 c2 c3 = .tuple #[.agg #[.int .i64 4, .int .i64 c0, .int .i64 c1, .int .i64 c2, .int .i64 (c3 + 1)], .bool true] := by simp [nextV, nextB, lastOf, greatestS, stepV, gate, ra, hc]
      refine .inl ⟨c0, c1, c2, c3 + 1, e1, by simp; omega, ?_⟩
      by_cases hx : x3 = 64
      · exact .inr (by simp [nextV, nextB, lastOf, greatestS, stepV, gate, rb, hx])
      · exact .inl ⟨4, x0, x1, x2, x3 + 1, by simp [nextV, nextB, lastOf, greatestS, stepV, gate, rb, hx], by rw [leB_eq]; apply decide_eq_true; simp [rightP, greatestS]; omega⟩

theorem enter_two {d c0 c1 c2 c3 x0 x1 x2 x3 : Int} (h : leB d c0 c1 c2 c3 d x0 x1 x2 x3 = true) : StepsOr (stepV (enterB d c0 c1 c2 c3) (d + 1) c0 c1 c2 c3) (stepV (enterB d x0 x1 x2 x3) (d + 1) x0 x1 x2 x3) := by
  obtain ⟨_, ha, hb, l0, l1, l2, l3⟩ := le_facts h
  have hd : d = 1 ∨ d = 2 ∨ d = 3 ∨ d = 4 := by have := ha.2.1; have := ha.1; omega
  have ra : rightB d c0 c1 c2 c3 = true := decide_eq_true ha
  have rb : rightB d x0 x1 x2 x3 = true := decide_eq_true hb
  rcases hd with rfl | rfl | rfl | rfl
  · simp [rightP, greatestS] at ha hb
    exact .inl ⟨2, c0, c1, c2, c3, 2, x0, x1, x2, x3, by simp [enterB, leftV, leaveB, stepV, gate, ra], by simp [enterB, leftV, leaveB, stepV, gate, rb], by rw [leB_eq]; apply decide_eq_true; simp [rightP, greatestS]; omega⟩
  · simp [rightP, greatestS] at ha hb
    exact .inl ⟨3, c0, c1, c2, c3, 3, x0, x1, x2, x3, by simp [enterB, leftV, leaveB, stepV, gate, ra], by simp [enterB, leftV, leaveB, stepV, gate, rb], by rw [leB_eq]; apply decide_eq_true; simp [rightP, greatestS]; omega⟩
  · simp [rightP, greatestS] at ha hb
    exact .inl ⟨4, c0, c1, c2, c3, 4, x0, x1, x2, x3, by simp [enterB, leftV, leaveB, stepV, gate, ra], by simp [enterB, leftV, leaveB, stepV, gate, rb], by rw [leB_eq]; apply decide_eq_true; simp [rightP, greatestS]; omega⟩
  · exact .inr ⟨by simp [enterB, leftV, leaveB, stepV, gate, ra], by simp [enterB, leftV, leaveB, stepV, gate, rb]⟩

theorem leave_two {d c0 c1 c2 c3 x0 x1 x2 x3 : Int} (h : leB d c0 c1 c2 c3 d x0 x1 x2 x3 = true) : StepsOr (leftV d c0 c1 c2 c3) (leftV d x0 x1 x2 x3) := by
  obtain ⟨_, ha, hb, l0, l1, l2, l3⟩ := le_facts h
  have hd : d = 1 ∨ d = 2 ∨ d = 3 ∨ d = 4 := by have := ha.2.1; have := ha.1; omega
  have ra : rightB d c0 c1 c2 c3 = true := decide_eq_true ha
  have rb : rightB d x0 x1 x2 x3 = true := decide_eq_true hb
  rcases hd with rfl | rfl | rfl | rfl
  · exact .inr ⟨by simp [enterB, leftV, leaveB, stepV, gate, ra], by simp [enterB, leftV, leaveB, stepV, gate, rb]⟩
  · simp [rightP, greatestS] at ha hb
    exact .inl ⟨1, c0, 0, c2, c3, 1, x0, 0, x2, x3, by simp [enterB, leftV, leaveB, stepV, gate, ra], by simp [enterB, leftV, leaveB, stepV, gate, rb], by rw [leB_eq]; apply decide_eq_true; simp [rightP, greatestS]; omega⟩
  · simp [rightP, greatestS] at ha hb
    exact .inl ⟨2, c0, c1, 0, c3, 2, x0, x1, 0, x3, by simp [enterB, leftV, leaveB, stepV, gate, ra], by simp [enterB, leftV, leaveB, stepV, gate, rb], by rw [leB_eq]; apply decide_eq_true; simp [rightP, greatestS]; omega⟩
  · simp [rightP, greatestS] at ha hb
    exact .inl ⟨3, c0, c1, c2, 0, 3, x0, x1, x2, 0, by simp [enterB, leftV, leaveB, stepV, gate, ra], by simp [enterB, leftV, leaveB, stepV, gate, rb], by rw [leB_eq]; apply decide_eq_true; simp [rightP, greatestS]; omega⟩
end Go.Proofs.Ytigiinbgnpohmaa

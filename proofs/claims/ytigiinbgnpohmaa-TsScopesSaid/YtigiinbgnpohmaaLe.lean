import Derived.Test.YtigiinbgnpohmaaLep
import Derived.Test.YtigiinbgnpohmaaLc
import Derived.Deep.DeepCutAuto
namespace Go.Proofs.Ytigiinbgnpohmaa
open Go.RowKit
set_option linter.unusedVariables false
set_option linter.unusedSimpArgs false
attribute [local go_sem] eqArr4

theorem scope_right1 {c0 m : Int} (h : rightP 1 c0 0 0 0) (h0 : 0 ≤ m) (h1 : m ≤ 64) : rightB 2 c0 m 0 0 = true := by
  apply decide_eq_true; simp [rightP, greatestS] at h ⊢; omega
theorem scope_next1 {c0 m : Int} (h : rightP 1 c0 0 0 0) (h0 : 0 ≤ m) (h1 : m ≤ 64) : nextV 2 c0 m 0 0 = if m = 64 then stepV false 0 0 0 0 0 else .tuple #[.agg #[.int .i64 2, .int .i64 c0, .int .i64 (m + 1), .int .i64 0, .int .i64 0], .bool true] := by
  have hr := scope_right1 h h0 h1
  split
  · simp [nextV, nextB, leftV, leaveB, enterB, lastOf, greatestS, stepV, gate, hr, *]
  · simp [nextV, nextB, leftV, leaveB, enterB, lastOf, greatestS, stepV, gate, hr, *]
theorem scope_leave1 {c0 m : Int} (h : rightP 1 c0 0 0 0) (h0 : 0 ≤ m) (h1 : m ≤ 64) : leftV 2 c0 m 0 0 = .tuple #[.agg #[.int .i64 1, .int .i64 c0, .int .i64 0, .int .i64 0, .int .i64 0], .bool true] := by
  have hr := scope_right1 h h0 h1
  simp [nextV, nextB, leftV, leaveB, enterB, lastOf, greatestS, stepV, gate, hr]
theorem scope_enter1 {c0 : Int} (h : rightP 1 c0 0 0 0) : stepV (enterB 1 c0 0 0 0) (1 + 1) c0 0 0 0 = .tuple #[.agg #[.int .i64 2, .int .i64 c0, .int .i64 0, .int .i64 0, .int .i64 0], .bool true] := by
  have hr : rightB 1 c0 0 0 0 = true := decide_eq_true h
  simp [nextV, nextB, leftV, leaveB, enterB, lastOf, greatestS, stepV, gate, hr]

theorem scope_right2 {c0 c1 m : Int} (h : rightP 2 c0 c1 0 0) (h0 : 0 ≤ m) (h1 : m ≤ 64) : rightB 3 c0 c1 m 0 = true := by
  apply decide_eq_true; simp [rightP, greatestS] at h ⊢; omega
theorem scope_next2 {c0 c1 m : Int} (h : rightP 2 c0 c1 0 0) (h0 : 0 ≤ m) (h1 : m ≤ 64) : nextV 3 c0 c1 m 0 = if m = 64 then stepV false 0 0 0 0 0 else .tuple #[.agg #[.int .i64 3, .int .i64 c0, .int .i64 c1, .int .i64 (m + 1), .int .i64 0], .bool true] := by
  have hr := scope_right2 h h0 h1
  split
  · simp [nextV, nextB, leftV, leaveB, enterB, lastOf, greatestS, stepV, gate, hr, *]
  · simp [nextV, nextB, leftV, leaveB, enterB, lastOf, greatestS, stepV, gate, hr, *]
theorem scope_leave2 {c0 c1 m : Int} (h : rightP 2 c0 c1 0 0) (h0 : 0 ≤ m) (h1 : m ≤ 64) : leftV 3 c0 c1 m 0 = .tuple #[.agg #[.int .i64 2, .int .i64 c0, .int .i64 c1, .int .i64 0, .int .i64 0], .bool true] := by
  have hr := scope_right2 h h0 h1
  simp [nextV, nextB, leftV, leaveB, enterB, lastOf, greatestS, stepV, gate, hr]
theorem scope_enter2 {c0 c1 : Int} (h : rightP 2 c0 c1 0 0) : stepV (enterB 2 c0 c1 0 0) (2 + 1) c0 c1 0 0 = .tuple #[.agg #[.int .i64 3, .int .i64 c0, .int .i64 c1, .int .i64 0, .int .i64 0], .bool true] := by
  have hr : rightB 2 c0 c1 0 0 = true := decide_eq_true h
  simp [nextV, nextB, leftV, leaveB, enterB, lastOf, greatestS, stepV, gate, hr]

theorem scope_right3 {c0 c1 c2 m : Int} (h : rightP 3 c0 c1 c2 0) (h0 : 0 ≤ m) (h1 : m ≤ 64) : rightB 4 c0 c1 c2 m = true := by
  apply decide_eq_true; simp [rightP, greatestS] at h ⊢; omega
theorem scope_next3 {c0 c1 c2 m : Int} (h : rightP 3 c0 c1 c2 0) (h0 : 0 ≤ m) (h1 : m ≤ 64) : nextV 4 c0 c1 c2 m = if m = 64 then stepV false 0 0 0 0 0 else .tuple #[.agg #[.int .i64 4, .int .i64 c0, .int .i64 c1, .int .i64 c2, .int .i64 (m + 1)], .bool true] := by
  have hr := scope_right3 h h0 h1
  split
  · simp [nextV, nextB, leftV, leaveB, enterB, lastOf, greatestS, stepV, gate, hr, *]
  · simp [nextV, nextB, leftV, leaveB, enterB, lastOf, greatestS, stepV, gate, hr, *]
theorem scope_leave3 {c0 c1 c2 m : Int} (h : rightP 3 c0 c1 c2 0) (h0 : 0 ≤ m) (h1 : m ≤ 64) : leftV 4 c0 c1 c2 m = .tuple #[.agg #[.int .i64 3, .int .i64 c0, .int .i64 c1, .int .i64 c2, .int .i64 0], .bool true] := by
  have hr := scope_right3 h h0 h1
  simp [nextV, nextB, leftV, leaveB, enterB, lastOf, greatestS, stepV, gate, hr]
theorem scope_enter3 {c0 c1 c2 : Int} (h : rightP 3 c0 c1 c2 0) : stepV (enterB 3 c0 c1 c2 0) (3 + 1) c0 c1 c2 0 = .tuple #[.agg #[.int .i64 4, .int .i64 c0, .int .i64 c1, .int .i64 c2, .int .i64 0], .bool true] := by
  have hr : rightB 3 c0 c1 c2 0 = true := decide_eq_true h
  simp [nextV, nextB, leftV, leaveB, enterB, lastOf, greatestS, stepV, gate, hr]

/-- behind the first part: three timestamps lie where they lay, the third one whatever it is -/
def ScopeCut (w0 : World) (g : Nat) (d c0 c1 c2 c3 e0 x0 x1 x2 x3 : Int) (v7 : Value) (w : World) : Prop :=
  ∃ y y0 y1 y2 y3 : Int, v7 = .pointer (some ⟨g, 0, none⟩) ∧ Below w0.heap.size w0 w ∧ w0.heap.size + 2 ≤ g ∧
    Own5 w w0.heap.size (.int .i64 d) (.int .i64 c0) (.int .i64 c1) (.int .i64 c2) (.int .i64 c3) ∧
    Own5 w (w0.heap.size + 1) (.int .i64 e0) (.int .i64 x0) (.int .i64 x1) (.int .i64 x2) (.int .i64 x3) ∧
    Own5 w g (.int .i64 y) (.int .i64 y0) (.int .i64 y1) (.int .i64 y2) (.int .i64 y3)

end Go.Proofs.Ytigiinbgnpohmaa

import Derived.Test.YtimfpbmlbihlnaaProg
import Derived.WalkKit
import Derived.Below
import Derived.Handy
import Derived.Deep.QuietTactic
import Derived.BigQuiet
import Derived.Lib.Hide
namespace Go.Proofs.Ytimfpbmlbihlnaa
open Go.RowKit
set_option linter.unusedVariables false

def greatestS (d i : Int) : Int := if i ≥ d then 0 else if i = 0 then 1048576 else 64

theorem greatest_any (d i : Int) (w : World) :
    Calls Try.prog 24 #[.int .i64 d, .int .i64 i] w fun e w' => e = .returned (.int .i64 (greatestS d i)) ∧ w = w' := by
  by_cases h : i ≥ d
  · have h2 : d ≤ i := h
    go_enter Try.func24, Try.ntmps24
    go_wp2
    go_ret
    exact ⟨by simp [greatestS, h], rfl⟩
  · by_cases h0 : i = 0
    · subst h0
      have h2 : ¬ d ≤ 0 := h
      go_enter Try.func24, Try.ntmps24
      go_wp2
      go_ret
      exact ⟨by simp [greatestS]; omega, rfl⟩
    · have hb : (i == 0) = false := beq_eq_false_iff_ne.2 h0
      have h2 : ¬ d ≤ i := h
      go_enter Try.func24, Try.ntmps24
      go_wp2
      go_ret
      exact ⟨by simp [greatestS, h, h0], rfl⟩

def rightP (d c0 c1 c2 c3 : Int) : Prop := 1 ≤ d ∧ d ≤ 4 ∧ 0 ≤ c0 ∧ c0 ≤ greatestS d 0 ∧ 0 ≤ c1 ∧ c1 ≤ greatestS d 1 ∧ 0 ≤ c2 ∧ c2 ≤ greatestS d 2 ∧ 0 ≤ c3 ∧ c3 ≤ greatestS d 3
instance (d c0 c1 c2 c3 : Int) : Decidable (rightP d c0 c1 c2 c3) := by unfold rightP; infer_instance
def rightB (d c0 c1 c2 c3 : Int) : Bool := decide (rightP d c0 c1 c2 c3)

theorem ix4_0 (c0 c1 c2 c3 : Value) (w : World) : (Instr.index 22 (.agg #[c0, c1, c2, c3]) (.int .i64 0)).run Try.prog w = .ok c0 w := by kernel_rfl
theorem ix4_1 (c0 c1 c2 c3 : Value) (w : World) : (Instr.index 22 (.agg #[c0, c1, c2, c3]) (.int .i64 1)).run Try.prog w = .ok c1 w := by kernel_rfl
theorem ix4_2 (c0 c1 c2 c3 : Value) (w : World) : (Instr.index 22 (.agg #[c0, c1, c2, c3]) (.int .i64 2)).run Try.prog w = .ok c2 w := by kernel_rfl
theorem ix4_3 (c0 c1 c2 c3 : Value) (w : World) : (Instr.index 22 (.agg #[c0, c1, c2, c3]) (.int .i64 3)).run Try.prog w = .ok c3 w := by kernel_rfl
attribute [local go_sem] ix4_0 ix4_1 ix4_2 ix4_3

/-- the call returns the value v, and old memory is as it was -/
def Ret (v : Value) (w : World) (e : Ending) (w' : World) : Prop := e = .returned v ∧ Below w.heap.size w w'

theorem ret_bool {a b : Bool} (h : a = b) : Ending.returned (.bool a) = .returned (.bool b) := by rw [h]
theorem ret_int {k : IntKind} {a b : Int} (h : a = b) : Ending.returned (.int k a) = .returned (.int k b) := by rw [h]

set_option maxHeartbeats 2000000 in
theorem right_any (d c0 c1 c2 c3 : Int) (w : World) :
    Calls Try.prog 15 #[.agg #[.int .i64 d, .int .i64 c0, .int .i64 c1, .int .i64 c2, .int .i64 c3]] w (Ret (.bool (rightB d c0 c1 c2 c3)) w) := by
  by_cases hb : 1 ≤ d ∧ d ≤ 4
  · obtain ⟨hd, hd4⟩ := hb
    go_enter Try.func15, Try.ntmps15
    go_wp2
    refine wp_loop_rounds 5 ?_
    repeat any_goals (rw [rounds_succ]; go_wp2_with (go_at_call 24; refine (greatest_any _ _ _).mono ?_; rintro e w' ⟨rfl, rfl⟩))
    all_goals go_returns
    all_goals (refine ⟨ret_bool ?_, by go_grown⟩)
    all_goals (simp only [rightB, rightP]; first | (apply Eq.symm; apply decide_eq_true; omega) | (apply Eq.symm; apply decide_eq_false; omega))
  · go_enter Try.func15, Try.ntmps15
    have hr : rightB d c0 c1 c2 c3 = false := by simp only [rightB, rightP]; exact decide_eq_false (by omega)
    rw [hr]
    by_cases h1 : d < 1
    · go_wp2
      all_goals go_returns
      all_goals exact ⟨rfl, by go_grown⟩
    · have h4 : 4 < d := by omega
      go_wp2
      all_goals go_returns
      all_goals exact ⟨rfl, by go_grown⟩
end Go.Proofs.Ytimfpbmlbihlnaa

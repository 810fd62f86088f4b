import Derived.Test.YtcaolilhemamiaaTs4a
namespace Go.Proofs.Ytcaolilhemamiaa
open Go.RowKit
set_option linter.unusedVariables false
set_option linter.unusedSimpArgs false
attribute [local go_sem] ix4_0 ix4_1 ix4_2 ix4_3

set_option maxHeartbeats 2000000 in
theorem right_exact (d c0 c1 c2 c3 : Int) (w : World) :
    Calls Try.prog 40 #[.agg #[.int .i64 d, .int .i64 c0, .int .i64 c1, .int .i64 c2, .int .i64 c3]] w (fun e w' => e = .returned (.bool (rightB d c0 c1 c2 c3)) ∧ w' = w.alloc (.cells #[.int .i64 d, .int .i64 c0, .int .i64 c1, .int .i64 c2, .int .i64 c3] 26)) := by
  by_cases hb : 1 ≤ d ∧ d ≤ 4
  · obtain ⟨hd, hd4⟩ := hb
    go_enter Try.func40, Try.ntmps40
    go_wp2
    refine wp_loop_rounds 5 ?_
    repeat any_goals (rw [rounds_succ]; go_wp2_with (go_at_call 61; refine (greatest_any _ _ _).mono ?_; rintro e w' ⟨rfl, rfl⟩))
    all_goals go_returns
    all_goals (refine ⟨ret_bool ?_, rfl⟩)
    all_goals (simp only [rightB, rightP]; first | (apply Eq.symm; apply decide_eq_true; omega) | (apply Eq.symm; apply decide_eq_false; omega))
  · go_enter Try.func40, Try.ntmps40
    have hr : rightB d c0 c1 c2 c3 = false := by simp only [rightB, rightP]; exact decide_eq_false (by omega)
    rw [hr]
    by_cases h1 : d < 1
    · go_wp2
      all_goals go_returns
      all_goals exact ⟨rfl, rfl⟩
    · have h4 : 4 < d := by omega
      go_wp2
      all_goals go_returns
      all_goals exact ⟨rfl, rfl⟩
end Go.Proofs.Ytcaolilhemamiaa
